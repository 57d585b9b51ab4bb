/- wakes of stage 11's laws. -/
import Derived.Test.YtcapmhmlipmciaaW18
import Derived.Test.YtcapmhmlipmciaaW19
namespace Go.Proofs.Kit
open Go.RowKit
theorem wk1 : pushE smallT [(1, 1)] [] = 0 := by decide
theorem wk2 : sqE smallT 0 2 = 0 := by decide
theorem wk3 : pushE smallT [(5, 5)] [(5, 5)] = 2 := by decide
theorem wk4 : cont smallT = [(2, 2), (3, 3)] := by decide
theorem wk5 : (cont (pushL smallT [(1, 1)] [])).length = 3 := by decide
theorem wk6 : decide (goodT smallT ∧ says smallT (1, 1) = 1) = false := by decide
theorem wk7 : sqR smallT 0 2 = [([(2, 2), (3, 3)], [])] := by decide
theorem wk8 : Wl (pushL smallT [(1, 1)] []) := by
  have : pushL smallT [(1, 1)] [] = smallT ++ [([(1, 1)], [])] := by decide
  rw [this]
  intro t ht
  rcases List.mem_append.1 ht with ht | ht
  · exact smallT_w t ht
  · simp at ht
    subst ht
    constructor
    · intro p hp
      simp at hp
      subst hp
      simp [Wp, Wd]
    · intro p hp
      simp at hp
theorem wk9 : SmT 10000 (pushL smallT [(1, 1)] []) := by
  have : pushL smallT [(1, 1)] [] = smallT ++ [([(1, 1)], [])] := by decide
  rw [this]
  intro t ht
  rcases List.mem_append.1 ht with ht | ht
  · exact smallT_s t ht
  · simp at ht
    subst ht
    simp
end Go.Proofs.Kit
namespace Go.Proofs.Ytcapmhmlipmciaa
open Go.RowKit Go.Proofs.Kit Go.Shelf
theorem segP_one {w : World} (x y : Int) : SegP (w.alloc (.cells #[.int .u64 x, .int .u64 y] 36)) (.slice (some ⟨w.heap.size, 0, none⟩) 1 1) [(x, y)] :=
  SegP.of_blk (l := [(x, y)]) (cap := 1) (Blk.new _ _ _) (by simp) (by decide) rfl
set_option maxRecDepth 100000 in
set_option maxHeartbeats 8000000 in
theorem wakes11_true (w : World) : Calls Try.prog 9 #[] w fun e w' => e = .returned (.bool true) ∧ Below w.heap.size w w' := by
  have HP := Lib.hid (fun (x : Int) W => pair11_any x W)
  have HSm := Lib.hid (fun W => small11_any W)
  go_enter Try.func9, Try.ntmps9
  go_wp2_with fail
  refine (HSm.out _).mono ?_
  rintro e w1 ⟨v1, rfl, o1, b1⟩
  obtain ⟨oa, ca, rfl⟩ := o1.shape
  have O1 := Lib.hid o1.seg
  have L1 := Lib.hid b1
  clear o1 b1
  go_wp2_with fail
  refine (HP.out 1 _).mono ?_
  rintro e w2 ⟨rfl, g2⟩
  have L2 := Lib.hid (below_later L1.out g2.below)
  have HPU := Lib.hid (push_any _ _ (.slice none 0 0) smallT [(1, 1)] [] (w2.alloc (.cells #[.int .u64 1, .int .u64 1] 36)) ((O1.out.gr g2).alloc _) (segP_one 1 1) (SegP.nil _) (smallT_s.mono (by decide)) (by simp) (by simp))
  rw [wk1] at HPU
  clear g2
  go_wp2_with fail
  refine HPU.out.mono ?_
  rintro e w3 ⟨v3, rfl, o3, b3⟩
  have L3 := Lib.hid (below_later (L2.out.alloc L2.out.size _) b3)
  obtain ⟨ob, cb, rfl⟩ := o3.shape
  have O3 := Lib.hid o3.seg
  obtain ⟨nb, hnb⟩ : ∃ nb, nb = (pushL smallT [(1, 1)] []).length := ⟨_, rfl⟩
  rw [← hnb] at O3 ⊢
  clear o3 b3 HPU hnb
  go_wp2_with fail
  refine (HSm.out _).mono ?_
  rintro e w4 ⟨v4, rfl, o4, b4⟩
  obtain ⟨oc, cc, rfl⟩ := o4.shape
  have HSQ := Lib.hid (squash_any _ smallT 0 2 w4 o4.seg smallT_w smallT_s)
  have L4 := Lib.hid (below_later L3.out b4)
  have O34 := Lib.hid (O3.out.later b4)
  rw [wk2, wk7] at HSQ
  clear o4 b4
  go_wp2_with fail
  refine HSQ.out.mono ?_
  rintro e w5 ⟨v5, rfl, o5, b5⟩
  obtain ⟨l5, ot5⟩ := o5.open
  have L5 := Lib.hid (below_later L4.out b5)
  have O35 := Lib.hid (O34.out.later b5)
  obtain ⟨od, cd, rfl⟩ := o5.shape
  have S5 := Lib.hid o5.seg
  clear o5 b5 ot5 HSQ
  go_wp2_with fail
  refine (HSm.out _).mono ?_
  rintro e w6 ⟨v6, rfl, o6, b6⟩
  obtain ⟨oe, ce, rfl⟩ := o6.shape
  have O6 := Lib.hid o6.seg
  have L6 := Lib.hid (below_later L5.out b6)
  have O36 := Lib.hid (O35.out.later b6)
  have S6 := Lib.hid (S5.out.later b6)
  clear o6 b6
  go_wp2_with fail
  refine (HP.out 5 _).mono ?_
  rintro e w7 ⟨rfl, g7⟩
  have L7 := Lib.hid (below_later L6.out g7.below)
  have O67 := Lib.hid ((O6.out.gr g7).alloc (.cells #[.int .u64 5, .int .u64 5] 36))
  have O37 := Lib.hid ((O36.out.gr g7).alloc (.cells #[.int .u64 5, .int .u64 5] 36))
  have S7 := Lib.hid ((S6.out.gr g7).alloc (.cells #[.int .u64 5, .int .u64 5] 36))
  have A7 := Lib.hid (segP_one (w := w7) 5 5)
  have L7' := Lib.hid (L7.out.alloc L7.out.size (.cells #[.int .u64 5, .int .u64 5] 36))
  clear g7
  go_wp2_with fail
  refine (HP.out 5 _).mono ?_
  rintro e w8 ⟨rfl, g8⟩
  have L8 := Lib.hid (below_later L7'.out g8.below)
  have HPU := Lib.hid (push_any _ _ _ smallT [(5, 5)] [(5, 5)] (w8.alloc (.cells #[.int .u64 5, .int .u64 5] 36)) ((O67.out.gr g8).alloc _) ((A7.out.later g8.below).alloc _) (segP_one 5 5) (smallT_s.mono (by decide)) (by simp) (by simp))
  have O38 := Lib.hid ((O37.out.gr g8).alloc (.cells #[.int .u64 5, .int .u64 5] 36))
  have S8 := Lib.hid ((S7.out.gr g8).alloc (.cells #[.int .u64 5, .int .u64 5] 36))
  have L8' := Lib.hid (L8.out.alloc L8.out.size (.cells #[.int .u64 5, .int .u64 5] 36))
  rw [wk3] at HPU
  clear g8
  go_wp2_with fail
  refine HPU.out.mono ?_
  rintro e w9 ⟨v9, rfl, _, b9⟩
  have L9 := Lib.hid (below_later L8'.out b9)
  have O39 := Lib.hid (O38.out.later b9)
  have S9 := Lib.hid (S8.out.later b9)
  clear b9 HPU
  go_wp2_with fail
  refine (HSm.out _).mono ?_
  rintro e w10 ⟨v10, rfl, o10, b10⟩
  obtain ⟨of, cf, rfl⟩ := o10.shape
  have HCO := Lib.hid (content11_any _ smallT w10 o10.seg smallT_w (smallT_s.mono (by decide)))
  have L10 := Lib.hid (below_later L9.out b10)
  have O310 := Lib.hid (O39.out.later b10)
  have S10 := Lib.hid (S9.out.later b10)
  rw [wk4] at HCO
  clear o10 b10
  go_wp2_with fail
  refine HCO.out.mono ?_
  rintro e w11 ⟨v11, rfl, o11, b11⟩
  obtain ⟨og, cg, rfl⟩ := o11.shape
  have C11 := Lib.hid o11.seg
  have L11 := Lib.hid (below_later L10.out b11)
  have O311 := Lib.hid (O310.out.later b11)
  have S11 := Lib.hid (S10.out.later b11)
  clear o11 b11 HCO
  go_wp2_with fail
  refine (HP.out 2 _).mono ?_
  rintro e w12 ⟨rfl, g12⟩
  have L12 := Lib.hid (below_later L11.out g12.below)
  have O312 := Lib.hid (O311.out.gr g12)
  have S12 := Lib.hid (S11.out.gr g12)
  have C12 := Lib.hid (C11.out.later g12.below)
  clear g12
  go_wp2_with fail
  refine (HP.out 3 _).mono ?_
  rintro e w13 ⟨rfl, g13⟩
  have L13 := Lib.hid (below_later L12.out g13.below)
  have gA := Gr.alloc w13 (.cells #[.int .u64 2, .int .u64 2, .int .u64 3, .int .u64 3] 36)
  have O313 := Lib.hid ((O312.out.gr g13).gr gA)
  have S13 := Lib.hid ((S12.out.gr g13).gr gA)
  have L13' := Lib.hid (below_later L13.out gA.below)
  have HEQ := Lib.hid (equalP_seg _ (.slice (some ⟨w13.heap.size, 0, none⟩) 2 2) [(2, 2), (3, 3)] [(2, 2), (3, 3)] (w13.alloc (.cells #[.int .u64 2, .int .u64 2, .int .u64 3, .int .u64 3] 36)) ((C12.out.later g13.below).later gA.below) (SegP.of_blk (l := [(2, 2), (3, 3)]) (cap := 2) (Blk.new _ _ _) (by simp) (by decide) rfl))
  rw [decide_eq_true (rfl : ([(2, 2), (3, 3)] : List Pr) = [(2, 2), (3, 3)])] at HEQ
  clear g13 gA
  go_wp2_with fail
  refine HEQ.out.mono ?_
  rintro e w14 ⟨rfl, g14⟩
  have L14 := Lib.hid (below_later L13'.out g14.below)
  have HCO := Lib.hid (content11_any _ _ w14 (O313.out.gr g14) wk8 (wk9.mono (by decide)))
  have S14 := Lib.hid (S13.out.gr g14)
  clear g14 HEQ
  go_wp2_with fail
  refine HCO.out.mono ?_
  rintro e w15 ⟨v15, rfl, o15, b15⟩
  obtain ⟨oh, ch, rfl⟩ := o15.shape
  rw [wk5]
  have L15 := Lib.hid (below_later L14.out b15)
  obtain ⟨b', f', x, rfl, _, lb', d0, d1, hx⟩ := (S14.out.later b15).at (i := 0) (by simp)
  have hx1 := hx.a.len_n
  have hx2 := hx.b.len_n
  simp only [List.getElem_cons_zero, List.length_cons, List.length_nil, Nat.zero_add, Nat.reduceAdd, Nat.zero_mul, Nat.add_zero] at hx1 hx2 d0 d1
  obtain ⟨ao, an, ac, bo, bn, bc⟩ := x
  simp only at hx1 hx2 d0 d1
  obtain ⟨rfl, _, _⟩ := hx1
  obtain ⟨rfl, _, _⟩ := hx2
  clear o15 b15 hx HCO
  go_wp2_with fail
  refine (HSm.out _).mono ?_
  rintro e w16 ⟨v16, rfl, o16, b16⟩
  obtain ⟨oi, ci, rfl⟩ := o16.shape
  have O16 := Lib.hid o16.seg
  have L16 := Lib.hid (below_later L15.out b16)
  clear o16 b16 d0 d1
  go_wp2_with fail
  refine (HP.out 1 _).mono ?_
  rintro e w17 ⟨rfl, g17⟩
  have L17 := Lib.hid (below_later L16.out g17.below)
  have HH := Lib.hid (has11_any _ smallT 1 1 w17 (O16.out.gr g17) (smallT_s.mono (by decide)) false wk6.symm)
  clear g17
  go_wp2_with fail
  refine HH.out.mono ?_
  rintro e w18 ⟨rfl, b18⟩
  have L18 := Lib.hid (below_later L17.out b18)
  clear b18
  go_wp2
  go_ret
  exact ⟨rfl, L18.out⟩
end Go.Proofs.Ytcapmhmlipmciaa

