/- tiers.inOrder's walk. -/
import Derived.Test.YtlhigfphfbmbjaaW10
namespace Go.Proofs.Ytlhigfphfbmbjaa
open Go.RowKit Go.Proofs.Kit Go.Shelf Go.Maps
theorem inv_word (v : Value) (y : DataW Unit × List MemPlace) (h : plainElem Try.prog 127 v = some y) : ∃ c, v = .int .i8 c := by
  obtain ⟨c, rfl, _⟩ := plainElem_int_inv Try.underlying127 h
  exact ⟨c, rfl⟩
theorem inv_pair (v : Value) (l : Lit) (h : keyOf Try.prog 53 v = some l) : ∃ p : Pr, v = PV p.1 p.2 := by
  obtain ⟨p, _, rfl, _⟩ := key_inv h
  exact ⟨p, rfl⟩
/-- What holds between two rounds of inOrder's loop. -/
structure IO (w : World) (bm r n : Nat) (D : DataW Unit) (f : Pr → Int) (keep : Int → Bool) (v : Value) (W : World) : Prop where
  ex : ∃ left cnt acc, W.ranges Try.prog 53 (plainElem Try.prog 127) bm r n D left cnt ∧ Acc f keep left acc ∧ OwnP 53 w.heap.size W v acc ∧ acc.length + cnt ≤ n
  low : Below w.heap.size w W
set_option maxRecDepth 100000 in
set_option maxHeartbeats 4000000 in
theorem inOrderA_any (bx : Nat) (oo : Bool) (bm n : Nat) (f : Pr → Int) (w : World) (hm : WM w bm n f) (hn : n ≤ 1000000000) (hb : Blk w bx #[.bool oo] 4) :
    Calls Try.prog 88 #[.map (some bm), .func (.func 89) #[] #[]] w fun e w' => ∃ v' r, e = .returned v' ∧ OwnP 53 w.heap.size w' v' r ∧ (Run r ∧ ∀ p, p ∈ r ↔ Wp p ∧ (fun x : Int => (x == 1)) (f p) = true) ∧ Below w.heap.size w w' := by
  obtain ⟨i0, hi, hz0, hz1, hz2⟩ := infoP
  obtain ⟨D, hown, hD⟩ := hm
  obtain ⟨keep, hkeep⟩ : ∃ keep : Int → Bool, keep = fun x : Int => (x == 1) := ⟨_, rfl⟩
  have hk0 : keep 0 = false := by rw [hkeep]; rfl
  have hsz := map_size hown
  have HD := Lib.hid hD
  have HB := Lib.hid hb
  rw [← hkeep]
  have HK := Lib.hid hkeep
  clear hD hb hkeep
  go_enter Try.func88, Try.ntmps88
  go_wp2_with (first | (at_range; refine wpList_range_own _ rfl _ 123 rfl 53 127 lawP Try.underlying123 _ bm n D rfl hown ?_; intro w0 hrg0 hg0 hs0) | fail)
  go_frame
  have I0 : IO w bm w.heap.size n D f keep (.slice none 0 0) w0 := by
    refine ⟨⟨_, _, [], hrg0, ⟨by simp, by simp, fun p hp => ?_⟩, OwnP.nil _ _ _, by simpa using hsz⟩, (Below.refl _ _).grown hg0 (Nat.le_refl _) (fun _ h => by cases h)⟩
    simp only [List.not_mem_nil, false_iff, not_and]
    intro hkp
    rw [(HD.out p hp).2]
    simp only [decide_eq_false_iff_not, Decidable.not_not]
    intro c
    rw [c, hk0] at hkp
    cases hkp
  have HI0 := Lib.hid I0
  clear hrg0 hg0 hs0 I0 hown
  go_loopw [5] (fun s5 wr => Hid (IO w bm w.heap.size n D f keep s5 wr)) (fun _ wr => wr.rangeLeft bm w.heap.size)
  case atStart => exact HI0
  case round =>
    obtain ⟨⟨left, cnt, acc, hrg, hacc, hO, hlen⟩, hlow⟩ := hrel.out
    have HACC := Lib.hid hacc
    have HO := Lib.hid hO
    have HLOW := Lib.hid hlow
    have hleq := hrg.left_eq
    have HLEQ := Lib.hid hleq
    have HRG := Lib.hid hrg
    obtain ⟨ov, cv, rfl⟩ := hO.shape
    have hl62 := hO.1
    obtain ⟨nv, hnv⟩ : ∃ nv, nv = acc.length := ⟨_, rfl⟩
    rw [← hnv] at HO hlen hl62 ⊢
    have HNV := Lib.hid hnv
    clear hacc hO hlow hleq hnv
    go_wp2_with (first | (at_next; refine wpList_next_ranges _ rfl _ rfl 53 lawP (plainElem Try.prog 127) (fun p : Pr => PV p.1 p.2) (Value.int .i8) (fun key kl h => inv_pair key kl h) (fun v y h => inv_word v y h) bm w.heap.size n D left cnt rfl hrg (fun hc0 hl0 => ?_) (fun p c kl' y w1 cnt1 hkey hlx hv hat hrg1 hlt1 hg1 hs1 hen => ?_)))
    · have HL0 := Lib.hid hl0
      clear hl0
      go_wp2_with fail
      refine (sort_own w.heap.size _ acc _ HO.out).mono ?_
      rintro e w2 ⟨rfl, l', hp, ha, hO2, hb2⟩
      have HR := Lib.hid (HACC.out.run HL0.out hp ha)
      have HO2 := Lib.hid hO2
      have HB2 := Lib.hid (HLOW.out.trans hb2)
      clear hp ha hO2 hb2
      go_wp2
      go_ret
      exact ⟨_, l', rfl, HO2.out, HR.out, HB2.out⟩
    · obtain ⟨p', hwp, hpe, rfl⟩ := key_inv hkey
      obtain rfl : p = p' := by
        obtain ⟨p1, p2⟩ := p
        obtain ⟨q1, q2⟩ := p'
        simp only [PV, Value.agg.injEq, Array.mk.injEq, List.cons.injEq, Value.int.injEq, true_and, and_true] at hpe
        rw [hpe.1, hpe.2]
      have hc : c = f p := by
        obtain ⟨c', e1, e2, _⟩ := plainElem_int_inv Try.underlying127 hv
        injection e1 with _ e1
        have h1 := hat (.lit (.int .i8 0))
        rw [(HD.out p hwp).1, e2, ← e1] at h1
        injection h1 with h1
        injection h1 with _ h1
        exact h1.symm
      have hstep := HACC.out.step hwp hlx
      rw [← hc] at hstep
      have HST := Lib.hid hstep
      have hne := OwnP.ne_iter HO.out hrg
      have ho1 : OwnP 53 w.heap.size w1 (.slice ov nv cv) acc := HO.out.grown hg1 (fun k hk e => hne.2 (by rw [hk]; exact e))
      have HO1 := Lib.hid ho1
      have hlow1 : Below w.heap.size w w1 := HLOW.out.grown hg1 HLOW.out.size (by intro k hk; cases hk; exact Nat.le_refl _)
      have HLOW1 := Lib.hid hlow1
      have HRG1 := Lib.hid hrg1
      obtain ⟨p1, p2⟩ := p
      simp only at hen
      have HBW := Lib.hid (HB.out.below hlow1 HB.out.lt)
      have hcnt : cnt1 < cnt := hlt1
      have HS1 := Lib.hid hs1
      clear hkey hlx hv hat hrg1 hlt1 hg1 hs1 hpe hwp hstep hne ho1 hlow1 hc hrg
      obtain ⟨kb, hkb⟩ : ∃ kb, kb = keep c := ⟨_, rfl⟩
      have hkx : (c == 1) = kb := by rw [hkb, HK.out]
      rw [← hkb] at HST
      have HKX := Lib.hid hkx
      clear hkb hkx
      go_wp2_with fail
      refine (asOneA_any c _).mono ?_
      rintro e w3 ⟨rfl, rfl⟩
      rw [HKX.out]
      have gA := (Gr.alloc w1 (.cells #[.int .u64 p1, .int .u64 p2] 53)).below
      have HLOW3 := Lib.hid (below_later HLOW1.out gA)
      have HRG3 := Lib.hid (HRG1.out.alloc (.cells #[.int .u64 p1, .int .u64 p2] 53))
      have HO3 := Lib.hid (HO1.out.later gA)
      have c0 := (Blk.new w1 #[.int .u64 p1, .int .u64 p2] 53).cell 0
      have c1 := (Blk.new w1 #[.int .u64 p1, .int .u64 p2] 53).cell 1
      simp only [List.getElem?_toArray, List.getElem?_cons_zero, List.getElem?_cons_succ] at c0 c1
      have l3 := (Blk.new w1 #[.int .u64 p1, .int .u64 p2] 53).lt
      rw [HS1.out] at c0 c1
      have l3' : wr.heap.size < (w1.alloc (.cells #[.int .u64 p1, .int .u64 p2] 53)).heap.size := by rw [← HS1.out]; exact l3
      clear l3
      clear gA hen
      cases kb
      · have HI3 : Hid (IO w bm w.heap.size n D f keep (.slice ov nv cv) (w1.alloc (.cells #[.int .u64 p1, .int .u64 p2] 53))) := Lib.hid ⟨⟨_, _, acc, HRG3.out, by simpa using HST.out, HO3.out, by have := HNV.out; omega⟩, HLOW3.out⟩
        have hm1 := HRG3.out.left_eq
        have hm2 := HLEQ.out
        have HM : Hid ((w1.alloc (.cells #[.int .u64 p1, .int .u64 p2] 53)).rangeLeft bm w.heap.size < wr.rangeLeft bm w.heap.size) := Lib.hid (by omega)
        clear hm1 hm2
        go_wp2
        go_roundw
        case rel => exact HI3
        case measure => exact HM.out
      · have hcap : nv + 1 ≤ 8000000000000 := by omega
        obtain ⟨W3, hW3⟩ : ∃ W3, W3 = w1.alloc (.cells #[.int .u64 p1, .int .u64 p2] 53) := ⟨_, rfl⟩
        rw [← hW3] at HLOW3 HRG3 HO3 c0 c1 l3' ⊢
        clear hW3
        go_wp2_with (first | (at_builtin; refine wpList_append_segP rfl _ _ 22 rfl w.heap.size 53 i0 (.agg #[.int .u64 0, .int .u64 0]) Try.underlying22 hi hz0 hz1 hz2 rfl _ acc rfl (HO3.out.alloc _) _ [(p1, p2)] rfl (SegP.of_blk (l := [(p1, p2)]) (cap := 1) (Blk.new _ _ _) (by simp) (by decide) rfl) (by rw [← HNV.out]; simpa using hcap) (by have := HLOW3.out.size; simp; omega) (fun v' w4 hO4 hb4 hg4 _ => ?_)))
        have hrg4 := HRG3.out.alloc (.cells #[.int .u64 p1, .int .u64 p2] 53)
        have hne4 := OwnP.ne_iter (HO3.out.alloc (.cells #[.int .u64 p1, .int .u64 p2] 53)) hrg4
        have hrg5 := hrg4.kept hg4 hne4.1 hne4.2
        have hm1 := hrg5.left_eq
        have hm2 := HLEQ.out
        have HM : Hid (w4.rangeLeft bm w.heap.size < wr.rangeLeft bm w.heap.size) := Lib.hid (by omega)
        have HI3 : Hid (IO w bm w.heap.size n D f keep v' w4) := Lib.hid ⟨⟨_, _, acc ++ [(p1, p2)], hrg5, by simpa using HST.out, hO4, by rw [List.length_append, ← HNV.out]; simp; omega⟩, (HLOW3.out.alloc HLOW3.out.size _).trans hb4⟩
        clear hm1 hm2 hrg4 hrg5 hne4 hO4 hb4 hg4
        go_wp2
        go_roundw
        case rel => exact HI3
        case measure => exact HM.out
set_option maxRecDepth 100000 in
set_option maxHeartbeats 4000000 in
theorem inOrderB_any (bx : Nat) (oo : Bool) (bm n : Nat) (f : Pr → Int) (w : World) (hm : WM w bm n f) (hn : n ≤ 1000000000) (hb : Blk w bx #[.bool oo] 4) :
    Calls Try.prog 88 #[.map (some bm), .func (.func 90) #[] #[.pointer (some ⟨bx, 0, none⟩)]] w fun e w' => ∃ v' r, e = .returned v' ∧ OwnP 53 w.heap.size w' v' r ∧ (Run r ∧ ∀ p, p ∈ r ↔ Wp p ∧ (fun x : Int => (x == 2 && !oo)) (f p) = true) ∧ Below w.heap.size w w' := by
  obtain ⟨i0, hi, hz0, hz1, hz2⟩ := infoP
  obtain ⟨D, hown, hD⟩ := hm
  obtain ⟨keep, hkeep⟩ : ∃ keep : Int → Bool, keep = fun x : Int => (x == 2 && !oo) := ⟨_, rfl⟩
  have hk0 : keep 0 = false := by rw [hkeep]; rfl
  have hsz := map_size hown
  have HD := Lib.hid hD
  have HB := Lib.hid hb
  rw [← hkeep]
  have HK := Lib.hid hkeep
  clear hD hb hkeep
  go_enter Try.func88, Try.ntmps88
  go_wp2_with (first | (at_range; refine wpList_range_own _ rfl _ 123 rfl 53 127 lawP Try.underlying123 _ bm n D rfl hown ?_; intro w0 hrg0 hg0 hs0) | fail)
  go_frame
  have I0 : IO w bm w.heap.size n D f keep (.slice none 0 0) w0 := by
    refine ⟨⟨_, _, [], hrg0, ⟨by simp, by simp, fun p hp => ?_⟩, OwnP.nil _ _ _, by simpa using hsz⟩, (Below.refl _ _).grown hg0 (Nat.le_refl _) (fun _ h => by cases h)⟩
    simp only [List.not_mem_nil, false_iff, not_and]
    intro hkp
    rw [(HD.out p hp).2]
    simp only [decide_eq_false_iff_not, Decidable.not_not]
    intro c
    rw [c, hk0] at hkp
    cases hkp
  have HI0 := Lib.hid I0
  clear hrg0 hg0 hs0 I0 hown
  go_loopw [5] (fun s5 wr => Hid (IO w bm w.heap.size n D f keep s5 wr)) (fun _ wr => wr.rangeLeft bm w.heap.size)
  case atStart => exact HI0
  case round =>
    obtain ⟨⟨left, cnt, acc, hrg, hacc, hO, hlen⟩, hlow⟩ := hrel.out
    have HACC := Lib.hid hacc
    have HO := Lib.hid hO
    have HLOW := Lib.hid hlow
    have hleq := hrg.left_eq
    have HLEQ := Lib.hid hleq
    have HRG := Lib.hid hrg
    obtain ⟨ov, cv, rfl⟩ := hO.shape
    have hl62 := hO.1
    obtain ⟨nv, hnv⟩ : ∃ nv, nv = acc.length := ⟨_, rfl⟩
    rw [← hnv] at HO hlen hl62 ⊢
    have HNV := Lib.hid hnv
    clear hacc hO hlow hleq hnv
    go_wp2_with (first | (at_next; refine wpList_next_ranges _ rfl _ rfl 53 lawP (plainElem Try.prog 127) (fun p : Pr => PV p.1 p.2) (Value.int .i8) (fun key kl h => inv_pair key kl h) (fun v y h => inv_word v y h) bm w.heap.size n D left cnt rfl hrg (fun hc0 hl0 => ?_) (fun p c kl' y w1 cnt1 hkey hlx hv hat hrg1 hlt1 hg1 hs1 hen => ?_)))
    · have HL0 := Lib.hid hl0
      clear hl0
      go_wp2_with fail
      refine (sort_own w.heap.size _ acc _ HO.out).mono ?_
      rintro e w2 ⟨rfl, l', hp, ha, hO2, hb2⟩
      have HR := Lib.hid (HACC.out.run HL0.out hp ha)
      have HO2 := Lib.hid hO2
      have HB2 := Lib.hid (HLOW.out.trans hb2)
      clear hp ha hO2 hb2
      go_wp2
      go_ret
      exact ⟨_, l', rfl, HO2.out, HR.out, HB2.out⟩
    · obtain ⟨p', hwp, hpe, rfl⟩ := key_inv hkey
      obtain rfl : p = p' := by
        obtain ⟨p1, p2⟩ := p
        obtain ⟨q1, q2⟩ := p'
        simp only [PV, Value.agg.injEq, Array.mk.injEq, List.cons.injEq, Value.int.injEq, true_and, and_true] at hpe
        rw [hpe.1, hpe.2]
      have hc : c = f p := by
        obtain ⟨c', e1, e2, _⟩ := plainElem_int_inv Try.underlying127 hv
        injection e1 with _ e1
        have h1 := hat (.lit (.int .i8 0))
        rw [(HD.out p hwp).1, e2, ← e1] at h1
        injection h1 with h1
        injection h1 with _ h1
        exact h1.symm
      have hstep := HACC.out.step hwp hlx
      rw [← hc] at hstep
      have HST := Lib.hid hstep
      have hne := OwnP.ne_iter HO.out hrg
      have ho1 : OwnP 53 w.heap.size w1 (.slice ov nv cv) acc := HO.out.grown hg1 (fun k hk e => hne.2 (by rw [hk]; exact e))
      have HO1 := Lib.hid ho1
      have hlow1 : Below w.heap.size w w1 := HLOW.out.grown hg1 HLOW.out.size (by intro k hk; cases hk; exact Nat.le_refl _)
      have HLOW1 := Lib.hid hlow1
      have HRG1 := Lib.hid hrg1
      obtain ⟨p1, p2⟩ := p
      simp only at hen
      have HBW := Lib.hid (HB.out.below hlow1 HB.out.lt)
      have hcnt : cnt1 < cnt := hlt1
      have HS1 := Lib.hid hs1
      clear hkey hlx hv hat hrg1 hlt1 hg1 hs1 hpe hwp hstep hne ho1 hlow1 hc hrg
      obtain ⟨kb, hkb⟩ : ∃ kb, kb = keep c := ⟨_, rfl⟩
      have hkx : (c == 2 && !oo) = kb := by rw [hkb, HK.out]
      rw [← hkb] at HST
      have HKX := Lib.hid hkx
      clear hkb hkx
      go_wp2_with fail
      refine (asOneB_any c bx oo _ (HBW.out.alloc _)).mono ?_
      rintro e w3 ⟨rfl, rfl⟩
      rw [HKX.out]
      have gA := (Gr.alloc w1 (.cells #[.int .u64 p1, .int .u64 p2] 53)).below
      have HLOW3 := Lib.hid (below_later HLOW1.out gA)
      have HRG3 := Lib.hid (HRG1.out.alloc (.cells #[.int .u64 p1, .int .u64 p2] 53))
      have HO3 := Lib.hid (HO1.out.later gA)
      have c0 := (Blk.new w1 #[.int .u64 p1, .int .u64 p2] 53).cell 0
      have c1 := (Blk.new w1 #[.int .u64 p1, .int .u64 p2] 53).cell 1
      simp only [List.getElem?_toArray, List.getElem?_cons_zero, List.getElem?_cons_succ] at c0 c1
      have l3 := (Blk.new w1 #[.int .u64 p1, .int .u64 p2] 53).lt
      rw [HS1.out] at c0 c1
      have l3' : wr.heap.size < (w1.alloc (.cells #[.int .u64 p1, .int .u64 p2] 53)).heap.size := by rw [← HS1.out]; exact l3
      clear l3
      clear gA hen
      cases kb
      · have HI3 : Hid (IO w bm w.heap.size n D f keep (.slice ov nv cv) (w1.alloc (.cells #[.int .u64 p1, .int .u64 p2] 53))) := Lib.hid ⟨⟨_, _, acc, HRG3.out, by simpa using HST.out, HO3.out, by have := HNV.out; omega⟩, HLOW3.out⟩
        have hm1 := HRG3.out.left_eq
        have hm2 := HLEQ.out
        have HM : Hid ((w1.alloc (.cells #[.int .u64 p1, .int .u64 p2] 53)).rangeLeft bm w.heap.size < wr.rangeLeft bm w.heap.size) := Lib.hid (by omega)
        clear hm1 hm2
        go_wp2
        go_roundw
        case rel => exact HI3
        case measure => exact HM.out
      · have hcap : nv + 1 ≤ 8000000000000 := by omega
        obtain ⟨W3, hW3⟩ : ∃ W3, W3 = w1.alloc (.cells #[.int .u64 p1, .int .u64 p2] 53) := ⟨_, rfl⟩
        rw [← hW3] at HLOW3 HRG3 HO3 c0 c1 l3' ⊢
        clear hW3
        go_wp2_with (first | (at_builtin; refine wpList_append_segP rfl _ _ 22 rfl w.heap.size 53 i0 (.agg #[.int .u64 0, .int .u64 0]) Try.underlying22 hi hz0 hz1 hz2 rfl _ acc rfl (HO3.out.alloc _) _ [(p1, p2)] rfl (SegP.of_blk (l := [(p1, p2)]) (cap := 1) (Blk.new _ _ _) (by simp) (by decide) rfl) (by rw [← HNV.out]; simpa using hcap) (by have := HLOW3.out.size; simp; omega) (fun v' w4 hO4 hb4 hg4 _ => ?_)))
        have hrg4 := HRG3.out.alloc (.cells #[.int .u64 p1, .int .u64 p2] 53)
        have hne4 := OwnP.ne_iter (HO3.out.alloc (.cells #[.int .u64 p1, .int .u64 p2] 53)) hrg4
        have hrg5 := hrg4.kept hg4 hne4.1 hne4.2
        have hm1 := hrg5.left_eq
        have hm2 := HLEQ.out
        have HM : Hid (w4.rangeLeft bm w.heap.size < wr.rangeLeft bm w.heap.size) := Lib.hid (by omega)
        have HI3 : Hid (IO w bm w.heap.size n D f keep v' w4) := Lib.hid ⟨⟨_, _, acc ++ [(p1, p2)], hrg5, by simpa using HST.out, hO4, by rw [List.length_append, ← HNV.out]; simp; omega⟩, (HLOW3.out.alloc HLOW3.out.size _).trans hb4⟩
        clear hm1 hm2 hrg4 hrg5 hne4 hO4 hb4 hg4
        go_wp2
        go_roundw
        case rel => exact HI3
        case measure => exact HM.out
end Go.Proofs.Ytlhigfphfbmbjaa

