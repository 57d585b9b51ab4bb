/- The layer does something: wakes. -/
import Derived.Test.YteipihoebnmagaaN13
import Derived.Test.YteipihoebnmagaaKitB
import Derived.Deep.RegionHeld3
namespace Go.Proofs.Yteipihoebnmagaa
open Go.RowKit Go.Proofs.Kit
def sm : List Pr := [(1, 5), (2, 3), (2, 9)]
theorem wkOf : ofP [(2, 9), (1, 5), (2, 3), (1, 5)] = sm := by decide
theorem wkTurn : turnP sm = [(3, 2), (5, 1), (9, 2)] := by decide
theorem wkCk : ckP sm = 0 := by decide
theorem wkCk2 : ck2 sm [(2, 3), (7, 7)] = 0 := by decide
theorem wkMinus : (cmb true false false sm [(2, 3), (7, 7)]).length = 2 := by
  have h : cmb true false false sm [(2, 3), (7, 7)] = comb true false false sm [(2, 3), (7, 7)] := if_pos (by decide)
  rw [h, comb, sm]
  simp [tog, keepP, keepF, lt2]
theorem wkFirsts : firstsP sm = [1, 2] := by decide
theorem wkSeconds : secondsP sm 2 = [3, 9] := by decide
theorem wkHas : hasP sm (2, 3) = true := by decide
theorem small_is (w : World) : Calls Try.prog 36 #[] w fun e w' => e = .returned (.slice (some ⟨w.heap.size, 0, none⟩) 3 3) ∧ w' = w.alloc (.cells #[.int .u64 1, .int .u64 5, .int .u64 2, .int .u64 3, .int .u64 2, .int .u64 9] 30) := by
  go_enter Try.func36, Try.ntmps36
  go_wp2
  go_ret
  exact ⟨rfl, rfl⟩
/-- The chapter's run lies where it lay. -/
def WS (b : Nat) (w0 w' : World) : Prop := Blk w' b #[.int .u64 1, .int .u64 5, .int .u64 2, .int .u64 3, .int .u64 2, .int .u64 9] 30 ∧ Below w0.heap.size w0 w'
theorem WS.later {b : Nat} {w0 w' w'' : World} (h : WS b w0 w') (hb : Below w'.heap.size w' w'') : WS b w0 w'' := ⟨h.1.later hb, below_later h.2 hb⟩
theorem WS.drew {b : Nat} {w0 w' : World} (h : WS b w0 w') : WS b w0 w'.drew := h.later (Below.refl _ _).drew
theorem WS.alloc {b : Nat} {w0 w' : World} (h : WS b w0 w') (o : Obj) : WS b w0 (w'.alloc o) := h.later ((Below.refl _ _).alloc (Nat.le_refl _) o)
theorem WS.all {b : Nat} {w0 w' : World} (h : WS b w0 w') : (w'.cell? ⟨b, 0, none⟩ = some (.int .u64 1) ∧ w'.cell? ⟨b, 1, none⟩ = some (.int .u64 5) ∧ w'.cell? ⟨b, 2, none⟩ = some (.int .u64 2) ∧ w'.cell? ⟨b, 3, none⟩ = some (.int .u64 3) ∧ w'.cell? ⟨b, 4, none⟩ = some (.int .u64 2) ∧ w'.cell? ⟨b, 5, none⟩ = some (.int .u64 9) ∧ b < w'.heap.size) ∧ WS b w0 w' :=
  ⟨⟨h.1.cell 0, h.1.cell 1, h.1.cell 2, h.1.cell 3, h.1.cell 4, h.1.cell 5, h.1.lt⟩, h⟩
theorem WS.seg {b : Nat} {w0 w' : World} (h : WS b w0 w') : SegP w' (.slice (some ⟨b, 0, none⟩) 3 3) sm := SegP.of_blk (l := sm) h.1 (by decide) (by omega) rfl
theorem of_four (W : World) : Calls Try.prog 11 #[.slice (some ⟨W.heap.size, 0, none⟩) 4 4] (W.alloc (.cells #[.int .u64 2, .int .u64 9, .int .u64 1, .int .u64 5, .int .u64 2, .int .u64 3, .int .u64 1, .int .u64 5] 30)).drew fun e w' => ∃ v', e = .returned (.tuple #[v', .int .i64 0]) ∧ OwnP 30 (W.heap.size + 1) w' v' sm ∧ Below (W.alloc (.cells #[.int .u64 2, .int .u64 9, .int .u64 1, .int .u64 5, .int .u64 2, .int .u64 3, .int .u64 1, .int .u64 5] 30)).drew.heap.size (W.alloc (.cells #[.int .u64 2, .int .u64 9, .int .u64 1, .int .u64 5, .int .u64 2, .int .u64 3, .int .u64 1, .int .u64 5] 30)).drew w' := by
  have h := of_any _ [(2, 9), (1, 5), (2, 3), (1, 5)] (W.alloc (.cells #[.int .u64 2, .int .u64 9, .int .u64 1, .int .u64 5, .int .u64 2, .int .u64 3, .int .u64 1, .int .u64 5] 30)).drew (SegP.of_blk (cap := 4) (Blk.new W #[.int .u64 2, .int .u64 9, .int .u64 1, .int .u64 5, .int .u64 2, .int .u64 3, .int .u64 1, .int .u64 5] 30).drew (by decide) (by decide) rfl) (by decide)
  rw [wkOf] at h
  refine h.mono ?_
  rintro e w' ⟨v', rfl, ho, hb⟩
  exact ⟨v', rfl, ho.mono (by simp), hb⟩
set_option maxRecDepth 100000 in
set_option maxHeartbeats 4000000 in
theorem wakes_true (w : World) : Calls Try.prog 9 #[] w fun e w' => e = .returned (.bool true) ∧ Below w.heap.size w w' := by
  go_enter Try.func9, Try.ntmps9
  go_wp2_with fail
  refine (small_is _).mono ?_
  rintro e w1 ⟨rfl, hw1⟩
  have hws : WS w.heap.size w w1 := by rw [hw1]; exact ⟨Blk.new _ _ _, (Below.refl _ _).alloc (Nat.le_refl _) _⟩
  obtain ⟨⟨c0, c1, c2, c3, c4, c5, hlt⟩, _⟩ := hws.all
  clear hw1
  go_wp2
  go_region_held3 (fun w' => (w'.cell? ⟨w.heap.size, 0, none⟩ = some (.int .u64 1) ∧ w'.cell? ⟨w.heap.size, 1, none⟩ = some (.int .u64 5) ∧ w'.cell? ⟨w.heap.size, 2, none⟩ = some (.int .u64 2) ∧ w'.cell? ⟨w.heap.size, 3, none⟩ = some (.int .u64 3) ∧ w'.cell? ⟨w.heap.size, 4, none⟩ = some (.int .u64 2) ∧ w'.cell? ⟨w.heap.size, 5, none⟩ = some (.int .u64 9) ∧ w.heap.size < w'.heap.size) ∧ WS w.heap.size w w') (first | exact hws.all | exact hws.drew.all | exact (hws.alloc _).all | exact (hws.alloc _).drew.all) ((go_at_call 11; refine (of_four _).mono ?_; rintro e w2 ⟨v2, rfl, ho, hbl⟩; have hws := (hws.alloc _).drew.later hbl))
  go_wp2_with fail
  have B2 := hws.2
  have S2 := Lib.hid hws.seg
  have HO2 := Lib.hid ho
  refine (turn_any _ sm _ S2.out).mono ?_
  rw [wkTurn, wkCk]
  rintro e w3 ⟨v3, rfl, o3, b3⟩
  have B3 := below_later B2 b3
  have hws3 := hws.later b3
  have HO3 := Lib.hid o3
  have HO2 := Lib.hid (HO2.out.later b3)
  clear hws S2 b3 o3 B2 ho
  go_wp2_with fail
  have HW4 := Lib.hid (hws3.alloc (.cells #[.int .u64 2, .int .u64 3, .int .u64 7, .int .u64 7] 30))
  have HO2' := Lib.hid (HO2.out.alloc (.cells #[.int .u64 2, .int .u64 3, .int .u64 7, .int .u64 7] 30))
  have HO3' := Lib.hid (HO3.out.alloc (.cells #[.int .u64 2, .int .u64 3, .int .u64 7, .int .u64 7] 30))
  clear hws3 HO2 HO3
  refine (minus_any _ _ sm [(2, 3), (7, 7)] _ HW4.out.seg (SegP.of_blk (Blk.new _ _ _) (by decide) (by decide) rfl) (by decide)).mono ?_
  rw [wkCk2]
  rintro e w4 ⟨v4, rfl, o4, b4⟩
  have hws4 := HW4.out.later b4
  have HO2 := Lib.hid (HO2'.out.later b4)
  have HO3 := Lib.hid (HO3'.out.later b4)
  obtain ⟨o4', c4', rfl⟩ := o4.shape
  rw [wkMinus]
  have HO4 := Lib.hid o4
  have HW := Lib.hid hws4
  clear HW4 HO2' HO3' b4 o4 hws4 B3
  go_wp2_with fail
  refine (equalP_seg _ _ _ sm _ HO2.out.seg HW.out.seg).mono ?_
  rw [show decide (sm = sm) = true from by simp]
  rintro e w5 ⟨rfl, g5⟩
  have HW5 := Lib.hid (HW.out.later g5.below)
  have HO3' := Lib.hid (HO3.out.later g5.below)
  clear HW HO2 HO3 g5
  go_wp2_with fail
  have HW6 := Lib.hid (HW5.out.alloc (.cells #[.int .u64 3, .int .u64 2, .int .u64 5, .int .u64 1, .int .u64 9, .int .u64 2] 30))
  have HO3 := Lib.hid (HO3'.out.alloc (.cells #[.int .u64 3, .int .u64 2, .int .u64 5, .int .u64 1, .int .u64 9, .int .u64 2] 30))
  refine (equalP_seg _ _ _ [(3, 2), (5, 1), (9, 2)] _ HO3.out.seg (SegP.of_blk (Blk.new _ _ _) (by decide) (by decide) rfl)).mono ?_
  rw [show decide (([(3, 2), (5, 1), (9, 2)] : List Pr) = [(3, 2), (5, 1), (9, 2)]) = true from by decide]
  rintro e w7 ⟨rfl, g7⟩
  have HW7 := Lib.hid (HW6.out.later g7.below)
  clear HW5 HW6 HO3 HO3' g7
  go_wp2_with fail
  refine (firsts_any _ sm _ HW7.out.seg).mono ?_
  rw [wkFirsts]
  rintro e w8 ⟨v8, rfl, o8, b8⟩
  have HW8 := Lib.hid (HW7.out.later b8)
  have HO8 := Lib.hid o8
  clear HW7 b8 o8
  go_wp2_with fail
  have HW9 := Lib.hid (HW8.out.alloc (.cells #[.int .u64 1, .int .u64 2] 28))
  refine (equalu_seg _ _ _ [1, 2] _ (HO8.out.alloc _).seg (Seg.of_blk (Blk.new _ _ _) (by decide) (by decide) rfl)).mono ?_
  rw [show decide (([1, 2] : List Int) = [1, 2]) = true from by decide]
  rintro e w10 ⟨rfl, b10⟩
  have HW10 := Lib.hid (HW9.out.later b10)
  clear HW8 HW9 HO8 b10
  go_wp2_with fail
  refine (seconds_any _ sm _ HW10.out.seg (by unfold Nn sm; decide) 2).mono ?_
  rw [wkSeconds]
  rintro e w11 ⟨v11, rfl, o11, b11⟩
  have HW11 := Lib.hid (HW10.out.later b11)
  have HO11 := Lib.hid o11
  clear HW10 b11 o11
  go_wp2_with fail
  have HW12 := Lib.hid (HW11.out.alloc (.cells #[.int .u64 3, .int .u64 9] 28))
  refine (equalu_seg _ _ _ [3, 9] _ (HO11.out.alloc _).seg (Seg.of_blk (Blk.new _ _ _) (by decide) (by decide) rfl)).mono ?_
  rw [show decide (([3, 9] : List Int) = [3, 9]) = true from by decide]
  rintro e w13 ⟨rfl, b13⟩
  have HW13 := Lib.hid (HW12.out.later b13)
  obtain ⟨⟨d0, d1, d2, d3, d4, d5, hlt⟩, _⟩ := HW13.out.all
  clear HW11 HW12 HO11 b13
  go_wp2_with fail
  refine (has_any _ sm _ HW13.out.seg 2 3).mono ?_
  rw [wkHas]
  rintro e w14 ⟨rfl, g14⟩
  have HW14 := Lib.hid (HW13.out.later g14.below)
  clear HW13 g14 d0 d1 d2 d3 d4 d5 hlt
  go_wp2
  go_ret
  exact ⟨rfl, HW14.out.2⟩
end Go.Proofs.Yteipihoebnmagaa
