/- The layer does something: wakes. -/
import Derived.Test.YtdjcdhkdmgkdfaaC9
namespace Go.Proofs.Ytdjcdhkdmgkdfaa
open Go.RowKit Go.Proofs.Kit Go.Shelf

theorem Read.ok {α : Type} {w : World} {R : Except Int (α × Nat)} {Z : Value} {G : α → Value → World → Prop} {e : Ending} {w' : World} {x : α} {q : Nat} (h : Read w R Z G e w') (hR : R = .ok (x, q)) :
    ∃ v, e = .returned (.tuple #[v, .int .i64 ((q : Nat) : Int), .int .i64 0]) ∧ G x v w' ∧ Below w.heap.size w w' := by
  obtain ⟨hb, ⟨x', q', v, hr, he, hG⟩ | ⟨c, hr, he⟩⟩ := h
  · rw [hR] at hr
    injection hr with hr; injection hr with h1 h2
    subst h1 h2
    exact ⟨v, he, hG, hb⟩
  · rw [hR] at hr; cases hr
theorem Read.err {α : Type} {w : World} {R : Except Int (α × Nat)} {Z : Value} {G : α → Value → World → Prop} {e : Ending} {w' : World} {c : Int} (h : Read w R Z G e w') (hR : R = .error c) :
    e = .returned (.tuple #[Z, .int .i64 0, .int .i64 c]) ∧ Below w.heap.size w w' := by
  obtain ⟨hb, ⟨x', q', v, hr, he, hG⟩ | ⟨c', hr, he⟩⟩ := h
  · rw [hR] at hr; cases hr
  · rw [hR] at hr
    injection hr with h1
    subst h1
    exact ⟨he, hb⟩

theorem wk1 : rdN [7, 172, 2, 9] 1 = .ok (300, 3) := by rfl
theorem wk6 : sept 300 = [172, 2] := by rw [sept_more (by decide), sept_last (by decide)]; rfl
theorem wk2 : bytesRow [1, 300] = [2, 1, 172, 2] := by
  have h1 : sept 1 = [1] := sept_last (by decide)
  have h2 : sept 2 = [2] := sept_last (by decide)
  show sept 2 ++ (sept 1 ++ (sept 300 ++ [])) = _
  rw [h1, h2, wk6]
  rfl
theorem wk3 : rdRow [2, 1, 172, 2] 0 = .ok ([1, 300], 4) := by rfl
theorem wk4 : rdN [128, 0] 0 = .error 121 := by rfl
theorem wk5 : sumB [0] = 32 := by rfl

set_option maxHeartbeats 2000000 in
theorem wakes_true (w : World) : Calls Try.prog 8 #[] w fun e w' => e = .returned (.bool true) ∧ Below w.heap.size w w' := by
  go_enter Try.func8, Try.ntmps8
  go_wp2_with fail
  have s1 : Seg .u8 (w.alloc (.cells #[.int .u8 7, .int .u8 172, .int .u8 2, .int .u8 9] 5)) (.slice (some ⟨w.heap.size, 0, none⟩) 4 4) [7, 172, 2, 9] := (Owns.new (l := [7, 172, 2, 9]) (Nat.le_refl _) rfl (by simp)).seg
  refine (readn_any 1 _ _ _ s1 (by unfold Byt; decide) (by decide) (by decide)).mono ?_
  intro e w1 h
  obtain ⟨v, rfl, rfl, hb1⟩ := h.ok wk1
  have B1 : Below w.heap.size w w1 := ((Below.refl _ _).alloc (Nat.le_refl _) _).trans (hb1.mono (by simp))
  clear h s1 hb1
  go_wp2_with fail
  have s2 : Seg .u64 (w1.alloc (.cells #[.int .u64 1, .int .u64 300] 26)) (.slice (some ⟨w1.heap.size, 0, none⟩) 2 2) [1, 300] := (Owns.new (l := [1, 300]) (Nat.le_refl _) rfl (by simp)).seg
  refine (row_any _ _ _ s2 (by decide) (by decide)).mono ?_
  rintro e w2 ⟨v2, rfl, ho2, hb2⟩
  rw [wk2] at ho2
  have B2 : Below w.heap.size w w2 := (B1.alloc B1.size _).trans (hb2.mono (by have := B1.size; simp; omega))
  clear s2 hb2
  go_wp2_with fail
  refine (readu_any 0 _ _ _ ho2.seg (by unfold Byt; decide) (by decide) (by decide)).mono ?_
  intro e w3 h
  obtain ⟨v3, rfl, ho3, hb3⟩ := h.ok wk3
  have B3 : Below w.heap.size w w3 := B2.trans (hb3.mono B2.size)
  clear h hb3 ho2
  go_wp2_with fail
  have s4 : Seg .u8 (w3.alloc (.cells #[.int .u8 128, .int .u8 0] 5)) (.slice (some ⟨w3.heap.size, 0, none⟩) 2 2) [128, 0] := (Owns.new (l := [128, 0]) (Nat.le_refl _) rfl (by simp)).seg
  refine (readn_any 0 _ _ _ s4 (by unfold Byt; decide) (by decide) (by decide)).mono ?_
  intro e w4 h
  obtain ⟨rfl, hb4⟩ := h.err wk4
  have B4 : Below w.heap.size w w4 := (B3.alloc B3.size _).trans (hb4.mono (by have := B3.size; simp; omega))
  have o4 := (ho3.alloc (.cells #[.int .u8 128, .int .u8 0] 5)).later hb4
  clear h hb4 s4 ho3
  go_wp2_with fail
  have s5 : Seg .u64 (w4.alloc (.cells #[.int .u64 1, .int .u64 300] 26)) (.slice (some ⟨w4.heap.size, 0, none⟩) 2 2) [1, 300] := (Owns.new (l := [1, 300]) (Nat.le_refl _) rfl (by simp)).seg
  refine (equalu_seg _ _ _ _ _ (o4.seg.alloc _) s5).mono ?_
  rintro e w5 ⟨rfl, hb5⟩
  have B5 : Below w.heap.size w w5 := (B4.alloc B4.size _).trans (hb5.mono (by have := B4.size; simp; omega))
  clear hb5 s5 o4
  go_wp2_with fail
  have s6 : Seg .u8 (w5.alloc (.cells #[.int .u8 0] 5)) (.slice (some ⟨w5.heap.size, 0, none⟩) 1 1) [0] := (Owns.new (l := [0]) (Nat.le_refl _) rfl (by simp)).seg
  refine (sum_any _ _ _ s6 (by unfold Byt; decide)).mono ?_
  rw [wk5]
  rintro e w6 ⟨rfl, rfl⟩
  have B6 : Below w.heap.size w (w5.alloc (.cells #[.int .u8 0] 5)) := B5.alloc B5.size _
  clear s6
  go_wp2_with fail
  refine (number_any 300 (by decide) _).mono ?_
  rintro e w7 ⟨v7, rfl, ho7, hb7⟩
  rw [wk6] at ho7
  have B7 : Below w.heap.size w w7 := B6.trans (hb7.mono B6.size)
  clear hb7
  go_wp2_with fail
  have s8 : Seg .u8 (w7.alloc (.cells #[.int .u8 172, .int .u8 2] 5)) (.slice (some ⟨w7.heap.size, 0, none⟩) 2 2) [172, 2] := (Owns.new (l := [172, 2]) (Nat.le_refl _) rfl (by simp)).seg
  refine (equalb_seg _ _ _ _ _ (ho7.seg.alloc _) s8).mono ?_
  rintro e w8 ⟨rfl, hb8⟩
  have B8 : Below w.heap.size w w8 := (B7.alloc B7.size _).trans (hb8.mono (by have := B7.size; simp; omega))
  go_wp2_with fail
  go_ret
  exact ⟨rfl, B8⟩
end Go.Proofs.Ytdjcdhkdmgkdfaa
