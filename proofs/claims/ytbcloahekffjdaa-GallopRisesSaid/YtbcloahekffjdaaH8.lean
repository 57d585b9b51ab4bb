/- Stage 4's wakes: the layer does something. -/
import Derived.Test.YtbcloahekffjdaaH7
namespace Go.Proofs.Ytbcloahekffjdaa
open Go.RowKit Go.Proofs.Kit Go.Shelf

theorem wk4_inc : Inc [3, 5, 8, 9, 12] := by decide
theorem wk4_sk : sk (ge 8) [3, 5, 8, 9, 12] 0 = 2 := by decide
theorem wk4_bh : sk (gt 8) [3, 5, 8, 9, 12] 0 = 3 := by decide
theorem wk4_no : ¬ May [5, 3] 0 := by decide
theorem wk4_mt : mtI [3, 5, 8, 9, 12] [2, 5, 9] = [5, 9] := by decide
theorem wk4_has : hasI [3, 5, 8, 9, 12] 12 = true := by decide
theorem wk4_log : Nat.log2 (9 : Int).toNat = 3 := by decide
set_option maxHeartbeats 2000000 in
theorem wakes4_true (w : World) : Calls Try.prog 10 #[] w fun e w' => e = .returned (.bool true) ∧ Below w.heap.size w w' := by
  go_enter Try.func10, Try.ntmps10
  go_wp2_with fail
  have s1 : Seg .u64 (w.alloc (.cells #[.int .u64 3, .int .u64 5, .int .u64 8, .int .u64 9, .int .u64 12] 27)) (.slice (some ⟨w.heap.size, 0, none⟩) 5 5) [3, 5, 8, 9, 12] := (Owns.new (l := [3, 5, 8, 9, 12]) (Nat.le_refl _) rfl (by simp)).seg
  have S1 := Lib.hid s1
  refine (gSeek_ok _ _ _ s1 (by decide) wk4_inc 0 (by decide) 8).mono ?_
  rintro e w1 ⟨q1, rfl, hq1, hb1⟩
  have hq := (hq1.2 (by decide)).1
  rw [wk4_sk]
  have B1 : Below w.heap.size w w1 := below_al (Below.refl _ _) hb1
  have s2 := S1.out.later hb1
  clear hq1 hb1 s1
  go_wp2_with fail
  refine (gBehind_ok _ _ _ s2 (by decide) wk4_inc 0 (by decide) 8).mono ?_
  rintro e w2 ⟨q2, rfl, -, hb2⟩
  rw [wk4_bh]
  have B2 : Below w.heap.size w w2 := below_later B1 hb2
  have s3 := s2.later hb2
  clear hb2 s2 B1
  go_wp2_with fail
  have s4 : Seg .u64 (w2.alloc (.cells #[.int .u64 5, .int .u64 3] 27)) (.slice (some ⟨w2.heap.size, 0, none⟩) 2 2) [5, 3] := (Owns.new (l := [5, 3]) (Nat.le_refl _) rfl (by simp)).seg
  refine (gSeek_no _ _ _ s4 0 (by decide) (by decide) wk4_no 1).mono ?_
  rintro e w3 ⟨rfl, hb3⟩
  have B3 : Below w.heap.size w w3 := below_al B2 hb3
  have s5 := (s3.alloc (.cells #[.int .u64 5, .int .u64 3] 27)).later hb3
  clear hb3 s3 s4 B2
  go_wp2_with fail
  have s6 : Seg .u64 (w3.alloc (.cells #[.int .u64 2, .int .u64 5, .int .u64 9] 27)) (.slice (some ⟨w3.heap.size, 0, none⟩) 3 3) [2, 5, 9] := (Owns.new (l := [2, 5, 9]) (Nat.le_refl _) rfl (by simp)).seg
  refine (gMeet_any _ _ _ _ _ (s5.alloc _) s6 (by decide) (by decide)).mono ?_
  rw [wk4_mt]
  rintro e w4 ⟨v, q4, rfl, ho4, -, hb4⟩
  have B4 : Below w.heap.size w w4 := below_al B3 hb4
  have s7 := (s5.alloc (.cells #[.int .u64 2, .int .u64 5, .int .u64 9] 27)).later hb4
  have s8 := ho4.seg
  clear hb4 s5 s6 B3 ho4
  have hq0 : decide ((0 : Int) < (q1 : Int)) = true := by simp; omega
  have hq0' : decide (0 < q1) = true := by simp; omega
  go_wp2_with fail
  have s9 : Seg .u64 (w4.alloc (.cells #[.int .u64 5, .int .u64 9] 27)) (.slice (some ⟨w4.heap.size, 0, none⟩) 2 2) [5, 9] := (Owns.new (l := [5, 9]) (Nat.le_refl _) rfl (by simp)).seg
  refine (equalu_seg _ _ _ _ _ (s8.alloc _) s9).mono ?_
  rintro e w5 ⟨rfl, hd5⟩
  have B5 : Below w.heap.size w w5 := below_al B4 hd5.below
  have s10 := (s7.alloc (.cells #[.int .u64 5, .int .u64 9] 27)).later hd5.below
  clear s7 s8 s9 B4 hd5
  go_wp2_with fail
  refine (gLog_any 9 (by decide) (by decide) _).mono ?_
  rw [wk4_log]
  rintro e w6 ⟨rfl, rfl⟩
  go_wp2_with fail
  refine (ghas_any _ _ _ s10 (by decide) 12).mono ?_
  rw [wk4_has]
  rintro e w7 ⟨rfl, hb7⟩
  go_wp2
  go_ret
  exact ⟨rfl, below_later B5 hb7⟩
end Go.Proofs.Ytbcloahekffjdaa
