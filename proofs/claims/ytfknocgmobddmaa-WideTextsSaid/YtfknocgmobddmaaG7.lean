/- The law's like. -/
import Derived.Test.YtfknocgmobddmaaG6
namespace Go.Proofs.Ytfknocgmobddmaa
open Go.RowKit Go.Proofs.Kit

set_option maxRecDepth 100000 in
set_option maxHeartbeats 2000000 in
theorem like_ok (v : Value) (l : List Int) (w : World) (s : Seg .u64 w v l) (d : Dig l) (h8 : dv l < Big) :
    Calls Try.prog 16 #[WV (hiW (dv l)) (loW (dv l)), .int .i64 0, v] w fun e w' => e = .returned (.bool true) ∧ Below w.heap.size w w' := by
  have hnum := fun wz hz => rwnumber_small v l wz hz d h8
  revert hnum
  generalize hiW (dv l) = A
  generalize loW (dv l) = B
  intro hnum
  go_enter Try.func16, Try.ntmps16
  go_wp2_with fail
  refine (hnum _ (s.alloc _)).mono ?_
  rintro e w1 ⟨rfl, h1⟩
  have bA := Blk.nw h1
  have c0 := bA.cell 0
  have c1 := bA.cell 1
  have hl := bA.lt
  simp only [List.getElem?_toArray, List.getElem?_cons_zero, List.getElem?_cons_succ] at c0 c1
  have B1 := ((Below.refl w.heap.size w).alloc (Nat.le_refl _) (.cells #[.int .u64 A, .int .u64 B] 26)).trans (h1.mono (by simp))
  go_wp2
  go_ret
  exact ⟨rfl, B1.alloc B1.size _⟩
set_option maxRecDepth 100000 in
set_option maxHeartbeats 2000000 in
theorem like_no (v : Value) (l : List Int) (w : World) (s : Seg .u64 w v l) (d : Dig l) (h8 : Big ≤ dv l) :
    Calls Try.prog 16 #[WV 0 0, .int .i64 110, v] w fun e w' => e = .returned (.bool true) ∧ Below w.heap.size w w' := by
  have hnum := fun wz hz => rwnumber_big v l wz hz d h8
  go_enter Try.func16, Try.ntmps16
  go_wp2_with fail
  refine (hnum _ (s.alloc _)).mono ?_
  rintro e w1 ⟨rfl, h1⟩
  have bA := Blk.nw h1
  have c0 := bA.cell 0
  have c1 := bA.cell 1
  have hl := bA.lt
  simp only [List.getElem?_toArray, List.getElem?_cons_zero, List.getElem?_cons_succ] at c0 c1
  have B1 := ((Below.refl w.heap.size w).alloc (Nat.le_refl _) (.cells #[.int .u64 0, .int .u64 0] 26)).trans (h1.mono (by simp))
  go_wp2
  go_ret
  exact ⟨rfl, B1.alloc B1.size _⟩
end Go.Proofs.Ytfknocgmobddmaa
