/- MergeEnds' walk. -/
import Derived.Test.YtlhigfphfbmbjaaMD
import Derived.Test.YtlhigfphfbmbjaaM19
namespace Go.Proofs.Kit
open Go.RowKit
theorem ok_zero {t u : Tr} (o : Bool) (hg : oneT t ∧ oneT u) : okM t u ([], []) o 0 := ⟨hg, by omega, (outT_zero o t u).symm⟩
theorem ok_at {t u : Tr} (o : Bool) (hg : oneT t ∧ oneT u) {k : Nat} (hk : k ≤ (allP t u).length) : okM t u (outT o t u k) o (k : Int) := ⟨hg, by omega, by simp⟩
theorem left_zero {t u : Tr} (o : Bool) (hg : oneT t ∧ oneT u) : leftM t u ([], []) o 0 = ((allP t u).length : Int) := by
  rw [leftM, if_pos (ok_zero o hg)]
  omega
theorem left_at {t u : Tr} (o : Bool) (hg : oneT t ∧ oneT u) {k : Nat} (hk : k ≤ (allP t u).length) : leftM t u (outT o t u k) o (k : Int) = ((allP t u).length : Int) - (k : Int) := by
  rw [leftM, if_pos (ok_at o hg hk)]
end Go.Proofs.Kit
namespace Go.Proofs.Ytlhigfphfbmbjaa
open Go.RowKit Go.Proofs.Kit Go.Shelf
theorem few24_sh (T U : Tr) : Sh (few24 T) (few24 U) := by
  unfold Sh few24
  simp
  omega
theorem few24_w {T : Tr} (h : Wt T) : Wt (few24 T) := ⟨fun p hp => h.1 p (List.mem_of_mem_take hp), fun p hp => h.2 p (List.mem_of_mem_take hp)⟩
/-- A tier as an argument. -/
def ArgQ (w : World) (x : Ti) (t : Tr) : Prop := (t.1.length = x.an ∧ x.an ≤ x.ac ∧ x.ac ≤ 9223372036854775807 ∧ ArgP w x.ao x.ac t.1) ∧ (t.2.length = x.bn ∧ x.bn ≤ x.bc ∧ x.bc ≤ 9223372036854775807 ∧ ArgP w x.bo x.bc t.2)
theorem ArgQ.later {w w' : World} {x : Ti} {t : Tr} (h : ArgQ w x t) (hb : Below w.heap.size w w') : ArgQ w' x t := ⟨⟨h.1.1, h.1.2.1, h.1.2.2.1, h.1.2.2.2.later hb⟩, ⟨h.2.1, h.2.2.1, h.2.2.2.1, h.2.2.2.2.later hb⟩⟩
end Go.Proofs.Ytlhigfphfbmbjaa

