/- The reference's Right and Line. -/
import Derived.Test.YtoajaacdhkknfaaDoorX4
import Derived.Deep.DeepCutAuto
namespace Go.Proofs.Kit
open Go.RowKit
theorem ne_empty {s : ByteArray} (h : s ≠ noB) : s.toList.isEmpty = false ∧ s.toList ≠ [] ∧ (s.toList == []) = false := by
  have hl : s.toList ≠ [] := by
    rw [Lib.toList_data]
    exact fun e => h (bl_inj e)
  refine ⟨?_, hl, ?_⟩
  · cases e : s.toList with
    | nil => exact absurd e hl
    | cons a b => rfl
  · simpa using hl
theorem right_parts (c : Chg) : rightB c = (kindB c.kind && ((nameB c.key && partOk c.kind 1 c.name) && (partOk c.kind 2 c.val && partOk c.kind 3 c.to))) := by
  have : partOk c.kind 0 c.key = nameB c.key := by simp [partOk, hasB]
  rw [rightB, this, Bool.and_assoc]
end Go.Proofs.Kit
namespace Go.Proofs.YtoajaacdhkknfaaDoor
open Go.RowKit Go.Proofs.Kit Go.Shelf
end Go.Proofs.YtoajaacdhkknfaaDoor

