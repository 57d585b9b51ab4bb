/- The reference's Line. -/
import Derived.Test.YtoajaacdhkknfaaDoorX6
namespace Go.Proofs.Kit
open Go.RowKit
theorem ret_s {a b : ByteArray} (h : a = b) : Ending.returned (.string a) = .returned (.string b) := by rw [h]
theorem name_size {s : ByteArray} (h : nameB s = true) : s.size ≤ 32 := by simp [nameB] at h; omega
theorem value_size {s : ByteArray} (h : valueB s = true) : s.size ≤ 40 := by simp [valueB] at h; omega
theorem part_size {k : Int} {p : Nat} {s : ByteArray} (h : partOk k p s = true) : s.size ≤ 40 := by
  unfold partOk at h
  split at h
  · split at h
    · exact value_size h
    · have := name_size h; omega
  · have : s = noB := by simpa using h
    subst this
    decide
theorem sizes_of {c : Chg} (h : rightB c = true) : c.key.size ≤ 40 ∧ c.name.size ≤ 40 ∧ c.val.size ≤ 40 ∧ c.to.size ≤ 40 := by
  simp only [rightB, Bool.and_eq_true] at h
  exact ⟨part_size h.2.1, part_size h.2.2.1, part_size h.2.2.2.1, part_size h.2.2.2.2⟩
theorem word_len (k : Nat) : (wordN k).length ≤ 7 := by unfold wordN; split <;> decide
end Go.Proofs.Kit
namespace Go.Proofs.YtoajaacdhkknfaaDoor
open Go.RowKit Go.Proofs.Kit Go.Shelf
end Go.Proofs.YtoajaacdhkknfaaDoor

