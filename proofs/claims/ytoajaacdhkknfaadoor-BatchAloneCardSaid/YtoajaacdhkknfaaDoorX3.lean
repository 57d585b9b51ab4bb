/- Names and values of the reference; what a kind asks of a part. -/
import Derived.Test.YtoajaacdhkknfaaDoorX2
namespace Go.Proofs.Kit
open Go.RowKit
theorem key_six (c : Nat) : (keyN c = true ∧ 97 ≤ c ∧ c ≤ 122) ∨ (keyN c = true ∧ 48 ≤ c ∧ c ≤ 57) ∨ (keyN c = true ∧ 95 ≤ c ∧ c ≤ 95) ∨ (keyN c = false ∧ 0 ≤ c ∧ c < 48) ∨ (keyN c = false ∧ 57 < c ∧ c < 97 ∧ c ≠ 95) ∨ (keyN c = false ∧ 122 < c) := by
  simp only [keyN]
  by_cases h1 : 97 ≤ c <;> by_cases h2 : c ≤ 122 <;> by_cases h3 : 48 ≤ c <;> by_cases h4 : c ≤ 57 <;> by_cases h5 : c = 95 <;> simp [h1, h2, h3, h4, h5] <;> omega
theorem val_five (c : Nat) : (valN c = true ∧ 32 ≤ c ∧ c ≤ 126 ∧ c ≠ 34 ∧ c ≠ 92) ∨ (valN c = false ∧ c < 32) ∨ (valN c = false ∧ 126 < c) ∨ (valN c = false ∧ c = 34) ∨ (valN c = false ∧ c = 92) := by
  simp only [valN]
  by_cases h1 : 32 ≤ c <;> by_cases h2 : c ≤ 126 <;> by_cases h3 : c = 34 <;> by_cases h4 : c = 92 <;> simp [h1, h2, h3, h4] <;> omega
end Go.Proofs.Kit
namespace Go.Proofs.YtoajaacdhkknfaaDoor
open Go.RowKit Go.Proofs.Kit Go.Shelf
end Go.Proofs.YtoajaacdhkknfaaDoor

