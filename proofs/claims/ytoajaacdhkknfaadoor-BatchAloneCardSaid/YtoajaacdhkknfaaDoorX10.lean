/- What a law cuts its changes to: cut. -/
import Derived.Test.YtoajaacdhkknfaaDoorX7
import Derived.Test.YtoajaacdhkknfaaDoorX9
import Derived.Test.YtoajaacdhkknfaaDoorStB
import Derived.Lib.MinMax
namespace Go.Proofs.Kit
open Go.RowKit
/-- A text's first bytes. -/
def cutS (n : Nat) (s : ByteArray) : ByteArray := s.extract 0 (min s.size n)
def cutC (c : Chg) : Chg := ⟨c.kind, cutS 60 c.key, cutS 60 c.name, cutS 60 c.val, cutS 60 c.to⟩
theorem cutS_size (n : Nat) (s : ByteArray) : (cutS n s).size ≤ n := by simp [cutS]; omega
theorem min60 (n : Nat) : ∃ q : Nat, min (n : Int) 60 = (q : Int) ∧ q = min n 60 := ⟨min n 60, by omega, rfl⟩
end Go.Proofs.Kit
namespace Go.Proofs.YtoajaacdhkknfaaDoor
open Go.RowKit Go.Proofs.Kit Go.Shelf
end Go.Proofs.YtoajaacdhkknfaaDoor

