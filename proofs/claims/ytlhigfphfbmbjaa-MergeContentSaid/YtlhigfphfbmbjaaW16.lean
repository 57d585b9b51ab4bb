/- slices.Grow of nil, slices.Concat of three, for tiers. -/
import Derived.Test.YtlhigfphfbmbjaaW15
import Derived.Lib.AppendZeros
namespace Go.Proofs.Kit
open Go.RowKit
def pre3 (a b c : Nat) : Nat → Nat
  | 0 => 0
  | 1 => a
  | 2 => a + b
  | _ => a + b + c
def acc3 {α : Type} (a b c : List α) : Nat → List α
  | 0 => []
  | 1 => a
  | 2 => a ++ b
  | _ => a ++ b ++ c
end Go.Proofs.Kit
namespace Go.Proofs.Ytlhigfphfbmbjaa
open Go.RowKit Go.Proofs.Kit Go.Shelf
end Go.Proofs.Ytlhigfphfbmbjaa

