/- tiers.Join, Least. -/
import Derived.Test.YtlhigfphfbmbjaaW16
namespace Go.Proofs.Kit
open Go.RowKit
def leastL (L : List Tr) : List Tr := if goodT L ∧ those L 1 ≠ [] then [joinT true L] else []
end Go.Proofs.Kit
namespace Go.Proofs.Ytlhigfphfbmbjaa
open Go.RowKit Go.Proofs.Kit Go.Shelf
theorem segT_two {w : World} {b : Nat} {x y : Ti} {t u : Tr} (hb : Blk w b #[.slice x.ao x.an x.ac, .slice x.bo x.bn x.bc, .slice y.ao y.an y.ac, .slice y.bo y.bn y.bc] 24) (h : TR w x t) (k : TR w y u) : SegT w (.slice (some ⟨b, 0, none⟩) 2 2) [t, u] := by
  refine ⟨[x, y], SegE.of_blk (E := tiE) (l := [x, y]) (cap := 2) hb (by simp) (by decide) rfl, rfl, fun i a b => ?_⟩
  have : i = 0 ∨ i = 1 := by simp at a; omega
  rcases this with rfl | rfl
  · exact h
  · exact k
end Go.Proofs.Ytlhigfphfbmbjaa

