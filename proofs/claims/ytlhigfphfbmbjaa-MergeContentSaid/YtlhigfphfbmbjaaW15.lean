/- tiers.Push. -/
import Derived.Test.YtlhigfphfbmbjaaW14
namespace Go.Proofs.Kit
open Go.RowKit
/-- What Push says. -/
def pushE (L : List Tr) (a d : List Pr) : Int := if goodT L then (if okP a ∧ okP d then (if ∀ p ∈ a, p ∉ d then (if L.length = 24 then 6 else 0) else 2) else 130) else 210
theorem Blk.nwd {w w' : World} {vs : Array Value} {t : TypeId} (hb : Below (w.alloc (.cells vs t)).drew.heap.size (w.alloc (.cells vs t)).drew w') : Blk w' w.heap.size vs t := (Blk.new w vs t).drew.later hb
theorem TW.al {tt : TypeId} {w W : World} {b : Nat} {v1 v2 : Value} (h : TW tt w b v1 v2 W) (o : Obj) : TW tt w b v1 v2 (W.alloc o) := h.later (Gr.alloc _ _).below
def pushL (L : List Tr) (a d : List Pr) : List Tr := if pushE L a d = 0 then L ++ [(a, d)] else []
end Go.Proofs.Kit
namespace Go.Proofs.Ytlhigfphfbmbjaa
open Go.RowKit Go.Proofs.Kit
theorem segT_one {w : World} {b : Nat} {ao bo : Option Addr} {an ac bn bc : Nat} {t : Tr} (hb : Blk w b #[.slice ao an ac, .slice bo bn bc] 24) (h : TR w ⟨ao, an, ac, bo, bn, bc⟩ t) : SegT w (.slice (some ⟨b, 0, none⟩) 1 1) [t] := by
  refine ⟨[⟨ao, an, ac, bo, bn, bc⟩], SegE.of_blk (E := tiE) (l := [⟨ao, an, ac, bo, bn, bc⟩]) (cap := 1) hb (by simp) (by decide) rfl, rfl, fun i a b => ?_⟩
  obtain rfl : i = 0 := by simp at a; omega
  exact h
end Go.Proofs.Ytlhigfphfbmbjaa

