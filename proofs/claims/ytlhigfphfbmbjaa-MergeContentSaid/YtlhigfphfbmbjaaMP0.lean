/- How this stage's arguments are opened: a tier, a Bool. -/
import Derived.Test.YtlhigfphfbmbjaaWP0
import Derived.Test.YtlhigfphfbmbjaaM20
namespace Go.Proofs.Ytlhigfphfbmbjaa
open Go.ChangeShapes Go.WideShapes Go.ChangeAt Go.RowKit Go.Joins Go.Proofs.Kit
section
variable {H : Type} {enc : TypeId × Value → H} {W : World}
set_option maxRecDepth 100000 in
/-- An argument that is a tier. -/
theorem open_tier {r : Reach} {b0 : Nat} {v : Value} {d : DataW H} {p : List MemPlace} (hv : Value.okWide Try.prog W r b0 24 v) (h : DataW.Trod enc Try.prog W 0 (fun _ => true) true 24 v d p) :
    ∃ (x : Ti) (t : Tr), v = .agg #[x.av, x.bv] ∧ ArgQ W x t ∧ Wt t := by
  simp only [Value.okWide, Try.underlying24] at hv
  obtain ⟨cs, rfl, hcs, _⟩ := hv
  obtain ⟨fuel, hf⟩ := h
  obtain ⟨xs, k, _, _, hlen, hxl, hg⟩ := DataW.trod_struct Try.underlying24 hf
  rw [cells_tier] at hcs hlen
  have g0 := hg 0 _ rfl
  have g1 := hg 1 _ rfl
  obtain ⟨cs⟩ := cs
  match cs, hcs, xs, hxl with
  | [v0, v1], _, [y0, y1], _ =>
    simp [Value.cells, cells_pairs] at g0 g1
    obtain ⟨ao, an, ac, la, rfl, a1, a2, a3, a4, a5⟩ := cells_pairs_open g0
    obtain ⟨bo, bn, bc, lb, rfl, b1, b2, b3, b4, b5⟩ := cells_pairs_open g1
    exact ⟨⟨ao, an, ac, bo, bn, bc⟩, (la, lb), rfl, ⟨⟨a1, a2, a3, a4⟩, ⟨b1, b2, b3, b4⟩⟩, ⟨a5, b5⟩⟩
set_option maxRecDepth 100000 in
/-- An argument that is a Bool. -/
theorem open_boolM {r : Reach} {b0 : Nat} {v : Value} {d : DataW H} {p : List MemPlace} (hv : Value.okWide Try.prog W r b0 4 v) (h : DataW.Trod enc Try.prog W 0 (fun _ => true) true 4 v d p) : ∃ b, v = .bool b := by
  obtain ⟨fuel, hf⟩ := h
  obtain ⟨b, hc, _⟩ := DataW.trod_bool Try.underlying4 hf
  simp only [Value.okWide, Try.underlying4] at hv
  cases v <;> simp [Value.cells] at hc
  · exact ⟨b, by rw [hc]⟩
  · simp [Cell.okWide, Cell.ok, Try.underlying4] at hv
end
end Go.Proofs.Ytlhigfphfbmbjaa

