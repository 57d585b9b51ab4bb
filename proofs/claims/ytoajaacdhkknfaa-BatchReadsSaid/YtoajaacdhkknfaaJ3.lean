/- slices.Equal and slices.Clone over texts and integers. -/
import Derived.Test.YtoajaacdhkknfaaProg
import Derived.Test.YtoajaacdhkknfaaJ2
import Derived.Outline
namespace Go.Proofs.Ytoajaacdhkknfaa
open Go.RowKit Go.Proofs.Kit

theorem mixed : Try.prog.follows .mixedOrders = true := by kernel_rfl

/-- An argument that is a slice of values of one cell. -/
def ArgV (w : World) (o : Option Addr) (c : Nat) (l : List Value) : Prop := (o = none ∧ l = [] ∧ c = 0) ∨ ∃ a, o = some a ∧ ∀ i (h : i < l.length), w.cell? (a.add i) = some l[i]
theorem ArgV.later {w w' : World} {o : Option Addr} {c : Nat} {l : List Value} (h : ArgV w o c l) (hb : Below w.heap.size w w') : ArgV w' o c l := by
  rcases h with h | ⟨a, rfl, h⟩
  · exact .inl h
  · refine .inr ⟨a, rfl, fun i hi => ?_⟩
    have := h i hi
    exact (hb.cell (World.block_lt_of_cell? _ _ this)).trans this

theorem infos : ∃ i, Try.prog.info? 9 = some i ∧ i.zero = some (.string ⟨#[]⟩) ∧ i.size = 1 ∧ i.bytes = 16 := info_parts (by kernel_rfl)
theorem infoi : ∃ i, Try.prog.info? 3 = some i ∧ i.zero = some (.int .i64 0) ∧ i.size = 1 ∧ i.bytes = 8 := info_parts (by kernel_rfl)
end Go.Proofs.Ytoajaacdhkknfaa

