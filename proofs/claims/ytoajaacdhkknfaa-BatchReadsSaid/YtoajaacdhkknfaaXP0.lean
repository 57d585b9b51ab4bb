/- What the rows' proofs of this seat share: the program's own facts, and how arguments are opened. -/
import Derived.Test.YtoajaacdhkknfaaX20
import Derived.Test.YtoajaacdhkknfaaX11
import Derived.Test.YtoajaacdhkknfaaRow
import Derived.Test.YtoajaacdhkknfaaRows
import Derived.Lib.SmallJoins
import Derived.Deep.Slices
import Derived.SliceStrings
import Derived.HandedShaped
import Derived.Shelf.Vars
namespace Go.Proofs.Ytoajaacdhkknfaa
open Go.ChangeShapes Go.WideShapes Go.ChangeAt Go.RowKit Go.Joins Go.Proofs.Kit

theorem own : ownKnob Try.prog.godebug = none := by kernel_rfl
theorem laidOut : laidOutB Try.prog = true := by kernel_rfl
theorem cells_int : Try.prog.cellsOf 3 = 1 := by kernel_rfl
theorem cells_string : Try.prog.cellsOf 9 = 1 := by kernel_rfl
theorem cells_change : Try.prog.cellsOf 27 = 5 := by kernel_rfl
/-- A variable of the library's that holds some number. -/
theorem maxLen_cell {W : World} (h : W.ShapedOpen Try.prog) : ∃ m, W.cell? ⟨0, 0, none⟩ = some (.int .i64 m) :=
  cell_of_shapedOpen_int (P := Try.prog) (g := 0) (t := 3) (zero := #[.int .i64 0]) h (of_decide_eq_true (by kernel_rfl)) (by kernel_rfl) rfl (by kernel_rfl) (by kernel_rfl) Try.underlying3
section
variable {H : Type} {enc : TypeId × Value → H} {W : World}
set_option maxRecDepth 100000 in
/-- An argument that is a text. -/
theorem open_text {r : Reach} {b0 : Nat} {v : Value} {d : DataW H} {p : List MemPlace} (hv : Value.okWide Try.prog W r b0 9 v) (h : DataW.Trod enc Try.prog W 0 (fun _ => true) true 9 v d p) : ∃ s : ByteArray, v = .string s ∧ s.size ≤ 9223372036854775807 := by
  obtain ⟨s, rfl⟩ := okWide_string Try.underlying9 hv
  obtain ⟨fuel, hf⟩ := h
  obtain ⟨s', e, _, hw⟩ := DataW.trod_string Try.underlying9 hf
  simp [Value.cells] at e
  subst e
  exact ⟨s, rfl, by unfold maxLen at hw; omega⟩
set_option maxRecDepth 100000 in
/-- An argument that is a row of changes. -/
theorem open_changes {r : Reach} {b0 : Nat} {v : Value} {d : DataW H} {p : List MemPlace} (hv : Value.okWide Try.prog W r b0 22 v) (h : DataW.Trod enc Try.prog W 0 (fun _ => true) true 22 v d p) :
    ∃ (o : Option Addr) (n c : Nat) (l : List Chg), v = .slice o n c ∧ l.length = n ∧ n ≤ c ∧ c ≤ 9223372036854775807 ∧ ArgE chgE W o c l ∧ ∀ x ∈ l, Fits x := by
  obtain ⟨o, len, cap, rfl⟩ := okWide_slice Try.underlying22 hv
  obtain ⟨fuel, hf⟩ := h
  rcases Deep.open_slice Try.underlying22 hf with ⟨h0, _⟩ | ⟨a, len, cap, m, n, D, Pl, h0, _, hl, hm, hmm, _, hx⟩
  · simp [Value.cells] at h0
    obtain ⟨rfl, rfl, rfl⟩ := h0
    exact ⟨none, 0, 0, [], rfl, rfl, by omega, by omega, .inl ⟨rfl, rfl, rfl⟩, by simp⟩
  · simp [Value.cells] at h0
    obtain ⟨rfl, rfl, rfl⟩ := h0
    simp only [if_true] at hmm
    have each : ∀ i, i < len → ∃ q : Chg, (∀ j u, (cc q)[j]? = some u → W.cell? (a.add (i * 5 + j)) = some u) ∧ Fits q := by
      intro i hi
      obtain ⟨cs', h1, h2⟩ := hx i (by omega)
      rw [cells_change] at h1
      obtain ⟨_, hlen, hcell⟩ := World.cells?_some h1
      obtain ⟨xs, k, _, _, _, hxl, hf⟩ := DataW.trod_struct Try.underlying27 h2
      match xs, hxl, cs', hlen with
      | [y0, y1, y2, y3, y4], _, [v0, v1, v2, v3, v4], _ =>
        have g0 := hf 0 _ rfl
        have g1 := hf 1 _ rfl
        have g2 := hf 2 _ rfl
        have g3 := hf 3 _ rfl
        have g4 := hf 4 _ rfl
        simp [cells_string, cells_int] at g0 g1 g2 g3 g4
        have e0 := hcell 0 (by omega)
        have e1 := hcell 1 (by omega)
        have e2 := hcell 2 (by omega)
        have e3 := hcell 3 (by omega)
        have e4 := hcell 4 (by omega)
        rw [Deep.add_add] at e0 e1 e2 e3 e4
        obtain ⟨x0, z0, _, _⟩ := DataW.trod_int Try.underlying3 g0
        obtain ⟨x1, z1, _, w1⟩ := DataW.trod_string Try.underlying9 g1
        obtain ⟨x2, z2, _, w2⟩ := DataW.trod_string Try.underlying9 g2
        obtain ⟨x3, z3, _, w3⟩ := DataW.trod_string Try.underlying9 g3
        obtain ⟨x4, z4, _, w4⟩ := DataW.trod_string Try.underlying9 g4
        simp only [List.cons.injEq, and_true] at z0 z1 z2 z3 z4
        subst z0 z1 z2 z3 z4
        unfold maxLen at w1 w2 w3 w4
        refine ⟨⟨x0, x1, x2, x3, x4⟩, fun j u hj => ?_, ⟨by dsimp only; omega, by dsimp only; omega, by dsimp only; omega, by dsimp only; omega⟩⟩
        match j, hj with
        | 0, hj => simp [cc] at hj; subst hj; simpa using e0
        | 1, hj => simp [cc] at hj; subst hj; simpa using e1
        | 2, hj => simp [cc] at hj; subst hj; simpa using e2
        | 3, hj => simp [cc] at hj; subst hj; simpa using e3
        | 4, hj => simp [cc] at hj; subst hj; simpa using e4
        | j + 5, hj => simp [cc] at hj
    haveI : Inhabited Chg := ⟨Chg.zero⟩
    obtain ⟨q, hq⟩ := Deep.choose_lt each
    unfold maxLen at hm
    refine ⟨some a, len, cap, (List.range len).map q, rfl, by simp, hl, by omega, .inr ⟨a, rfl, fun i hi => ?_⟩, ?_⟩
    · have hi' : i < len := by simpa using hi
      simp only [List.getElem_map, List.getElem_range]
      exact (hq i hi').1
    · intro x hx
      obtain ⟨i, hi, rfl⟩ := List.mem_map.1 hx
      exact (hq i (List.mem_range.1 hi)).2
end
end Go.Proofs.Ytoajaacdhkknfaa

