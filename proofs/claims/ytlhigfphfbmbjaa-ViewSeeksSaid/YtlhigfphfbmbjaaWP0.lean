/- What the rows' proofs of this seat share: the program's own facts, and how arguments are opened. -/
import Derived.Test.YtlhigfphfbmbjaaW3
import Derived.Test.YtlhigfphfbmbjaaW0
import Derived.Test.YtlhigfphfbmbjaaRow
import Derived.Test.YtlhigfphfbmbjaaRows
import Derived.Lib.SmallJoins
import Derived.Deep.Slices
import Derived.Deep.SlicePairs
namespace Go.Proofs.Ytlhigfphfbmbjaa
open Go.ChangeShapes Go.WideShapes Go.ChangeAt Go.RowKit Go.Joins Go.Proofs.Kit

theorem own : ownKnob Try.prog.godebug = none := by kernel_rfl
theorem laidOut : laidOutB Try.prog = true := by kernel_rfl
theorem wf_u64 {x : Int} (h : (Lit.int .u64 x).wf = true) : 0 ≤ x ∧ x < 18446744073709551616 := by
  simp [Lit.wf, IntKind.min, IntKind.max, IntKind.signed, IntKind.bits] at h
  omega
theorem cells_u64 : Try.prog.cellsOf 51 = 1 := by kernel_rfl
theorem cells_int : Try.prog.cellsOf 3 = 1 := by kernel_rfl
theorem cellsP : Try.prog.cellsOf 53 = 2 := by kernel_rfl
theorem cells_pairs : Try.prog.cellsOf 22 = 1 := by kernel_rfl
theorem cells_tier : Try.prog.cellsOf 24 = 2 := by kernel_rfl
instance : Inhabited Ti := ⟨⟨none, 0, 0, none, 0, 0⟩⟩
section
variable {H : Type} {enc : TypeId × Value → H} {W : World}
set_option maxRecDepth 100000 in
theorem cells_pairs_open {fuel : Nat} {v : Value} {x : DataW H × List MemPlace} (h : DataW.trod enc Try.prog W 0 (fun _ => true) true fuel 22 [v] = some x) :
    ∃ (o : Option Addr) (n c : Nat) (l : List Pr), v = .slice o n c ∧ l.length = n ∧ n ≤ c ∧ c ≤ 9223372036854775807 ∧ ArgP W o c l ∧ ∀ x ∈ l, Wp x := by
  rcases Deep.open_slice_pairs Try.underlying22 Try.underlying53 cellsP (by kernel_rfl) (by kernel_rfl) (by kernel_rfl) (by kernel_rfl) h with ⟨h0, _⟩ | ⟨a, len, cap, m, n, V0, V1, D0, D1, P0, P1, h0, _, hlc, hcm, hm, _, hx⟩
  · simp only [List.cons.injEq, and_true] at h0
    exact ⟨none, 0, 0, [], h0, rfl, by omega, by omega, .inl ⟨rfl, rfl, rfl⟩, by simp⟩
  · simp only [List.cons.injEq, and_true] at h0
    subst h0
    have hlm : len ≤ m := by rw [hm]; simp; exact hlc
    have each : ∀ i, i < len → ∃ q : Pr, W.cell? (a.add (i * 2)) = some (.int .u64 q.1) ∧ W.cell? (a.add (i * 2 + 1)) = some (.int .u64 q.2) ∧ Wp q := by
      intro i hi
      obtain ⟨e0, e1, t0, t1⟩ := hx i (by omega)
      obtain ⟨x, z0, _, wx⟩ := DataW.trod_int Try.underlying51 t0
      obtain ⟨y, z1, _, wy⟩ := DataW.trod_int Try.underlying51 t1
      simp at z0 z1
      rw [z0] at e0
      rw [z1] at e1
      exact ⟨(x, y), e0, e1, wf_u64 wx, wf_u64 wy⟩
    obtain ⟨q, hq⟩ := Deep.choose_lt each
    unfold maxLen at hcm
    refine ⟨some a, len, cap, (List.range len).map q, rfl, by simp, hlc, by omega, .inr ⟨a, rfl, fun i hi => ?_⟩, ?_⟩
    · have hi' : i < len := by simpa using hi
      obtain ⟨f0, f1, _⟩ := hq i hi'
      simp only [List.getElem_map, List.getElem_range]
      exact ⟨f0, f1⟩
    · intro p hp
      obtain ⟨i, hi, rfl⟩ := List.mem_map.1 hp
      exact (hq i (List.mem_range.1 hi)).2.2
set_option maxRecDepth 100000 in
/-- An argument that is a slice of pairs. -/
theorem open_argP {r : Reach} {b0 : Nat} {v : Value} {d : DataW H} {p : List MemPlace} (hv : Value.okWide Try.prog W r b0 22 v) (h : DataW.Trod enc Try.prog W 0 (fun _ => true) true 22 v d p) :
    ∃ (o : Option Addr) (n c : Nat) (l : List Pr), v = .slice o n c ∧ l.length = n ∧ n ≤ c ∧ c ≤ 9223372036854775807 ∧ ArgP W o c l ∧ ∀ x ∈ l, Wp x := by
  obtain ⟨o, len, cap, rfl⟩ := okWide_slice Try.underlying22 hv
  obtain ⟨fuel, hf⟩ := h
  have hf' : DataW.trod enc Try.prog W 0 (fun _ => true) true fuel 22 [.slice o len cap] = some (d, p) := by simpa [Value.cells] using hf
  exact cells_pairs_open hf'
set_option maxRecDepth 100000 in
/-- An argument that is a slice of tiers. -/
theorem open_argT {r : Reach} {b0 : Nat} {v : Value} {d : DataW H} {p : List MemPlace} (hv : Value.okWide Try.prog W r b0 45 v) (h : DataW.Trod enc Try.prog W 0 (fun _ => true) true 45 v d p) :
    ∃ (o : Option Addr) (n c : Nat) (L : List Tr), v = .slice o n c ∧ L.length = n ∧ n ≤ c ∧ c ≤ 9223372036854775807 ∧ ArgT W o c L ∧ Wl L := by
  obtain ⟨o, len, cap, rfl⟩ := okWide_slice Try.underlying45 hv
  obtain ⟨fuel, hf⟩ := h
  have hf' : DataW.trod enc Try.prog W 0 (fun _ => true) true fuel 45 [.slice o len cap] = some (d, p) := by simpa [Value.cells] using hf
  rcases Deep.open_slice Try.underlying45 hf' with ⟨h0, _⟩ | ⟨a, len', cap', m, n, D, Pl, h0, _, hl, hm, hmm, _, hx⟩
  · simp only [List.cons.injEq, and_true] at h0
    injection h0 with e1 e2 e3
    subst e1 e2 e3
    exact ⟨none, 0, 0, [], rfl, rfl, by omega, by omega, ⟨[], .inl ⟨rfl, rfl, rfl⟩, rfl, fun i h _ => by simp at h⟩, fun t ht => by simp at ht⟩
  · simp only [List.cons.injEq, and_true] at h0
    injection h0 with e1 e2 e3
    subst e1 e2 e3
    simp only [if_true] at hmm
    have each : ∀ i, i < len → ∃ q : Ti × Tr, W.cell? (a.add (i * 2)) = some (.slice q.1.ao q.1.an q.1.ac) ∧ W.cell? (a.add (i * 2 + 1)) = some (.slice q.1.bo q.1.bn q.1.bc) ∧
        (q.2.1.length = q.1.an ∧ q.1.an ≤ q.1.ac ∧ q.1.ac ≤ 9223372036854775807 ∧ ArgP W q.1.ao q.1.ac q.2.1) ∧ (q.2.2.length = q.1.bn ∧ q.1.bn ≤ q.1.bc ∧ q.1.bc ≤ 9223372036854775807 ∧ ArgP W q.1.bo q.1.bc q.2.2) ∧ Wt q.2 := by
      intro i hi
      obtain ⟨cs', h1, h2⟩ := hx i (by omega)
      rw [cells_tier] at h1
      obtain ⟨_, hlen, hcell⟩ := World.cells?_some h1
      obtain ⟨xs, k, _, _, _, hxl, hf⟩ := DataW.trod_struct Try.underlying24 h2
      match xs, hxl, cs', hlen with
      | [y0, y1], _, [v0, v1], _ =>
        have g0 := hf 0 _ rfl
        have g1 := hf 1 _ rfl
        simp [cells_pairs] at g0 g1
        have e0 := hcell 0 (by omega)
        have e1 := hcell 1 (by omega)
        rw [Deep.add_add] at e0 e1
        obtain ⟨ao, an, ac, la, rfl, a1, a2, a3, a4, a5⟩ := cells_pairs_open g0
        obtain ⟨bo, bn, bc, lb, rfl, b1, b2, b3, b4, b5⟩ := cells_pairs_open g1
        exact ⟨(⟨ao, an, ac, bo, bn, bc⟩, (la, lb)), by simpa using e0, by simpa using e1, ⟨a1, a2, a3, a4⟩, ⟨b1, b2, b3, b4⟩, a5, b5⟩
    obtain ⟨q, hq⟩ := Deep.choose_lt each
    unfold maxLen at hm
    refine ⟨some a, len, cap, ((List.range len).map q).map (·.2), rfl, by simp, hl, by omega, ⟨((List.range len).map q).map (·.1), .inr ⟨a, rfl, fun i hi j u hu => ?_⟩, by simp, fun i hi hi' => ?_⟩, fun t ht => ?_⟩
    · have hi' : i < len := by simpa using hi
      obtain ⟨f0, f1, _⟩ := hq i hi'
      simp only [List.getElem_map, List.getElem_range, tiE] at hu ⊢
      match j, hu with
      | 0, hu => simp at hu; rw [← hu]; exact f0
      | 1, hu => simp at hu; rw [← hu]; exact f1
      | j + 2, hu => simp at hu
    · have hi'' : i < len := by simpa using hi
      simp only [List.getElem_map, List.getElem_range]
      exact ⟨(hq i hi'').2.2.1, (hq i hi'').2.2.2.1⟩
    · simp only [List.map_map, List.mem_map, List.mem_range] at ht
      obtain ⟨i, hi, rfl⟩ := ht
      exact (hq i hi).2.2.2.2
end
end Go.Proofs.Ytlhigfphfbmbjaa

