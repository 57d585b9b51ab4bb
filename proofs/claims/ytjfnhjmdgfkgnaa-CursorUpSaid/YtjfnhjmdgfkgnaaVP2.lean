/- An argument that is a row of moves. -/
import Derived.Test.YtjfnhjmdgfkgnaaVD
import Derived.Test.YtjfnhjmdgfkgnaaV16
namespace Go.Proofs.Ytjfnhjmdgfkgnaa
open Go.ChangeShapes Go.WideShapes Go.ChangeAt Go.RowKit Go.Joins Go.Proofs.Kit
theorem cells_move : Try.prog.cellsOf 70 = 2 := by kernel_rfl
section
variable {H : Type} {enc : TypeId × Value → H} {W : World}
set_option maxRecDepth 100000 in
theorem cells_moves_open {fuel : Nat} {v : Value} {x : DataW H × List MemPlace} (h : DataW.trod enc Try.prog W 0 (fun _ => true) true fuel 59 [v] = some x) :
    ∃ (o : Option Addr) (n c : Nat) (l : List Mv), v = .slice o n c ∧ l.length = n ∧ n ≤ c ∧ c ≤ 9223372036854775807 ∧ ArgM W o c l ∧ ∀ x ∈ l, 0 ≤ x.2 ∧ x.2 < 18446744073709551616 := by
  rcases Deep.open_slice Try.underlying59 h with ⟨h0, _⟩ | ⟨a, len, cap, m, n, D, Pl, h0, _, hl, hm, hmm, _, hx⟩
  · simp only [List.cons.injEq, and_true] at h0
    exact ⟨none, 0, 0, [], h0, rfl, by omega, by omega, .inl ⟨rfl, rfl, rfl⟩, by simp⟩
  · simp only [List.cons.injEq, and_true] at h0
    subst h0
    simp only [if_true] at hmm
    have each : ∀ i, i < len → ∃ q : Mv, (0 ≤ q.2 ∧ q.2 < 18446744073709551616) ∧ W.cell? (a.add (i * 2)) = some (.int .i64 q.1) ∧ W.cell? (a.add (i * 2 + 1)) = some (.int .u64 q.2) := by
      intro i hi
      obtain ⟨cs', h1, h2⟩ := hx i (by omega)
      rw [cells_move] at h1
      obtain ⟨_, hlen, hcell⟩ := World.cells?_some h1
      obtain ⟨xs, k, _, _, _, hxl, hf⟩ := DataW.trod_struct Try.underlying70 h2
      match xs, hxl, cs', hlen with
      | [y0, y1], _, [v0, v1], _ =>
        have g0 := hf 0 _ rfl
        have g1 := hf 1 _ rfl
        simp [cells_u64, cells_int] at g0 g1
        have e0 := hcell 0 (by omega)
        have e1 := hcell 1 (by omega)
        rw [Deep.add_add] at e0 e1
        obtain ⟨x0, z0, _, _⟩ := DataW.trod_int Try.underlying3 g0
        obtain ⟨x1, z1, _, hw1⟩ := DataW.trod_int Try.underlying32 g1
        simp only [List.cons.injEq, and_true] at z0 z1
        subst z0 z1
        exact ⟨(x0, x1), wf_u64 hw1, by simpa using e0, by simpa using e1⟩
    obtain ⟨q, hq⟩ := Deep.choose_lt each
    unfold maxLen at hm
    refine ⟨some a, len, cap, (List.range len).map q, rfl, by simp, hl, by omega, .inr ⟨a, rfl, fun i hi => ?_⟩, fun x hx => ?_⟩
    · have hi' : i < len := by simpa using hi
      simp only [List.getElem_map, List.getElem_range]
      exact (hq i hi').2
    · obtain ⟨i, hi, rfl⟩ := List.mem_map.1 hx
      exact (hq i (List.mem_range.1 hi)).1
set_option maxRecDepth 100000 in
theorem open_argM {r : Reach} {b0 : Nat} {v : Value} {d : DataW H} {p : List MemPlace} (hv : Value.okWide Try.prog W r b0 59 v) (h : DataW.Trod enc Try.prog W 0 (fun _ => true) true 59 v d p) :
    ∃ (o : Option Addr) (n c : Nat) (l : List Mv), v = .slice o n c ∧ l.length = n ∧ n ≤ c ∧ c ≤ 9223372036854775807 ∧ ArgM W o c l ∧ ∀ x ∈ l, 0 ≤ x.2 ∧ x.2 < 18446744073709551616 := by
  obtain ⟨o, len, cap, rfl⟩ := okWide_slice Try.underlying59 hv
  obtain ⟨fuel, hf⟩ := h
  exact cells_moves_open hf
end
end Go.Proofs.Ytjfnhjmdgfkgnaa

