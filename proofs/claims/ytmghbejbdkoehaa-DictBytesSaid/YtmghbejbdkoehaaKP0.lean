/- What the rows' proofs of this seat share: the program's own facts, and how arguments are opened. -/
import Derived.Test.YtmghbejbdkoehaaK17
import Derived.Test.YtmghbejbdkoehaaMa
import Derived.Test.YtmghbejbdkoehaaRows
import Derived.Lib.SmallJoins
import Derived.Deep.Slices
import Derived.SliceStrings
import Derived.OpenShut
namespace Go.Proofs.Ytmghbejbdkoehaa
open Go.ChangeShapes Go.WideShapes Go.ChangeAt Go.RowKit Go.Joins Go.Proofs.Kit

theorem own : ownKnob Try.prog.godebug = none := by kernel_rfl
theorem laidOut : laidOutB Try.prog = true := by kernel_rfl
theorem wf_i64 {x : Int} (h : (Lit.int .i64 x).wf = true) : -9223372036854775808 ≤ x ∧ x ≤ 9223372036854775807 := by
  simp [Lit.wf, IntKind.min, IntKind.max, IntKind.signed, IntKind.bits] at h
  omega
theorem cells_int : Try.prog.cellsOf 3 = 1 := by kernel_rfl
theorem cells_string : Try.prog.cellsOf 9 = 1 := by kernel_rfl
theorem cells_ints : Try.prog.cellsOf 23 = 1 := by kernel_rfl
theorem cells_strs : Try.prog.cellsOf 22 = 1 := by kernel_rfl
theorem cells_table : Try.prog.cellsOf 25 = 2 := by kernel_rfl
section
variable {H : Type} {enc : TypeId × Value → H} {W : World}
theorem cells_ints_open {fuel : Nat} {v : Value} {x : DataW H × List MemPlace} (h : DataW.trod enc Try.prog W 0 (fun _ => true) true fuel 23 [v] = some x) :
    ∃ (o : Option Addr) (n c : Nat) (l : List Int), v = .slice o n c ∧ l.length = n ∧ n ≤ c ∧ c ≤ 9223372036854775807 ∧ ArgV W o c (l.map (Value.int .i64)) ∧ ∀ x ∈ l, -9223372036854775808 ≤ x ∧ x ≤ 9223372036854775807 := by
  rcases open_ints Try.underlying23 Try.underlying3 cells_int h with ⟨h0, _⟩ | ⟨a, len', cap', zs, h0, _, hlc, hcm, hz, _, hcell, hwf⟩
  · simp only [List.cons.injEq, and_true] at h0
    exact ⟨none, 0, 0, [], h0, rfl, by omega, by omega, .inl ⟨rfl, rfl, rfl⟩, by simp⟩
  · simp only [List.cons.injEq, and_true] at h0
    subst h0
    simp only [if_true] at hz
    unfold maxLen at hcm
    refine ⟨some a, len', cap', zs.take len', rfl, by simp; omega, hlc, by omega, .inr ⟨a, rfl, fun i hi => ?_⟩, fun x hx => wf_i64 (hwf x (List.mem_of_mem_take hx))⟩
    have hi' : i < zs.length := by simp at hi; omega
    rw [hcell i hi', List.getElem_map, List.getElem_take]
    simp [List.getD, hi']
theorem cells_strs_open {fuel : Nat} {v : Value} {x : DataW H × List MemPlace} (h : DataW.trod enc Try.prog W 0 (fun _ => true) true fuel 22 [v] = some x) :
    ∃ (o : Option Addr) (n c : Nat) (l : List ByteArray), v = .slice o n c ∧ l.length = n ∧ n ≤ c ∧ c ≤ 9223372036854775807 ∧ ArgV W o c (l.map Value.string) ∧ ∀ s ∈ l, s.size ≤ 9223372036854775807 := by
  rcases open_strings Try.underlying22 Try.underlying9 cells_string h with ⟨h0, _⟩ | ⟨a, len', cap', zs, h0, _, hlc, hcm, hz, _, hcell, hwf⟩
  · simp only [List.cons.injEq, and_true] at h0
    exact ⟨none, 0, 0, [], h0, rfl, by omega, by omega, .inl ⟨rfl, rfl, rfl⟩, by simp⟩
  · simp only [List.cons.injEq, and_true] at h0
    subst h0
    simp only [if_true] at hz
    unfold maxLen at hcm hwf
    refine ⟨some a, len', cap', zs.take len', rfl, by simp; omega, hlc, by omega, .inr ⟨a, rfl, fun i hi => ?_⟩, fun x hx => by have := hwf x (List.mem_of_mem_take hx); omega⟩
    have hi' : i < zs.length := by simp at hi; omega
    rw [hcell i hi', List.getElem_map, List.getElem_take]
    simp [List.getD, hi']
set_option maxRecDepth 100000 in
/-- An argument that is a table. -/
theorem open_table {r : Reach} {b0 : Nat} {v : Value} {d : DataW H} {p : List MemPlace} (hv : Value.okWide Try.prog W r b0 25 v) (h : DataW.Trod enc Try.prog W 0 (fun _ => true) true 25 v d p) :
    ∃ (oT oS : Option Addr) (nT cT nS cS : Nat) (T : List ByteArray) (S : List Int), v = .agg #[.slice oT nT cT, .slice oS nS cS] ∧ T.length = nT ∧ S.length = nS ∧ nT ≤ 9223372036854775807 ∧ nS ≤ 9223372036854775807 ∧
      ArgV W oT cT (T.map Value.string) ∧ ArgV W oS cS (S.map (Value.int .i64)) ∧ ∀ s ∈ T, s.size ≤ 9223372036854775807 := by
  obtain ⟨cs, rfl, hcs⟩ := okWide_struct Try.underlying25 hv
  rw [cells_table] at hcs
  obtain ⟨fuel, hf⟩ := h
  obtain ⟨xs, k, hk, _, _, hxl, hfl⟩ := DataW.trod_struct Try.underlying25 hf
  match cs, hcs, xs, hxl with
  | ⟨[v0, v1]⟩, _, [y0, y1], _ =>
    have g0 := hfl 0 _ rfl
    have g1 := hfl 1 _ rfl
    simp [cells_ints, cells_strs, Value.cells] at g0 g1
    obtain ⟨oT, nT, cT, T, rfl, h1, h2, h3, h4, h5⟩ := cells_strs_open g0
    obtain ⟨oS, nS, cS, S, rfl, h6, h7, h8, h9, _⟩ := cells_ints_open g1
    exact ⟨oT, oS, nT, cT, nS, cS, T, S, rfl, h1, h6, by omega, by omega, h4, h9, h5⟩
set_option maxRecDepth 100000 in
/-- An argument that is a text. -/
theorem open_text {r : Reach} {b0 : Nat} {v : Value} {d : DataW H} {p : List MemPlace} (hv : Value.okWide Try.prog W r b0 9 v) (h : DataW.Trod enc Try.prog W 0 (fun _ => true) true 9 v d p) : ∃ s : ByteArray, v = .string s ∧ s.size ≤ 9223372036854775807 := by
  obtain ⟨s, rfl⟩ := okWide_string Try.underlying9 hv
  obtain ⟨fuel, hf⟩ := h
  obtain ⟨s', e, _, hw⟩ := DataW.trod_string Try.underlying9 hf
  simp [Value.cells] at e
  subst e
  exact ⟨s, rfl, by unfold maxLen at hw; omega⟩
set_option maxRecDepth 100000 in
/-- An argument that is a row of texts. -/
theorem open_texts {r : Reach} {b0 : Nat} {v : Value} {d : DataW H} {p : List MemPlace} (hv : Value.okWide Try.prog W r b0 22 v) (h : DataW.Trod enc Try.prog W 0 (fun _ => true) true 22 v d p) :
    ∃ (o : Option Addr) (n c : Nat) (l : List ByteArray), v = .slice o n c ∧ l.length = n ∧ n ≤ c ∧ c ≤ 9223372036854775807 ∧ ArgV W o c (l.map Value.string) ∧ ∀ s ∈ l, s.size ≤ 9223372036854775807 := by
  obtain ⟨o, len, cap, rfl⟩ := okWide_slice Try.underlying22 hv
  obtain ⟨fuel, hf⟩ := h
  exact cells_strs_open hf
set_option maxRecDepth 100000 in
/-- An argument that is a row of numbers. -/
theorem open_nums {r : Reach} {b0 : Nat} {v : Value} {d : DataW H} {p : List MemPlace} (hv : Value.okWide Try.prog W r b0 23 v) (h : DataW.Trod enc Try.prog W 0 (fun _ => true) true 23 v d p) :
    ∃ (o : Option Addr) (n c : Nat) (l : List Int), v = .slice o n c ∧ l.length = n ∧ n ≤ c ∧ c ≤ 9223372036854775807 ∧ ArgV W o c (l.map (Value.int .i64)) ∧ ∀ x ∈ l, -9223372036854775808 ≤ x ∧ x ≤ 9223372036854775807 := by
  obtain ⟨o, len, cap, rfl⟩ := okWide_slice Try.underlying23 hv
  obtain ⟨fuel, hf⟩ := h
  exact cells_ints_open hf
end
theorem wf_u8 {x : Int} (h : (Lit.int .u8 x).wf = true) : 0 ≤ x ∧ x < 256 := by
  simp [Lit.wf, IntKind.min, IntKind.max, IntKind.signed, IntKind.bits] at h
  omega
set_option maxRecDepth 100000 in
/-- An argument that is a slice of integers. -/
theorem open_argI {H : Type} {enc : TypeId × Value → H} {W : World} {r : Reach} {b0 : Nat} {v : Value} {d : DataW H} {p : List MemPlace} {t e : TypeId} {k : IntKind} (ht : Try.prog.underlying t = some (.slice e)) (he : Try.prog.underlying e = some (.int k)) (hc : Try.prog.cellsOf e = 1)
    (hv : Value.okWide Try.prog W r b0 t v) (h : DataW.Trod enc Try.prog W 0 (fun _ => true) true t v d p) :
    ∃ (o : Option Addr) (n c : Nat) (l : List Int), v = .slice o n c ∧ l.length = n ∧ n ≤ c ∧ c ≤ 9223372036854775807 ∧ ArgI k W o c l ∧ ∀ x ∈ l, (Lit.int k x).wf = true := by
  obtain ⟨o, len, cap, rfl⟩ := okWide_slice ht hv
  obtain ⟨fuel, hf⟩ := h
  rcases open_ints ht he hc hf with ⟨h0, _⟩ | ⟨a, len', cap', zs, h0, _, hlc, hcm, hz, _, hcell, hwf⟩
  · simp [Value.cells] at h0
    obtain ⟨rfl, rfl, rfl⟩ := h0
    exact ⟨none, 0, 0, [], rfl, rfl, by omega, by omega, .inl ⟨rfl, rfl, rfl⟩, by simp⟩
  · simp [Value.cells] at h0
    obtain ⟨rfl, rfl, rfl⟩ := h0
    simp only [if_true] at hz
    unfold maxLen at hcm
    refine ⟨some a, len, cap, zs.take len, rfl, by simp; omega, hlc, by omega, .inr ⟨a, rfl, fun i hi => ?_⟩, fun x hx => hwf x (List.mem_of_mem_take hx)⟩
    have hi' : i < zs.length := by simp at hi; omega
    rw [hcell i hi', List.getElem_take]
    simp [List.getD, hi']
theorem cells_u8 : Try.prog.cellsOf 5 = 1 := by kernel_rfl
theorem cells_dict : Try.prog.cellsOf 28 = 10 := by kernel_rfl
theorem cells_kinds : Try.prog.cellsOf 26 = 10 := by kernel_rfl
set_option maxRecDepth 100000 in
theorem cells_table_open {H : Type} {enc : TypeId × Value → H} {W : World} {fuel : Nat} {v0 v1 : Value} {x : DataW H × List MemPlace} (h : DataW.trod enc Try.prog W 0 (fun _ => true) true fuel 25 [v0, v1] = some x) :
    ∃ (T : List ByteArray) (S : List Int), (∃ o c, v0 = .slice o T.length c ∧ T.length ≤ c ∧ c ≤ 9223372036854775807 ∧ ArgV W o c (T.map Value.string)) ∧ (∃ o c, v1 = .slice o S.length c ∧ S.length ≤ c ∧ c ≤ 9223372036854775807 ∧ ArgV W o c (S.map (Value.int .i64))) ∧ ∀ s ∈ T, s.size ≤ 9223372036854775807 := by
  obtain ⟨xs, k, hk, _, _, hxl, hfl⟩ := DataW.trod_struct Try.underlying25 h
  match xs, hxl with
  | [y0, y1], _ =>
    have g0 := hfl 0 _ rfl
    have g1 := hfl 1 _ rfl
    simp [cells_ints, cells_strs] at g0 g1
    obtain ⟨oT, nT, cT, T, rfl, rfl, h2, h3, h4, h5⟩ := cells_strs_open g0
    obtain ⟨oS, nS, cS, S, rfl, rfl, h7, h8, h9, _⟩ := cells_ints_open g1
    exact ⟨T, S, ⟨oT, cT, rfl, h2, h3, h4⟩, ⟨oS, cS, rfl, h7, h8, h9⟩, h5⟩
set_option maxRecDepth 100000 in
/-- An argument that is a dictionary. -/
theorem open_dict {H : Type} {enc : TypeId × Value → H} {W : World} {r : Reach} {b0 : Nat} {v : Value} {d : DataW H} {p : List MemPlace} (hv : Value.okWide Try.prog W r b0 28 v) (h : DataW.Trod enc Try.prog W 0 (fun _ => true) true 28 v d p) :
    ∃ (a b : Nat → Value) (T : Nat → List ByteArray) (S : Nat → List Int), v = .agg (dcs a b) ∧ DArg W a b T S ∧ ∀ k, ∀ s ∈ T k, s.size ≤ 9223372036854775807 := by
  obtain ⟨cs, rfl, hcs⟩ := okWide_struct Try.underlying28 hv
  rw [cells_dict] at hcs
  obtain ⟨fuel, hf⟩ := h
  obtain ⟨xs, k, hk, _, _, hxl, hfl⟩ := DataW.trod_struct Try.underlying28 hf
  match cs, hcs, xs, hxl with
  | ⟨[v0, v1, v2, v3, v4, v5, v6, v7, v8, v9]⟩, _, [y0], _ =>
    have g0 := hfl 0 _ rfl
    simp [cells_kinds, Value.cells] at g0
    obtain ⟨ys, m, _, _, _, hyl, hg⟩ := DataW.trod_array Try.underlying26 g0
    match ys, hyl with
    | [z0, z1, z2, z3, z4], _ =>
      have f0 := hg 0 (by decide)
      have f1 := hg 1 (by decide)
      have f2 := hg 2 (by decide)
      have f3 := hg 3 (by decide)
      have f4 := hg 4 (by decide)
      simp [cells_table] at f0 f1 f2 f3 f4
      have hall : ∀ k, ∃ (TS : List ByteArray × List Int), (∃ o c, (match k with | 0 => v0 | 1 => v2 | 2 => v4 | 3 => v6 | 4 => v8 | _ => nilV) = .slice o TS.1.length c ∧ TS.1.length ≤ c ∧ c ≤ 9223372036854775807 ∧ ArgV W o c (TS.1.map Value.string)) ∧
          (∃ o c, (match k with | 0 => v1 | 1 => v3 | 2 => v5 | 3 => v7 | 4 => v9 | _ => nilV) = .slice o TS.2.length c ∧ TS.2.length ≤ c ∧ c ≤ 9223372036854775807 ∧ ArgV W o c (TS.2.map (Value.int .i64))) ∧ ∀ s ∈ TS.1, s.size ≤ 9223372036854775807 := by
        intro k
        match k with
        | 0 => obtain ⟨T, S, h⟩ := cells_table_open f0; exact ⟨(T, S), h⟩
        | 1 => obtain ⟨T, S, h⟩ := cells_table_open f1; exact ⟨(T, S), h⟩
        | 2 => obtain ⟨T, S, h⟩ := cells_table_open f2; exact ⟨(T, S), h⟩
        | 3 => obtain ⟨T, S, h⟩ := cells_table_open f3; exact ⟨(T, S), h⟩
        | 4 => obtain ⟨T, S, h⟩ := cells_table_open f4; exact ⟨(T, S), h⟩
        | _ + 5 => exact ⟨([], []), ⟨none, 0, rfl, Nat.le_refl _, by decide, .inl ⟨rfl, rfl, rfl⟩⟩, ⟨none, 0, rfl, Nat.le_refl _, by decide, .inl ⟨rfl, rfl, rfl⟩⟩, by simp⟩
      exact ⟨_, _, fun k => (Classical.choose (hall k)).1, fun k => (Classical.choose (hall k)).2, rfl, ⟨fun k => (Classical.choose_spec (hall k)).1, fun k => (Classical.choose_spec (hall k)).2.1⟩, fun k => (Classical.choose_spec (hall k)).2.2⟩
end Go.Proofs.Ytmghbejbdkoehaa

