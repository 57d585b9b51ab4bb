/- CodecWrites: the bytes of numbers, texts and rows are the document's own: for all rows of numbers, of texts and of rows the law returns true. No condition. -/
import Derived.Test.YtdjcdhkdmgkdfaaL6
import Derived.Test.YtdjcdhkdmgkdfaaP0c
import Derived.SliceStrings
import Derived.Deep.Matrix
namespace Go.Proofs.Ytdjcdhkdmgkdfaa
open Go.ChangeShapes Go.WideShapes Go.ChangeAt Go.RowKit Go.Joins Go.Proofs.Kit

theorem cells_str : Try.prog.cellsOf 9 = 1 := by kernel_rfl
theorem cells_u64s : Try.prog.cellsOf 22 = 1 := by kernel_rfl
theorem open_argS {H : Type} {enc : TypeId × Value → H} {W : World} {r : Reach} {b0 : Nat} {v : Value} {d : DataW H} {p : List MemPlace} (hv : Value.okWide Try.prog W r b0 23 v) (h : DataW.Trod enc Try.prog W 0 (fun _ => true) true 23 v d p) :
    ∃ (o : Option Addr) (n c : Nat) (ss : List ByteArray), v = .slice o n c ∧ ss.length = n ∧ n ≤ 9223372036854775807 ∧ ArgS W o ss := by
  obtain ⟨o, len, cap, rfl⟩ := okWide_slice Try.underlying23 hv
  obtain ⟨fuel, hf⟩ := h
  rcases open_strings Try.underlying23 Try.underlying9 cells_str hf with ⟨h0, _⟩ | ⟨a, len', cap', zs, h0, _, hlc, hcm, hz, _, hcell, hwf⟩
  · simp [Value.cells] at h0
    obtain ⟨rfl, rfl, rfl⟩ := h0
    exact ⟨none, 0, 0, [], rfl, rfl, by omega, .inl ⟨rfl, rfl⟩⟩
  · simp [Value.cells] at h0
    obtain ⟨rfl, rfl, rfl⟩ := h0
    simp only [if_true] at hz
    unfold maxLen at hcm
    refine ⟨some a, len, cap, zs.take len, rfl, by simp; omega, by omega, .inr ⟨a, rfl, fun i hi => ?_⟩⟩
    have hi' : i < zs.length := by simp at hi; omega
    rw [hcell i hi', List.getElem_take]
    have hs := hwf _ (List.getElem_mem hi')
    unfold maxLen at hs
    exact ⟨by simp [List.getD, hi'], by omega⟩
theorem open_argR {H : Type} {enc : TypeId × Value → H} {W : World} {r : Reach} {b0 : Nat} {v : Value} {d : DataW H} {p : List MemPlace} (hv : Value.okWide Try.prog W r b0 24 v) (h : DataW.Trod enc Try.prog W 0 (fun _ => true) true 24 v d p) :
    ∃ (o : Option Addr) (n c : Nat) (rs : List RowIn), v = .slice o n c ∧ rs.length = n ∧ n ≤ 9223372036854775807 ∧ ArgR W o rs := by
  obtain ⟨o, len, cap, rfl⟩ := okWide_slice Try.underlying24 hv
  obtain ⟨fuel, hf⟩ := h
  rcases Deep.open_int_rows Try.underlying24 Try.underlying22 Try.underlying26 cells_u64s cells_u64 hf with ⟨h0, _⟩ | ⟨a, len', cap', A, L, C, Z, h0, _, hlc, hcm, _, hx⟩
  · simp [Value.cells] at h0
    obtain ⟨rfl, rfl, rfl⟩ := h0
    exact ⟨none, 0, 0, [], rfl, rfl, by omega, .inl ⟨rfl, rfl⟩⟩
  · simp [Value.cells] at h0
    obtain ⟨rfl, rfl, rfl⟩ := h0
    unfold maxLen at hcm
    refine ⟨some a, len, cap, (List.range len).map fun r => ⟨A r, L r, C r, (Z r).take (L r)⟩, rfl, by simp, by omega, .inr ⟨a, rfl, fun i hi => ?_⟩⟩
    have hi' : i < len := by simpa using hi
    obtain ⟨x1, x2, x3, x4, x5, x6, x7⟩ := hx i (by omega)
    simp only [List.getElem_map, List.getElem_range]
    refine ⟨x1, by simp; omega, x2, by unfold maxLen at x3; exact x3, ?_, fun y hy => wf_u64 (x5 y (List.mem_of_mem_take hy))⟩
    cases hA : A i with
    | none =>
      have hC := x6 hA
      exact .inl ⟨rfl, by simp; omega, hC⟩
    | some a' =>
      refine .inr ⟨a', rfl, fun j hj => ?_⟩
      simp only at hj ⊢
      have hj' : j < L i := by simp at hj; omega
      rw [((x7 a' hA).2 j (by omega)), List.getElem_take]
      have hjz : j < (Z i).length := by omega
      simp [List.getD, hjz]

set_option maxRecDepth 100000 in
theorem codecWrites_lifted (os : Os) (started : os.Started) (H : Type) (enc : TypeId × Value → H) :
    ReturnsInHanded {} Try.checked os 3 .any (Rows.codecWritesSpec.pre6 enc Try.prog Try.f3 Rows.codecWritesRow.domain false) (Rows.codecWritesSpec.post enc Try.prog Try.f3 false true false false) := by
  refine returnsInHanded_of_change (C := Try.checked) own started (by kernel_rfl) Try.func3
    (ChangeSpec.witness6 (enc := enc) (C := Try.checked) false ⟨#[], #[.slice none 0 0, .slice none 0 0, .slice none 0 0], []⟩ 8 (by kernel_rfl) (by kernel_rfl) (by kernel_rfl) (by kernel_rfl)) ?_
  intro W base args ds gs before hval0 hW _ _
  have hval : ∀ (j : Nat) t v, Try.f3.params[j]? = some t → args[j]? = some v → Value.okWide Try.prog W .any base t v := hval0
  have hW' := hW
  obtain ⟨p, q, hA0, hV, rfl, _, _⟩ := hW
  have hA : DataW.TrodAll enc Try.prog W 0 (fun _ => true) true Try.f3.params.toList args.toList ds p := hA0
  rw [Try.params3] at hA hval
  obtain ⟨v0, v1, v2, d0, d1, d2, p0, p1, p2, rfl, rfl, rfl, h0, h1, h2⟩ := trodAll_three hA
  obtain ⟨rfl, rfl⟩ := trodVars_none hV
  obtain ⟨o1, n1, c1, l1, rfl, e1, hc1, hm1, a1, w1⟩ := open_argI Try.underlying22 Try.underlying26 cells_u64 (hval 0 22 v0 rfl rfl) h0
  obtain ⟨o2, n2, c2, ss, rfl, e2, hm2, a2⟩ := open_argS (hval 1 23 v1 rfl rfl) h1
  obtain ⟨o3, n3, c3, rs, rfl, e3, hm3, a3⟩ := open_argR (hval 2 24 v2 rfl rfl) h2
  refine (writes_true o1 o2 o3 n1 n2 n3 c1 c2 c3 l1 ss rs W e1 e2 e3 (by omega) hm2 hm3 a1 a2 a3 (fun x hx => wf_u64 (w1 x hx))).mono fun e W' ⟨he, hb⟩ => ?_
  subst he
  exact ⟨_, rfl, law_post laidOut (by kernel_rfl) (by kernel_rfl : Try.f3.resultTypes = #[4]) Try.underlying4 rfl hW' rfl hb⟩

theorem codecWrites_holds : Rows.CodecWritesSaid :=
  OpenClaim.holds_of_wide 3 Try.f3 rfl rfl rfl rfl rfl rfl rfl ⟨rfl, rfl, rfl, rfl, rfl⟩ rfl rfl rfl rfl rfl (by kernel_rfl) Try.func3 (by kernel_rfl)
    (of_decide_eq_true (by kernel_rfl)) (by unfold Func.isWrapper; first | (rw [if_pos (by decide +kernel)]; kernel_rfl) | (rw [if_neg (by decide +kernel)]; exact ⟨rfl, rfl⟩))
    (fun os started H enc _ => codecWrites_lifted os started H enc)
#print axioms codecWrites_holds
end Go.Proofs.Ytdjcdhkdmgkdfaa
