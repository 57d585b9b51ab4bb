/- WideTexts: texts of numbers, and numbers of texts, are the document's: for every row of both the law returns true. No condition. -/
import Derived.Test.YtfknocgmobddmaaG18
import Derived.Test.YtfknocgmobddmaaP2
import Derived.Deep.Slices
import Derived.SliceStrings
namespace Go.Proofs.Ytfknocgmobddmaa
open Go.ChangeShapes Go.WideShapes Go.ChangeAt Go.RowKit Go.Joins Go.Proofs.Kit

theorem cells_str : Try.prog.cellsOf 9 = 1 := by kernel_rfl
set_option maxRecDepth 100000 in
theorem open_argS {H : Type} {enc : TypeId × Value → H} {W : World} {r : Reach} {b0 : Nat} {v : Value} {d : DataW H} {p : List MemPlace} (hv : Value.okWide Try.prog W r b0 45 v) (h : DataW.Trod enc Try.prog W 0 (fun _ => true) true 45 v d p) :
    ∃ (o : Option Addr) (n c : Nat) (ss : List ByteArray), v = .slice o n c ∧ ss.length = n ∧ n ≤ 9223372036854775807 ∧ ArgS W o ss := by
  obtain ⟨o, len, cap, rfl⟩ := okWide_slice Try.underlying45 hv
  obtain ⟨fuel, hf⟩ := h
  rcases open_strings Try.underlying45 Try.underlying9 cells_str hf with ⟨h0, _⟩ | ⟨a, len', cap', zs, h0, _, hlc, hcm, hz, _, hcell, hwf⟩
  · simp [Value.cells] at h0
    obtain ⟨rfl, rfl, rfl⟩ := h0
    exact ⟨none, 0, 0, [], rfl, rfl, by omega, .inl ⟨rfl, rfl⟩⟩
  · simp [Value.cells] at h0
    obtain ⟨rfl, rfl, rfl⟩ := h0
    simp only [if_true] at hz
    unfold maxLen at hcm
    refine ⟨some a, len, cap, zs.take len, rfl, by simp; omega, by omega, .inr ⟨a, rfl, fun i hi => ?_⟩⟩
    have hi' : i < zs.length := by simp at hi; omega
    rw [hcell i hi', List.getElem_take]
    have hs := hwf _ (List.getElem_mem hi')
    unfold maxLen at hs
    exact ⟨by simp [List.getD, hi'], by omega⟩

set_option maxRecDepth 100000 in
theorem wideTexts_lifted (os : Os) (started : os.Started) (H : Type) (enc : TypeId × Value → H) :
    ReturnsInHanded {} Try.checked os 5 .any (Rows.wideTextsSpec.pre6 enc Try.prog Try.f5 Rows.wideTextsRow.domain false) (Rows.wideTextsSpec.post enc Try.prog Try.f5 false true false false) := by
  refine returnsInHanded_of_change (C := Try.checked) own started (by kernel_rfl) Try.func5
    (ChangeSpec.witness6 (enc := enc) (C := Try.checked) false ⟨#[], #[.slice none 0 0, .slice none 0 0], []⟩ 8 (by kernel_rfl) (by kernel_rfl) (by kernel_rfl) (by kernel_rfl)) ?_
  intro W base args ds gs before hval0 hW _ _
  have hval : ∀ (j : Nat) t v, Try.f5.params[j]? = some t → args[j]? = some v → Value.okWide Try.prog W .any base t v := hval0
  have hW' := hW
  obtain ⟨p, q, hA0, hV, rfl, _, _⟩ := hW
  have hA : DataW.TrodAll enc Try.prog W 0 (fun _ => true) true Try.f5.params.toList args.toList ds p := hA0
  rw [Try.params5] at hA hval
  obtain ⟨v0, v1, d0, d1, p0, p1, rfl, rfl, rfl, h0, h1⟩ := trodAll_two hA
  obtain ⟨rfl, rfl⟩ := trodVars_none hV
  obtain ⟨o, cap, l, rfl, hlc, hm, hl, hp⟩ := open_widesP (hval 0 38 v0 rfl rfl) h0
  obtain ⟨o2, n2, c2, ss, rfl, e2, hm2, a2⟩ := open_argS (hval 1 45 v1 rfl rfl) h1
  refine (texts_true o o2 l.length cap n2 c2 l ss W hlc hm rfl hl hp e2 hm2 a2).mono fun e W' ⟨he, hb⟩ => ?_
  subst he
  exact ⟨_, rfl, law_post laidOut (by kernel_rfl) (by kernel_rfl : Try.f5.resultTypes = #[4]) Try.underlying4 rfl hW' rfl hb⟩

theorem wideTexts_holds : Rows.WideTextsSaid :=
  OpenClaim.holds_of_wide 5 Try.f5 rfl rfl rfl rfl rfl rfl rfl ⟨rfl, rfl, rfl, rfl, rfl⟩ rfl rfl rfl rfl rfl (by kernel_rfl) Try.func5 (by kernel_rfl)
    (of_decide_eq_true (by kernel_rfl)) (by unfold Func.isWrapper; first | (rw [if_pos (by decide +kernel)]; kernel_rfl) | (rw [if_neg (by decide +kernel)]; exact ⟨rfl, rfl⟩))
    (fun os started H enc _ => wideTexts_lifted os started H enc)
#print axioms wideTexts_holds
end Go.Proofs.Ytfknocgmobddmaa
