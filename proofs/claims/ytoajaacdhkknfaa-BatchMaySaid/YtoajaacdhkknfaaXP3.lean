/- BatchMay: what may be, and lines: for all rows of changes and of texts the law returns true. No condition. -/
import Derived.Test.YtoajaacdhkknfaaX23
import Derived.Test.YtoajaacdhkknfaaXP0
namespace Go.Proofs.Ytoajaacdhkknfaa
open Go.ChangeShapes Go.WideShapes Go.ChangeAt Go.RowKit Go.Joins Go.Proofs.Kit

set_option maxRecDepth 100000 in
/-- An argument that is a row of texts. -/
theorem open_texts {H : Type} {enc : TypeId × Value → H} {W : World} {r : Reach} {b0 : Nat} {v : Value} {d : DataW H} {p : List MemPlace} (hv : Value.okWide Try.prog W r b0 23 v) (h : DataW.Trod enc Try.prog W 0 (fun _ => true) true 23 v d p) :
    ∃ (o : Option Addr) (n c : Nat) (l : List ByteArray), v = .slice o n c ∧ l.length = n ∧ n ≤ c ∧ c ≤ 9223372036854775807 ∧ ArgV W o c (l.map Value.string) ∧ ∀ s ∈ l, s.size ≤ 9223372036854775807 := by
  obtain ⟨o, len, cap, rfl⟩ := okWide_slice Try.underlying23 hv
  obtain ⟨fuel, hf⟩ := h
  rcases open_strings Try.underlying23 Try.underlying9 cells_string hf with ⟨h0, _⟩ | ⟨a, len', cap', zs, h0, _, hlc, hcm, hz, _, hcell, hwf⟩
  · simp [Value.cells] at h0
    obtain ⟨rfl, rfl, rfl⟩ := h0
    exact ⟨none, 0, 0, [], rfl, rfl, by omega, by omega, .inl ⟨rfl, rfl, rfl⟩, by simp⟩
  · simp [Value.cells] at h0
    obtain ⟨rfl, rfl, rfl⟩ := h0
    simp only [if_true] at hz
    unfold maxLen at hcm hwf
    refine ⟨some a, len, cap, zs.take len, rfl, by simp; omega, hlc, by omega, .inr ⟨a, rfl, fun i hi => ?_⟩, fun x hx => by have := hwf x (List.mem_of_mem_take hx); omega⟩
    have hi' : i < zs.length := by simp at hi; omega
    rw [hcell i hi', List.getElem_map, List.getElem_take]
    simp [List.getD, hi']
set_option maxRecDepth 100000 in
theorem batchMay_lifted (os : Os) (started : os.Started) (H : Type) (enc : TypeId × Value → H) :
    ReturnsInHanded {} Try.checked os 3 .any (Rows.batchMaySpec.pre6 enc Try.prog Try.f3 Rows.batchMayRow.domain false) (Rows.batchMaySpec.post enc Try.prog Try.f3 false true false false) := by
  refine returnsInHanded_of_change_shaped (C := Try.checked) own started (by kernel_rfl) Try.func3
    (ChangeSpec.witness6 (enc := enc) (C := Try.checked) false ⟨#[], #[.slice none 0 0, .slice none 0 0], []⟩ 8 (by kernel_rfl) (by kernel_rfl) (by kernel_rfl) (by kernel_rfl)) ?_
  intro W base args ds gs before hval0 hW _ _ hsh _
  obtain ⟨m, hm⟩ := maxLen_cell hsh
  have hval : ∀ (j : Nat) t v, Try.f3.params[j]? = some t → args[j]? = some v → Value.okWide Try.prog W .any base t v := hval0
  have hW' := hW
  obtain ⟨p, q, hA0, hV, rfl, _, _⟩ := hW
  have hA : DataW.TrodAll enc Try.prog W 0 (fun _ => true) true Try.f3.params.toList args.toList ds p := hA0
  rw [Try.params3] at hA hval
  obtain ⟨v0, v1, d0, d1, p0, p1, rfl, rfl, rfl, h0, h1⟩ := trodAll_two hA
  obtain ⟨rfl, rfl⟩ := trodVars_none hV
  obtain ⟨o, n, c, X, rfl, hl, hc, hmx, ha, hf⟩ := open_changes (hval 0 22 v0 rfl rfl) h0
  obtain ⟨oT, nT, cT, T, rfl, hlT, hcT, hmT, haT, hfT⟩ := open_texts (hval 1 23 v1 rfl rfl) h1
  refine (may9_true o n c X oT nT cT T m W hl hc hmx ha hf hlT hcT hmT haT hfT hm).mono fun e W' ⟨he, hb⟩ => ?_
  subst he
  exact ⟨_, rfl, law_post laidOut (by kernel_rfl) (by kernel_rfl : Try.f3.resultTypes = #[4]) Try.underlying4 rfl hW' rfl hb⟩

theorem batchMay_holds : Rows.BatchMaySaid :=
  OpenClaim.holds_of_wide 3 Try.f3 rfl rfl rfl rfl rfl rfl rfl ⟨rfl, rfl, rfl, rfl, rfl⟩ rfl rfl rfl rfl rfl (by kernel_rfl) Try.func3 (by kernel_rfl)
    (of_decide_eq_true (by kernel_rfl)) (by unfold Func.isWrapper; first | (rw [if_pos (by decide +kernel)]; kernel_rfl) | (rw [if_neg (by decide +kernel)]; exact ⟨rfl, rfl⟩))
    (fun os started H enc _ => batchMay_lifted os started H enc)
#print axioms batchMay_holds
end Go.Proofs.Ytoajaacdhkknfaa

