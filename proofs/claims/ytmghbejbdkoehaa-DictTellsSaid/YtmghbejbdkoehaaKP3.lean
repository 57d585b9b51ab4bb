/- DictTells: the ids of names, and the names of ids: for every dictionary, row of texts and row of numbers the law returns true. No condition. -/
import Derived.Test.YtmghbejbdkoehaaK26
import Derived.Test.YtmghbejbdkoehaaKP0
namespace Go.Proofs.Ytmghbejbdkoehaa
open Go.ChangeShapes Go.WideShapes Go.ChangeAt Go.RowKit Go.Joins Go.Proofs.Kit

set_option maxRecDepth 100000 in
theorem dictTells_lifted (os : Os) (started : os.Started) (H : Type) (enc : TypeId × Value → H) :
    ReturnsInHanded {} Try.checked os 4 .any (Rows.dictTellsSpec.pre6 enc Try.prog Try.f4 Rows.dictTellsRow.domain false) (Rows.dictTellsSpec.post enc Try.prog Try.f4 false true false false) := by
  refine returnsInHanded_of_change (C := Try.checked) own started (by kernel_rfl) Try.func4
    (ChangeSpec.witness6 (enc := enc) (C := Try.checked) false ⟨#[], #[.agg #[.slice none 0 0, .slice none 0 0, .slice none 0 0, .slice none 0 0, .slice none 0 0, .slice none 0 0, .slice none 0 0, .slice none 0 0, .slice none 0 0, .slice none 0 0], .slice none 0 0, .slice none 0 0], []⟩ 8 (by kernel_rfl) (by kernel_rfl) (by kernel_rfl) (by kernel_rfl)) ?_
  intro W base args ds gs before hval0 hW _ _
  have hval : ∀ (j : Nat) t v, Try.f4.params[j]? = some t → args[j]? = some v → Value.okWide Try.prog W .any base t v := hval0
  have hW' := hW
  obtain ⟨p, q, hA0, hV, rfl, _, _⟩ := hW
  have hA : DataW.TrodAll enc Try.prog W 0 (fun _ => true) true Try.f4.params.toList args.toList ds p := hA0
  rw [Try.params4] at hA hval
  obtain ⟨v0, v1, v2, d0, d1, d2, p0, p1, p2, rfl, rfl, rfl, h0, h1, h2⟩ := trodAll_three hA
  obtain ⟨rfl, rfl⟩ := trodVars_none hV
  obtain ⟨a, b, T, S, rfl, h3, h4⟩ := open_dict (hval 0 28 v0 rfl rfl) h0
  obtain ⟨o, n, c, tx, rfl, e1, hc1, hm1, a1, w1⟩ := open_texts (hval 1 22 v1 rfl rfl) h1
  obtain ⟨o2, n2, c2, is, rfl, e2, hc2, hm2, a2, w2⟩ := open_nums (hval 2 23 v2 rfl rfl) h2
  refine (tells6_true a b T S o n c tx o2 n2 c2 is W h3 h4 e1 (by omega) a1 w1 e2 (by omega) a2).mono fun e W' ⟨he, hb⟩ => ?_
  subst he
  exact ⟨_, rfl, law_post laidOut (by kernel_rfl) (by kernel_rfl : Try.f4.resultTypes = #[4]) Try.underlying4 rfl hW' rfl hb⟩

theorem dictTells_holds : Rows.DictTellsSaid :=
  OpenClaim.holds_of_wide 4 Try.f4 rfl rfl rfl rfl rfl rfl rfl ⟨rfl, rfl, rfl, rfl, rfl⟩ rfl rfl rfl rfl rfl (by kernel_rfl) Try.func4 (by kernel_rfl)
    (of_decide_eq_true (by kernel_rfl)) (by unfold Func.isWrapper; first | (rw [if_pos (by decide +kernel)]; kernel_rfl) | (rw [if_neg (by decide +kernel)]; exact ⟨rfl, rfl⟩))
    (fun os started H enc _ => dictTells_lifted os started H enc)
#print axioms dictTells_holds
end Go.Proofs.Ytmghbejbdkoehaa

