/- MergeContent: a merge in the place of its two keeps the content: for all two tiers and all lists of tiers above, the law returns true. No condition. -/
import Derived.Test.YtlhigfphfbmbjaaMG
import Derived.Test.YtlhigfphfbmbjaaMP0
namespace Go.Proofs.Ytlhigfphfbmbjaa
open Go.ChangeShapes Go.WideShapes Go.ChangeAt Go.RowKit Go.Joins Go.Proofs.Kit

set_option maxRecDepth 100000 in
theorem mergeContent_lifted (os : Os) (started : os.Started) (H : Type) (enc : TypeId × Value → H) :
    ReturnsInHanded {} Try.checked os 5 .any (Rows.mergeContentSpec.pre6 enc Try.prog Try.f5 Rows.mergeContentRow.domain false) (Rows.mergeContentSpec.post enc Try.prog Try.f5 false true false false) := by
  refine returnsInHanded_of_change (C := Try.checked) own started (by kernel_rfl) Try.func5
    (ChangeSpec.witness6 (enc := enc) (C := Try.checked) false ⟨#[], #[.agg #[.slice none 0 0, .slice none 0 0], .agg #[.slice none 0 0, .slice none 0 0], .slice none 0 0], []⟩ 8 (by kernel_rfl) (by kernel_rfl) (by kernel_rfl) (by kernel_rfl)) ?_
  intro W base args ds gs before hval0 hW _ _
  have hval : ∀ (j : Nat) t v, Try.f5.params[j]? = some t → args[j]? = some v → Value.okWide Try.prog W .any base t v := hval0
  have hW' := hW
  obtain ⟨p, q, hA0, hV, rfl, _, _⟩ := hW
  have hA : DataW.TrodAll enc Try.prog W 0 (fun _ => true) true Try.f5.params.toList args.toList ds p := hA0
  rw [Try.params5] at hA hval
  obtain ⟨v0, v1, v2, d0, d1, d2, p0, p1, p2, rfl, rfl, rfl, h0, h1, h2⟩ := trodAll_three hA
  obtain ⟨rfl, rfl⟩ := trodVars_none hV
  obtain ⟨x, T, rfl, a1, a2⟩ := open_tier (hval 0 24 v0 rfl rfl) h0
  obtain ⟨y, U, rfl, b1, b2⟩ := open_tier (hval 1 24 v1 rfl rfl) h1
  obtain ⟨no, nn, nc, nl, rfl, c1, c2, c3, c4, c5⟩ := open_argT (hval 2 45 v2 rfl rfl) h2
  refine (content_true x y T U no nn nc nl W a1 b1 a2 b2 c5 c1 c2 c3 c4).mono fun e W' ⟨he, hb⟩ => ?_
  subst he
  exact ⟨_, rfl, law_post laidOut (by kernel_rfl) (by kernel_rfl : Try.f5.resultTypes = #[4]) Try.underlying4 rfl hW' rfl hb⟩

theorem mergeContent_holds : Rows.MergeContentSaid :=
  OpenClaim.holds_of_wide 5 Try.f5 rfl rfl rfl rfl rfl rfl rfl ⟨rfl, rfl, rfl, rfl, rfl⟩ rfl rfl rfl rfl rfl (by kernel_rfl) Try.func5 (by kernel_rfl)
    (of_decide_eq_true (by kernel_rfl)) (by unfold Func.isWrapper; first | (rw [if_pos (by decide +kernel)]; kernel_rfl) | (rw [if_neg (by decide +kernel)]; exact ⟨rfl, rfl⟩))
    (fun os started H enc _ => mergeContent_lifted os started H enc)
#print axioms mergeContent_holds
end Go.Proofs.Ytlhigfphfbmbjaa

