/- TiersTell: which tiers may be, whether two are the same, what they come to, what they say of each pair, and Least, are as the reference says: for all tiers and all pairs the law returns true. No condition. -/
import Derived.Test.YtcapmhmlipmciaaW31
import Derived.Test.YtcapmhmlipmciaaWP0
namespace Go.Proofs.Ytcapmhmlipmciaa
open Go.ChangeShapes Go.WideShapes Go.ChangeAt Go.RowKit Go.Joins Go.Proofs.Kit

set_option maxRecDepth 100000 in
theorem tiersTell_lifted (os : Os) (started : os.Started) (H : Type) (enc : TypeId × Value → H) :
    ReturnsInHanded {} Try.checked os 3 .any (Rows.tiersTellSpec.pre6 enc Try.prog Try.f3 Rows.tiersTellRow.domain false) (Rows.tiersTellSpec.post enc Try.prog Try.f3 false true false false) := by
  refine returnsInHanded_of_change (C := Try.checked) own started (by kernel_rfl) Try.func3
    (ChangeSpec.witness6 (enc := enc) (C := Try.checked) false ⟨#[], #[.slice none 0 0, .slice none 0 0, .slice none 0 0], []⟩ 8 (by kernel_rfl) (by kernel_rfl) (by kernel_rfl) (by kernel_rfl)) ?_
  intro W base args ds gs before hval0 hW _ _
  have hval : ∀ (j : Nat) t v, Try.f3.params[j]? = some t → args[j]? = some v → Value.okWide Try.prog W .any base t v := hval0
  have hW' := hW
  obtain ⟨p, q, hA0, hV, rfl, _, _⟩ := hW
  have hA : DataW.TrodAll enc Try.prog W 0 (fun _ => true) true Try.f3.params.toList args.toList ds p := hA0
  rw [Try.params3] at hA hval
  obtain ⟨v0, v1, v2, d0, d1, d2, p0, p1, p2, rfl, rfl, rfl, h0, h1, h2⟩ := trodAll_three hA
  obtain ⟨rfl, rfl⟩ := trodVars_none hV
  obtain ⟨o, n, c, X, rfl, a1, a2, a3, a4, a5⟩ := open_argT (hval 0 22 v0 rfl rfl) h0
  obtain ⟨o1, n1, c1, A, rfl, b1, b2, b3, b4, b5⟩ := open_argT (hval 1 22 v1 rfl rfl) h1
  obtain ⟨o2, n2, c2, D, rfl, e1, e2, e3, e4, e5⟩ := open_argP (hval 2 23 v2 rfl rfl) h2
  refine (tell_true o n c X o1 n1 c1 A o2 n2 c2 D W a1 a2 a3 a4 a5 b1 b2 b3 b4 e1 e2 e3 e4).mono fun e W' ⟨he, hb⟩ => ?_
  subst he
  exact ⟨_, rfl, law_post laidOut (by kernel_rfl) (by kernel_rfl : Try.f3.resultTypes = #[4]) Try.underlying4 rfl hW' rfl hb⟩

theorem tiersTell_holds : Rows.TiersTellSaid :=
  OpenClaim.holds_of_wide 3 Try.f3 rfl rfl rfl rfl rfl rfl rfl ⟨rfl, rfl, rfl, rfl, rfl⟩ rfl rfl rfl rfl rfl (by kernel_rfl) Try.func3 (by kernel_rfl)
    (of_decide_eq_true (by kernel_rfl)) (by unfold Func.isWrapper; first | (rw [if_pos (by decide +kernel)]; kernel_rfl) | (rw [if_neg (by decide +kernel)]; exact ⟨rfl, rfl⟩))
    (fun os started H enc _ => tiersTell_lifted os started H enc)
#print axioms tiersTell_holds
end Go.Proofs.Ytcapmhmlipmciaa

