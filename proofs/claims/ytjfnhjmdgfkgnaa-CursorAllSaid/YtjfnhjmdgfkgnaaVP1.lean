/- CursorAll: gone up to each end a cursor comes by all pairs of the run, in order: for all tries the law returns true. No condition. -/
import Derived.Test.YtjfnhjmdgfkgnaaV15
import Derived.Test.YtjfnhjmdgfkgnaaVD
namespace Go.Proofs.Ytjfnhjmdgfkgnaa
open Go.ChangeShapes Go.WideShapes Go.ChangeAt Go.RowKit Go.Joins Go.Proofs.Kit

set_option maxRecDepth 100000 in
theorem cursorAll_lifted (os : Os) (started : os.Started) (H : Type) (enc : TypeId × Value → H) :
    ReturnsInHanded {} Try.checked os 8 .any (Rows.cursorAllSpec.pre6 enc Try.prog Try.f8 Rows.cursorAllRow.domain false) (Rows.cursorAllSpec.post enc Try.prog Try.f8 false true false false) := by
  refine returnsInHanded_of_change (C := Try.checked) own started (by kernel_rfl) Try.func8
    (ChangeSpec.witness6 (enc := enc) (C := Try.checked) false ⟨#[], #[.agg #[.slice none 0 0, .slice none 0 0]], []⟩ 8 (by kernel_rfl) (by kernel_rfl) (by kernel_rfl) (by kernel_rfl)) ?_
  intro W base args ds gs before hval0 hW _ _
  have hval : ∀ (j : Nat) t v, Try.f8.params[j]? = some t → args[j]? = some v → Value.okWide Try.prog W .any base t v := hval0
  have hW' := hW
  obtain ⟨p, q, hA0, hV, rfl, _, _⟩ := hW
  have hA : DataW.TrodAll enc Try.prog W 0 (fun _ => true) true Try.f8.params.toList args.toList ds p := hA0
  rw [Try.params8] at hA hval
  obtain ⟨v0, d0, rfl, rfl, h0⟩ := trodAll_one hA
  obtain ⟨rfl, rfl⟩ := trodVars_none hV
  obtain ⟨ob, m, cb, bs, ol, q, cl, lv, rfl, t1, t2, t3, t4, t5, t6, t7, t8, hu, hl⟩ := open_trieU (hval 0 25 v0 rfl rfl) h0
  refine (all_true ob m cb ol q cl bs lv W t1 t2 t3 t4 t5 t6 t7 t8 hu hl).mono fun e W' ⟨he, hb⟩ => ?_
  subst he
  exact ⟨_, rfl, law_post laidOut (by kernel_rfl) (by kernel_rfl : Try.f8.resultTypes = #[4]) Try.underlying4 rfl hW' rfl hb⟩

theorem cursorAll_holds : Rows.CursorAllSaid :=
  OpenClaim.holds_of_wide 8 Try.f8 rfl rfl rfl rfl rfl rfl rfl ⟨rfl, rfl, rfl, rfl, rfl⟩ rfl rfl rfl rfl rfl (by kernel_rfl) Try.func8 (by kernel_rfl)
    (of_decide_eq_true (by kernel_rfl)) (by unfold Func.isWrapper; first | (rw [if_pos (by decide +kernel)]; kernel_rfl) | (rw [if_neg (by decide +kernel)]; exact ⟨rfl, rfl⟩))
    (fun os started H enc _ => cursorAll_lifted os started H enc)
#print axioms cursorAll_holds
end Go.Proofs.Ytjfnhjmdgfkgnaa

