/- RunWhole: the seconds of all firsts of a run are the whole run, and what is between two pairs is just what stands there: for all rows of pairs and every two pairs the law returns true. No condition. -/
import Derived.Test.YteipihoebnmagaaN18
import Derived.Test.YteipihoebnmagaaNP0
namespace Go.Proofs.Yteipihoebnmagaa
open Go.ChangeShapes Go.WideShapes Go.ChangeAt Go.RowKit Go.Joins Go.Proofs.Kit

set_option maxRecDepth 100000 in
theorem runWhole_lifted (os : Os) (started : os.Started) (H : Type) (enc : TypeId × Value → H) :
    ReturnsInHanded {} Try.checked os 8 .any (Rows.runWholeSpec.pre6 enc Try.prog Try.f8 Rows.runWholeRow.domain false) (Rows.runWholeSpec.post enc Try.prog Try.f8 false true false false) := by
  refine returnsInHanded_of_change (C := Try.checked) own started (by kernel_rfl) Try.func8
    (ChangeSpec.witness6 (enc := enc) (C := Try.checked) false ⟨#[], #[.slice none 0 0, PV 0 0, PV 0 0], []⟩ 8 (by kernel_rfl) (by kernel_rfl) (by kernel_rfl) (by kernel_rfl)) ?_
  intro W base args ds gs before hval0 hW _ _
  have hval : ∀ (j : Nat) t v, Try.f8.params[j]? = some t → args[j]? = some v → Value.okWide Try.prog W .any base t v := hval0
  have hW' := hW
  obtain ⟨p, q, hA0, hV, rfl, _, _⟩ := hW
  have hA : DataW.TrodAll enc Try.prog W 0 (fun _ => true) true Try.f8.params.toList args.toList ds p := hA0
  rw [Try.params8] at hA hval
  obtain ⟨v0, v1, v2, d0, d1, d2, p0, p1, p2, rfl, rfl, rfl, h0, h1, h2⟩ := trodAll_three hA
  obtain ⟨rfl, rfl⟩ := trodVars_none hV
  obtain ⟨o, n, c, l, rfl, hl, hc, hm, ha, hw⟩ := open_argP (hval 0 22 v0 rfl rfl) h0
  obtain ⟨f1, f2, rfl⟩ := open_pair (hval 1 30 v1 rfl rfl) h1
  obtain ⟨t1, t2, rfl⟩ := open_pair (hval 2 30 v2 rfl rfl) h2
  refine (whole_true o n c l W f1 f2 t1 t2 hl hc hm ha (fun x hx => (hw x hx).2.2.1)).mono fun e W' ⟨he, hb⟩ => ?_
  subst he
  exact ⟨_, rfl, law_post laidOut (by kernel_rfl) (by kernel_rfl : Try.f8.resultTypes = #[4]) Try.underlying4 rfl hW' rfl hb⟩

theorem runWhole_holds : Rows.RunWholeSaid :=
  OpenClaim.holds_of_wide 8 Try.f8 rfl rfl rfl rfl rfl rfl rfl ⟨rfl, rfl, rfl, rfl, rfl⟩ rfl rfl rfl rfl rfl (by kernel_rfl) Try.func8 (by kernel_rfl)
    (of_decide_eq_true (by kernel_rfl)) (by unfold Func.isWrapper; first | (rw [if_pos (by decide +kernel)]; kernel_rfl) | (rw [if_neg (by decide +kernel)]; exact ⟨rfl, rfl⟩))
    (fun os started H enc _ => runWhole_lifted os started H enc)
#print axioms runWhole_holds
end Go.Proofs.Yteipihoebnmagaa
