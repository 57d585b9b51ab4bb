/- GallopSeeks: which rows rise, which places are sought and by how many looks, as the document says: for every row, row of places and of keys the law returns true. No condition. -/
import Derived.Test.YtbcloahekffjdaaH11
import Derived.Test.YtbcloahekffjdaaHP0
namespace Go.Proofs.Ytbcloahekffjdaa
open Go.ChangeShapes Go.WideShapes Go.ChangeAt Go.RowKit Go.Joins Go.Proofs.Kit

set_option maxRecDepth 100000 in
theorem gallopSeeks_lifted (os : Os) (started : os.Started) (H : Type) (enc : TypeId × Value → H) :
    ReturnsInHanded {} Try.checked os 3 .any (Rows.gallopSeeksSpec.pre6 enc Try.prog Try.f3 Rows.gallopSeeksRow.domain false) (Rows.gallopSeeksSpec.post enc Try.prog Try.f3 false true false false) := by
  refine returnsInHanded_of_change (C := Try.checked) own started (by kernel_rfl) Try.func3
    (ChangeSpec.witness6 (enc := enc) (C := Try.checked) false ⟨#[], #[.slice none 0 0, .slice none 0 0, .slice none 0 0], []⟩ 8 (by kernel_rfl) (by kernel_rfl) (by kernel_rfl) (by kernel_rfl)) ?_
  intro W base args ds gs before hval0 hW _ _
  have hval : ∀ (j : Nat) t v, Try.f3.params[j]? = some t → args[j]? = some v → Value.okWide Try.prog W .any base t v := hval0
  have hW' := hW
  obtain ⟨p, q, hA0, hV, rfl, _, _⟩ := hW
  have hA : DataW.TrodAll enc Try.prog W 0 (fun _ => true) true Try.f3.params.toList args.toList ds p := hA0
  rw [Try.params3] at hA hval
  obtain ⟨v0, v1, v2, d0, d1, d2, p0, p1, p2, rfl, rfl, rfl, h0, h1, h2⟩ := trodAll_three hA
  obtain ⟨rfl, rfl⟩ := trodVars_none hV
  obtain ⟨o, n, c, l, rfl, hl, hc, hm, ha, _⟩ := open_argI Try.underlying22 Try.underlying27 cells_u64 (hval 0 22 v0 rfl rfl) h0
  obtain ⟨op, np, cp, lp, rfl, hlp, hcp, hmp, hp, hwp⟩ := open_argI Try.underlying23 Try.underlying3 cells_int (hval 1 23 v1 rfl rfl) h1
  obtain ⟨ok, nk, ck, lk, rfl, hlk, hck, hmk, hk, _⟩ := open_argI Try.underlying22 Try.underlying27 cells_u64 (hval 2 22 v2 rfl rfl) h2
  refine (seeks_true o op ok n c np cp nk ck l lp lk W hl hc hm ha hlp (by omega) hp (fun x hx => wf_i64 (hwp x hx)) hlk (by omega) hk).mono fun e W' ⟨he, hb⟩ => ?_
  subst he
  exact ⟨_, rfl, law_post laidOut (by kernel_rfl) (by kernel_rfl : Try.f3.resultTypes = #[4]) Try.underlying4 rfl hW' rfl hb⟩

theorem gallopSeeks_holds : Rows.GallopSeeksSaid :=
  OpenClaim.holds_of_wide 3 Try.f3 rfl rfl rfl rfl rfl rfl rfl ⟨rfl, rfl, rfl, rfl, rfl⟩ rfl rfl rfl rfl rfl (by kernel_rfl) Try.func3 (by kernel_rfl)
    (of_decide_eq_true (by kernel_rfl)) (by unfold Func.isWrapper; first | (rw [if_pos (by decide +kernel)]; kernel_rfl) | (rw [if_neg (by decide +kernel)]; exact ⟨rfl, rfl⟩))
    (fun os started H enc _ => gallopSeeks_lifted os started H enc)
#print axioms gallopSeeks_holds
end Go.Proofs.Ytbcloahekffjdaa
