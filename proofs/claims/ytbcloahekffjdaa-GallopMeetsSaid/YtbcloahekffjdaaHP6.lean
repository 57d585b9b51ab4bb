/- GallopMeets: what both rows have, and where keys stand, as the document says: for every two rows and row of keys the law returns true. No condition. -/
import Derived.Test.YtbcloahekffjdaaH13
import Derived.Test.YtbcloahekffjdaaHP0
namespace Go.Proofs.Ytbcloahekffjdaa
open Go.ChangeShapes Go.WideShapes Go.ChangeAt Go.RowKit Go.Joins Go.Proofs.Kit

set_option maxRecDepth 100000 in
theorem gallopMeets_lifted (os : Os) (started : os.Started) (H : Type) (enc : TypeId × Value → H) :
    ReturnsInHanded {} Try.checked os 4 .any (Rows.gallopMeetsSpec.pre6 enc Try.prog Try.f4 Rows.gallopMeetsRow.domain false) (Rows.gallopMeetsSpec.post enc Try.prog Try.f4 false true false false) := by
  refine returnsInHanded_of_change (C := Try.checked) own started (by kernel_rfl) Try.func4
    (ChangeSpec.witness6 (enc := enc) (C := Try.checked) false ⟨#[], #[.slice none 0 0, .slice none 0 0, .slice none 0 0], []⟩ 8 (by kernel_rfl) (by kernel_rfl) (by kernel_rfl) (by kernel_rfl)) ?_
  intro W base args ds gs before hval0 hW _ _
  have hval : ∀ (j : Nat) t v, Try.f4.params[j]? = some t → args[j]? = some v → Value.okWide Try.prog W .any base t v := hval0
  have hW' := hW
  obtain ⟨p, q, hA0, hV, rfl, _, _⟩ := hW
  have hA : DataW.TrodAll enc Try.prog W 0 (fun _ => true) true Try.f4.params.toList args.toList ds p := hA0
  rw [Try.params4] at hA hval
  obtain ⟨v0, v1, v2, d0, d1, d2, p0, p1, p2, rfl, rfl, rfl, h0, h1, h2⟩ := trodAll_three hA
  obtain ⟨rfl, rfl⟩ := trodVars_none hV
  obtain ⟨o, n, c, l, rfl, hl, hc, hm, ha, _⟩ := open_argI Try.underlying22 Try.underlying27 cells_u64 (hval 0 22 v0 rfl rfl) h0
  obtain ⟨o', n', c', l', rfl, hl', hc', hm', ha', _⟩ := open_argI Try.underlying22 Try.underlying27 cells_u64 (hval 1 22 v1 rfl rfl) h1
  obtain ⟨ok, nk, ck, lk, rfl, hlk, hck, hmk, hk, _⟩ := open_argI Try.underlying22 Try.underlying27 cells_u64 (hval 2 22 v2 rfl rfl) h2
  refine (meets_true o o' ok n c n' c' nk ck l l' lk W hl hc hm ha hl' hc' hm' ha' hlk (by omega) hk).mono fun e W' ⟨he, hb⟩ => ?_
  subst he
  exact ⟨_, rfl, law_post laidOut (by kernel_rfl) (by kernel_rfl : Try.f4.resultTypes = #[4]) Try.underlying4 rfl hW' rfl hb⟩

theorem gallopMeets_holds : Rows.GallopMeetsSaid :=
  OpenClaim.holds_of_wide 4 Try.f4 rfl rfl rfl rfl rfl rfl rfl ⟨rfl, rfl, rfl, rfl, rfl⟩ rfl rfl rfl rfl rfl (by kernel_rfl) Try.func4 (by kernel_rfl)
    (of_decide_eq_true (by kernel_rfl)) (by unfold Func.isWrapper; first | (rw [if_pos (by decide +kernel)]; kernel_rfl) | (rw [if_neg (by decide +kernel)]; exact ⟨rfl, rfl⟩))
    (fun os started H enc _ => gallopMeets_lifted os started H enc)
#print axioms gallopMeets_holds
end Go.Proofs.Ytbcloahekffjdaa
