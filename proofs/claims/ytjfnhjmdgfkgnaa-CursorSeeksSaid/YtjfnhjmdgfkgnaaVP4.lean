/- CursorSeeks: to seek comes to where next comes, as often as needed, by few looks: for all tries, rows of moves and keys the law returns true. No condition. -/
import Derived.Test.YtjfnhjmdgfkgnaaVE
import Derived.Test.YtjfnhjmdgfkgnaaVE
namespace Go.Proofs.Ytjfnhjmdgfkgnaa
open Go.ChangeShapes Go.WideShapes Go.ChangeAt Go.RowKit Go.Joins Go.Proofs.Kit

set_option maxRecDepth 100000 in
theorem cursorSeeks_lifted (os : Os) (started : os.Started) (H : Type) (enc : TypeId × Value → H) :
    ReturnsInHanded {} Try.checked os 9 .any (Rows.cursorSeeksSpec.pre6 enc Try.prog Try.f9 Rows.cursorSeeksRow.domain false) (Rows.cursorSeeksSpec.post enc Try.prog Try.f9 false true false false) := by
  refine returnsInHanded_of_change (C := Try.checked) own started (by kernel_rfl) Try.func9
    (ChangeSpec.witness6 (enc := enc) (C := Try.checked) false ⟨#[], #[.agg #[.slice none 0 0, .slice none 0 0], .slice none 0 0, .int .u64 0], []⟩ 8 (by kernel_rfl) (by kernel_rfl) (by kernel_rfl) (by kernel_rfl)) ?_
  intro W base args ds gs before hval0 hW _ _
  have hval : ∀ (j : Nat) t v, Try.f9.params[j]? = some t → args[j]? = some v → Value.okWide Try.prog W .any base t v := hval0
  have hW' := hW
  obtain ⟨p, q, hA0, hV, rfl, _, _⟩ := hW
  have hA : DataW.TrodAll enc Try.prog W 0 (fun _ => true) true Try.f9.params.toList args.toList ds p := hA0
  rw [Try.params9] at hA hval
  obtain ⟨v0, v1, v2, d0, d1, d2, p0, p1, p2, rfl, rfl, rfl, h0, h1, h2⟩ := trodAll_three hA
  obtain ⟨rfl, rfl⟩ := trodVars_none hV
  obtain ⟨ob, m, cb, bs, ol, q, cl, lv, rfl, t1, t2, t3, t4, t5, t6, t7, t8, hu, hl⟩ := open_trieU (hval 0 25 v0 rfl rfl) h0
  obtain ⟨om, n, cm, ms, rfl, u1, u2, u3, u4, u5⟩ := open_argM (hval 1 59 v1 rfl rfl) h1
  obtain ⟨k, rfl, rfl, rfl, wk⟩ := open_int Try.underlying32 (hval 2 32 v2 rfl rfl) h2
  have hk := wf_u64 wk
  refine (seeks_true ob m cb ol q cl bs lv om n cm ms W t1 t2 t3 t4 t5 t6 t7 t8 hu hl u1 u2 u3 u4 u5 k hk.1 hk.2).mono fun e W' ⟨he, hb⟩ => ?_
  subst he
  exact ⟨_, rfl, law_post laidOut (by kernel_rfl) (by kernel_rfl : Try.f9.resultTypes = #[4]) Try.underlying4 rfl hW' rfl hb⟩

theorem cursorSeeks_holds : Rows.CursorSeeksSaid :=
  OpenClaim.holds_of_wide 9 Try.f9 rfl rfl rfl rfl rfl rfl rfl ⟨rfl, rfl, rfl, rfl, rfl⟩ rfl rfl rfl rfl rfl (by kernel_rfl) Try.func9 (by kernel_rfl)
    (of_decide_eq_true (by kernel_rfl)) (by unfold Func.isWrapper; first | (rw [if_pos (by decide +kernel)]; kernel_rfl) | (rw [if_neg (by decide +kernel)]; exact ⟨rfl, rfl⟩))
    (fun os started H enc _ => cursorSeeks_lifted os started H enc)
#print axioms cursorSeeks_holds
end Go.Proofs.Ytjfnhjmdgfkgnaa

