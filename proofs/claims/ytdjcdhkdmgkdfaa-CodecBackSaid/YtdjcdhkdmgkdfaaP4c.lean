/- CodecBack: what is written is read again, whatever stands ahead of it, or behind: for all bytes ahead and behind and every row of numbers the law returns true. No condition. -/
import Derived.Test.YtdjcdhkdmgkdfaaL5
import Derived.Test.YtdjcdhkdmgkdfaaP0c
namespace Go.Proofs.Ytdjcdhkdmgkdfaa
open Go.ChangeShapes Go.WideShapes Go.ChangeAt Go.RowKit Go.Joins Go.Proofs.Kit

set_option maxRecDepth 100000 in
theorem codecBack_lifted (os : Os) (started : os.Started) (H : Type) (enc : TypeId × Value → H) :
    ReturnsInHanded {} Try.checked os 4 .any (Rows.codecBackSpec.pre6 enc Try.prog Try.f4 Rows.codecBackRow.domain false) (Rows.codecBackSpec.post enc Try.prog Try.f4 false true false false) := by
  refine returnsInHanded_of_change (C := Try.checked) own started (by kernel_rfl) Try.func4
    (ChangeSpec.witness6 (enc := enc) (C := Try.checked) false ⟨#[], #[.slice none 0 0, .slice none 0 0, .slice none 0 0], []⟩ 8 (by kernel_rfl) (by kernel_rfl) (by kernel_rfl) (by kernel_rfl)) ?_
  intro W base args ds gs before hval0 hW _ _
  have hval : ∀ (j : Nat) t v, Try.f4.params[j]? = some t → args[j]? = some v → Value.okWide Try.prog W .any base t v := hval0
  have hW' := hW
  obtain ⟨p, q, hA0, hV, rfl, _, _⟩ := hW
  have hA : DataW.TrodAll enc Try.prog W 0 (fun _ => true) true Try.f4.params.toList args.toList ds p := hA0
  rw [Try.params4] at hA hval
  obtain ⟨v0, v1, v2, d0, d1, d2, p0, p1, p2, rfl, rfl, rfl, h0, h1, h2⟩ := trodAll_three hA
  obtain ⟨rfl, rfl⟩ := trodVars_none hV
  obtain ⟨o1, n1, c1, l1, rfl, e1, hc1, hm1, a1, w1⟩ := open_argI Try.underlying28 Try.underlying5 cells_u8 (hval 0 28 v0 rfl rfl) h0
  obtain ⟨o2, n2, c2, l2, rfl, e2, hc2, hm2, a2, w2⟩ := open_argI Try.underlying28 Try.underlying5 cells_u8 (hval 1 28 v1 rfl rfl) h1
  obtain ⟨o3, n3, c3, l3, rfl, e3, hc3, hm3, a3, w3⟩ := open_argI Try.underlying22 Try.underlying26 cells_u64 (hval 2 22 v2 rfl rfl) h2
  refine (back_true o1 o2 o3 n1 n2 n3 c1 c2 c3 l1 l2 l3 W e1 e2 e3 hc1 hc2 hc3 hm1 hm2 hm3 a1 a2 a3 (fun x hx => wf_u8 (w1 x hx)) (fun x hx => wf_u8 (w2 x hx)) (fun x hx => wf_u64 (w3 x hx))).mono fun e W' ⟨he, hb⟩ => ?_
  subst he
  exact ⟨_, rfl, law_post laidOut (by kernel_rfl) (by kernel_rfl : Try.f4.resultTypes = #[4]) Try.underlying4 rfl hW' rfl hb⟩

theorem codecBack_holds : Rows.CodecBackSaid :=
  OpenClaim.holds_of_wide 4 Try.f4 rfl rfl rfl rfl rfl rfl rfl ⟨rfl, rfl, rfl, rfl, rfl⟩ rfl rfl rfl rfl rfl (by kernel_rfl) Try.func4 (by kernel_rfl)
    (of_decide_eq_true (by kernel_rfl)) (by unfold Func.isWrapper; first | (rw [if_pos (by decide +kernel)]; kernel_rfl) | (rw [if_neg (by decide +kernel)]; exact ⟨rfl, rfl⟩))
    (fun os started H enc _ => codecBack_lifted os started H enc)
#print axioms codecBack_holds
end Go.Proofs.Ytdjcdhkdmgkdfaa
