/- DictBytes: a dictionary's bytes, and what stands at places of bytes: for every dictionary, bytes and row of places the law returns true. No condition. -/
import Derived.Test.YtmghbejbdkoehaaK37
import Derived.Test.YtmghbejbdkoehaaKP0
namespace Go.Proofs.Ytmghbejbdkoehaa
open Go.ChangeShapes Go.WideShapes Go.ChangeAt Go.RowKit Go.Joins Go.Proofs.Kit

set_option maxRecDepth 100000 in
theorem dictBytes_lifted (os : Os) (started : os.Started) (H : Type) (enc : TypeId × Value → H) :
    ReturnsInHanded {} Try.checked os 6 .any (Rows.dictBytesSpec.pre6 enc Try.prog Try.f6 Rows.dictBytesRow.domain false) (Rows.dictBytesSpec.post enc Try.prog Try.f6 false true false false) := by
  refine returnsInHanded_of_change (C := Try.checked) own started (by kernel_rfl) Try.func6
    (ChangeSpec.witness6 (enc := enc) (C := Try.checked) false ⟨#[], #[.agg #[.slice none 0 0, .slice none 0 0, .slice none 0 0, .slice none 0 0, .slice none 0 0, .slice none 0 0, .slice none 0 0, .slice none 0 0, .slice none 0 0, .slice none 0 0], .slice none 0 0, .slice none 0 0], []⟩ 8 (by kernel_rfl) (by kernel_rfl) (by kernel_rfl) (by kernel_rfl)) ?_
  intro W base args ds gs before hval0 hW _ _
  have hval : ∀ (j : Nat) t v, Try.f6.params[j]? = some t → args[j]? = some v → Value.okWide Try.prog W .any base t v := hval0
  have hW' := hW
  obtain ⟨p, q, hA0, hV, rfl, _, _⟩ := hW
  have hA : DataW.TrodAll enc Try.prog W 0 (fun _ => true) true Try.f6.params.toList args.toList ds p := hA0
  rw [Try.params6] at hA hval
  obtain ⟨v0, v1, v2, d0, d1, d2, p0, p1, p2, rfl, rfl, rfl, h0, h1, h2⟩ := trodAll_three hA
  obtain ⟨rfl, rfl⟩ := trodVars_none hV
  obtain ⟨a, b, T, S, rfl, h3, h4⟩ := open_dict (hval 0 28 v0 rfl rfl) h0
  obtain ⟨o1, n1, c1, l1, rfl, e1, hc1, hm1, a1, w1⟩ := open_argI Try.underlying59 Try.underlying5 cells_u8 (hval 1 59 v1 rfl rfl) h1
  obtain ⟨o2, n2, c2, l2, rfl, e2, hc2, hm2, a2, w2⟩ := open_nums (hval 2 23 v2 rfl rfl) h2
  refine (bytes6_true a b T S o1 n1 c1 l1 o2 n2 c2 l2 W h3 h4 a1 e1 hc1 (fun x hx => wf_u8 (w1 x hx)) a2 e2 (by omega)).mono fun e W' ⟨he, hb⟩ => ?_
  subst he
  exact ⟨_, rfl, law_post laidOut (by kernel_rfl) (by kernel_rfl : Try.f6.resultTypes = #[4]) Try.underlying4 rfl hW' rfl hb⟩

theorem dictBytes_holds : Rows.DictBytesSaid :=
  OpenClaim.holds_of_wide 6 Try.f6 rfl rfl rfl rfl rfl rfl rfl ⟨rfl, rfl, rfl, rfl, rfl⟩ rfl rfl rfl rfl rfl (by kernel_rfl) Try.func6 (by kernel_rfl)
    (of_decide_eq_true (by kernel_rfl)) (by unfold Func.isWrapper; first | (rw [if_pos (by decide +kernel)]; kernel_rfl) | (rw [if_neg (by decide +kernel)]; exact ⟨rfl, rfl⟩))
    (fun os started H enc _ => dictBytes_lifted os started H enc)
#print axioms dictBytes_holds
end Go.Proofs.Ytmghbejbdkoehaa

