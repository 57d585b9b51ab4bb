/- TrieBack: there and back: for all rows of pairs, all tries and all pairs the law returns true. No condition. -/
import Derived.Test.YtbanemaiiifcaaaU22
import Derived.Test.YtbanemaiiifcaaaUP0
namespace Go.Proofs.Ytbanemaiiifcaaa
open Go.ChangeShapes Go.WideShapes Go.ChangeAt Go.RowKit Go.Joins Go.Proofs.Kit

set_option maxRecDepth 100000 in
theorem trieBack_lifted (os : Os) (started : os.Started) (H : Type) (enc : TypeId × Value → H) :
    ReturnsInHanded {} Try.checked os 6 .any (Rows.trieBackSpec.pre6 enc Try.prog Try.f6 Rows.trieBackRow.domain false) (Rows.trieBackSpec.post enc Try.prog Try.f6 false true false false) := by
  refine returnsInHanded_of_change (C := Try.checked) own started (by kernel_rfl) Try.func6
    (ChangeSpec.witness6 (enc := enc) (C := Try.checked) false ⟨#[], #[.slice none 0 0, .agg #[.slice none 0 0, .slice none 0 0], PV 0 0], []⟩ 8 (by kernel_rfl) (by kernel_rfl) (by kernel_rfl) (by kernel_rfl)) ?_
  intro W base args ds gs before hval0 hW _ _
  have hval : ∀ (j : Nat) t v, Try.f6.params[j]? = some t → args[j]? = some v → Value.okWide Try.prog W .any base t v := hval0
  have hW' := hW
  obtain ⟨p, q, hA0, hV, rfl, _, _⟩ := hW
  have hA : DataW.TrodAll enc Try.prog W 0 (fun _ => true) true Try.f6.params.toList args.toList ds p := hA0
  rw [Try.params6] at hA hval
  obtain ⟨v0, v1, v2, d0, d1, d2, p0, p1, p2, rfl, rfl, rfl, h0, h1, h2⟩ := trodAll_three hA
  obtain ⟨rfl, rfl⟩ := trodVars_none hV
  obtain ⟨ox, nx, cx, X, rfl, hl, hc, hm, ha, hlim⟩ := open_argP (hval 0 22 v0 rfl rfl) h0
  obtain ⟨ob, m, cb, bs, ol, q, cl, lv, rfl, t1, t2, t3, t4, t5, t6, t7, t8⟩ := open_trie (hval 1 26 v1 rfl rfl) h1
  obtain ⟨p1, p2, rfl⟩ := open_pair (hval 2 42 v2 rfl rfl) h2
  refine (back_true ox nx cx X ob m cb bs ol q cl lv p1 p2 W hl hc hm ha (fun x hx => (hlim x hx).2.2.1) t1 t2 t3 t4 t5 t6 t7 t8).mono fun e W' ⟨he, hb⟩ => ?_
  subst he
  exact ⟨_, rfl, law_post laidOut (by kernel_rfl) (by kernel_rfl : Try.f6.resultTypes = #[4]) Try.underlying4 rfl hW' rfl hb⟩

theorem trieBack_holds : Rows.TrieBackSaid :=
  OpenClaim.holds_of_wide 6 Try.f6 rfl rfl rfl rfl rfl rfl rfl ⟨rfl, rfl, rfl, rfl, rfl⟩ rfl rfl rfl rfl rfl (by kernel_rfl) Try.func6 (by kernel_rfl)
    (of_decide_eq_true (by kernel_rfl)) (by unfold Func.isWrapper; first | (rw [if_pos (by decide +kernel)]; kernel_rfl) | (rw [if_neg (by decide +kernel)]; exact ⟨rfl, rfl⟩))
    (fun os started H enc _ => trieBack_lifted os started H enc)
#print axioms trieBack_holds
end Go.Proofs.Ytbanemaiiifcaaa

