/- TrieOf: the trie of a run, and the run of a trie: for all rows of pairs and all tries the law returns true. No condition. -/
import Derived.Test.YtbanemaiiifcaaaU28
import Derived.Test.YtbanemaiiifcaaaUP0
namespace Go.Proofs.Ytbanemaiiifcaaa
open Go.ChangeShapes Go.WideShapes Go.ChangeAt Go.RowKit Go.Joins Go.Proofs.Kit

set_option maxRecDepth 100000 in
theorem trieOf_lifted (os : Os) (started : os.Started) (H : Type) (enc : TypeId × Value → H) :
    ReturnsInHanded {} Try.checked os 3 .any (Rows.trieOfSpec.pre6 enc Try.prog Try.f3 Rows.trieOfRow.domain false) (Rows.trieOfSpec.post enc Try.prog Try.f3 false true false false) := by
  refine returnsInHanded_of_change (C := Try.checked) own started (by kernel_rfl) Try.func3
    (ChangeSpec.witness6 (enc := enc) (C := Try.checked) false ⟨#[], #[.slice none 0 0, .agg #[.slice none 0 0, .slice none 0 0]], []⟩ 8 (by kernel_rfl) (by kernel_rfl) (by kernel_rfl) (by kernel_rfl)) ?_
  intro W base args ds gs before hval0 hW _ _
  have hval : ∀ (j : Nat) t v, Try.f3.params[j]? = some t → args[j]? = some v → Value.okWide Try.prog W .any base t v := hval0
  have hW' := hW
  obtain ⟨p, q, hA0, hV, rfl, _, _⟩ := hW
  have hA : DataW.TrodAll enc Try.prog W 0 (fun _ => true) true Try.f3.params.toList args.toList ds p := hA0
  rw [Try.params3] at hA hval
  obtain ⟨v0, v1, d0, d1, p0, p1, rfl, rfl, rfl, h0, h1⟩ := trodAll_two hA
  obtain ⟨rfl, rfl⟩ := trodVars_none hV
  obtain ⟨ox, nx, cx, X, rfl, hl, hc, hm, ha, _⟩ := open_argP (hval 0 22 v0 rfl rfl) h0
  obtain ⟨ob, m, cb, bs, ol, q, cl, lv, rfl, t1, t2, t3, t4, t5, t6, t7, t8⟩ := open_trie (hval 1 26 v1 rfl rfl) h1
  refine (trieOf_true ox nx cx X ob m cb bs ol q cl lv W hl hc hm ha t1 t2 t3 t4 t5 t6 t7 t8).mono fun e W' ⟨he, hb⟩ => ?_
  subst he
  exact ⟨_, rfl, law_post laidOut (by kernel_rfl) (by kernel_rfl : Try.f3.resultTypes = #[4]) Try.underlying4 rfl hW' rfl hb⟩

theorem trieOf_holds : Rows.TrieOfSaid :=
  OpenClaim.holds_of_wide 3 Try.f3 rfl rfl rfl rfl rfl rfl rfl ⟨rfl, rfl, rfl, rfl, rfl⟩ rfl rfl rfl rfl rfl (by kernel_rfl) Try.func3 (by kernel_rfl)
    (of_decide_eq_true (by kernel_rfl)) (by unfold Func.isWrapper; first | (rw [if_pos (by decide +kernel)]; kernel_rfl) | (rw [if_neg (by decide +kernel)]; exact ⟨rfl, rfl⟩))
    (fun os started H enc _ => trieOf_lifted os started H enc)
#print axioms trieOf_holds
end Go.Proofs.Ytbanemaiiifcaaa

