/- TablePuts: what becomes of a table, text by text: for every table and row of texts the law returns true. No condition. -/
import Derived.Test.YtfnlegnieilcbaaJ27
import Derived.Test.YtfnlegnieilcbaaJP0
namespace Go.Proofs.Ytfnlegnieilcbaa
open Go.ChangeShapes Go.WideShapes Go.ChangeAt Go.RowKit Go.Joins Go.Proofs.Kit

set_option maxRecDepth 100000 in
theorem tablePuts_lifted (os : Os) (started : os.Started) (H : Type) (enc : TypeId × Value → H) :
    ReturnsInHanded {} Try.checked os 4 .any (Rows.tablePutsSpec.pre6 enc Try.prog Try.f4 Rows.tablePutsRow.domain false) (Rows.tablePutsSpec.post enc Try.prog Try.f4 false true false false) := by
  refine returnsInHanded_of_change (C := Try.checked) own started (by kernel_rfl) Try.func4
    (ChangeSpec.witness6 (enc := enc) (C := Try.checked) false ⟨#[], #[.agg #[.slice none 0 0, .slice none 0 0], .slice none 0 0], []⟩ 8 (by kernel_rfl) (by kernel_rfl) (by kernel_rfl) (by kernel_rfl)) ?_
  intro W base args ds gs before hval0 hW _ _
  have hval : ∀ (j : Nat) t v, Try.f4.params[j]? = some t → args[j]? = some v → Value.okWide Try.prog W .any base t v := hval0
  have hW' := hW
  obtain ⟨p, q, hA0, hV, rfl, _, _⟩ := hW
  have hA : DataW.TrodAll enc Try.prog W 0 (fun _ => true) true Try.f4.params.toList args.toList ds p := hA0
  rw [Try.params4] at hA hval
  obtain ⟨v0, v1, d0, d1, p0, p1, rfl, rfl, rfl, h0, h1⟩ := trodAll_two hA
  obtain ⟨rfl, rfl⟩ := trodVars_none hV
  obtain ⟨oT, oS, nT, cT, nS, cS, T, S, rfl, e2, e3, e4, e5, e6, e7, e8⟩ := open_table (hval 0 25 v0 rfl rfl) h0
  obtain ⟨oX, nX, cX, tx, rfl, f1, f2, f3, f4, f5⟩ := open_texts (hval 1 22 v1 rfl rfl) h1
  refine (puts_true oT oS nT cT nS cS T S oX nX cX tx W e2 e3 e4 e5 e6 e7 e8 f1 f4 f5).mono fun e W' ⟨he, hb⟩ => ?_
  subst he
  exact ⟨_, rfl, law_post laidOut (by kernel_rfl) (by kernel_rfl : Try.f4.resultTypes = #[4]) Try.underlying4 rfl hW' rfl hb⟩

theorem tablePuts_holds : Rows.TablePutsSaid :=
  OpenClaim.holds_of_wide 4 Try.f4 rfl rfl rfl rfl rfl rfl rfl ⟨rfl, rfl, rfl, rfl, rfl⟩ rfl rfl rfl rfl rfl (by kernel_rfl) Try.func4 (by kernel_rfl)
    (of_decide_eq_true (by kernel_rfl)) (by unfold Func.isWrapper; first | (rw [if_pos (by decide +kernel)]; kernel_rfl) | (rw [if_neg (by decide +kernel)]; exact ⟨rfl, rfl⟩))
    (fun os started H enc _ => tablePuts_lifted os started H enc)
#print axioms tablePuts_holds
end Go.Proofs.Ytfnlegnieilcbaa
