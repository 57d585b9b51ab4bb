/- TableTells: which tables may be, what they find, and the texts of numbers, and hashes: for every table, row of texts, and row of numbers the law returns true. No condition. -/
import Derived.Test.YtfnlegnieilcbaaJ22
import Derived.Test.YtfnlegnieilcbaaJP0
namespace Go.Proofs.Ytfnlegnieilcbaa
open Go.ChangeShapes Go.WideShapes Go.ChangeAt Go.RowKit Go.Joins Go.Proofs.Kit

set_option maxRecDepth 100000 in
theorem tableTells_lifted (os : Os) (started : os.Started) (H : Type) (enc : TypeId × Value → H) :
    ReturnsInHanded {} Try.checked os 3 .any (Rows.tableTellsSpec.pre6 enc Try.prog Try.f3 Rows.tableTellsRow.domain false) (Rows.tableTellsSpec.post enc Try.prog Try.f3 false true false false) := by
  refine returnsInHanded_of_change (C := Try.checked) own started (by kernel_rfl) Try.func3
    (ChangeSpec.witness6 (enc := enc) (C := Try.checked) false ⟨#[], #[.agg #[.slice none 0 0, .slice none 0 0], .slice none 0 0, .slice none 0 0], []⟩ 8 (by kernel_rfl) (by kernel_rfl) (by kernel_rfl) (by kernel_rfl)) ?_
  intro W base args ds gs before hval0 hW _ _
  have hval : ∀ (j : Nat) t v, Try.f3.params[j]? = some t → args[j]? = some v → Value.okWide Try.prog W .any base t v := hval0
  have hW' := hW
  obtain ⟨p, q, hA0, hV, rfl, _, _⟩ := hW
  have hA : DataW.TrodAll enc Try.prog W 0 (fun _ => true) true Try.f3.params.toList args.toList ds p := hA0
  rw [Try.params3] at hA hval
  obtain ⟨v0, v1, v2, d0, d1, d2, p0, p1, p2, rfl, rfl, rfl, h0, h1, h2⟩ := trodAll_three hA
  obtain ⟨rfl, rfl⟩ := trodVars_none hV
  obtain ⟨oT, oS, nT, cT, nS, cS, T, S, rfl, e2, e3, e4, e5, e6, e7, e8⟩ := open_table (hval 0 25 v0 rfl rfl) h0
  obtain ⟨oX, nX, cX, tx, rfl, f1, f2, f3, f4, f5⟩ := open_texts (hval 1 22 v1 rfl rfl) h1
  obtain ⟨oN, nN, cN, ns, rfl, i1, i2, i3, i4, i5⟩ := open_nums (hval 2 23 v2 rfl rfl) h2
  refine (tells_true oT oS nT cT nS cS T S oX nX cX tx oN nN cN ns W e2 e3 e4 e5 e6 e7 e8 f1 (by omega) f4 f5 i1 (by omega) i4).mono fun e W' ⟨he, hb⟩ => ?_
  subst he
  exact ⟨_, rfl, law_post laidOut (by kernel_rfl) (by kernel_rfl : Try.f3.resultTypes = #[4]) Try.underlying4 rfl hW' rfl hb⟩

theorem tableTells_holds : Rows.TableTellsSaid :=
  OpenClaim.holds_of_wide 3 Try.f3 rfl rfl rfl rfl rfl rfl rfl ⟨rfl, rfl, rfl, rfl, rfl⟩ rfl rfl rfl rfl rfl (by kernel_rfl) Try.func3 (by kernel_rfl)
    (of_decide_eq_true (by kernel_rfl)) (by unfold Func.isWrapper; first | (rw [if_pos (by decide +kernel)]; kernel_rfl) | (rw [if_neg (by decide +kernel)]; exact ⟨rfl, rfl⟩))
    (fun os started H enc _ => tableTells_lifted os started H enc)
#print axioms tableTells_holds
end Go.Proofs.Ytfnlegnieilcbaa
