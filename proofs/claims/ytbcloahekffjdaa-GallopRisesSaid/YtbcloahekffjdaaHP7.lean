/- GallopRises: of keys that rise the places do, and the looks by their logs: for every row, place and two keys the law returns true. No condition. -/
import Derived.Test.YtbcloahekffjdaaH28
import Derived.Test.YtbcloahekffjdaaHP0
namespace Go.Proofs.Ytbcloahekffjdaa
open Go.ChangeShapes Go.WideShapes Go.ChangeAt Go.RowKit Go.Joins Go.Proofs.Kit

/-- An array of two numbers. -/
theorem open_two {H : Type} {enc : TypeId × Value → H} {W : World} {r : Reach} {b0 : Nat} {v : Value} {d : DataW H} {p : List MemPlace} (hv : Value.okWide Try.prog W r b0 45 v) (h : DataW.Trod enc Try.prog W 0 (fun _ => true) true 45 v d p) :
    ∃ k0 k1 : Int, v = .agg #[.int .u64 k0, .int .u64 k1] := by
  simp only [Value.okWide, Try.underlying45] at hv
  obtain ⟨cs, rfl, hcs, _⟩ := hv
  obtain ⟨fuel, hf⟩ := h
  obtain ⟨ys, k2, _, _, hlen, hyl, hg⟩ := DataW.trod_array Try.underlying45 hf
  have c2 : Try.prog.cellsOf 45 = 2 := by kernel_rfl
  rw [c2] at hcs hlen
  have g0 := hg 0 (by decide)
  have g1 := hg 1 (by decide)
  rw [cells_u64] at g0 g1
  obtain ⟨cs⟩ := cs
  match cs, hcs, ys, hyl with
  | [x, y], _, [y0, y1], _ =>
    simp [Value.cells] at g0 g1
    obtain ⟨n0, e0, _, _⟩ := DataW.trod_int Try.underlying27 g0
    obtain ⟨n1, e1, _, _⟩ := DataW.trod_int Try.underlying27 g1
    injection e0 with e0 _
    injection e1 with e1 _
    exact ⟨n0, n1, by rw [e0, e1]⟩

set_option maxRecDepth 100000 in
theorem gallopRises_lifted (os : Os) (started : os.Started) (H : Type) (enc : TypeId × Value → H) :
    ReturnsInHanded {} Try.checked os 7 .any (Rows.gallopRisesSpec.pre6 enc Try.prog Try.f7 Rows.gallopRisesRow.domain false) (Rows.gallopRisesSpec.post enc Try.prog Try.f7 false true false false) := by
  refine returnsInHanded_of_change (C := Try.checked) own started (by kernel_rfl) Try.func7
    (ChangeSpec.witness6 (enc := enc) (C := Try.checked) false ⟨#[], #[.slice none 0 0, .int .i64 0, .agg #[.int .u64 0, .int .u64 0]], []⟩ 8 (by kernel_rfl) (by kernel_rfl) (by kernel_rfl) (by kernel_rfl)) ?_
  intro W base args ds gs before hval0 hW _ _
  have hval : ∀ (j : Nat) t v, Try.f7.params[j]? = some t → args[j]? = some v → Value.okWide Try.prog W .any base t v := hval0
  have hW' := hW
  obtain ⟨p, q, hA0, hV, rfl, _, _⟩ := hW
  have hA : DataW.TrodAll enc Try.prog W 0 (fun _ => true) true Try.f7.params.toList args.toList ds p := hA0
  rw [Try.params7] at hA hval
  obtain ⟨v0, v1, v2, d0, d1, d2, p0, p1, p2, rfl, rfl, rfl, h0, h1, h2⟩ := trodAll_three hA
  obtain ⟨rfl, rfl⟩ := trodVars_none hV
  obtain ⟨o, n, c, l, rfl, hl, hc, hm, ha, _⟩ := open_argI Try.underlying22 Try.underlying27 cells_u64 (hval 0 22 v0 rfl rfl) h0
  obtain ⟨f, rfl, rfl, rfl, _⟩ := open_int Try.underlying3 (hval 1 3 v1 rfl rfl) h1
  obtain ⟨k0, k1, rfl⟩ := open_two (hval 2 45 v2 rfl rfl) h2
  refine (rises_true o n c l f k0 k1 W hl hc hm ha).mono fun e W' ⟨he, hb⟩ => ?_
  subst he
  exact ⟨_, rfl, law_post laidOut (by kernel_rfl) (by kernel_rfl : Try.f7.resultTypes = #[4]) Try.underlying4 rfl hW' rfl hb⟩

theorem gallopRises_holds : Rows.GallopRisesSaid :=
  OpenClaim.holds_of_wide 7 Try.f7 rfl rfl rfl rfl rfl rfl rfl ⟨rfl, rfl, rfl, rfl, rfl⟩ rfl rfl rfl rfl rfl (by kernel_rfl) Try.func7 (by kernel_rfl)
    (of_decide_eq_true (by kernel_rfl)) (by unfold Func.isWrapper; first | (rw [if_pos (by decide +kernel)]; kernel_rfl) | (rw [if_neg (by decide +kernel)]; exact ⟨rfl, rfl⟩))
    (fun os started H enc _ => gallopRises_lifted os started H enc)
#print axioms gallopRises_holds
end Go.Proofs.Ytbcloahekffjdaa
