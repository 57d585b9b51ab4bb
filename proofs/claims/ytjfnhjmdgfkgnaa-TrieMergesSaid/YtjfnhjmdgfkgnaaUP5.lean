/- TrieMerges: merged is as of the union; two cuts, one behind the other, merged, are one cut: for all two runs and all three numbers the law returns true. No condition. -/
import Derived.Test.YtjfnhjmdgfkgnaaU37
import Derived.Test.YtjfnhjmdgfkgnaaVD
namespace Go.Proofs.Ytjfnhjmdgfkgnaa
open Go.ChangeShapes Go.WideShapes Go.ChangeAt Go.RowKit Go.Joins Go.Proofs.Kit

set_option maxRecDepth 100000 in
/-- An array of three numbers. -/
theorem open_three {H : Type} {enc : TypeId × Value → H} {W : World} {r : Reach} {b0 : Nat} {v : Value} {d : DataW H} {p : List MemPlace} (hv : Value.okWide Try.prog W r b0 52 v) (h : DataW.Trod enc Try.prog W 0 (fun _ => true) true 52 v d p) :
    ∃ k0 k1 k2 : Int, v = .agg #[.int .u64 k0, .int .u64 k1, .int .u64 k2] := by
  simp only [Value.okWide, Try.underlying52] at hv
  obtain ⟨cs, rfl, hcs, _⟩ := hv
  obtain ⟨fuel, hf⟩ := h
  obtain ⟨ys, k2, _, _, hlen, hyl, hg⟩ := DataW.trod_array Try.underlying52 hf
  have c2 : Try.prog.cellsOf 52 = 3 := by kernel_rfl
  rw [c2] at hcs hlen
  have g0 := hg 0 (by decide)
  have g1 := hg 1 (by decide)
  have g2 := hg 2 (by decide)
  rw [cells_u64] at g0 g1 g2
  obtain ⟨cs⟩ := cs
  match cs, hcs, ys, hyl with
  | [x, y, z], _, [y0, y1, y2], _ =>
    simp [Value.cells] at g0 g1 g2 g2
    obtain ⟨n0, e0, _, _⟩ := DataW.trod_int Try.underlying32 g0
    obtain ⟨n1, e1, _, _⟩ := DataW.trod_int Try.underlying32 g1
    obtain ⟨n2, e2, _, _⟩ := DataW.trod_int Try.underlying32 g2
    injection e0 with e0 _
    injection e1 with e1 _
    injection e2 with e2 _
    exact ⟨n0, n1, n2, by rw [e0, e1, e2]⟩

set_option maxRecDepth 100000 in
theorem trieMerges_lifted (os : Os) (started : os.Started) (H : Type) (enc : TypeId × Value → H) :
    ReturnsInHanded {} Try.checked os 5 .any (Rows.trieMergesSpec.pre6 enc Try.prog Try.f5 Rows.trieMergesRow.domain false) (Rows.trieMergesSpec.post enc Try.prog Try.f5 false true false false) := by
  refine returnsInHanded_of_change (C := Try.checked) own started (by kernel_rfl) Try.func5
    (ChangeSpec.witness6 (enc := enc) (C := Try.checked) false ⟨#[], #[.slice none 0 0, .slice none 0 0, .agg #[.int .u64 0, .int .u64 0, .int .u64 0]], []⟩ 8 (by kernel_rfl) (by kernel_rfl) (by kernel_rfl) (by kernel_rfl)) ?_
  intro W base args ds gs before hval0 hW _ _
  have hval : ∀ (j : Nat) t v, Try.f5.params[j]? = some t → args[j]? = some v → Value.okWide Try.prog W .any base t v := hval0
  have hW' := hW
  obtain ⟨p, q, hA0, hV, rfl, _, _⟩ := hW
  have hA : DataW.TrodAll enc Try.prog W 0 (fun _ => true) true Try.f5.params.toList args.toList ds p := hA0
  rw [Try.params5] at hA hval
  obtain ⟨v0, v1, v2, d0, d1, d2, p0, p1, p2, rfl, rfl, rfl, h0, h1, h2⟩ := trodAll_three hA
  obtain ⟨rfl, rfl⟩ := trodVars_none hV
  obtain ⟨ox, nx, cx, X, rfl, a1, a2, a3, a4, _⟩ := open_argP (hval 0 46 v0 rfl rfl) h0
  obtain ⟨oy, ny, cy, Y, rfl, b1, b2, b3, b4, _⟩ := open_argP (hval 1 46 v1 rfl rfl) h1
  obtain ⟨k0, k1, k2, rfl⟩ := open_three (hval 2 52 v2 rfl rfl) h2
  refine (trieMerges_true ox nx cx X oy ny cy Y k0 k1 k2 W a1 a2 a3 a4 b1 b2 b3 b4).mono fun e W' ⟨he, hb⟩ => ?_
  subst he
  exact ⟨_, rfl, law_post laidOut (by kernel_rfl) (by kernel_rfl : Try.f5.resultTypes = #[4]) Try.underlying4 rfl hW' rfl hb⟩

theorem trieMerges_holds : Rows.TrieMergesSaid :=
  OpenClaim.holds_of_wide 5 Try.f5 rfl rfl rfl rfl rfl rfl rfl ⟨rfl, rfl, rfl, rfl, rfl⟩ rfl rfl rfl rfl rfl (by kernel_rfl) Try.func5 (by kernel_rfl)
    (of_decide_eq_true (by kernel_rfl)) (by unfold Func.isWrapper; first | (rw [if_pos (by decide +kernel)]; kernel_rfl) | (rw [if_neg (by decide +kernel)]; exact ⟨rfl, rfl⟩))
    (fun os started H enc _ => trieMerges_lifted os started H enc)
#print axioms trieMerges_holds
end Go.Proofs.Ytjfnhjmdgfkgnaa

