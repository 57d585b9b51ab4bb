/- ViewSeeks: Seek is as many Next as it takes, and no more; twice it is as once: for all tiers and two pairs the law returns true. No condition. -/
import Derived.Test.YtlhigfphfbmbjaaZ20
import Derived.Test.YtlhigfphfbmbjaaWP0
namespace Go.Proofs.Ytlhigfphfbmbjaa
open Go.ChangeShapes Go.WideShapes Go.ChangeAt Go.RowKit Go.Joins Go.Proofs.Kit

set_option maxRecDepth 100000 in
/-- An argument that is a pair. -/
theorem open_pair9 {H : Type} {enc : TypeId × Value → H} {W : World} {r : Reach} {b0 : Nat} {v : Value} {d : DataW H} {p : List MemPlace} (hv : Value.okWide Try.prog W r b0 53 v) (h : DataW.Trod enc Try.prog W 0 (fun _ => true) true 53 v d p) :
    ∃ a b : Int, v = PV a b := by
  simp only [Value.okWide, Try.underlying53] at hv
  obtain ⟨cs, rfl, hcs, _⟩ := hv
  obtain ⟨fuel, hf⟩ := h
  obtain ⟨xs, k, _, _, hlen, hxl, hg⟩ := DataW.trod_struct Try.underlying53 hf
  rw [cellsP] at hcs hlen
  have g0 := hg 0 _ rfl
  have g1 := hg 1 _ rfl
  obtain ⟨cs⟩ := cs
  match cs, hcs, xs, hxl with
  | [v0, v1], _, [y0, y1], _ =>
    simp [Value.cells, cells_u64] at g0 g1
    obtain ⟨a, e0, _, _⟩ := DataW.trod_int Try.underlying51 g0
    obtain ⟨b, e1, _, _⟩ := DataW.trod_int Try.underlying51 g1
    simp at e0 e1
    subst e0 e1
    exact ⟨a, b, rfl⟩
set_option maxRecDepth 100000 in
theorem viewSeeks_lifted (os : Os) (started : os.Started) (H : Type) (enc : TypeId × Value → H) :
    ReturnsInHanded {} Try.checked os 9 .any (Rows.viewSeeksSpec.pre6 enc Try.prog Try.f9 Rows.viewSeeksRow.domain false) (Rows.viewSeeksSpec.post enc Try.prog Try.f9 false true false false) := by
  refine returnsInHanded_of_change (C := Try.checked) own started (by kernel_rfl) Try.func9
    (ChangeSpec.witness6 (enc := enc) (C := Try.checked) false ⟨#[], #[.slice none 0 0, .agg #[.int .u64 0, .int .u64 0], .agg #[.int .u64 0, .int .u64 0]], []⟩ 8 (by kernel_rfl) (by kernel_rfl) (by kernel_rfl) (by kernel_rfl)) ?_
  intro W base args ds gs before hval0 hW _ _
  have hval : ∀ (j : Nat) t v, Try.f9.params[j]? = some t → args[j]? = some v → Value.okWide Try.prog W .any base t v := hval0
  have hW' := hW
  obtain ⟨p, q, hA0, hV, rfl, _, _⟩ := hW
  have hA : DataW.TrodAll enc Try.prog W 0 (fun _ => true) true Try.f9.params.toList args.toList ds p := hA0
  rw [Try.params9] at hA hval
  obtain ⟨v0, v1, v2, d0, d1, d2, p0, p1, p2, rfl, rfl, rfl, h0, h1, h2⟩ := trodAll_three hA
  obtain ⟨rfl, rfl⟩ := trodVars_none hV
  obtain ⟨o, n, c, X, rfl, a1, a2, a3, a4, a5⟩ := open_argT (hval 0 45 v0 rfl rfl) h0
  obtain ⟨x1, x2, rfl⟩ := open_pair9 (hval 1 53 v1 rfl rfl) h1
  obtain ⟨y1, y2, rfl⟩ := open_pair9 (hval 2 53 v2 rfl rfl) h2
  refine (seeks_true o n c X x1 x2 y1 y2 W a1 a2 a3 a4 a5).mono fun e W' ⟨he, hb⟩ => ?_
  subst he
  exact ⟨_, rfl, law_post laidOut (by kernel_rfl) (by kernel_rfl : Try.f9.resultTypes = #[4]) Try.underlying4 rfl hW' rfl hb⟩

theorem viewSeeks_holds : Rows.ViewSeeksSaid :=
  OpenClaim.holds_of_wide 9 Try.f9 rfl rfl rfl rfl rfl rfl rfl ⟨rfl, rfl, rfl, rfl, rfl⟩ rfl rfl rfl rfl rfl (by kernel_rfl) Try.func9 (by kernel_rfl)
    (of_decide_eq_true (by kernel_rfl)) (by unfold Func.isWrapper; first | (rw [if_pos (by decide +kernel)]; kernel_rfl) | (rw [if_neg (by decide +kernel)]; exact ⟨rfl, rfl⟩))
    (fun os started H enc _ => viewSeeks_lifted os started H enc)
#print axioms viewSeeks_holds
end Go.Proofs.Ytlhigfphfbmbjaa

