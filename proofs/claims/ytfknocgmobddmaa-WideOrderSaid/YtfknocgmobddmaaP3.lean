/- WideOrder: a sum is the same in whatever order, a product too; Compare the other way round has the other sign; what is multiplied part by part is what is multiplied whole: for every list of numbers and every two numbers the law returns true. No condition. -/
import Derived.Test.YtfknocgmobddmaaO4
import Derived.Test.YtfknocgmobddmaaP0
import Derived.Deep.SlicePairs
namespace Go.Proofs.Ytfknocgmobddmaa
open Go.ChangeShapes Go.WideShapes Go.ChangeAt Go.RowKit Go.Joins Go.Proofs.Kit

set_option maxRecDepth 100000 in
/-- An argument that is a slice of wide numbers. -/
theorem open_wides {H : Type} {enc : TypeId × Value → H} {W : World} {r : Reach} {b0 : Nat} {v : Value} {d : DataW H} {p : List MemPlace} (hv : Value.okWide Try.prog W r b0 38 v) (h : DataW.Trod enc Try.prog W 0 (fun _ => true) true 38 v d p) :
    ∃ (o : Option Addr) (cap : Nat) (l : List (Int × Int)), v = .slice o l.length cap ∧ l.length ≤ cap ∧ cap ≤ maxLen ∧ ArgW W o cap l ∧ ∀ p ∈ l, Wp p := by
  obtain ⟨o, len, cap, rfl⟩ := okWide_slice Try.underlying38 hv
  obtain ⟨fuel, hf⟩ := h
  rcases Deep.open_slice_pairs Try.underlying38 Try.underlying26 cells26 (by kernel_rfl) (by kernel_rfl) (by kernel_rfl) (by kernel_rfl) hf with ⟨h0, _⟩ | ⟨a, len', cap', m, n, V0, V1, D0, D1, P0, P1, h0, _, hlc, hcm, hm, _, hx⟩
  · simp [Value.cells] at h0
    obtain ⟨rfl, rfl, rfl⟩ := h0
    exact ⟨none, 0, [], rfl, by simp, by simp, .inl ⟨rfl, rfl, rfl⟩, by simp⟩
  · simp [Value.cells] at h0
    obtain ⟨rfl, rfl, rfl⟩ := h0
    have hlm : len ≤ m := by rw [hm]; simp; exact hlc
    have each : ∀ i, i < len → ∃ q : Int × Int, W.cell? (a.add (i * 2)) = some (.int .u64 q.1) ∧ W.cell? (a.add (i * 2 + 1)) = some (.int .u64 q.2) ∧ Wp q := by
      intro i hi
      obtain ⟨e0, e1, t0, t1⟩ := hx i (by omega)
      obtain ⟨x, z0, _, wx⟩ := DataW.trod_int Try.underlying24 t0
      obtain ⟨y, z1, _, wy⟩ := DataW.trod_int Try.underlying24 t1
      simp at z0 z1
      rw [z0] at e0
      rw [z1] at e1
      exact ⟨(x, y), e0, e1, wd_of_wf wx, wd_of_wf wy⟩
    obtain ⟨q, hq⟩ := Deep.choose_lt each
    refine ⟨some a, cap, (List.range len).map q, by simp, by simpa using hlc, hcm, .inr ⟨a, rfl, fun k hk => ?_⟩, ?_⟩
    · have hk' : k < len := by simpa using hk
      obtain ⟨e0, e1, _⟩ := hq k hk'
      have hb := World.block_lt_of_cell? _ _ e0
      rw [add_block] at hb
      simp only [List.getElem_map, List.getElem_range]
      exact ⟨hb, e0, e1⟩
    · intro p hp
      obtain ⟨i, hi, rfl⟩ := List.mem_map.1 hp
      exact (hq i (List.mem_range.1 hi)).2.2

set_option maxRecDepth 100000 in
theorem wideOrder_lifted (os : Os) (started : os.Started) (H : Type) (enc : TypeId × Value → H) :
    ReturnsInHanded {} Try.checked os 8 .any (Rows.wideOrderSpec.pre6 enc Try.prog Try.f8 Rows.wideOrderRow.domain false) (Rows.wideOrderSpec.post enc Try.prog Try.f8 false true false false) := by
  refine returnsInHanded_of_change (C := Try.checked) own started (by kernel_rfl) Try.func8
    (ChangeSpec.witness6 (enc := enc) (C := Try.checked) false ⟨#[], #[.slice none 0 0, WV 0 0, WV 0 0], []⟩ 8 (by kernel_rfl) (by kernel_rfl) (by kernel_rfl) (by kernel_rfl)) ?_
  intro W base args ds gs before hval0 hW _ _
  have hval : ∀ (j : Nat) t v, Try.f8.params[j]? = some t → args[j]? = some v → Value.okWide Try.prog W .any base t v := hval0
  have hW' := hW
  obtain ⟨p, q, hA0, hV, rfl, _, _⟩ := hW
  have hA : DataW.TrodAll enc Try.prog W 0 (fun _ => true) true Try.f8.params.toList args.toList ds p := hA0
  rw [Try.params8] at hA hval
  obtain ⟨v0, v1, v2, d0, d1, d2, p0, p1, p2, rfl, rfl, rfl, h0, h1, h2⟩ := trodAll_three hA
  obtain ⟨rfl, rfl⟩ := trodVars_none hV
  obtain ⟨o, cap, l, rfl, hlc, hm, hl, hp⟩ := open_wides (hval 0 38 v0 rfl rfl) h0
  obtain ⟨a, b, rfl, wa, wb⟩ := open_wide (hval 1 26 v1 rfl rfl) h1
  obtain ⟨c, d, rfl, wc, wd⟩ := open_wide (hval 2 26 v2 rfl rfl) h2
  refine (order_true o cap l hlc hm a b c d wa wb wc wd W hl hp).mono fun e W' ⟨he, hb⟩ => ?_
  subst he
  exact ⟨_, rfl, law_post laidOut (by kernel_rfl) (by kernel_rfl : Try.f8.resultTypes = #[4]) Try.underlying4 rfl hW' rfl hb⟩

theorem wideOrder_holds : Rows.WideOrderSaid :=
  OpenClaim.holds_of_wide 8 Try.f8 rfl rfl rfl rfl rfl rfl rfl ⟨rfl, rfl, rfl, rfl, rfl⟩ rfl rfl rfl rfl rfl (by kernel_rfl) Try.func8 (by kernel_rfl)
    (of_decide_eq_true (by kernel_rfl)) (by unfold Func.isWrapper; first | (rw [if_pos (by decide +kernel)]; kernel_rfl) | (rw [if_neg (by decide +kernel)]; exact ⟨rfl, rfl⟩))
    (fun os started H enc _ => wideOrder_lifted os started H enc)
#print axioms wideOrder_holds
end Go.Proofs.Ytfknocgmobddmaa
