/- WideAdds: sums, differences, products and the comparison are those of the numbers, and what does not fit is told: for every list of pairs the law returns true. No condition. -/
import Derived.Test.YtfknocgmobddmaaG12
import Derived.Test.YtfknocgmobddmaaP0
import Derived.Deep.SlicePairs
import Derived.OpenShut
namespace Go.Proofs.Ytfknocgmobddmaa
open Go.ChangeShapes Go.WideShapes Go.ChangeAt Go.RowKit Go.Joins Go.Proofs.Kit

theorem cells24 : Try.prog.cellsOf 24 = 1 := by kernel_rfl
theorem cells27 : Try.prog.cellsOf 27 = 4 := by kernel_rfl
theorem trod_wide {H : Type} {enc : TypeId × Value → H} {W : World} {fuel : Nat} {v0 v1 : Value} {x : DataW H × List MemPlace} (h : DataW.trod enc Try.prog W 0 (fun _ => true) true fuel 26 [v0, v1] = some x) :
    ∃ q : Int × Int, v0 = .int .u64 q.1 ∧ v1 = .int .u64 q.2 ∧ Wp q := by
  obtain ⟨xs, k, hk, hxy, _, hxl, hf⟩ := DataW.trod_struct Try.underlying26 h
  match xs, hxl with
  | [y0, y1], _ =>
    have g0 := hf 0 _ rfl
    have g1 := hf 1 _ rfl
    simp [cells24] at g0 g1
    obtain ⟨a, e0, _, wa⟩ := DataW.trod_int Try.underlying24 g0
    obtain ⟨b, e1, _, wb⟩ := DataW.trod_int Try.underlying24 g1
    simp at e0 e1
    exact ⟨(a, b), e0, e1, wd_of_wf wa, wd_of_wf wb⟩
theorem add_atQ (b off j : Nat) : (Addr.mk b off none).add j = ⟨b, off + j, none⟩ := by
  unfold Addr.add
  split
  · next h => subst h; rfl
  · rfl

set_option maxRecDepth 100000 in
/-- An argument that is a slice of pairs of wide numbers. -/
theorem open_widesQ {H : Type} {enc : TypeId × Value → H} {W : World} {r : Reach} {b0 : Nat} {v : Value} {d : DataW H} {p : List MemPlace} (hv : Value.okWide Try.prog W r b0 22 v) (h : DataW.Trod enc Try.prog W 0 (fun _ => true) true 22 v d p) :
    ∃ (o : Option Addr) (cap : Nat) (l : List ((Int × Int) × (Int × Int))), v = .slice o l.length cap ∧ l.length ≤ cap ∧ cap ≤ maxLen ∧ ArgQ W o l ∧ ∀ p ∈ l, Wp p.1 ∧ Wp p.2 := by
  obtain ⟨o, len, cap, rfl⟩ := okWide_slice Try.underlying22 hv
  obtain ⟨fuel, hf⟩ := h
  rcases Deep.open_slice Try.underlying22 hf with ⟨h0, _⟩ | ⟨a, len', cap', m, n, D, Pl, h0, _, hlc, hcm, hm, _, hx⟩
  · simp [Value.cells] at h0
    obtain ⟨rfl, rfl, rfl⟩ := h0
    exact ⟨none, 0, [], rfl, by simp, by simp, .inl rfl, by simp⟩
  · simp [Value.cells] at h0
    obtain ⟨rfl, rfl, rfl⟩ := h0
    have hlm : len ≤ m := by rw [hm]; simp; exact hlc
    have each : ∀ i, i < len → ∃ q : (Int × Int) × (Int × Int), (W.cell? (a.add (i * 4)) = some (.int .u64 q.1.1) ∧ W.cell? (a.add (i * 4 + 1)) = some (.int .u64 q.1.2) ∧ W.cell? (a.add (i * 4 + 2)) = some (.int .u64 q.2.1) ∧ W.cell? (a.add (i * 4 + 3)) = some (.int .u64 q.2.2)) ∧ Wp q.1 ∧ Wp q.2 := by
      intro i hi
      obtain ⟨cs', h1, h2⟩ := hx i (by omega)
      rw [cells27] at h1
      obtain ⟨_, hlen, hcell⟩ := World.cells?_some h1
      obtain ⟨ys, k2, hk2, _, _, hyl, hg⟩ := DataW.trod_array Try.underlying27 h2
      have a0 := hg 0 (by decide)
      have a1 := hg 1 (by decide)
      match ys, hyl, cs', hlen with
      | [y0, y1], _, [v0, v1, v2, v3], _ =>
        simp [cells26] at a0 a1
        obtain ⟨q0, e0, e1, w0⟩ := trod_wide a0
        obtain ⟨q1, e2, e3, w1⟩ := trod_wide a1
        have f0 := hcell 0 (by omega)
        have f1 := hcell 1 (by omega)
        have f2 := hcell 2 (by omega)
        have f3 := hcell 3 (by omega)
        rw [Deep.add_add] at f0 f1 f2 f3
        subst e0 e1 e2 e3
        exact ⟨(q0, q1), ⟨by simpa using f0, by simpa using f1, by simpa using f2, by simpa using f3⟩, w0, w1⟩
    obtain ⟨q, hq⟩ := Deep.choose_lt each
    refine ⟨some a, cap, (List.range len).map q, by simp, by simpa using hlc, hcm, ?_, ?_⟩
    · by_cases h0 : len = 0
      · exact .inl (by rw [h0]; rfl)
      · have e0 := (hq 0 (by omega)).1.1
        obtain ⟨b, off, spot⟩ := a
        have hspot : spot = none := by simpa [Addr.add] using World.cell?_spot e0
        subst hspot
        have hb := World.block_lt_of_cell? _ _ e0
        rw [add_atQ] at hb
        refine .inr ⟨b, off, rfl, hb, fun k hk => ?_⟩
        have hk' : k < len := by simpa using hk
        obtain ⟨⟨f0, f1, f2, f3⟩, _⟩ := hq k hk'
        rw [add_atQ] at f0 f1 f2 f3
        simp only [List.getElem_map, List.getElem_range]
        exact ⟨f0, f1, f2, f3⟩
    · intro p hp
      obtain ⟨i, hi, rfl⟩ := List.mem_map.1 hp
      exact (hq i (List.mem_range.1 hi)).2

set_option maxRecDepth 100000 in
theorem wideAdds_lifted (os : Os) (started : os.Started) (H : Type) (enc : TypeId × Value → H) :
    ReturnsInHanded {} Try.checked os 3 .any (Rows.wideAddsSpec.pre6 enc Try.prog Try.f3 Rows.wideAddsRow.domain false) (Rows.wideAddsSpec.post enc Try.prog Try.f3 false true false false) := by
  refine returnsInHanded_of_change (C := Try.checked) own started (by kernel_rfl) Try.func3
    (ChangeSpec.witness6 (enc := enc) (C := Try.checked) false ⟨#[], #[.slice none 0 0], []⟩ 8 (by kernel_rfl) (by kernel_rfl) (by kernel_rfl) (by kernel_rfl)) ?_
  intro W base args ds gs before hval0 hW _ _
  have hval : ∀ (j : Nat) t v, Try.f3.params[j]? = some t → args[j]? = some v → Value.okWide Try.prog W .any base t v := hval0
  have hW' := hW
  obtain ⟨p, q, hA0, hV, rfl, _, _⟩ := hW
  have hA : DataW.TrodAll enc Try.prog W 0 (fun _ => true) true Try.f3.params.toList args.toList ds p := hA0
  rw [Try.params3] at hA hval
  obtain ⟨v0, d0, rfl, rfl, h0⟩ := trodAll_one hA
  obtain ⟨rfl, rfl⟩ := trodVars_none hV
  obtain ⟨o, cap, l, rfl, hlc, hm, hl, hp⟩ := open_widesQ (hval 0 22 v0 rfl rfl) h0
  refine (adds_at o l.length cap l hlc hm rfl W hl hp).mono fun e W' ⟨he, hb⟩ => ?_
  subst he
  exact ⟨_, rfl, law_post laidOut (by kernel_rfl) (by kernel_rfl : Try.f3.resultTypes = #[4]) Try.underlying4 rfl hW' rfl hb⟩

theorem wideAdds_holds : Rows.WideAddsSaid :=
  OpenClaim.holds_of_wide 3 Try.f3 rfl rfl rfl rfl rfl rfl rfl ⟨rfl, rfl, rfl, rfl, rfl⟩ rfl rfl rfl rfl rfl (by kernel_rfl) Try.func3 (by kernel_rfl)
    (of_decide_eq_true (by kernel_rfl)) (by unfold Func.isWrapper; first | (rw [if_pos (by decide +kernel)]; kernel_rfl) | (rw [if_neg (by decide +kernel)]; exact ⟨rfl, rfl⟩))
    (fun os started H enc _ => wideAdds_lifted os started H enc)
#print axioms wideAdds_holds
end Go.Proofs.Ytfknocgmobddmaa
