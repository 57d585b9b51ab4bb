/- tiers.copied. -/
import Derived.Test.YtcapmhmlipmciaaW3
namespace Go.Proofs.Ytcapmhmlipmciaa
open Go.RowKit Go.Proofs.Kit
set_option maxRecDepth 100000 in
set_option maxHeartbeats 4000000 in
theorem copied11_any (v : Value) (L : List Tr) (w : World) (h : SegT w v L) (hl : L.length ≤ 100) (hs : ∀ t ∈ L, t.1.length ≤ 1000000 ∧ t.2.length ≤ 1000000) :
    Calls Try.prog 48 #[v] w fun e w' => ∃ v', e = .returned v' ∧ OwnT 36 38 w.heap.size w' v' L ∧ v' ≠ .slice none 0 0 ∧ Below w.heap.size w w' := by
  obtain ⟨o, c, rfl, hc, hm⟩ := h.shape
  obtain ⟨n, hn⟩ : ∃ n, n = L.length := ⟨_, rfl⟩
  rw [← hn] at h hc hl ⊢
  have HL := Lib.hid hn.symm
  have HA := Lib.hid h
  have HS := Lib.hid hs
  clear h hn hs
  obtain ⟨i0, hi, hz0, hz1, hz2⟩ := infoT
  have hmix := mixed
  go_enter Try.func48, Try.ntmps48
  go_wp2_with (refine wpList_make_own _ rfl _ _ _ rfl w.heap.size 38 i0 (.agg #[.slice none 0 0, .slice none 0 0]) 2 Try.underlying22 hi hz0 hz1 .i64 .i64 _ n rfl rfl rfl ?ma ?mb ?mc ?_)
  case ma => rw [hz2]; omega
  case mb => unfold maxLen; omega
  case mc => exact Nat.le_refl _
  intro w1 ho1 hg1
  have hb1 : Below w.heap.size w w1 := (Below.refl _ _).grown hg1 (Nat.le_refl _) (fun _ h => by cases h)
  have hO : OwnT 36 38 w.heap.size w1 (.slice (some ⟨w.heap.size, 0, none⟩) 0 n) [] := ⟨[], ⟨by simp [tiE], ho1⟩, rfl, fun i h _ => by simp at h⟩
  have HO1 := Lib.hid hO
  have HB1 := Lib.hid hb1
  clear ho1 hg1 hO hb1
  go_wp2_with fail
  go_loopw [3, 11] (fun s3 s8 wr => ∃ k : Nat, k ≤ n ∧ s8 = .int .i64 (k : Int) ∧ Hid (OwnT 36 38 w.heap.size wr s3 (L.take k)) ∧ Hid (Below w.heap.size w wr) ∧ s3 ≠ .slice none 0 0) (fun _ s8 _ => n - (intOf s8).toNat)
  case atStart => exact ⟨0, Nat.zero_le _, rfl, Lib.hid HO1.out, Lib.hid HB1.out, by simp⟩
  case round =>
    obtain ⟨k, hk, rfl, HO, HB, hne⟩ := hrel
    by_cases hlt : k < n
    · have hkl : k < L.length := by have := HL.out; omega
      obtain ⟨b, f, x, rfl, _, lb0, d0, d1, hx⟩ := (HA.out.later HB.out).at hkl
      obtain ⟨ao, an, ac, bo, bn, bc⟩ := x
      simp only at d0 d1
      obtain ⟨h1, h2⟩ := HS.out _ (List.getElem_mem hkl)
      have gA := (Gr.alloc wr (.cells #[.slice ao an ac, .slice bo bn bc] 38)).below
      have HN := Lib.hid (List.take_succ_eq_append_getElem hkl)
      have HFA := Lib.hid (fun W (hb : Below wr.heap.size wr W) => copyOf_any _ L[k].1 W (hx.a.later hb) (by omega))
      have HFB := Lib.hid (fun W (hb : Below wr.heap.size wr W) => copyOf_any _ L[k].2 W (hx.b.later hb) (by omega))
      obtain ⟨l, hot⟩ := HO.out.open
      have hlen := hot.len
      have hll : l.length ≤ 100 := by rw [hlen]; simp; omega
      obtain ⟨oo, cc, rfl⟩ := hot.own.shape
      obtain ⟨nl, hnl⟩ : ∃ nl, nl = l.length := ⟨_, rfl⟩
      rw [← hnl] at hot ⊢
      have HNL := Lib.hid hnl
      have hl2 : nl ≤ 100 := by omega
      clear h1 h2 hx hnl hlen hll hne
      go_wp2_with fail
      obtain ⟨W1, hW1⟩ : ∃ W1, W1 = wr.alloc (.cells #[.slice ao an ac, .slice bo bn bc] 38) := ⟨_, rfl⟩
      have tw : TW 38 wr wr.heap.size (.slice ao an ac) (.slice bo bn bc) W1 := by rw [hW1]; exact ⟨Blk.new _ _ _, gA⟩
      have hot1 : OT 36 38 w.heap.size W1 (.slice oo nl cc) l (L.take k) := by rw [hW1]; exact hot.later gA
      rw [← hW1]
      clear hW1 gA hot d0 d1 lb0
      have c0 := tw.k.cell 0
      have c1 := tw.k.cell 1
      have lb := tw.k.lt
      simp only [List.getElem?_toArray, List.getElem?_cons_zero, List.getElem?_cons_succ] at c0 c1
      have hbw := HB.out.size
      go_region_law (first
        | (go_simp; go_at_call 62; (with_reducible refine (HFA.out _ tw.drew.low).mono ?_); rintro e wS ⟨vA, rfl, hA, bS⟩; obtain ⟨oA, nA, xA, rfl⟩ := hA.any; have hA := hA.mono (B' := w.heap.size) (by have := tw.drew.low.size; omega); have tw := tw.drew.later bS; have hot1 := hot1.drew.later bS; obtain ⟨c0, c1⟩ : wS.cell? ⟨wr.heap.size, 0, none⟩ = some (.slice ao an ac) ∧ wS.cell? ⟨wr.heap.size, 1, none⟩ = some (.slice bo bn bc) := ⟨tw.k.cell 0, tw.k.cell 1⟩; clear bS)
        | (go_simp; go_at_call 62; (with_reducible refine (HFB.out _ tw.low).mono ?_); rintro e wT ⟨vB, rfl, hB, bS⟩; obtain ⟨oB, nB, xB, rfl⟩ := hB.any; have hB := hB.mono (B' := w.heap.size) (by have := tw.low.size; omega); have hA := hA.later bS; have tw := tw.later bS; have hot1 := hot1.later bS; clear bS)
        | (refine step_append_segE (E := tiE) rfl _ _ 22 (by rfl) w.heap.size 38 i0 (.agg #[.slice none 0 0, .slice none 0 0]) 48 Try.underlying22 hi hz0 hz1 hz2 rfl _ l (by rfl) (hot1.own.later (Gr.alloc _ _).below) _ [⟨oA, nA, xA, oB, nB, xB⟩] (by rfl) (SegE.of_blk (E := tiE) (l := [⟨oA, nA, xA, oB, nB, xB⟩]) (cap := 1) (Blk.new _ _ _) (by simp) (by decide) rfl) (by simp) (by show (_ + 1) * 2 ≤ _; have := HNL.out; omega) (by show (_ + 1) * 48 ≤ _; have := HNL.out; omega) (by have := tw.low.size; simp; omega) ?_; intro v' w3 hO3 hb3 hg3))
      all_goals
        have hT : OwnT 36 38 w.heap.size w3 v' (L.take (k + 1)) := by
          rw [HN.out]
          have gA := (Gr.alloc wT (.cells #[.slice oA nA xA, .slice oB nB xB] 38)).below
          have hot2 := hot1.later gA
          exact OwnT.snoc hot2.own hot2.len hot2.each (x := ⟨oA, nA, xA, oB, nB, xB⟩) ⟨hA.later gA, hB.later gA⟩ hO3 hg3 (by decide)
        have hlow : Below w.heap.size w w3 := by
          have h1 := HB.out.trans (tw.low.mono HB.out.size)
          exact (h1.alloc h1.size _).trans hb3
        have HNE := Lib.hid (show v' ≠ .slice none 0 0 by rintro rfl; have := hT.shape; obtain ⟨_, _, e⟩ := this; injection e with _ e2 _; simp at e2; omega)
        have HT := Lib.hid hT
        have HLow := Lib.hid hlow
        clear hT hlow hO3 hb3 hg3
        go_wp2
        go_roundw
        case rel => exact ⟨k + 1, by omega, by go_num, HT, HLow, HNE.out⟩
        case measure => simp [intOf]; omega
    · have HT := Lib.hid (show L.take k = L from List.take_of_length_le (by have := HL.out; omega))
      go_wp2
      go_ret
      rw [HT.out] at HO
      exact ⟨_, rfl, HO.out, hne, HB.out⟩
end Go.Proofs.Ytcapmhmlipmciaa

