/- tiers.Same. -/
import Derived.Test.YtlhigfphfbmbjaaW5
namespace Go.Proofs.Ytlhigfphfbmbjaa
open Go.RowKit Go.Proofs.Kit
set_option maxRecDepth 100000 in
set_option maxHeartbeats 2000000 in
theorem same1_any (x y : Ti) (t u : Tr) (w : World) (hx : TR w x t) (hy : TR w y u) (r : Bool) (hr : r = decide (t = u)) :
    Calls Try.prog 80 #[.agg #[.slice x.ao x.an x.ac, .slice x.bo x.bn x.bc], .agg #[.slice y.ao y.an y.ac, .slice y.bo y.bn y.bc]] w fun e w' => e = .returned (.bool r) ∧ Gr w w' := by
  obtain ⟨ao, an, ac, bo, bn, bc⟩ := x
  obtain ⟨ao', an', ac', bo', bn', bc'⟩ := y
  simp only
  have hr' : r = (decide (t.1 = u.1) && decide (t.2 = u.2)) := by
    rw [hr, ← Bool.decide_and]
    congr 1
    rw [Prod.ext_iff]
  obtain ⟨b1, hb1⟩ : ∃ b1, b1 = decide (t.1 = u.1) := ⟨_, rfl⟩
  obtain ⟨b2, hb2⟩ : ∃ b2, b2 = decide (t.2 = u.2) := ⟨_, rfl⟩
  rw [← hb1, ← hb2] at hr'
  have H1 := Lib.hid (fun W (hb : Gr w W) => equalP_seg _ _ t.1 u.1 W (hx.a.later hb.below) (hy.a.later hb.below))
  have H2 := Lib.hid (fun W (hb : Gr w W) => equalP_seg _ _ t.2 u.2 W (hx.b.later hb.below) (hy.b.later hb.below))
  rw [← hb1] at H1
  rw [← hb2] at H2
  simp only at H1 H2
  clear hr hb1 hb2 hx hy
  go_enter Try.func80, Try.ntmps80
  go_wp2_with fail
  obtain ⟨W1, hW1⟩ : ∃ W1, W1 = (w.alloc (.cells #[.slice ao an ac, .slice bo bn bc] 24)).alloc (.cells #[.slice ao' an' ac', .slice bo' bn' bc'] 24) := ⟨_, rfl⟩
  have G1 : Gr w W1 := by rw [hW1]; exact (Gr.alloc _ _).trans (Gr.alloc _ _)
  have k0 : Blk W1 w.heap.size #[.slice ao an ac, .slice bo bn bc] 24 := by rw [hW1]; exact (Blk.new _ _ _).alloc _
  have k1 : Blk W1 (w.heap.size + 1) #[.slice ao' an' ac', .slice bo' bn' bc'] 24 := by
    rw [hW1]
    have := Blk.new (w.alloc (.cells #[.slice ao an ac, .slice bo bn bc] 24)) #[.slice ao' an' ac', .slice bo' bn' bc'] 24
    simpa using this
  rw [← hW1]
  clear hW1
  refine (H1.out _ G1).mono ?_
  rintro e w1 ⟨rfl, g1⟩
  have k0 := k0.later g1.below
  have k1 := k1.later g1.below
  have G2 := G1.trans g1
  have e0 := k0.cell 0
  have e1 := k0.cell 1
  have e2 := k1.cell 0
  have e3 := k1.cell 1
  have l0 := k0.lt
  have l1 := k1.lt
  simp only [List.getElem?_toArray, List.getElem?_cons_zero, List.getElem?_cons_succ] at e0 e1 e2 e3
  clear k0 k1 g1 G1
  cases b1
  · subst hr'
    go_wp2
    go_ret
    exact ⟨rfl, G2⟩
  · simp only [Bool.true_and] at hr'
    subst hr'
    go_wp2_with fail
    refine (H2.out _ G2).mono ?_
    rintro e w2 ⟨rfl, g2⟩
    have G3 := G2.trans g2
    clear g2 G2 e0 e1 e2 e3
    go_wp2
    go_ret
    exact ⟨rfl, G3⟩
set_option maxRecDepth 100000 in
set_option maxHeartbeats 4000000 in
theorem equalFT_any (v1 v2 : Value) (L M : List Tr) (w : World) (h1 : SegT w v1 L) (h2 : SegT w v2 M) (r : Bool) (hr : r = decide (L = M)) :
    Calls Try.prog 79 #[v1, v2, .func (.func 80) #[] #[]] w fun e w' => e = .returned (.bool r) ∧ Gr w w' := by
  have hl1 := h1.len
  have hl2 := h2.len
  obtain ⟨o1, c1, rfl, hc1, hm1⟩ := h1.shape
  obtain ⟨o2, c2, rfl, hc2, hm2⟩ := h2.shape
  obtain ⟨n, hn⟩ : ∃ n, n = L.length := ⟨_, rfl⟩
  obtain ⟨m, hm⟩ : ∃ m, m = M.length := ⟨_, rfl⟩
  rw [← hn] at h1 hc1 hl1 ⊢
  rw [← hm] at h2 hc2 hl2 ⊢
  have HN := Lib.hid hn.symm
  have HM := Lib.hid hm.symm
  have HR := Lib.hid hr
  have HA := Lib.hid h1
  have HB := Lib.hid h2
  clear h1 h2 hn hm hr
  by_cases hnm : n = m
  · have t0 : ((n : Int) != (m : Int)) = false := by rw [hnm]; simp
    have HNM := Lib.hid hnm
    clear hnm
    go_enter Try.func79, Try.ntmps79
    go_wp2
    go_loopw [17] (fun i wr => ∃ k : Nat, k ≤ n ∧ i = .int .i64 (k : Int) ∧ Hid (L.take k = M.take k) ∧ Hid (Gr w wr)) (fun i _ => n - (intOf i).toNat)
    case atStart => exact ⟨0, Nat.zero_le _, rfl, Lib.hid (by simp), Lib.hid (Gr.refl _)⟩
    case round =>
      obtain ⟨k, hk, rfl, HE, HG⟩ := hrel
      by_cases hlt : k < n
      · have hkl : k < L.length := by have := HN.out; omega
        have hkm : k < M.length := by have := HM.out; have := HNM.out; omega
        have hkm' : k < m := by have := HNM.out; omega
        obtain ⟨b, f, x, rfl, _, lb0, d0, d1, hx⟩ := (HA.out.gr HG.out).at hkl
        obtain ⟨b', f', y, rfl, _, lb1, d2, d3, hy⟩ := (HB.out.gr HG.out).at hkm
        have HTL := Lib.hid (List.take_succ_eq_append_getElem hkl)
        have HTM := Lib.hid (List.take_succ_eq_append_getElem hkm)
        obtain ⟨tk, htk⟩ : ∃ tk, tk = decide (L[k] = M[k]) := ⟨_, rfl⟩
        have HTK := Lib.hid htk
        obtain ⟨W1, hW1⟩ : ∃ W1, W1 = (wr.alloc (.cells #[.slice x.ao x.an x.ac, .slice x.bo x.bn x.bc] 24)).alloc (.cells #[.slice y.ao y.an y.ac, .slice y.bo y.bn y.bc] 24) := ⟨_, rfl⟩
        have G1 : Gr wr W1 := by rw [hW1]; exact (Gr.alloc _ _).trans (Gr.alloc _ _)
        have HC := Lib.hid (same1_any x y _ _ W1 (hx.later G1.below) (hy.later G1.below) tk htk)
        have HG1 := Lib.hid (HG.out.trans G1)
        obtain ⟨ao, an, ac, bo, bn, bc⟩ := x
        obtain ⟨ao', an', ac', bo', bn', bc'⟩ := y
        simp only at d0 d1 d2 d3 HC hW1
        have d2' := (Gr.alloc wr (.cells #[.slice ao an ac, .slice bo bn bc] 24)).below.cell (p := ⟨b', f' + k * 2, none⟩) lb1
        have d3' := (Gr.alloc wr (.cells #[.slice ao an ac, .slice bo bn bc] 24)).below.cell (p := ⟨b', f' + k * 2 + 1, none⟩) lb1
        rw [d2] at d2'
        rw [d3] at d3'
        clear hx hy htk G1
        go_wp2_with fail
        rw [← hW1]
        clear hW1
        refine HC.out.mono ?_
        rintro e w2 ⟨rfl, g2⟩
        have HG2 := Lib.hid (HG1.out.trans g2)
        clear g2 d0 d1 d2 d3 d2' d3'
        cases tk
        · have hno : r = false := by
            rw [HR.out]
            refine decide_eq_false fun e => ?_
            have h := HTK.out
            subst e
            simp at h
          subst hno
          go_wp2
          go_ret
          exact ⟨rfl, HG2.out⟩
        · have HE2 : Hid (L.take (k + 1) = M.take (k + 1)) := Lib.hid (by
            rw [HTL.out, HTM.out, HE.out, of_decide_eq_true HTK.out.symm])
          go_wp2
          go_roundw
          case rel => exact ⟨k + 1, by omega, by go_num, HE2, HG2⟩
          case measure => simp [intOf]; omega
      · have hyes : r = true := by
          rw [HR.out]
          refine decide_eq_true ?_
          have := HE.out
          rwa [List.take_of_length_le (by have := HN.out; omega), List.take_of_length_le (by have := HM.out; have := HNM.out; omega)] at this
        subst hyes
        go_wp2
        go_ret
        exact ⟨rfl, HG.out⟩
  · have t0 : ((n : Int) != (m : Int)) = true := by simp; omega
    have hno : r = false := by
      rw [HR.out]
      refine decide_eq_false fun e => hnm ?_
      have := HN.out
      have := HM.out
      rw [e] at *
      omega
    subst hno
    go_enter Try.func79, Try.ntmps79
    go_wp2
    go_ret
    exact ⟨rfl, Gr.refl _⟩
set_option maxRecDepth 100000 in
set_option maxHeartbeats 1000000 in
theorem same11_any (v1 v2 : Value) (L M : List Tr) (w : World) (h1 : SegT w v1 L) (h2 : SegT w v2 M) (r : Bool) (hr : r = decide (L = M)) :
    Calls Try.prog 52 #[v1, v2] w fun e w' => e = .returned (.bool r) ∧ Gr w w' := by
  obtain ⟨o1, c1, rfl, _⟩ := h1.shape
  obtain ⟨o2, c2, rfl, _⟩ := h2.shape
  have H := Lib.hid (equalFT_any _ _ L M w h1 h2 r hr)
  clear h1 h2 hr
  go_enter Try.func52, Try.ntmps52
  go_wp2_with fail
  refine H.out.mono ?_
  rintro e w1 ⟨rfl, g1⟩
  go_wp2
  go_ret
  exact ⟨rfl, g1⟩
end Go.Proofs.Ytlhigfphfbmbjaa

