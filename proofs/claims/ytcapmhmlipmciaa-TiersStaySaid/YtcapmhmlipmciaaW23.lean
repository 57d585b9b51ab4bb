/- TiersStay's walk. -/
import Derived.Test.YtcapmhmlipmciaaW20
import Derived.Test.YtcapmhmlipmciaaW22
namespace Go.Proofs.Ytcapmhmlipmciaa
open Go.RowKit Go.Proofs.Kit Go.Shelf
set_option maxRecDepth 100000 in
set_option maxHeartbeats 16000000 in
theorem stay_true (o : Option Addr) (n c : Nat) (X : List Tr) (w : World) (hl : X.length = n) (hc : n ≤ c) (hm : c ≤ 9223372036854775807) (ha : ArgT w o c X) (hw : Wl X) (f t : Int) :
    Calls Try.prog 6 #[.slice o n c, .agg #[.int .i64 f, .int .i64 t]] w fun e w' => e = .returned (.bool true) ∧ Below w.heap.size w w' := by
  have HA := Lib.hid (fun W (hb : Below w.heap.size w W) => own11_any o n c X W hl hc hm (ha.later hb))
  obtain ⟨L, hL⟩ : ∃ L, L = ownL X := ⟨_, rfl⟩
  rw [← hL] at HA
  have HW := Lib.hid (show Wl L by rw [hL]; exact ownL_w hw)
  have HS := Lib.hid (show SmT 16 L by rw [hL]; exact ownL_s X)
  have hL26 : L.length ≤ 26 := by rw [hL]; exact ownL_len X
  have HL26 := Lib.hid hL26
  clear hL hl ha hw hL26
  go_enter Try.func6, Try.ntmps6
  go_wp2_with fail
  have k0 := Blk.new w #[.int .i64 f, .int .i64 t] (48)
  have G0 := Gr.alloc w (.cells #[.int .i64 f, .int .i64 t] (48))
  refine (wakes11_true _).mono ?_
  rintro e w1 ⟨rfl, b1⟩
  have K1 := Lib.hid (k0.later b1)
  have L1 := Lib.hid (below_later G0.below b1)
  clear k0 G0 b1
  go_wp2_with fail
  refine (HA.out _ L1.out).mono ?_
  rintro e w2 ⟨v2, rfl, o2, b2⟩
  have K2 := Lib.hid (K1.out.later b2)
  have L2 := Lib.hid (below_later L1.out b2)
  have S2 := Lib.hid o2.seg
  have HC := Lib.hid (check11_any _ L w2 o2.seg (HS.out.mono (by decide)))
  obtain ⟨ol, cl, rfl, hcl, hml⟩ := o2.seg.shape
  obtain ⟨nl, hnl⟩ : ∃ nl, nl = L.length := ⟨_, rfl⟩
  rw [← hnl] at S2 HC hcl ⊢
  have HNL := Lib.hid hnl
  clear o2 b2 HA hnl
  by_cases hg : goodT L
  · have e1 : ckT L = 0 := ckT_yes hg
    rw [e1] at HC
    have HG := Lib.hid hg
    clear e1 hg
    go_wp2_with fail
    refine HC.out.mono ?_
    rintro e w3 ⟨rfl, b3⟩
    have K3 := Lib.hid (K2.out.later b3)
    have L3 := Lib.hid (below_later L2.out b3)
    have S3 := Lib.hid (S2.out.later b3)
    clear b3 HC
    go_wp2_with fail
    refine (content11_any _ L w3 S3.out HW.out (HS.out.mono (by decide))).mono ?_
    rintro e w4 ⟨v4, rfl, o4, b4⟩
    have K4 := Lib.hid (K3.out.later b4)
    have L4 := Lib.hid (below_later L3.out b4)
    have S4 := Lib.hid (S3.out.later b4)
    have C4 := Lib.hid o4.seg
    have hclen := cont_len HS.out
    obtain ⟨oc, cc, rfl⟩ := o4.shape
    obtain ⟨nc, hnc⟩ : ∃ nc, nc = (cont L).length := ⟨_, rfl⟩
    rw [← hnc] at C4 hclen ⊢
    have HNC := Lib.hid hnc
    have hnc1 : nc ≤ 800 := by have := HG.out.2; omega
    have e0 := K4.out.cell 0
    have e1 := K4.out.cell 1
    have l4 := K4.out.lt
    simp only [List.getElem?_toArray, List.getElem?_cons_zero, List.getElem?_cons_succ] at e0 e1
    clear o4 b4 hclen hnc
    have HSQ := Lib.hid (squash_any _ L f t w4 S4.out HW.out (HS.out.mono (by decide)))
    obtain ⟨se, hse⟩ : ∃ se, se = sqE L f t := ⟨_, rfl⟩
    rw [← hse] at HSQ
    have HSE := Lib.hid hse
    clear hse
    go_wp2_with fail
    refine HSQ.out.mono ?_
    rintro e w5 ⟨v5, rfl, o5, b5⟩
    have K5 := Lib.hid (K4.out.later b5)
    have L5 := Lib.hid (below_later L4.out b5)
    have S5 := Lib.hid (S4.out.later b5)
    have C5 := Lib.hid (C4.out.later b5)
    have R5 := Lib.hid o5.seg
    obtain ⟨oq, cq, rfl, hcq, hmq⟩ := o5.seg.shape
    obtain ⟨nq, hnq⟩ : ∃ nq, nq = (sqR L f t).length := ⟨_, rfl⟩
    rw [← hnq] at R5 hcq ⊢
    have HNQ := Lib.hid hnq
    have e0 := K5.out.cell 0
    have e1 := K5.out.cell 1
    have l5 := K5.out.lt
    simp only [List.getElem?_toArray, List.getElem?_cons_zero, List.getElem?_cons_succ] at e0 e1
    clear o5 b5 hnq HSQ
    go_upto_region 8 with (fail)
    go_cut [63] from 36 to 63 (fun s wx => s = .bool false ∧ Hid (Below w5.heap.size w5 wx))
    case first =>
      by_cases h0 : se = 0
      · have hb : goodT L ∧ 0 ≤ f ∧ t ≤ (L.length : Int) ∧ f < t := by
          have h1 := HSE.out
          rw [h0] at h1
          unfold sqE at h1
          rw [if_pos HG.out] at h1
          split at h1
          · cases h1
          · exact ⟨HG.out, by omega, by omega, by omega⟩
        obtain ⟨p, hp⟩ : ∃ p, p = f.toNat := ⟨_, rfl⟩
        obtain ⟨q, hq⟩ : ∃ q, q = t.toNat := ⟨_, rfl⟩
        obtain rfl : f = (p : Int) := by omega
        obtain rfl : t = (q : Int) := by omega
        have hpq : p < q := by omega
        have hqn : q ≤ L.length := by omega
        have hR : sqR L (p : Int) (q : Int) = sqL L p q := by rw [sqR, ← HSE.out, if_pos h0]; simp
        have hlen := sqL_len hpq hqn
        have hqq := HNQ.out
        have hR5 := R5.out
        rw [hR] at hqq hR5
        have HCO := Lib.hid (content11_any _ _ w5 hR5 (sqL_w HW.out) ((sqL_s HS.out HG.out.2).mono (by decide)))
        rw [sqL_cont HG.out HS.out hpq hqn] at HCO
        have HCK := Lib.hid (fun W (hb : Below w5.heap.size w5 W) => check11_any _ _ W (hR5.later hb) ((sqL_s HS.out HG.out.2).mono (by decide)))
        rw [ckT_yes (sqL_good HG.out HS.out hpq hqn)] at HCK
        have hq1 : (nq : Int) = (nl : Int) - ((q : Int) - (p : Int)) + 1 := by have := HNL.out; omega
        have i1 : IntKind.i64.wrap ((q : Int) - (p : Int)) = (q : Int) - (p : Int) := by rw [IntKind.wrap_i64]; have := HNL.out; have := HG.out.2; omega
        have i2 : IntKind.i64.wrap ((nl : Int) - ((q : Int) - (p : Int))) = (nl : Int) - ((q : Int) - (p : Int)) := by rw [IntKind.wrap_i64]; have := HNL.out; have := HG.out.2; omega
        have i3 : IntKind.i64.wrap ((nl : Int) - ((q : Int) - (p : Int)) + 1) = (nq : Int) := by rw [IntKind.wrap_i64]; have := HNL.out; have := HG.out.2; omega
        subst h0
        clear hb hp hq hR hlen hqq hR5 hq1
        go_wp2_with fail
        refine HCO.out.mono ?_
        rintro e w6 ⟨v6, rfl, o6, b6⟩
        have K6 := Lib.hid (K5.out.later b6)
        have C6 := Lib.hid (C5.out.later b6)
        have HEQ := Lib.hid (equalP_seg _ _ _ _ w6 o6.seg C6.out)
        rw [decide_eq_true rfl] at HEQ
        obtain ⟨o8, c8, rfl⟩ := o6.shape
        have B6 := Lib.hid b6
        clear o6 b6 HCO
        go_wp2_with fail
        refine HEQ.out.mono ?_
        rintro e w7 ⟨rfl, g7⟩
        have K7 := Lib.hid (K6.out.later g7.below)
        have B7 := Lib.hid (below_later B6.out g7.below)
        clear g7 HEQ
        go_wp2_with fail
        refine (HCK.out _ B7.out).mono ?_
        rintro e w8 ⟨rfl, b8⟩
        have k8 := K7.out.later b8
        have B8 := Lib.hid (below_later B7.out b8)
        have e0 := k8.cell 0
        have e1 := k8.cell 1
        have l8 := k8.lt
        simp only [List.getElem?_toArray, List.getElem?_cons_zero, List.getElem?_cons_succ] at e0 e1
        clear b8 k8 HCK
        go_wp2
        go_meet
        case rel => exact ⟨rfl, B8⟩
      · have t0 : (se == 0) = false := by simpa using h0
        clear h0
        go_wp2
        go_meet
        case rel => exact ⟨rfl, Lib.hid (Below.refl _ _)⟩
    case rest =>
      obtain ⟨rfl, HB6⟩ := hcut
      have S6 := Lib.hid (S5.out.later HB6.out)
      have C6 := Lib.hid (C5.out.later HB6.out)
      have L6 := Lib.hid (below_later L5.out HB6.out)
      obtain ⟨f1, f2, f3, f4, f5⟩ := least_facts HG.out HS.out HW.out
      have HF := Lib.hid (And.intro f1 (And.intro f2 (And.intro f3 (And.intro f4 f5))))
      have HLE := Lib.hid (least11_any _ L wc S6.out HW.out (HS.out.mono (by decide)))
      rw [ckT_yes HG.out] at HLE
      clear e0 e1 f1 f2 f3 f4 f5 K1 K2 K3 K4 K5 S2 S3 S4 S5 C4 C5 R5 HNQ HSE l4 l5 HB6
      go_wp2_with fail
      refine HLE.out.mono ?_
      rintro e w7 ⟨v7, rfl, o7, b7⟩
      have S7 := Lib.hid (S6.out.later b7)
      have C7 := Lib.hid (C6.out.later b7)
      have L7 := Lib.hid (below_later L6.out b7)
      have A7 := Lib.hid o7.seg
      obtain ⟨oa, ca, rfl, _, _⟩ := o7.seg.shape
      obtain ⟨na, hna⟩ : ∃ na, na = (leastL L).length := ⟨_, rfl⟩
      rw [← hna] at A7 ⊢
      have HLE2 := Lib.hid (least11_any _ (leastL L) w7 A7.out HF.out.2.2.2.1 (HF.out.2.2.2.2.mono (by decide)))
      rw [ckT_yes HF.out.1, HF.out.2.1] at HLE2
      clear o7 b7 hna HLE
      go_wp2_with fail
      refine HLE2.out.mono ?_
      rintro e w8 ⟨v8, rfl, o8, b8⟩
      have S8 := Lib.hid (S7.out.later b8)
      have C8 := Lib.hid (C7.out.later b8)
      have L8 := Lib.hid (below_later L7.out b8)
      have A8 := Lib.hid (A7.out.later b8)
      have D8 := Lib.hid o8.seg
      obtain ⟨ob, cb, rfl, _, _⟩ := o8.seg.shape
      have HSA := Lib.hid (same11_any _ _ _ _ w8 A8.out D8.out true (decide_eq_true rfl).symm)
      clear o8 b8 HLE2
      go_wp2_with fail
      refine HSA.out.mono ?_
      rintro e w9 ⟨rfl, g9⟩
      have S9 := Lib.hid (S8.out.gr g9)
      have C9 := Lib.hid (C8.out.later g9.below)
      have L9 := Lib.hid (below_later L8.out g9.below)
      have HCO := Lib.hid (content11_any _ _ w9 (A8.out.gr g9) HF.out.2.2.2.1 (HF.out.2.2.2.2.mono (by decide)))
      rw [HF.out.2.2.1] at HCO
      clear g9 HSA
      go_wp2_with fail
      refine HCO.out.mono ?_
      rintro e w10 ⟨v10, rfl, o10, b10⟩
      have S10 := Lib.hid (S9.out.later b10)
      have C10 := Lib.hid (C9.out.later b10)
      have L10 := Lib.hid (below_later L9.out b10)
      have HEQ := Lib.hid (equalP_seg _ _ _ _ w10 o10.seg C10.out)
      rw [decide_eq_true rfl] at HEQ
      obtain ⟨o11, c11, rfl⟩ := o10.shape
      clear o10 b10 HCO
      go_wp2_with fail
      refine HEQ.out.mono ?_
      rintro e w11 ⟨rfl, g11⟩
      have S11 := Lib.hid (S10.out.gr g11)
      have C11 := Lib.hid (C10.out.later g11.below)
      have L11 := Lib.hid (below_later L10.out g11.below)
      clear g11 HEQ S6 S7 S8 S9 S10 C6 C7 C8 C9 C10 L1 L2 L3 L4 L5 L6 L7 L8 L9 L10 A7 A8 D8
      go_wp2
      go_loopw [95] (fun i wr => ∃ k : Nat, k ≤ nc ∧ i = .int .i64 (k : Int) ∧ Hid (Below w11.heap.size w11 wr)) (fun i _ => nc - (intOf i).toNat)
      case atStart => exact ⟨0, Nat.zero_le _, rfl, Lib.hid (Below.refl _ _)⟩
      case round =>
        obtain ⟨k, hk, rfl, HB⟩ := hrel
        by_cases hlt : k < nc
        · have hkl : k < (cont L).length := by have := HNC.out; omega
          obtain ⟨b, fo, rfl, hbl, hcells⟩ := (C11.out.later HB.out).has hkl
          obtain ⟨d1, d2⟩ := hcells k hkl
          have hall : ∀ x ∈ cont L, says L x = 1 := fun x hx => by
            rw [cont_good HG.out] at hx
            exact (those_mem (by decide) _).1 hx
          have hin := hall _ (List.getElem_mem hkl)
          obtain ⟨x, hx⟩ : ∃ x, x = (cont L)[k] := ⟨_, rfl⟩
          rw [← hx] at d1 d2 hin
          obtain ⟨x1, x2⟩ := x
          simp only at d1 d2
          have gA := Gr.alloc wr (.cells #[.int .u64 x1, .int .u64 x2] 36)
          have HH := Lib.hid (has11_any _ L x1 x2 (wr.alloc (.cells #[.int .u64 x1, .int .u64 x2] 36)) ((S11.out.later HB.out).gr gA) (HS.out.mono (by decide)) true (decide_eq_true ⟨HG.out, hin⟩).symm)
          have HB2 := Lib.hid (below_later HB.out gA.below)
          clear hcells hx hin gA hall
          go_wp2_with fail
          refine HH.out.mono ?_
          rintro e w12 ⟨rfl, b12⟩
          have HB3 := Lib.hid (below_later HB2.out b12)
          clear b12 HH d1 d2
          go_wp2
          go_roundw
          case rel => exact ⟨k + 1, by omega, by go_num, HB3⟩
          case measure => simp [intOf]; omega
        · have HCR := Lib.hid (check_any _ (cont L) wr (C11.out.later HB.out))
          rw [ckP_yes ⟨cont_run L, by have := HNC.out; omega⟩] at HCR
          go_wp2_with fail
          refine HCR.out.mono ?_
          rintro e w12 ⟨rfl, g12⟩
          have L12 := Lib.hid (below_later (below_later L11.out HB.out) g12.below)
          clear g12 HCR
          go_wp2
          go_ret
          exact ⟨rfl, L12.out⟩
  · have e1 : ckT L = 210 := ckT_no hg
    have e2 : cont L = [] := if_neg hg
    rw [e1] at HC
    have HE2 := Lib.hid e2
    clear e1 e2 hg
    go_wp2_with fail
    refine HC.out.mono ?_
    rintro e w3 ⟨rfl, b3⟩
    have L3 := Lib.hid (below_later L2.out b3)
    have S3 := Lib.hid (S2.out.later b3)
    have HCO := Lib.hid (content11_any _ L w3 S3.out HW.out (HS.out.mono (by decide)))
    rw [HE2.out] at HCO
    clear b3 HC
    go_wp2_with fail
    refine HCO.out.mono ?_
    rintro e w4 ⟨v4, rfl, o4, b4⟩
    obtain ⟨oc, cc, rfl⟩ := o4.shape
    have L4 := Lib.hid (below_later L3.out b4)
    clear o4 b4 HCO
    go_wp2
    go_ret
    exact ⟨rfl, L4.out⟩
end Go.Proofs.Ytcapmhmlipmciaa

