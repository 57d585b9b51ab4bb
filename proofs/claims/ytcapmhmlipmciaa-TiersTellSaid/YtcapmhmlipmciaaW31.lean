/- TiersTell's walk. -/
import Derived.Test.YtcapmhmlipmciaaW20
import Derived.Test.YtcapmhmlipmciaaW22
import Derived.Test.YtcapmhmlipmciaaWZ
import Derived.Test.YtcapmhmlipmciaaWZ
namespace Go.Proofs.Kit
open Go.RowKit
theorem leastL_of (L : List Tr) (hg : goodT L) : leastL L = if those L 1 = [] then [] else [(those L 1, [])] := by
  unfold leastL joinT
  by_cases c : those L 1 = []
  · simp [c]
  · simp [c, hg]
end Go.Proofs.Kit
namespace Go.Proofs.Ytcapmhmlipmciaa
open Go.RowKit Go.Proofs.Kit Go.Shelf
theorem ArgP.at {w : World} {o : Option Addr} {c i : Nat} {l : List Pr} (h : ArgP w o c l) (hi : i < l.length) : ∃ a : Addr, o = some a ∧ w.cell? (a.add (i * 2)) = some (.int .u64 l[i].1) ∧ w.cell? ⟨(a.add (i * 2)).block, (a.add (i * 2)).off + 1, none⟩ = some (.int .u64 l[i].2) := by
  rcases h with ⟨_, rfl, _⟩ | ⟨a, rfl, h⟩
  · simp at hi
  · obtain ⟨h1, h2⟩ := h i hi
    rw [add_pos a _ 1 (by decide)] at h2
    exact ⟨a, rfl, h1, h2⟩
set_option maxRecDepth 100000 in
set_option maxHeartbeats 16000000 in
theorem tell_true (o : Option Addr) (n c : Nat) (X : List Tr) (oy : Option Addr) (ny cy : Nat) (Y : List Tr) (op : Option Addr) (np cp : Nat) (P : List Pr) (w : World)
    (hl : X.length = n) (hc : n ≤ c) (hm : c ≤ 9223372036854775807) (ha : ArgT w o c X) (hw : Wl X) (yl : Y.length = ny) (yc : ny ≤ cy) (ym : cy ≤ 9223372036854775807) (ya : ArgT w oy cy Y) (pl : P.length = np) (pc : np ≤ cp) (pm : cp ≤ 9223372036854775807) (pa : ArgP w op cp P) :
    Calls Try.prog 3 #[.slice o n c, .slice oy ny cy, .slice op np cp] w fun e w' => e = .returned (.bool true) ∧ Below w.heap.size w w' := by
  have hbd : ∀ (a b c : _) w, (Instr.build 38 #[(0, .slice a b c)]).run Try.prog w = .ok (.agg #[.slice a b c, .slice none 0 0]) w := fun a b c w => by kernel_rfl
  have HBD := Lib.hid hbd
  clear hbd
  have HA := Lib.hid (fun W (hb : Below w.heap.size w W) => own11_any o n c X W hl hc hm (ha.later hb))
  have HY := Lib.hid (fun W (hb : Below w.heap.size w W) => own11_any oy ny cy Y W yl yc ym (ya.later hb))
  have HP := Lib.hid pa
  have HPL := Lib.hid pl
  obtain ⟨L, hL⟩ : ∃ L, L = ownL X := ⟨_, rfl⟩
  obtain ⟨M, hM⟩ : ∃ M, M = ownL Y := ⟨_, rfl⟩
  rw [← hL] at HA
  rw [← hM] at HY
  have HW := Lib.hid (show Wl L by rw [hL]; exact ownL_w hw)
  have HS := Lib.hid (show SmT 16 L by rw [hL]; exact ownL_s X)
  clear hL hM hl ha hw yl ya pl pa
  go_enter Try.func3, Try.ntmps3
  go_wp2_with fail
  refine (wakes11_true _).mono ?_
  rintro e w1 ⟨rfl, b1⟩
  have L1 := Lib.hid b1
  clear b1
  go_wp2_with fail
  refine (HA.out _ L1.out).mono ?_
  rintro e w2 ⟨v2, rfl, o2, b2⟩
  have L2 := Lib.hid (below_later L1.out b2)
  have S2 := Lib.hid o2.seg
  obtain ⟨ol, cl, rfl, _, _⟩ := o2.seg.shape
  obtain ⟨nl, hnl⟩ : ∃ nl, nl = L.length := ⟨_, rfl⟩
  rw [← hnl] at S2 ⊢
  have HNL := Lib.hid hnl
  clear o2 b2 hnl
  go_wp2_with fail
  refine (HY.out _ L2.out).mono ?_
  rintro e w3 ⟨v3, rfl, o3, b3⟩
  have L3 := Lib.hid (below_later L2.out b3)
  have S3 := Lib.hid (S2.out.later b3)
  have T3 := Lib.hid o3.seg
  obtain ⟨om, cm, rfl, _, _⟩ := o3.seg.shape
  obtain ⟨nm, hnm⟩ : ∃ nm, nm = M.length := ⟨_, rfl⟩
  rw [← hnm] at T3 ⊢
  obtain ⟨r, hr⟩ : ∃ r, r = decide (goodT L) := ⟨_, rfl⟩
  have HRI := Lib.hid (right11_any _ L w3 S3.out (HS.out.mono (by decide)) r hr)
  have HR := Lib.hid hr
  obtain ⟨sm, hsm⟩ : ∃ sm, sm = decide (L = M) := ⟨_, rfl⟩
  have HSM := Lib.hid hsm
  clear o3 b3 hnm hr hsm HY
  go_wp2_with fail
  refine HRI.out.mono ?_
  rintro e w4 ⟨rfl, b4⟩
  have L4 := Lib.hid (below_later L3.out b4)
  have S4 := Lib.hid (S3.out.later b4)
  have T4 := Lib.hid (T3.out.later b4)
  have HSA := Lib.hid (fun W (hb : Below w4.heap.size w4 W) => same11_any _ _ L M W (S4.out.later hb) (T4.out.later hb) sm HSM.out)
  have HSE := Lib.hid (fun W (hb : Below w4.heap.size w4 W) => esame_any _ _ L M W (S4.out.later hb) (T4.out.later hb) sm HSM.out)
  have HCK := Lib.hid (check11_any _ L w4 S4.out (HS.out.mono (by decide)))
  have HCO := Lib.hid (fun W (hb : Below w4.heap.size w4 W) => content11_any _ L W (S4.out.later hb) HW.out (HS.out.mono (by decide)))
  have HLE := Lib.hid (fun W (hb : Below w4.heap.size w4 W) => least11_any _ L W (S4.out.later hb) HW.out (HS.out.mono (by decide)))
  have tsm : (sm != sm) = false := by simp
  clear b4 HRI S2 S3 T3 L1 L2 L3
  cases r
  · have hg := of_decide_eq_false HR.out.symm
    have HG := Lib.hid hg
    rw [ckT_no hg] at HCK
    have hcon : cont L = those ([] : List Tr) 1 := by unfold cont; rw [if_neg hg]; rfl
    have HCON := Lib.hid hcon
    simp only [ckT_no hg] at HLE
    have HKS := Lib.hid (fun W (hb : Below w4.heap.size w4 W) => (SegT.nil _ : SegT W (.slice none 0 0) ([] : List Tr)))
    have HDI := Lib.hid (by simp : ∀ t ∈ ([] : List Tr), ∀ p ∈ t.1, p ∉ t.2)
    have HRC := Lib.hid (fun W (hb : Below w4.heap.size w4 W) => econtent_any _ ([] : List Tr) W (HKS.out W hb) 16 (by intro t ht; simp at ht) (by simp) (by decide) HDI.out)
    clear hg hcon
    go_wp2_with fail
    refine HCK.out.mono ?_
    rintro e w5 ⟨rfl, b5⟩
    have E5 := Lib.hid b5
    clear b5 HCK
    go_wp2_with fail
    refine (HSA.out _ E5.out).mono ?_
    rintro e w6 ⟨rfl, g6⟩
    have E6 := Lib.hid (below_later E5.out g6.below)
    clear g6 HSA
    go_wp2_with fail
    refine (HSE.out _ E6.out).mono ?_
    rintro e w7 ⟨rfl, b7⟩
    have E7 := Lib.hid (below_later E6.out b7)
    clear b7 HSE
    go_wp2_with fail
    refine (HCO.out _ E7.out).mono ?_
    rintro e w8 ⟨v8, rfl, o8, b8⟩
    have E8 := Lib.hid (below_later E7.out b8)
    have C8 := Lib.hid o8.seg
    obtain ⟨oc, cc, rfl⟩ := o8.shape
    obtain ⟨nc, hnc⟩ : ∃ nc, nc = (cont L).length := ⟨_, rfl⟩
    rw [← hnc] at C8 ⊢
    clear o8 b8 HCO hnc
    go_wp2_with fail
    refine (HLE.out _ E8.out).mono ?_
    rintro e w9 ⟨v9, rfl, o9, b9⟩
    have F9 := Lib.hid b9
    have E9 := Lib.hid (below_later E8.out b9)
    have O9 := Lib.hid o9
    have C9 := Lib.hid (C8.out.later b9)
    obtain ⟨oq, cq, rfl⟩ := o9.shape
    obtain ⟨nq, hnq⟩ : ∃ nq, nq = (leastL L).length := ⟨_, rfl⟩
    rw [← hnq] at O9 ⊢
    have HNQ := Lib.hid hnq
    clear o9 b9 HLE hnq
    go_wp2_with fail
    refine (HRC.out _ E9.out).mono ?_
    rintro e w10 ⟨v10, rfl, o10, b10⟩
    have F10 := Lib.hid (below_later F9.out b10)
    have C10 := Lib.hid (C9.out.later b10)
    have Q10 := Lib.hid (O9.out.later b10)
    have N10 := Lib.hid o10.seg
    obtain ⟨ow, cw, rfl⟩ := o10.shape
    obtain ⟨nw, hnw⟩ : ∃ nw, nw = (those ([] : List Tr) 1).length := ⟨_, rfl⟩
    rw [← hnw] at N10 ⊢
    have HNW := Lib.hid hnw
    have HEQ := Lib.hid (equalP_seg _ _ _ _ w10 C10.out N10.out)
    rw [decide_eq_true HCON.out] at HEQ
    clear o10 b10 hnw HRC
    go_wp2_with fail
    refine HEQ.out.mono ?_
    rintro e w11 ⟨rfl, g11⟩
    have F11 := Lib.hid (below_later F10.out g11.below)
    have Q11 := Lib.hid (Q10.out.later g11.below)
    have N11 := Lib.hid (N10.out.later g11.below)
    clear g11 HEQ C8 C9 C10 N10 Q10
    obtain rfl : nw = 0 := by rw [HNW.out]; rfl
    obtain rfl : nq = 0 := by rw [HNQ.out, leastL, if_neg (fun h => HG.out h.1)]; rfl
    obtain ⟨w12, hw12⟩ : ∃ w12, w12 = w11 := ⟨_, rfl⟩
    subst hw12
    have F12 := F11
    have Q12 := Q11
    have L12 := Lib.hid (below_later L4.out (below_later E8.out F12.out))
    have HLO := Lib.hid (fun W (hb : Below w12.heap.size w12 W) => below_later (below_later E8.out F12.out) hb)
    have HHAS := Lib.hid (fun W (hb : Below w12.heap.size w12 W) p1 p2 r hr => has11_any _ L p1 p2 W (S4.out.later (HLO.out W hb)) (HS.out.mono (by decide)) r hr)
    have HSAY := Lib.hid (fun W (hb : Below w12.heap.size w12 W) p1 p2 s hs => esays_any _ ([] : List Tr) p1 p2 W (HKS.out W (HLO.out W hb)) HDI.out s hs)
    go_wp2
    go_loopw [101] (fun i wr => ∃ k : Nat, k ≤ np ∧ i = .int .i64 (k : Int) ∧ Hid (Below w12.heap.size w12 wr)) (fun i _ => np - (intOf i).toNat)
    case atStart => exact ⟨0, Nat.zero_le _, rfl, Lib.hid (Below.refl _ _)⟩
    case round =>
      obtain ⟨k, hk, rfl, HB⟩ := hrel
      by_cases hlt : k < np
      · have hkp : k < P.length := by have := HPL.out; omega
        obtain ⟨a, rfl, d0, d1⟩ := ((HP.out.later L12.out).later HB.out).at hkp
        obtain ⟨x, hx⟩ : ∃ x, x = P[k] := ⟨_, rfl⟩
        rw [← hx] at d0 d1
        clear hx
        obtain ⟨p1, p2⟩ := x
        simp only at d0 d1
        obtain ⟨W1, hW1⟩ : ∃ W1, W1 = wr.alloc (.cells #[.int .u64 p1, .int .u64 p2] 36) := ⟨_, rfl⟩
        have kp : Blk W1 wr.heap.size #[.int .u64 p1, .int .u64 p2] 36 := by rw [hW1]; exact Blk.new _ _ _
        have low : Below w12.heap.size w12 W1 := by rw [hW1]; exact below_later HB.out (Gr.alloc _ _).below
        by_cases h12 : k < 12
        · have t12 : decide ((k : Int) < 12) = true := decide_eq_true (by omega)
          obtain ⟨sy, hsy⟩ : ∃ sy, sy = says ([] : List Tr) (p1, p2) := ⟨_, rfl⟩
          have hh : (sy == 1) = decide (goodT L ∧ says L (p1, p2) = 1) := by rw [hsy, Bool.eq_iff_iff, beq_iff_eq, decide_eq_true_eq]; exact ⟨fun h => by simp [says, sayR] at h, fun h => absurd h.1 HG.out⟩
          obtain ⟨hb, hhb⟩ : ∃ hb, hb = (sy == 1) := ⟨_, rfl⟩
          have HH1 := Lib.hid (fun W (h : Below w12.heap.size w12 W) => HHAS.out W h p1 p2 hb (hhb.trans hh))
          have HS1 := Lib.hid (fun W (h : Below w12.heap.size w12 W) => HSAY.out W h p1 p2 sy hsy)
          have tb : (hb != (sy == 1)) = false := by rw [hhb]; simp
          clear hsy hh h12
          go_upto_region 21 with (fail)
          rw [← hW1]
          clear hW1 d0 d1
          have c0 := kp.cell 0
          have c1 := kp.cell 1
          have lp := kp.lt
          simp only [List.getElem?_toArray, List.getElem?_cons_zero, List.getElem?_cons_succ] at c0 c1
          go_region_law (first
            | (go_simp; go_at_call 19; (with_reducible refine (HH1.out _ (by first | exact low | exact low.drew)).mono ?_); rintro e wS ⟨rfl, bS⟩; have low := (by first | exact below_later low bS | exact below_later low.drew bS : Below w12.heap.size w12 wS); have kp := (by first | exact kp.later bS | exact kp.drew.later bS : Blk wS wr.heap.size #[.int .u64 p1, .int .u64 p2] 36); obtain ⟨c0, c1⟩ : wS.cell? ⟨wr.heap.size, 0, none⟩ = some (.int .u64 p1) ∧ wS.cell? ⟨wr.heap.size, 1, none⟩ = some (.int .u64 p2) := ⟨kp.cell 0, kp.cell 1⟩; have lp := kp.lt; clear bS)
            | (go_simp; go_at_call 20; (with_reducible refine (HS1.out _ (by first | exact low | exact low.drew)).mono ?_); rintro e wT ⟨rfl, gT⟩; have bT := gT.below; have low := (by first | exact below_later low bT | exact below_later low.drew bT : Below w12.heap.size w12 wT); have kp := (by first | exact kp.later bT | exact kp.drew.later bT : Blk wT wr.heap.size #[.int .u64 p1, .int .u64 p2] 36); obtain ⟨c0, c1⟩ : wT.cell? ⟨wr.heap.size, 0, none⟩ = some (.int .u64 p1) ∧ wT.cell? ⟨wr.heap.size, 1, none⟩ = some (.int .u64 p2) := ⟨kp.cell 0, kp.cell 1⟩; have lp := kp.lt; clear bT gT))
          all_goals
            have HLOW := Lib.hid low
            go_wp2
            go_roundw
            case rel => exact ⟨k + 1, by omega, by go_num, HLOW⟩
            case measure => simp [intOf]; omega
        · have t12 : decide ((k : Int) < 12) = false := decide_eq_false (by omega)
          clear h12
          go_upto_region 21 with (fail)
          rw [← hW1]
          clear hW1 d0 d1
          refine wp_region_quiet_lit (by kernel_rfl) (by kernel_rfl) ?_
          iterate 12 (refine quietStep (fun Z K hZ hK => ?_); (try subst hA); go_simp; refine hK _ ?_; clear hK K; generalize hA : Act.mk _ _ = A; rw [hZ]; clear hZ Z)
          refine wpQuiet_nil ?_
          intro _ hw'
          obtain ⟨nq, hw''⟩ := hw'
          subst hw''
          subst hA
          go_wp2
          go_roundw
          case rel => exact ⟨k + 1, by omega, by go_num, Lib.hid (below_later low (Gr.drewN _ _).below)⟩
          case measure => simp [intOf]; omega
      · have E13 := Lib.hid (below_later F12.out HB.out)
        have HSP := Lib.hid (spoil11_any w8.heap.size _ (leastL L) wr (Q12.out.later HB.out) (by have := E13.out.size; omega))
        go_wp2_with fail
        refine HSP.out.mono ?_
        rintro e w13 ⟨rfl, b13⟩
        have F13 := Lib.hid (below_later E8.out (E13.out.trans b13))
        have L13 := Lib.hid (below_later L4.out F13.out)
        clear b13 HSP
        go_wp2_with fail
        refine (HA.out _ L13.out).mono ?_
        rintro e w14 ⟨v14, rfl, o14, b14⟩
        have F14 := Lib.hid (below_later F13.out b14)
        have HFI := Lib.hid (esame_any _ _ L L w14 (S4.out.later F14.out) o14.seg true (decide_eq_true rfl).symm)
        obtain ⟨o15, c15, rfl, _, _⟩ := o14.seg.shape
        clear o14 b14
        go_wp2_with fail
        refine HFI.out.mono ?_
        rintro e w15 ⟨rfl, b15⟩
        have L15 := Lib.hid (below_later L4.out (below_later F14.out b15))
        clear b15 HFI
        go_wp2
        go_ret
        exact ⟨rfl, L15.out⟩
  · have hg := of_decide_eq_true HR.out.symm
    have HG := Lib.hid hg
    rw [ckT_yes hg] at HCK
    have hcon : cont L = those L 1 := cont_good hg
    have HCON := Lib.hid hcon
    simp only [ckT_yes hg] at HLE
    have HKS := Lib.hid (fun W (hb : Below w4.heap.size w4 W) => (S4.out.later hb : SegT W (.slice ol nl cl) L))
    have HDI := Lib.hid (fun t ht => (HG.out.1 t ht).2 : ∀ t ∈ L, ∀ p ∈ t.1, p ∉ t.2)
    have HRC := Lib.hid (fun W (hb : Below w4.heap.size w4 W) => econtent_any _ L W (HKS.out W hb) 16 (HS.out) (by have := HG.out.2; omega) (by decide) HDI.out)
    clear hg hcon
    go_wp2_with fail
    refine HCK.out.mono ?_
    rintro e w5 ⟨rfl, b5⟩
    have E5 := Lib.hid b5
    clear b5 HCK
    go_wp2_with fail
    refine (HSA.out _ E5.out).mono ?_
    rintro e w6 ⟨rfl, g6⟩
    have E6 := Lib.hid (below_later E5.out g6.below)
    clear g6 HSA
    go_wp2_with fail
    refine (HSE.out _ E6.out).mono ?_
    rintro e w7 ⟨rfl, b7⟩
    have E7 := Lib.hid (below_later E6.out b7)
    clear b7 HSE
    go_wp2_with fail
    refine (HCO.out _ E7.out).mono ?_
    rintro e w8 ⟨v8, rfl, o8, b8⟩
    have E8 := Lib.hid (below_later E7.out b8)
    have C8 := Lib.hid o8.seg
    obtain ⟨oc, cc, rfl⟩ := o8.shape
    obtain ⟨nc, hnc⟩ : ∃ nc, nc = (cont L).length := ⟨_, rfl⟩
    rw [← hnc] at C8 ⊢
    clear o8 b8 HCO hnc
    go_wp2_with fail
    refine (HLE.out _ E8.out).mono ?_
    rintro e w9 ⟨v9, rfl, o9, b9⟩
    have F9 := Lib.hid b9
    have E9 := Lib.hid (below_later E8.out b9)
    have O9 := Lib.hid o9
    have C9 := Lib.hid (C8.out.later b9)
    obtain ⟨oq, cq, rfl⟩ := o9.shape
    obtain ⟨nq, hnq⟩ : ∃ nq, nq = (leastL L).length := ⟨_, rfl⟩
    rw [← hnq] at O9 ⊢
    have HNQ := Lib.hid hnq
    clear o9 b9 HLE hnq
    go_wp2_with fail
    refine (HRC.out _ E9.out).mono ?_
    rintro e w10 ⟨v10, rfl, o10, b10⟩
    have F10 := Lib.hid (below_later F9.out b10)
    have C10 := Lib.hid (C9.out.later b10)
    have Q10 := Lib.hid (O9.out.later b10)
    have N10 := Lib.hid o10.seg
    obtain ⟨ow, cw, rfl⟩ := o10.shape
    obtain ⟨nw, hnw⟩ : ∃ nw, nw = (those L 1).length := ⟨_, rfl⟩
    rw [← hnw] at N10 ⊢
    have HNW := Lib.hid hnw
    have HEQ := Lib.hid (equalP_seg _ _ _ _ w10 C10.out N10.out)
    rw [decide_eq_true HCON.out] at HEQ
    clear o10 b10 hnw HRC
    go_wp2_with fail
    refine HEQ.out.mono ?_
    rintro e w11 ⟨rfl, g11⟩
    have F11 := Lib.hid (below_later F10.out g11.below)
    have Q11 := Lib.hid (Q10.out.later g11.below)
    have N11 := Lib.hid (N10.out.later g11.below)
    clear g11 HEQ C8 C9 C10 N10 Q10
    by_cases h0 : nw = 0
    · have he : those L 1 = [] := by have := HNW.out; rw [h0] at this; exact List.length_eq_zero_iff.1 this.symm
      obtain rfl : nq = 0 := by rw [HNQ.out, leastL_of L HG.out, if_pos he]; rfl
      subst h0
      obtain ⟨w12, hw12⟩ : ∃ w12, w12 = w11 := ⟨_, rfl⟩
      subst hw12
      have F12 := F11
      have Q12 := Q11
      clear he
      have L12 := Lib.hid (below_later L4.out (below_later E8.out F12.out))
      have HLO := Lib.hid (fun W (hb : Below w12.heap.size w12 W) => below_later (below_later E8.out F12.out) hb)
      have HHAS := Lib.hid (fun W (hb : Below w12.heap.size w12 W) p1 p2 r hr => has11_any _ L p1 p2 W (S4.out.later (HLO.out W hb)) (HS.out.mono (by decide)) r hr)
      have HSAY := Lib.hid (fun W (hb : Below w12.heap.size w12 W) p1 p2 s hs => esays_any _ L p1 p2 W (HKS.out W (HLO.out W hb)) HDI.out s hs)
      go_wp2
      go_loopw [101] (fun i wr => ∃ k : Nat, k ≤ np ∧ i = .int .i64 (k : Int) ∧ Hid (Below w12.heap.size w12 wr)) (fun i _ => np - (intOf i).toNat)
      case atStart => exact ⟨0, Nat.zero_le _, rfl, Lib.hid (Below.refl _ _)⟩
      case round =>
        obtain ⟨k, hk, rfl, HB⟩ := hrel
        by_cases hlt : k < np
        · have hkp : k < P.length := by have := HPL.out; omega
          obtain ⟨a, rfl, d0, d1⟩ := ((HP.out.later L12.out).later HB.out).at hkp
          obtain ⟨x, hx⟩ : ∃ x, x = P[k] := ⟨_, rfl⟩
          rw [← hx] at d0 d1
          clear hx
          obtain ⟨p1, p2⟩ := x
          simp only at d0 d1
          obtain ⟨W1, hW1⟩ : ∃ W1, W1 = wr.alloc (.cells #[.int .u64 p1, .int .u64 p2] 36) := ⟨_, rfl⟩
          have kp : Blk W1 wr.heap.size #[.int .u64 p1, .int .u64 p2] 36 := by rw [hW1]; exact Blk.new _ _ _
          have low : Below w12.heap.size w12 W1 := by rw [hW1]; exact below_later HB.out (Gr.alloc _ _).below
          by_cases h12 : k < 12
          · have t12 : decide ((k : Int) < 12) = true := decide_eq_true (by omega)
            obtain ⟨sy, hsy⟩ : ∃ sy, sy = says L (p1, p2) := ⟨_, rfl⟩
            have hh : (sy == 1) = decide (goodT L ∧ says L (p1, p2) = 1) := by rw [hsy, Bool.eq_iff_iff, beq_iff_eq, decide_eq_true_eq]; exact ⟨fun h => ⟨HG.out, h⟩, fun h => h.2⟩
            obtain ⟨hb, hhb⟩ : ∃ hb, hb = (sy == 1) := ⟨_, rfl⟩
            have HH1 := Lib.hid (fun W (h : Below w12.heap.size w12 W) => HHAS.out W h p1 p2 hb (hhb.trans hh))
            have HS1 := Lib.hid (fun W (h : Below w12.heap.size w12 W) => HSAY.out W h p1 p2 sy hsy)
            have tb : (hb != (sy == 1)) = false := by rw [hhb]; simp
            clear hsy hh h12
            go_upto_region 21 with (fail)
            rw [← hW1]
            clear hW1 d0 d1
            have c0 := kp.cell 0
            have c1 := kp.cell 1
            have lp := kp.lt
            simp only [List.getElem?_toArray, List.getElem?_cons_zero, List.getElem?_cons_succ] at c0 c1
            go_region_law (first
              | (go_simp; go_at_call 19; (with_reducible refine (HH1.out _ (by first | exact low | exact low.drew)).mono ?_); rintro e wS ⟨rfl, bS⟩; have low := (by first | exact below_later low bS | exact below_later low.drew bS : Below w12.heap.size w12 wS); have kp := (by first | exact kp.later bS | exact kp.drew.later bS : Blk wS wr.heap.size #[.int .u64 p1, .int .u64 p2] 36); obtain ⟨c0, c1⟩ : wS.cell? ⟨wr.heap.size, 0, none⟩ = some (.int .u64 p1) ∧ wS.cell? ⟨wr.heap.size, 1, none⟩ = some (.int .u64 p2) := ⟨kp.cell 0, kp.cell 1⟩; have lp := kp.lt; clear bS)
              | (go_simp; go_at_call 20; (with_reducible refine (HS1.out _ (by first | exact low | exact low.drew)).mono ?_); rintro e wT ⟨rfl, gT⟩; have bT := gT.below; have low := (by first | exact below_later low bT | exact below_later low.drew bT : Below w12.heap.size w12 wT); have kp := (by first | exact kp.later bT | exact kp.drew.later bT : Blk wT wr.heap.size #[.int .u64 p1, .int .u64 p2] 36); obtain ⟨c0, c1⟩ : wT.cell? ⟨wr.heap.size, 0, none⟩ = some (.int .u64 p1) ∧ wT.cell? ⟨wr.heap.size, 1, none⟩ = some (.int .u64 p2) := ⟨kp.cell 0, kp.cell 1⟩; have lp := kp.lt; clear bT gT))
            all_goals
              have HLOW := Lib.hid low
              go_wp2
              go_roundw
              case rel => exact ⟨k + 1, by omega, by go_num, HLOW⟩
              case measure => simp [intOf]; omega
          · have t12 : decide ((k : Int) < 12) = false := decide_eq_false (by omega)
            clear h12
            go_upto_region 21 with (fail)
            rw [← hW1]
            clear hW1 d0 d1
            refine wp_region_quiet_lit (by kernel_rfl) (by kernel_rfl) ?_
            iterate 12 (refine quietStep (fun Z K hZ hK => ?_); (try subst hA); go_simp; refine hK _ ?_; clear hK K; generalize hA : Act.mk _ _ = A; rw [hZ]; clear hZ Z)
            refine wpQuiet_nil ?_
            intro _ hw'
            obtain ⟨nq, hw''⟩ := hw'
            subst hw''
            subst hA
            go_wp2
            go_roundw
            case rel => exact ⟨k + 1, by omega, by go_num, Lib.hid (below_later low (Gr.drewN _ _).below)⟩
            case measure => simp [intOf]; omega
        · have E13 := Lib.hid (below_later F12.out HB.out)
          have HSP := Lib.hid (spoil11_any w8.heap.size _ (leastL L) wr (Q12.out.later HB.out) (by have := E13.out.size; omega))
          go_wp2_with fail
          refine HSP.out.mono ?_
          rintro e w13 ⟨rfl, b13⟩
          have F13 := Lib.hid (below_later E8.out (E13.out.trans b13))
          have L13 := Lib.hid (below_later L4.out F13.out)
          clear b13 HSP
          go_wp2_with fail
          refine (HA.out _ L13.out).mono ?_
          rintro e w14 ⟨v14, rfl, o14, b14⟩
          have F14 := Lib.hid (below_later F13.out b14)
          have HFI := Lib.hid (esame_any _ _ L L w14 (S4.out.later F14.out) o14.seg true (decide_eq_true rfl).symm)
          obtain ⟨o15, c15, rfl, _, _⟩ := o14.seg.shape
          clear o14 b14
          go_wp2_with fail
          refine HFI.out.mono ?_
          rintro e w15 ⟨rfl, b15⟩
          have L15 := Lib.hid (below_later L4.out (below_later F14.out b15))
          clear b15 HFI
          go_wp2
          go_ret
          exact ⟨rfl, L15.out⟩
    · have he : those L 1 ≠ [] := fun e => h0 (by rw [HNW.out, e]; rfl)
      have hle : leastL L = [(those L 1, [])] := by rw [leastL_of L HG.out, if_neg he]
      have t0 : ((nw : Int) == 0) = false := by simpa using h0
      have t1 : decide ((0 : Int) < (nw : Int)) = true := decide_eq_true (by omega)
      have t2 : decide (0 < nw) = true := decide_eq_true (by omega)
      have t3 : 0 < nw := by omega
      have HSM1 := Lib.hid (esame_any _ _ (leastL L) [(those L 1, [])] (w11.alloc (.cells #[.slice ow nw cw, .slice none 0 0] 38)) (Q11.out.alloc _).seg (segT_one (Blk.new _ _ _) ⟨(N11.out.alloc _), SegP.nil _⟩) true (decide_eq_true hle).symm)
      have hbd := HBD.out
      clear he hle h0
      go_wp2_with fail
      refine HSM1.out.mono ?_
      rintro e w12 ⟨rfl, b12⟩
      have bb := below_later (Gr.alloc w11 (.cells #[.slice ow nw cw, .slice none 0 0] 38)).below b12
      have F12 := Lib.hid (below_later F11.out bb)
      have Q12 := Lib.hid (Q11.out.later bb)
      clear b12 bb hbd HSM1
      have L12 := Lib.hid (below_later L4.out (below_later E8.out F12.out))
      have HLO := Lib.hid (fun W (hb : Below w12.heap.size w12 W) => below_later (below_later E8.out F12.out) hb)
      have HHAS := Lib.hid (fun W (hb : Below w12.heap.size w12 W) p1 p2 r hr => has11_any _ L p1 p2 W (S4.out.later (HLO.out W hb)) (HS.out.mono (by decide)) r hr)
      have HSAY := Lib.hid (fun W (hb : Below w12.heap.size w12 W) p1 p2 s hs => esays_any _ L p1 p2 W (HKS.out W (HLO.out W hb)) HDI.out s hs)
      go_wp2
      go_loopw [101] (fun i wr => ∃ k : Nat, k ≤ np ∧ i = .int .i64 (k : Int) ∧ Hid (Below w12.heap.size w12 wr)) (fun i _ => np - (intOf i).toNat)
      case atStart => exact ⟨0, Nat.zero_le _, rfl, Lib.hid (Below.refl _ _)⟩
      case round =>
        obtain ⟨k, hk, rfl, HB⟩ := hrel
        by_cases hlt : k < np
        · have hkp : k < P.length := by have := HPL.out; omega
          obtain ⟨a, rfl, d0, d1⟩ := ((HP.out.later L12.out).later HB.out).at hkp
          obtain ⟨x, hx⟩ : ∃ x, x = P[k] := ⟨_, rfl⟩
          rw [← hx] at d0 d1
          clear hx
          obtain ⟨p1, p2⟩ := x
          simp only at d0 d1
          obtain ⟨W1, hW1⟩ : ∃ W1, W1 = wr.alloc (.cells #[.int .u64 p1, .int .u64 p2] 36) := ⟨_, rfl⟩
          have kp : Blk W1 wr.heap.size #[.int .u64 p1, .int .u64 p2] 36 := by rw [hW1]; exact Blk.new _ _ _
          have low : Below w12.heap.size w12 W1 := by rw [hW1]; exact below_later HB.out (Gr.alloc _ _).below
          by_cases h12 : k < 12
          · have t12 : decide ((k : Int) < 12) = true := decide_eq_true (by omega)
            obtain ⟨sy, hsy⟩ : ∃ sy, sy = says L (p1, p2) := ⟨_, rfl⟩
            have hh : (sy == 1) = decide (goodT L ∧ says L (p1, p2) = 1) := by rw [hsy, Bool.eq_iff_iff, beq_iff_eq, decide_eq_true_eq]; exact ⟨fun h => ⟨HG.out, h⟩, fun h => h.2⟩
            obtain ⟨hb, hhb⟩ : ∃ hb, hb = (sy == 1) := ⟨_, rfl⟩
            have HH1 := Lib.hid (fun W (h : Below w12.heap.size w12 W) => HHAS.out W h p1 p2 hb (hhb.trans hh))
            have HS1 := Lib.hid (fun W (h : Below w12.heap.size w12 W) => HSAY.out W h p1 p2 sy hsy)
            have tb : (hb != (sy == 1)) = false := by rw [hhb]; simp
            clear hsy hh h12
            go_upto_region 21 with (fail)
            rw [← hW1]
            clear hW1 d0 d1
            have c0 := kp.cell 0
            have c1 := kp.cell 1
            have lp := kp.lt
            simp only [List.getElem?_toArray, List.getElem?_cons_zero, List.getElem?_cons_succ] at c0 c1
            go_region_law (first
              | (go_simp; go_at_call 19; (with_reducible refine (HH1.out _ (by first | exact low | exact low.drew)).mono ?_); rintro e wS ⟨rfl, bS⟩; have low := (by first | exact below_later low bS | exact below_later low.drew bS : Below w12.heap.size w12 wS); have kp := (by first | exact kp.later bS | exact kp.drew.later bS : Blk wS wr.heap.size #[.int .u64 p1, .int .u64 p2] 36); obtain ⟨c0, c1⟩ : wS.cell? ⟨wr.heap.size, 0, none⟩ = some (.int .u64 p1) ∧ wS.cell? ⟨wr.heap.size, 1, none⟩ = some (.int .u64 p2) := ⟨kp.cell 0, kp.cell 1⟩; have lp := kp.lt; clear bS)
              | (go_simp; go_at_call 20; (with_reducible refine (HS1.out _ (by first | exact low | exact low.drew)).mono ?_); rintro e wT ⟨rfl, gT⟩; have bT := gT.below; have low := (by first | exact below_later low bT | exact below_later low.drew bT : Below w12.heap.size w12 wT); have kp := (by first | exact kp.later bT | exact kp.drew.later bT : Blk wT wr.heap.size #[.int .u64 p1, .int .u64 p2] 36); obtain ⟨c0, c1⟩ : wT.cell? ⟨wr.heap.size, 0, none⟩ = some (.int .u64 p1) ∧ wT.cell? ⟨wr.heap.size, 1, none⟩ = some (.int .u64 p2) := ⟨kp.cell 0, kp.cell 1⟩; have lp := kp.lt; clear bT gT))
            all_goals
              have HLOW := Lib.hid low
              go_wp2
              go_roundw
              case rel => exact ⟨k + 1, by omega, by go_num, HLOW⟩
              case measure => simp [intOf]; omega
          · have t12 : decide ((k : Int) < 12) = false := decide_eq_false (by omega)
            clear h12
            go_upto_region 21 with (fail)
            rw [← hW1]
            clear hW1 d0 d1
            refine wp_region_quiet_lit (by kernel_rfl) (by kernel_rfl) ?_
            iterate 12 (refine quietStep (fun Z K hZ hK => ?_); (try subst hA); go_simp; refine hK _ ?_; clear hK K; generalize hA : Act.mk _ _ = A; rw [hZ]; clear hZ Z)
            refine wpQuiet_nil ?_
            intro _ hw'
            obtain ⟨nq, hw''⟩ := hw'
            subst hw''
            subst hA
            go_wp2
            go_roundw
            case rel => exact ⟨k + 1, by omega, by go_num, Lib.hid (below_later low (Gr.drewN _ _).below)⟩
            case measure => simp [intOf]; omega
        · have E13 := Lib.hid (below_later F12.out HB.out)
          have HSP := Lib.hid (spoil11_any w8.heap.size _ (leastL L) wr (Q12.out.later HB.out) (by have := E13.out.size; omega))
          go_wp2_with fail
          refine HSP.out.mono ?_
          rintro e w13 ⟨rfl, b13⟩
          have F13 := Lib.hid (below_later E8.out (E13.out.trans b13))
          have L13 := Lib.hid (below_later L4.out F13.out)
          clear b13 HSP
          go_wp2_with fail
          refine (HA.out _ L13.out).mono ?_
          rintro e w14 ⟨v14, rfl, o14, b14⟩
          have F14 := Lib.hid (below_later F13.out b14)
          have HFI := Lib.hid (esame_any _ _ L L w14 (S4.out.later F14.out) o14.seg true (decide_eq_true rfl).symm)
          obtain ⟨o15, c15, rfl, _, _⟩ := o14.seg.shape
          clear o14 b14
          go_wp2_with fail
          refine HFI.out.mono ?_
          rintro e w15 ⟨rfl, b15⟩
          have L15 := Lib.hid (below_later L4.out (below_later F14.out b15))
          clear b15 HFI
          go_wp2
          go_ret
          exact ⟨rfl, L15.out⟩
end Go.Proofs.Ytcapmhmlipmciaa

