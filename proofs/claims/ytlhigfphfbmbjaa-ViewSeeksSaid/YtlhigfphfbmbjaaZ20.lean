/- ViewSeeks' walk. -/
import Derived.Test.YtlhigfphfbmbjaaZ18
import Derived.Test.YtlhigfphfbmbjaaZ19
namespace Go.Proofs.Kit
open Go.RowKit
theorem seek_rest {pre r : List Pr} {T : Pr} (hp : ∀ x ∈ pre, cf2 x T < 0) (hr : ∀ x ∈ r, 0 ≤ cf2 x T) : (pre ++ r).filter (fun q => decide (0 ≤ cf2 q T)) = r := by
  rw [List.filter_append, List.filter_eq_nil_iff.2 (fun x hx => by have := hp x hx; simp; omega), List.nil_append]
  exact List.filter_eq_self.2 fun x hx => by simpa using hr x hx
theorem run_from {p T : Pr} {r : List Pr} (h : Run (p :: r)) (h0 : 0 ≤ cf2 p T) : ∀ x ∈ p :: r, 0 ≤ cf2 x T := by
  intro x hx
  rcases List.mem_cons.1 hx with rfl | hx
  · exact h0
  · have h1 := h.head x hx
    have h2 : ¬ lt2 p T := fun k => by have := (cf2_neg p T).2 k; omega
    have h3 : ¬ lt2 x T := fun k => h2 (lt2_trans h1 k)
    exact Int.not_lt.1 fun k => h3 ((cf2_neg x T).1 k)
end Go.Proofs.Kit
namespace Go.Proofs.Ytlhigfphfbmbjaa
open Go.RowKit Go.Proofs.Kit Go.Shelf
theorem tri_at {w : World} {b : Nat} {p1 p2 q1 q2 : Int} (h : Blk w b #[.int .u64 p1, .int .u64 p2, .int .u64 q1, .int .u64 q2, .int .u64 p1, .int .u64 p2] 53) {i : Nat} (hi : i < 3) : ∃ x y : Int, w.cell? ⟨b, i * 2, none⟩ = some (.int .u64 x) ∧ w.cell? ⟨b, i * 2 + 1, none⟩ = some (.int .u64 y) := by
  match i, hi with
  | 0, _ => exact ⟨p1, p2, h.cell 0, h.cell 1⟩
  | 1, _ => exact ⟨q1, q2, h.cell 2, h.cell 3⟩
  | 2, _ => exact ⟨p1, p2, h.cell 4, h.cell 5⟩
set_option maxRecDepth 100000 in
set_option maxHeartbeats 16000000 in
theorem seeks_true (o : Option Addr) (n c : Nat) (X : List Tr) (p1 p2 q1 q2 : Int) (w : World) (hl : X.length = n) (hc : n ≤ c) (hm : c ≤ 9223372036854775807) (ha : ArgT w o c X) (hw : Wl X) :
    Calls Try.prog 9 #[.slice o n c, PV p1 p2, PV q1 q2] w fun e w' => e = .returned (.bool true) ∧ Below w.heap.size w w' := by
  have HA := Lib.hid (fun W (hb : Below w.heap.size w W) => own13_any o n c X W hl hc hm (ha.later hb))
  obtain ⟨L, hL⟩ : ∃ L, L = ownL X := ⟨_, rfl⟩
  rw [← hL] at HA
  have HW := Lib.hid (show Wl L by rw [hL]; exact ownL_w9 hw)
  have HS := Lib.hid (show SmT 16 L by rw [hL]; exact ownL_s9 X)
  clear hl hc hm ha hw hL
  go_enter Try.func9, Try.ntmps9
  go_wp2_with fail
  refine (wakes13_true _).mono ?_
  rintro e w1 ⟨rfl, b1⟩
  have gA := ((Gr.alloc w (.cells #[.int .u64 p1, .int .u64 p2] 53)).trans (Gr.alloc _ (.cells #[.int .u64 q1, .int .u64 q2] 53))).below
  have kp := ((Blk.new w #[.int .u64 p1, .int .u64 p2] 53).alloc (.cells #[.int .u64 q1, .int .u64 q2] 53)).later b1
  have kq := (Blk.new (w.alloc (.cells #[.int .u64 p1, .int .u64 p2] 53)) #[.int .u64 q1, .int .u64 q2] 53).later b1
  simp only [World.size_alloc] at kq
  have L1 := Lib.hid (below_later gA b1)
  have K1 := Lib.hid (And.intro kp kq)
  clear gA b1 kp kq
  go_wp2_with fail
  refine (HA.out _ L1.out).mono ?_
  rintro e w2 ⟨v2, rfl, o2, b2⟩
  have hs2 := o2.seg
  obtain ⟨ol, cl, rfl⟩ := o2.shape
  obtain ⟨nl, hnl⟩ : ∃ nl, nl = L.length := ⟨_, rfl⟩
  rw [← hnl] at hs2 ⊢
  have HNL := Lib.hid hnl
  have L2 := Lib.hid (below_later L1.out b2)
  have S2 := Lib.hid hs2
  have K2 := Lib.hid (And.intro (K1.out.1.later b2) (K1.out.2.later b2))
  clear o2 b2 hs2 hnl HA K1
  by_cases hg : goodT L
  · have HO := Lib.hid (vOf_any _ L w2 S2.out hg HW.out (HS.out.mono (by decide)))
    have hRl : (those L 1).length ≤ 384 := by
      have h1 := those_few HS.out
      have h2 := hg.2
      omega
    obtain ⟨R, hR⟩ : ∃ R, R = those L 1 := ⟨_, rfl⟩
    rw [← hR] at HO hRl
    clear hR hg
    go_wp2_with fail
    refine HO.out.mono ?_
    rintro e w3 ⟨lo, hi, a, rfl, v3, hlo, b3⟩
    have hhi := v3.top
    have V3 := Lib.hid v3
    have L3 := Lib.hid (below_later L2.out b3)
    have kp := K2.out.1.later b3
    have kq := K2.out.2.later b3
    have p0 := kp.cell 0
    have p1' := kp.cell 1
    have q0 := kq.cell 0
    have q1' := kq.cell 1
    have lp := kp.lt
    have lq := kq.lt
    simp only [List.getElem?_toArray, List.getElem?_cons_zero, List.getElem?_cons_succ] at p0 p1' q0 q1'
    have hwlo : w.heap.size ≤ lo := Nat.le_trans L2.out.size hlo
    clear v3 b3 HO kp kq K2
    go_wp2_with fail
    obtain ⟨w4, hw4⟩ : ∃ w4, w4 = w3.alloc (.cells #[.int .u64 p1, .int .u64 p2, .int .u64 q1, .int .u64 q2, .int .u64 p1, .int .u64 p2] 53) := ⟨_, rfl⟩
    have g4 : Gr w3 w4 := by rw [hw4]; exact Gr.alloc _ _
    have k4 : Blk w4 w3.heap.size #[.int .u64 p1, .int .u64 p2, .int .u64 q1, .int .u64 q2, .int .u64 p1, .int .u64 p2] 53 := by rw [hw4]; exact Blk.new _ _ _
    have V4 := Lib.hid (V3.out.gr g4)
    have L4 := Lib.hid (below_later L3.out g4.below)
    have K4 := Lib.hid k4
    have h34 : hi ≤ w4.heap.size := Nat.le_trans hhi g4.below.size
    have k4lt := k4.lt
    have hlohi : lo < hi := by have := V3.out.box; omega
    have HRL := Lib.hid hRl
    rw [← hw4]
    clear hw4 g4 k4 V3 L2 L3 S2 p0 p1' q0 q1' lp lq HW HS HNL hRl
    go_loopw [29] (fun s29 wr => ∃ (i : Nat) (r : List Pr), s29 = .int .i64 (i : Int) ∧ i ≤ 3 ∧ Hid (r.length ≤ 384) ∧ Hid (VS 100 lo lo hi wr a L r) ∧ Hid (Blk wr w3.heap.size #[.int .u64 p1, .int .u64 p2, .int .u64 q1, .int .u64 q2, .int .u64 p1, .int .u64 p2] 53) ∧ Hid (Below lo w4 wr)) (fun s29 _ => 3 - (intOf s29).toNat)
    case atStart => exact ⟨0, R, rfl, by omega, HRL, V4, K4, Lib.hid (Below.refl _ _)⟩
    case round =>
      obtain ⟨i, r, rfl, hi3, HRL, HV, HK, HL⟩ := hrel
      obtain ⟨wo, hwo⟩ : ∃ wo, wo = wr := ⟨_, rfl⟩
      subst hwo
      by_cases hlt : i < 3
      · obtain ⟨tx, ty, t0, t1⟩ := tri_at HK.out hlt
        have lk := HK.out.lt
        have h4r := HL.out.size
        have gT := Gr.alloc wo (.cells #[.int .u64 tx, .int .u64 ty] 53)
        have HCP := Lib.hid (vCopy_any (HV.out.gr gT))
        have BT := Lib.hid (Blk.new wo #[.int .u64 tx, .int .u64 ty] 53)
        have hdl : decide ((i : Int) < 3) = true := decide_eq_true (by omega)
        go_wp2_with fail
        refine HCP.out.mono ?_
        rintro e w5 ⟨b, rfl, v5, b5⟩
        have hs5 : wo.heap.size + 1 ≤ w5.heap.size := by have := b5.size; simpa using this
        have B5 := Lib.hid (below_later gT.below b5)
        simp only [World.size_alloc] at v5 b5
        have V5 := Lib.hid v5
        have T5 := Lib.hid (BT.out.below b5 (Nat.lt_succ_self _))
        have VA5 := Lib.hid (HV.out.later B5.out)
        clear v5 b5 gT BT HCP t0 t1
        go_wp2_with fail
        have hrun := Lib.hid HV.out.run
        have HRN := hrun
        go_loopw [35] (fun s35 wi => ∃ (j : Nat) (pre rr : List Pr), s35 = .int .i64 (j : Int) ∧ j ≤ 416 ∧ pre.length = j ∧ Hid (pre ++ rr = r) ∧ Hid (∀ x ∈ pre, cf2 x (tx, ty) < 0) ∧ Hid (VS 100 (wo.heap.size + 1) (wo.heap.size + 1 + 1) w5.heap.size wi b L rr) ∧ Hid (Below (wo.heap.size + 1) w5 wi)) (fun s35 _ => 416 - (intOf s35).toNat)
        case atStart => exact ⟨0, [], r, rfl, by omega, rfl, Lib.hid rfl, Lib.hid (fun x h => by cases h), V5, Lib.hid (Below.refl _ _)⟩
        case round =>
          obtain ⟨j, pre, rr, rfl, hj, hpj, HPR, HPN, HB, HI⟩ := hrel
          obtain ⟨wi, hwi'⟩ : ∃ wi, wi = wr := ⟨_, rfl⟩
          subst hwi'
          have hj384 : j ≤ 384 := by
            have h1 := HPR.out
            have h2 := HRL.out
            rw [← h1, List.length_append] at h2
            omega
          have hdj : decide ((j : Int) < 416) = true := decide_eq_true (by omega)
          have HAT := Lib.hid (vAt_any HB.out)
          have hsi := HI.out.size
          have hwi : wo.heap.size + 1 ≤ wi.heap.size := Nat.le_trans hs5 hsi
          have HTI := Lib.hid (T5.out.below HI.out (Nat.lt_succ_self _))
          by_cases hstop : ∀ x ∈ rr, 0 ≤ cf2 x (tx, ty)
          · have HST := Lib.hid hstop
            obtain ⟨r', hr'⟩ : ∃ r', r' = rr := ⟨_, rfl⟩
            have HRR := Lib.hid hr'
            rw [← hr'] at HAT hstop
            clear hr'
            go_wp2_with fail
            refine HAT.out.mono ?_
            rintro e w6 ⟨rfl, b6⟩
            have hs6 := b6.size
            rcases r' with _ | ⟨⟨x, y⟩, r'⟩
            · simp only [hd9]
              have gA := Gr.alloc w6 (.cells #[.int .u64 0, .int .u64 0] 53)
              have hTZ := (HTI.out.later b6).later gA.below
              have t0 := hTZ.cell 0
              have t1 := hTZ.cell 1
              have lt := hTZ.lt
              simp only [List.getElem?_toArray, List.getElem?_cons_zero, List.getElem?_cons_succ] at t0 t1
              have HBZ := Lib.hid (below_later b6 gA.below)
              have HTZ := Lib.hid hTZ
              clear b6 gA HAT hTZ
              go_wp2_with fail
              obtain ⟨wz, hwz⟩ : ∃ wz, wz = w6.alloc (.cells #[.int .u64 0, .int .u64 0] 53) := ⟨_, rfl⟩
              have hzs : w6.heap.size ≤ wz.heap.size := by rw [hwz]; simp
              rw [← hwz] at HBZ HTZ ⊢
              clear hwz
              have hz : Below (wo.heap.size + 1) w5 wz := HI.out.trans (HBZ.out.mono hwi)
              have hlr : rr.length ≤ 384 := by
                have h1 := HPR.out
                have h2 := HRL.out
                rw [← h1, List.length_append] at h2
                omega
              have vaz : VS 100 lo lo hi wz a L r := VA5.out.keep (Same9.below hz (by omega))
              have hfil : (r.filter fun q => decide (0 ≤ cf2 q (tx, ty))) = rr := by rw [← HPR.out]; exact seek_rest HPN.out HST.out
              have hfil2 : (rr.filter fun q => decide (0 ≤ cf2 q (tx, ty))) = rr := seek_rest (pre := []) (fun x h => by cases h) HST.out
              have HF2 := Lib.hid hfil2
              have HLR := Lib.hid hlr
              have hsk := vSeek_any (tx, ty) vaz
              rw [hfil] at hsk
              have HSK := Lib.hid hsk
              have VBZ := Lib.hid (HB.out.later HBZ.out)
              have hszz := hz.size
              have KZ := Lib.hid ((HK.out.later B5.out).below hz (by omega))
              have LZ := Lib.hid ((HL.out.trans (B5.out.mono (by omega))).trans (hz.mono (by omega)))
              clear hz vaz hfil hfil2 hsk hlr
              refine HSK.out.mono ?_
              rintro e w8 ⟨rfl, v8, m8⟩
              have VB8 := Lib.hid (VBZ.out.keep ⟨m8.size, fun k h1 h2 => m8.same k (fun h => by omega) (Nat.lt_of_lt_of_le h2 VBZ.out.top)⟩)
              have T8 := Lib.hid (m8.blk9 HTZ.out (by omega))
              have K8 := Lib.hid (m8.blk9 KZ.out hhi)
              have L8 := Lib.hid (LZ.out.trans (m8.below (fun k hk => hk.1) (by omega)))
              have V8 := Lib.hid v8
              have HRE := Lib.hid (vRest_any v8 (by have := HLR.out; omega))
              have hs8 := m8.size
              clear v8 m8 HSK
              go_wp2_with fail
              refine HRE.out.mono ?_
              rintro e w9 ⟨v9, rfl, o9, b9⟩
              obtain ⟨ov, cv, rfl⟩ := o9.shape
              have HRE2 := Lib.hid (vRest_any (VB8.out.later b9) (by have := HLR.out; omega))
              have O9 := Lib.hid o9
              have B9 := Lib.hid b9
              clear o9 b9 HRE
              go_wp2_with fail
              refine HRE2.out.mono ?_
              rintro e w10 ⟨v10, rfl, o10, b10⟩
              obtain ⟨ow, cw, rfl⟩ := o10.shape
              have HEQ := Lib.hid (equalP_seg _ _ rr rr w10 (O9.out.seg.later b10) o10.seg)
              rw [decide_eq_true rfl] at HEQ
              have B10 := Lib.hid (below_later B9.out b10)
              clear o10 b10 HRE2
              go_wp2_with fail
              refine HEQ.out.mono ?_
              rintro e w11 ⟨rfl, g11⟩
              have B11 := Lib.hid (below_later B10.out g11.below)
              have t8 := T8.out.later B11.out
              have t0 := t8.cell 0
              have t1 := t8.cell 1
              have lt := t8.lt
              simp only [List.getElem?_toArray, List.getElem?_cons_zero, List.getElem?_cons_succ] at t0 t1
              have V11 := Lib.hid (V8.out.later B11.out)
              have VB11 := Lib.hid (VB8.out.later B11.out)
              have K11 := Lib.hid (K8.out.later B11.out)
              have L11 := Lib.hid (L8.out.trans (B11.out.mono (by omega)))
              have hs11 := B11.out.size
              have hsk := vSeek_any (tx, ty) V11.out
              rw [HF2.out] at hsk
              have HSK := Lib.hid hsk
              clear t8 g11 HEQ hsk
              go_wp2_with fail
              refine HSK.out.mono ?_
              rintro e w12 ⟨rfl, v12, m12⟩
              have VB12 := Lib.hid (VB11.out.keep ⟨m12.size, fun k h1 h2 => m12.same k (fun h => by omega) (Nat.lt_of_lt_of_le h2 VB11.out.top)⟩)
              have K12 := Lib.hid (m12.blk9 K11.out hhi)
              have L12 := Lib.hid (L11.out.trans (m12.below (fun k hk => hk.1) (by omega)))
              have V12 := Lib.hid v12
              have HRE := Lib.hid (vRest_any v12 (by have := HLR.out; omega))
              have hs12 := m12.size
              clear v12 m12 HSK
              go_wp2_with fail
              refine HRE.out.mono ?_
              rintro e w13 ⟨v13, rfl, o13, b13⟩
              obtain ⟨oy, cy, rfl⟩ := o13.shape
              have HRE2 := Lib.hid (vRest_any (VB12.out.later b13) (by have := HLR.out; omega))
              have O13 := Lib.hid o13
              have B13 := Lib.hid b13
              clear o13 b13 HRE
              go_wp2_with fail
              refine HRE2.out.mono ?_
              rintro e w14 ⟨v14, rfl, o14, b14⟩
              obtain ⟨oz, cz, rfl⟩ := o14.shape
              have HEQ := Lib.hid (equalP_seg _ _ rr rr w14 (O13.out.seg.later b14) o14.seg)
              rw [decide_eq_true rfl] at HEQ
              have B14 := Lib.hid (below_later B13.out b14)
              clear o14 b14 HRE2
              go_wp2_with fail
              refine HEQ.out.mono ?_
              rintro e w15 ⟨rfl, g15⟩
              have B15 := Lib.hid (below_later B14.out g15.below)
              clear g15 HEQ
              go_wp2
              go_roundw
              case rel => exact ⟨i + 1, rr, by go_num, by omega, HLR, Lib.hid (V12.out.later B15.out), Lib.hid (K12.out.later B15.out), Lib.hid (L12.out.trans (B15.out.mono (by omega)))⟩
              case measure => simp [intOf]; omega
            · simp only [hd9]
              have h0 : decide (cf2 (x, y) (tx, ty) ≥ 0) = true := decide_eq_true (hstop _ (List.mem_cons_self ..))
              have gA := Gr.alloc w6 (.cells #[.int .u64 x, .int .u64 y] 53)
              have hTZ := (HTI.out.later b6).later gA.below
              have t0 := hTZ.cell 0
              have t1 := hTZ.cell 1
              have lt := hTZ.lt
              simp only [List.getElem?_toArray, List.getElem?_cons_zero, List.getElem?_cons_succ] at t0 t1
              have HBZ := Lib.hid (below_later b6 gA.below)
              have HTZ := Lib.hid hTZ
              clear b6 gA HAT hTZ hstop
              go_wp2_with fail
              refine (compare_any x y tx ty _).mono ?_
              rintro e w7 ⟨rfl, g7⟩
              have hTZ := HTZ.out.later g7.below
              have t0 := hTZ.cell 0
              have t1 := hTZ.cell 1
              have lt := hTZ.lt
              simp only [List.getElem?_toArray, List.getElem?_cons_zero, List.getElem?_cons_succ] at t0 t1
              have HBZ := Lib.hid (below_later HBZ.out g7.below)
              have HTZ := Lib.hid hTZ
              clear g7 hTZ
              go_wp2_with fail
              obtain ⟨wz, hwz⟩ : ∃ wz, wz = w7 := ⟨_, rfl⟩
              subst hwz
              have hz : Below (wo.heap.size + 1) w5 wz := HI.out.trans (HBZ.out.mono hwi)
              have hlr : rr.length ≤ 384 := by
                have h1 := HPR.out
                have h2 := HRL.out
                rw [← h1, List.length_append] at h2
                omega
              have vaz : VS 100 lo lo hi wz a L r := VA5.out.keep (Same9.below hz (by omega))
              have hfil : (r.filter fun q => decide (0 ≤ cf2 q (tx, ty))) = rr := by rw [← HPR.out]; exact seek_rest HPN.out HST.out
              have hfil2 : (rr.filter fun q => decide (0 ≤ cf2 q (tx, ty))) = rr := seek_rest (pre := []) (fun x h => by cases h) HST.out
              have HF2 := Lib.hid hfil2
              have HLR := Lib.hid hlr
              have hsk := vSeek_any (tx, ty) vaz
              rw [hfil] at hsk
              have HSK := Lib.hid hsk
              have VBZ := Lib.hid (HB.out.later HBZ.out)
              have hszz := hz.size
              have KZ := Lib.hid ((HK.out.later B5.out).below hz (by omega))
              have LZ := Lib.hid ((HL.out.trans (B5.out.mono (by omega))).trans (hz.mono (by omega)))
              clear hz vaz hfil hfil2 hsk hlr
              refine HSK.out.mono ?_
              rintro e w8 ⟨rfl, v8, m8⟩
              have VB8 := Lib.hid (VBZ.out.keep ⟨m8.size, fun k h1 h2 => m8.same k (fun h => by omega) (Nat.lt_of_lt_of_le h2 VBZ.out.top)⟩)
              have T8 := Lib.hid (m8.blk9 HTZ.out (by omega))
              have K8 := Lib.hid (m8.blk9 KZ.out hhi)
              have L8 := Lib.hid (LZ.out.trans (m8.below (fun k hk => hk.1) (by omega)))
              have V8 := Lib.hid v8
              have HRE := Lib.hid (vRest_any v8 (by have := HLR.out; omega))
              have hs8 := m8.size
              clear v8 m8 HSK
              go_wp2_with fail
              refine HRE.out.mono ?_
              rintro e w9 ⟨v9, rfl, o9, b9⟩
              obtain ⟨ov, cv, rfl⟩ := o9.shape
              have HRE2 := Lib.hid (vRest_any (VB8.out.later b9) (by have := HLR.out; omega))
              have O9 := Lib.hid o9
              have B9 := Lib.hid b9
              clear o9 b9 HRE
              go_wp2_with fail
              refine HRE2.out.mono ?_
              rintro e w10 ⟨v10, rfl, o10, b10⟩
              obtain ⟨ow, cw, rfl⟩ := o10.shape
              have HEQ := Lib.hid (equalP_seg _ _ rr rr w10 (O9.out.seg.later b10) o10.seg)
              rw [decide_eq_true rfl] at HEQ
              have B10 := Lib.hid (below_later B9.out b10)
              clear o10 b10 HRE2
              go_wp2_with fail
              refine HEQ.out.mono ?_
              rintro e w11 ⟨rfl, g11⟩
              have B11 := Lib.hid (below_later B10.out g11.below)
              have t8 := T8.out.later B11.out
              have t0 := t8.cell 0
              have t1 := t8.cell 1
              have lt := t8.lt
              simp only [List.getElem?_toArray, List.getElem?_cons_zero, List.getElem?_cons_succ] at t0 t1
              have V11 := Lib.hid (V8.out.later B11.out)
              have VB11 := Lib.hid (VB8.out.later B11.out)
              have K11 := Lib.hid (K8.out.later B11.out)
              have L11 := Lib.hid (L8.out.trans (B11.out.mono (by omega)))
              have hs11 := B11.out.size
              have hsk := vSeek_any (tx, ty) V11.out
              rw [HF2.out] at hsk
              have HSK := Lib.hid hsk
              clear t8 g11 HEQ hsk
              go_wp2_with fail
              refine HSK.out.mono ?_
              rintro e w12 ⟨rfl, v12, m12⟩
              have VB12 := Lib.hid (VB11.out.keep ⟨m12.size, fun k h1 h2 => m12.same k (fun h => by omega) (Nat.lt_of_lt_of_le h2 VB11.out.top)⟩)
              have K12 := Lib.hid (m12.blk9 K11.out hhi)
              have L12 := Lib.hid (L11.out.trans (m12.below (fun k hk => hk.1) (by omega)))
              have V12 := Lib.hid v12
              have HRE := Lib.hid (vRest_any v12 (by have := HLR.out; omega))
              have hs12 := m12.size
              clear v12 m12 HSK
              go_wp2_with fail
              refine HRE.out.mono ?_
              rintro e w13 ⟨v13, rfl, o13, b13⟩
              obtain ⟨oy, cy, rfl⟩ := o13.shape
              have HRE2 := Lib.hid (vRest_any (VB12.out.later b13) (by have := HLR.out; omega))
              have O13 := Lib.hid o13
              have B13 := Lib.hid b13
              clear o13 b13 HRE
              go_wp2_with fail
              refine HRE2.out.mono ?_
              rintro e w14 ⟨v14, rfl, o14, b14⟩
              obtain ⟨oz, cz, rfl⟩ := o14.shape
              have HEQ := Lib.hid (equalP_seg _ _ rr rr w14 (O13.out.seg.later b14) o14.seg)
              rw [decide_eq_true rfl] at HEQ
              have B14 := Lib.hid (below_later B13.out b14)
              clear o14 b14 HRE2
              go_wp2_with fail
              refine HEQ.out.mono ?_
              rintro e w15 ⟨rfl, g15⟩
              have B15 := Lib.hid (below_later B14.out g15.below)
              clear g15 HEQ
              go_wp2
              go_roundw
              case rel => exact ⟨i + 1, rr, by go_num, by omega, HLR, Lib.hid (V12.out.later B15.out), Lib.hid (K12.out.later B15.out), Lib.hid (L12.out.trans (B15.out.mono (by omega)))⟩
              case measure => simp [intOf]; omega
          · obtain ⟨x, y, r', rfl⟩ : ∃ x y r', rr = (x, y) :: r' := by
              rcases rr with _ | ⟨⟨x, y⟩, r'⟩
              · exact absurd (fun x h => by cases h) hstop
              · exact ⟨x, y, r', rfl⟩
            have hn : cf2 (x, y) (tx, ty) < 0 := Int.not_le.1 fun k => hstop (run_from HB.out.run k)
            have HN := Lib.hid hn
            have h0 : decide (cf2 (x, y) (tx, ty) ≥ 0) = false := decide_eq_false (by omega)
            simp only [hd9] at HAT
            clear hstop hn
            go_wp2_with fail
            refine HAT.out.mono ?_
            rintro e w6 ⟨rfl, b6⟩
            have hs6 := b6.size
            have gA := Gr.alloc w6 (.cells #[.int .u64 x, .int .u64 y] 53)
            have hTZ := (HTI.out.later b6).later gA.below
            have t0 := hTZ.cell 0
            have t1 := hTZ.cell 1
            have lt := hTZ.lt
            simp only [List.getElem?_toArray, List.getElem?_cons_zero, List.getElem?_cons_succ] at t0 t1
            have HBZ := Lib.hid (below_later b6 gA.below)
            clear b6 gA HAT hTZ
            go_wp2_with fail
            refine (compare_any x y tx ty _).mono ?_
            rintro e w7 ⟨rfl, g7⟩
            have HBZ := Lib.hid (below_later HBZ.out g7.below)
            have HNX := Lib.hid (vNext_any (HB.out.later HBZ.out))
            clear g7
            go_wp2_with fail
            refine HNX.out.mono ?_
            rintro e w8 ⟨rfl, v8, m8⟩
            have H8 := Lib.hid (And.intro v8 ((HI.out.trans (HBZ.out.mono hwi)).trans (m8.below (fun k hk => by omega) (by have := HBZ.out.size; omega))))
            clear v8 m8 HNX
            go_wp2
            go_roundw
            case rel => exact ⟨j + 1, pre ++ [(x, y)], r', by go_num, by omega, by rw [List.length_append, hpj]; rfl, Lib.hid (by rw [List.append_assoc]; exact HPR.out), Lib.hid (fun z hz => by
              rcases List.mem_append.1 hz with hz | hz
              · exact HPN.out z hz
              · simp only [List.mem_cons, List.not_mem_nil, or_false] at hz
                rw [hz]; exact HN.out), Lib.hid H8.out.1, Lib.hid H8.out.2⟩
            case measure => simp [intOf]; omega
      · obtain rfl : i = 3 := by omega
        have hdl : decide (((3 : Nat) : Int) < 3) = false := by decide
        go_wp2_with fail
        go_ret
        exact ⟨rfl, L4.out.trans (HL.out.mono hwlo)⟩
  · have HO := Lib.hid (vOf_no _ L w2 S2.out hg (HS.out.mono (by decide)))
    go_wp2_with fail
    refine HO.out.mono ?_
    rintro e w3 ⟨rfl, b3⟩
    have L3 := Lib.hid (below_later L2.out b3)
    go_wp2
    go_ret
    exact ⟨rfl, L3.out⟩
end Go.Proofs.Ytlhigfphfbmbjaa

