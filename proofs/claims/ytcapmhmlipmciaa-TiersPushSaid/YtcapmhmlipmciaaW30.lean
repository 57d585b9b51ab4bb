/- TiersPush' walk. -/
import Derived.Test.YtcapmhmlipmciaaW20
import Derived.Test.YtcapmhmlipmciaaW22
import Derived.Test.YtcapmhmlipmciaaWZ
import Derived.Deep.CutBlock
namespace Go.Proofs.Ytcapmhmlipmciaa
open Go.RowKit Go.Proofs.Kit Go.Shelf
set_option maxRecDepth 100000 in
set_option maxHeartbeats 16000000 in
theorem push_true (o : Option Addr) (n c : Nat) (X : List Tr) (oa : Option Addr) (na ca : Nat) (A : List Pr) (od : Option Addr) (nd cd : Nat) (D : List Pr) (w : World)
    (hl : X.length = n) (hc : n ≤ c) (hm : c ≤ 9223372036854775807) (ha : ArgT w o c X) (hw : Wl X) (ala : A.length = na) (aca : na ≤ ca) (ama : ca ≤ 9223372036854775807) (aa : ArgP w oa ca A) (dld : D.length = nd) (dcd : nd ≤ cd) (dmd : cd ≤ 9223372036854775807) (dd : ArgP w od cd D) (hwa : ∀ p ∈ A, Wp p) (hwd : ∀ p ∈ D, Wp p) :
    Calls Try.prog 4 #[.slice o n c, .slice oa na ca, .slice od nd cd] w fun e w' => e = .returned (.bool true) ∧ Below w.heap.size w w' := by
  obtain ⟨i0, hi, hz0, hz1, hz2⟩ := infoT
  have HA := Lib.hid (fun W (hb : Below w.heap.size w W) => own11_any o n c X W hl hc hm (ha.later hb))
  have HAA := Lib.hid (fun W (hb : Below w.heap.size w W) => few11_any oa na ca A W ala aca ama (aa.later hb))
  have HAD := Lib.hid (fun W (hb : Below w.heap.size w W) => few11_any od nd cd D W dld dcd dmd (dd.later hb))
  obtain ⟨L, hL⟩ : ∃ L, L = ownL X := ⟨_, rfl⟩
  obtain ⟨a, hA⟩ : ∃ a, a = A.take 16 := ⟨_, rfl⟩
  obtain ⟨d, hD⟩ : ∃ d, d = D.take 16 := ⟨_, rfl⟩
  rw [← hL] at HA
  rw [← hA] at HAA
  rw [← hD] at HAD
  have HW := Lib.hid (show Wl L by rw [hL]; exact ownL_w hw)
  have HS := Lib.hid (show SmT 16 L by rw [hL]; exact ownL_s X)
  have HL26 := Lib.hid (show L.length ≤ 26 by rw [hL]; exact ownL_len X)
  have HAL := Lib.hid (show a.length ≤ 16 ∧ d.length ≤ 16 by rw [hA, hD]; simp; omega)
  have HWT := Lib.hid (show Wt (a, d) from ⟨fun p hp => hwa p (by rw [hA] at hp; exact List.mem_of_mem_take hp), fun p hp => hwd p (by rw [hD] at hp; exact List.mem_of_mem_take hp)⟩)
  clear hL hl ha hw hA hD ala aa dld dd hwa hwd
  go_enter Try.func4, Try.ntmps4
  go_wp2_with fail
  refine (wakes11_true _).mono ?_
  rintro e w1 ⟨rfl, b1⟩
  have L1 := Lib.hid b1
  clear b1
  go_wp2_with fail
  refine (HA.out _ L1.out).mono ?_
  rintro e w2 ⟨v2, rfl, o2, b2⟩
  have L2 := Lib.hid (below_later L1.out b2)
  have S2 := Lib.hid o2.seg
  obtain ⟨ol, cl, rfl, _, _⟩ := o2.seg.shape
  clear o2 b2
  go_wp2_with fail
  refine (HAA.out _ L2.out).mono ?_
  rintro e w3 ⟨v3, rfl, o3, b3⟩
  have L3 := Lib.hid (below_later L2.out b3)
  have S3 := Lib.hid (S2.out.later b3)
  have A3 := Lib.hid o3.seg
  obtain ⟨oa', ca', rfl⟩ := o3.shape
  clear o3 b3
  go_wp2_with fail
  refine (HAD.out _ L3.out).mono ?_
  rintro e w4 ⟨v4, rfl, o4, b4⟩
  have L4 := Lib.hid (below_later L3.out b4)
  have S4 := Lib.hid (S3.out.later b4)
  have A4 := Lib.hid (A3.out.later b4)
  have D4 := Lib.hid o4.seg
  obtain ⟨od', cd', rfl⟩ := o4.shape
  obtain ⟨nl, hnl'⟩ : ∃ nl, nl = L.length := ⟨_, rfl⟩
  have HNL := Lib.hid hnl'
  obtain ⟨ma, hma⟩ : ∃ ma, ma = a.length := ⟨_, rfl⟩
  obtain ⟨md, hmd⟩ : ∃ md, md = d.length := ⟨_, rfl⟩
  have HPU := Lib.hid (push_any _ _ _ L a d w4 S4.out A4.out D4.out (HS.out.mono (by decide)) (by have := HAL.out; omega) (by have := HAL.out; omega))
  rw [← hnl'] at S4 HPU ⊢
  rw [← hma] at A4 HPU ⊢
  rw [← hmd] at D4 HPU ⊢
  obtain ⟨pe, hpe⟩ : ∃ pe, pe = pushE L a d := ⟨_, rfl⟩
  rw [← hpe] at HPU
  have HPE := Lib.hid hpe
  have H4 := Lib.hid (show w.heap.size ≤ w4.heap.size from L4.out.size)
  clear o4 b4 S2 S3 A3 L1 L2 L3 hnl' hma hmd hpe
  go_wp2_with fail
  refine HPU.out.mono ?_
  rintro e w5 ⟨v5, rfl, o5, b5⟩
  have E5 := Lib.hid b5
  have O5 := Lib.hid o5
  obtain ⟨on, cn, rfl, _, _⟩ := o5.seg.shape
  obtain ⟨nn, hnn⟩ : ∃ nn, nn = (pushL L a d).length := ⟨_, rfl⟩
  rw [← hnn] at O5 ⊢
  have L5 := Lib.hid (below_later L4.out b5)
  have S5 := Lib.hid (S4.out.later b5)
  have A5 := Lib.hid (A4.out.later b5)
  have D5 := Lib.hid (D4.out.later b5)
  clear o5 b5 HPU hnn
  go_upto_block 0 with fail
  go_cut [12, 13] from 29 to 60 (fun s12 s13 wx => ∃ ow nw cw, s12 = .slice ow nw cw ∧ s13 = .int .i64 pe ∧ Hid (SegT wx (.slice ow nw cw) (pushL L a d) ∧ Below w5.heap.size w5 wx))
  case first =>
    have HR := Lib.hid (fun r hr => right11_any _ L w5 (S5.out) (HS.out.mono (by decide)) r hr)
    obtain ⟨r, hr⟩ : ∃ r, r = decide (goodT L) := ⟨_, rfl⟩
    have HRR := Lib.hid hr
    clear hr
    go_wp2_with fail
    refine (HR.out r HRR.out).mono ?_
    rintro e w6 ⟨rfl, b6⟩
    have E6 := Lib.hid b6
    clear b6 HR
    cases r
    · have hng := of_decide_eq_false HRR.out.symm
      have hp : pe = 210 := by rw [HPE.out, pushE, if_neg hng]
      have hq : pushL L a d = [] := by rw [pushL, ← HPE.out, hp, if_neg (by decide)]
      subst hp
      have HQ := Lib.hid hq
      clear hng hq
      go_wp2_with fail
      go_meet
      case rel => exact ⟨_, _, _, rfl, rfl, Lib.hid ⟨by rw [HQ.out]; exact SegT.nil _, E6.out⟩⟩
    · have hg := of_decide_eq_true HRR.out.symm
      have HG := Lib.hid hg
      clear hg
      have HRA := Lib.hid (right_any _ a w6 (A5.out.later E6.out))
      obtain ⟨ra, hra⟩ : ∃ ra, ra = decide (okP a) := ⟨_, rfl⟩
      rw [← hra] at HRA
      have HRAA := Lib.hid hra
      clear hra
      go_wp2_with fail
      refine HRA.out.mono ?_
      rintro e w7 ⟨rfl, g7⟩
      have E7 := Lib.hid (below_later E6.out g7.below)
      clear g7 HRA
      cases ra
      · have hno := of_decide_eq_false HRAA.out.symm
        have hp : pe = 130 := by rw [HPE.out, pushE, if_pos HG.out, if_neg (fun x => hno x.1)]
        have hq : pushL L a d = [] := by rw [pushL, ← HPE.out, hp, if_neg (by decide)]
        subst hp
        have HQ := Lib.hid hq
        clear hno hq
        go_wp2_with fail
        go_meet
        case rel => exact ⟨_, _, _, rfl, rfl, Lib.hid ⟨by rw [HQ.out]; exact SegT.nil _, E7.out⟩⟩
      · have hoa := of_decide_eq_true HRAA.out.symm
        have HOA := Lib.hid hoa
        clear hoa
        have HRD := Lib.hid (right_any _ d w7 (D5.out.later E7.out))
        obtain ⟨rd, hrd⟩ : ∃ rd, rd = decide (okP d) := ⟨_, rfl⟩
        rw [← hrd] at HRD
        have HRDD := Lib.hid hrd
        clear hrd
        go_wp2_with fail
        refine HRD.out.mono ?_
        rintro e w8 ⟨rfl, g8⟩
        have E8 := Lib.hid (below_later E7.out g8.below)
        clear g8 HRD
        cases rd
        · have hno := of_decide_eq_false HRDD.out.symm
          have hp : pe = 130 := by rw [HPE.out, pushE, if_pos HG.out, if_neg (fun x => hno x.2)]
          have hq : pushL L a d = [] := by rw [pushL, ← HPE.out, hp, if_neg (by decide)]
          subst hp
          have HQ := Lib.hid hq
          clear hno hq
          go_wp2_with fail
          go_meet
          case rel => exact ⟨_, _, _, rfl, rfl, Lib.hid ⟨by rw [HQ.out]; exact SegT.nil _, E8.out⟩⟩
        · have hod := of_decide_eq_true HRDD.out.symm
          have HOD := Lib.hid hod
          clear hod
          have HKE := Lib.hid (dkept_any _ a _ d true w8 (A5.out.later E8.out) (by have := HAL.out.1; omega) (D5.out.later E8.out))
          have hz := kept_zero a d
          obtain ⟨F, hF⟩ : ∃ F, F = a.filter fun x => decide (x ∈ d) == true := ⟨_, rfl⟩
          rw [← hF] at hz HKE
          have HZ := Lib.hid hz
          clear hz hF
          go_wp2_with fail
          refine HKE.out.mono ?_
          rintro e w9 ⟨v9, rfl, o9, b9⟩
          have E9 := Lib.hid (below_later E8.out b9)
          obtain ⟨o', c', rfl⟩ := o9.shape
          obtain ⟨nf, hnf⟩ : ∃ nf, nf = F.length := ⟨_, rfl⟩
          have hz := HZ.out
          rw [← hnf] at hz ⊢
          have HZZ := Lib.hid hz
          clear hz hnf o9 b9 HKE HZ
          by_cases hf : nf = 0
          · have hap : ∀ p ∈ a, p ∉ d := by
              have h := HZZ.out
              rw [hf] at h
              exact of_decide_eq_true h.symm
            have HAP := Lib.hid hap
            subst hf
            clear hap HZZ
            by_cases h24 : nl = 24
            · have hp : pe = 6 := by rw [HPE.out, pushE, if_pos HG.out, if_pos ⟨HOA.out, HOD.out⟩, if_pos HAP.out, if_pos (by have := HNL.out; omega)]
              have hq : pushL L a d = [] := by rw [pushL, ← HPE.out, hp, if_neg (by decide)]
              subst hp h24
              have HQ := Lib.hid hq
              clear hq
              go_wp2_with fail
              go_meet
              case rel => exact ⟨_, _, _, rfl, rfl, Lib.hid ⟨by rw [HQ.out]; exact SegT.nil _, E9.out⟩⟩
            · have hp : pe = 0 := by rw [HPE.out, pushE, if_pos HG.out, if_pos ⟨HOA.out, HOD.out⟩, if_pos HAP.out, if_neg (by have := HNL.out; omega)]
              have hq : pushL L a d = L ++ [(a, d)] := by rw [pushL, ← HPE.out, hp, if_pos rfl]
              have t24 : ((nl : Int) == 24) = false := by simp; omega
              subst hp
              have HQ := Lib.hid hq
              clear hq h24
              go_wp2_with fail
              refine (HA.out _ (below_later L5.out E9.out)).mono ?_
              rintro e w10 ⟨v10, rfl, o10, b10⟩
              have X10 := Lib.hid (o10.mono (B' := w5.heap.size) E9.out.size)
              have E10 := Lib.hid (below_later E9.out b10)
              obtain ⟨ol', cl', rfl⟩ := o10.shape
              clear o10 b10
              go_wp2_with fail
              refine (HAA.out _ (below_later L5.out E10.out)).mono ?_
              rintro e w11 ⟨v11, rfl, o11, b11⟩
              have X11 := Lib.hid (X10.out.later b11)
              have Y11 := Lib.hid (o11.mono (B' := w5.heap.size) E10.out.size)
              have E11 := Lib.hid (below_later E10.out b11)
              obtain ⟨yo, yn, yc, rfl⟩ := o11.any
              clear o11 b11
              go_wp2_with fail
              refine (HAD.out _ (below_later L5.out E11.out)).mono ?_
              rintro e w12 ⟨v12, rfl, o12, b12⟩
              have Y12 := Lib.hid (Y11.out.later b12)
              have Z12 := Lib.hid (o12.mono (B' := w5.heap.size) E11.out.size)
              have E12 := Lib.hid (below_later E11.out b12)
              obtain ⟨l, ot⟩ := OwnT.open (X11.out.later b12)
              have OTT := Lib.hid ot
              have HLL := Lib.hid (show l.length ≤ 26 by rw [ot.len]; exact HL26.out)
              obtain ⟨zo, zn, zc, rfl⟩ := o12.any
              clear o12 b12 ot
              go_wp2_with (at_builtin; refine wpList_append_segE (E := tiE) rfl _ _ 22 rfl w5.heap.size 38 i0 (.agg #[.slice none 0 0, .slice none 0 0]) 48 Try.underlying22 hi hz0 hz1 hz2 rfl _ _ rfl (OTT.out.own.later (Gr.alloc _ _).below) _ [⟨yo, yn, yc, zo, zn, zc⟩] rfl (SegE.of_blk (E := tiE) (l := [⟨yo, yn, yc, zo, zn, zc⟩]) (cap := 1) (Blk.new _ _ _) (by simp) (by decide) rfl) ?q1 ?q2 ?q3 ?_)
              case q1 => show (_ + 1) * 2 ≤ _; have := HLL.out; omega
              case q2 => show (_ + 1) * 48 ≤ _; have := HLL.out; omega
              case q3 => have := E12.out.size; simp; omega
              intro v' w13 hO13 hb13 hg13
              have gA := (Gr.alloc w12 (.cells #[.slice yo yn yc, .slice zo zn zc] 38)).below
              have ot2 := OTT.out.later gA
              have hT := OwnT.snoc ot2.own ot2.len ot2.each (x := ⟨yo, yn, yc, zo, zn, zc⟩) (t := (a, d)) ⟨Y12.out.later gA, Z12.out.later gA⟩ hO13 hg13 (by decide)
              have HT := Lib.hid hT.seg
              have E13 := Lib.hid ((E12.out.alloc E12.out.size _).trans hb13)
              obtain ⟨o1, c1, rfl, _, _⟩ := hT.seg.shape
              clear hO13 hb13 hg13 gA ot2 hT
              go_wp2_with fail
              go_meet
              case rel => exact ⟨_, _, _, rfl, rfl, Lib.hid ⟨by rw [HQ.out]; exact HT.out, E13.out⟩⟩
          · have hnap : ¬ ∀ p ∈ a, p ∉ d := by
              intro c
              have h := HZZ.out
              rw [decide_eq_true c] at h
              exact hf (by simpa using h)
            have hp : pe = 2 := by rw [HPE.out, pushE, if_pos HG.out, if_pos ⟨HOA.out, HOD.out⟩, if_neg hnap]
            have hq : pushL L a d = [] := by rw [pushL, ← HPE.out, hp, if_neg (by decide)]
            have t9 : decide ((0 : Int) < (nf : Int)) = true := decide_eq_true (by omega)
            have t8 : decide (0 < nf) = true := decide_eq_true (by omega)
            have t7 : 0 < nf := by omega
            subst hp
            have HQ := Lib.hid hq
            clear hnap hq hf HZZ
            go_wp2_with fail
            go_meet
            case rel => exact ⟨_, _, _, rfl, rfl, Lib.hid ⟨by rw [HQ.out]; exact SegT.nil _, E9.out⟩⟩
  case rest =>
    obtain ⟨ow, nw, cw, rfl, rfl, HC⟩ := hcut
    have HSM := Lib.hid (esame_any _ _ (pushL L a d) (pushL L a d) wc (O5.out.seg.later HC.out.2) HC.out.1 true (decide_eq_true rfl).symm)
    have HSP := Lib.hid (fun W (hb : Below w5.heap.size w5 W) => spoil11_any w4.heap.size _ (pushL L a d) W (O5.out.later hb) (by have := E5.out.size; have := hb.size; omega))
    have E6 := Lib.hid HC.out.2
    clear HPE HC
    go_wp2_with fail
    refine HSM.out.mono ?_
    rintro e w6 ⟨rfl, b6⟩
    have E6 := Lib.hid (below_later E6.out b6)
    clear b6 HSM
    go_wp2_with fail
    refine (HSP.out _ E6.out).mono ?_
    rintro e w7 ⟨rfl, b7⟩
    have F7 := Lib.hid ((below_later E5.out E6.out).trans b7)
    have L7 := Lib.hid (below_later L4.out F7.out)
    clear b7 HSP
    go_wp2_with fail
    refine (HA.out _ L7.out).mono ?_
    rintro e w8 ⟨v8, rfl, o8, b8⟩
    have F8 := Lib.hid (below_later F7.out b8)
    have L8 := Lib.hid (below_later L4.out F8.out)
    have HSM := Lib.hid (esame_any _ _ L L w8 (S4.out.later F8.out) o8.seg true (decide_eq_true rfl).symm)
    obtain ⟨o8', c8', rfl, _, _⟩ := o8.seg.shape
    clear o8 b8
    go_wp2_with fail
    refine HSM.out.mono ?_
    rintro e w9 ⟨rfl, b9⟩
    have F9 := Lib.hid (below_later F8.out b9)
    have L9 := Lib.hid (below_later L4.out F9.out)
    clear b9 HSM
    go_wp2_with fail
    refine (HAA.out _ L9.out).mono ?_
    rintro e w10 ⟨v10, rfl, o10, b10⟩
    have F10 := Lib.hid (below_later F9.out b10)
    have HEQ := Lib.hid (equalP_seg _ _ a a w10 (A4.out.later F10.out) o10.seg)
    rw [decide_eq_true rfl] at HEQ
    obtain ⟨o10', c10', rfl⟩ := o10.shape
    clear o10 b10
    go_wp2_with fail
    refine HEQ.out.mono ?_
    rintro e w11 ⟨rfl, g11⟩
    have F11 := Lib.hid (below_later F10.out g11.below)
    have L11 := Lib.hid (below_later L4.out F11.out)
    clear g11 HEQ
    go_wp2_with fail
    refine (HAD.out _ L11.out).mono ?_
    rintro e w12 ⟨v12, rfl, o12, b12⟩
    have F12 := Lib.hid (below_later F11.out b12)
    have HEQ := Lib.hid (equalP_seg _ _ d d w12 (D4.out.later F12.out) o12.seg)
    rw [decide_eq_true rfl] at HEQ
    obtain ⟨o12', c12', rfl⟩ := o12.shape
    clear o12 b12
    go_wp2_with fail
    refine HEQ.out.mono ?_
    rintro e w13 ⟨rfl, g13⟩
    have L13 := Lib.hid (below_later L4.out (below_later F12.out g13.below))
    clear g13 HEQ
    go_wp2
    go_ret
    exact ⟨rfl, L13.out⟩
end Go.Proofs.Ytcapmhmlipmciaa

