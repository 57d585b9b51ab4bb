/- TiersNews' walk. -/
import Derived.Test.YtcapmhmlipmciaaW20
import Derived.Test.YtcapmhmlipmciaaW22
namespace Go.Proofs.Ytcapmhmlipmciaa
open Go.RowKit Go.Proofs.Kit Go.Shelf
set_option maxRecDepth 100000 in
set_option maxHeartbeats 16000000 in
theorem news_true (o : Option Addr) (n c : Nat) (X : List Tr) (oa : Option Addr) (na ca : Nat) (A : List Pr) (od : Option Addr) (nd cd : Nat) (D : List Pr) (w : World)
    (hl : X.length = n) (hc : n ≤ c) (hm : c ≤ 9223372036854775807) (ha : ArgT w o c X) (hw : Wl X) (ala : A.length = na) (aca : na ≤ ca) (ama : ca ≤ 9223372036854775807) (aa : ArgP w oa ca A) (dld : D.length = nd) (dcd : nd ≤ cd) (dmd : cd ≤ 9223372036854775807) (dd : ArgP w od cd D) (hwa : ∀ p ∈ A, Wp p) (hwd : ∀ p ∈ D, Wp p) :
    Calls Try.prog 7 #[.slice o n c, .slice oa na ca, .slice od nd cd] w fun e w' => e = .returned (.bool true) ∧ Below w.heap.size w w' := by
  have HA := Lib.hid (fun W (hb : Below w.heap.size w W) => own11_any o n c X W hl hc hm (ha.later hb))
  have HAA := Lib.hid (fun W (hb : Below w.heap.size w W) => few11_any oa na ca A W ala aca ama (aa.later hb))
  have HAD := Lib.hid (fun W (hb : Below w.heap.size w W) => few11_any od nd cd D W dld dcd dmd (dd.later hb))
  obtain ⟨L, hL⟩ : ∃ L, L = ownL X := ⟨_, rfl⟩
  obtain ⟨a, hA⟩ : ∃ a, a = A.take 16 := ⟨_, rfl⟩
  obtain ⟨d, hD⟩ : ∃ d, d = D.take 16 := ⟨_, rfl⟩
  rw [← hL] at HA
  rw [← hA] at HAA
  rw [← hD] at HAD
  have HW := Lib.hid (show Wl L by rw [hL]; exact ownL_w hw)
  have HS := Lib.hid (show SmT 16 L by rw [hL]; exact ownL_s X)
  have HL26 := Lib.hid (show L.length ≤ 26 by rw [hL]; exact ownL_len X)
  have HAL := Lib.hid (show a.length ≤ 16 ∧ d.length ≤ 16 by rw [hA, hD]; simp; omega)
  have HWT := Lib.hid (show Wt (a, d) from ⟨fun p hp => hwa p (by rw [hA] at hp; exact List.mem_of_mem_take hp), fun p hp => hwd p (by rw [hD] at hp; exact List.mem_of_mem_take hp)⟩)
  clear hL hl ha hw hA hD ala aa dld dd hwa hwd
  go_enter Try.func7, Try.ntmps7
  go_wp2_with fail
  refine (wakes11_true _).mono ?_
  rintro e w1 ⟨rfl, b1⟩
  have L1 := Lib.hid b1
  clear b1
  go_wp2_with fail
  refine (HA.out _ L1.out).mono ?_
  rintro e w2 ⟨v2, rfl, o2, b2⟩
  have L2 := Lib.hid (below_later L1.out b2)
  have S2 := Lib.hid o2.seg
  obtain ⟨ol, cl, rfl, _, _⟩ := o2.seg.shape
  clear o2 b2 HA
  go_wp2_with fail
  refine (HAA.out _ L2.out).mono ?_
  rintro e w3 ⟨v3, rfl, o3, b3⟩
  have L3 := Lib.hid (below_later L2.out b3)
  have S3 := Lib.hid (S2.out.later b3)
  have A3 := Lib.hid o3.seg
  obtain ⟨oa', ca', rfl⟩ := o3.shape
  clear o3 b3 HAA
  go_wp2_with fail
  refine (HAD.out _ L3.out).mono ?_
  rintro e w4 ⟨v4, rfl, o4, b4⟩
  have L4 := Lib.hid (below_later L3.out b4)
  have S4 := Lib.hid (S3.out.later b4)
  have A4 := Lib.hid (A3.out.later b4)
  have D4 := Lib.hid o4.seg
  obtain ⟨od', cd', rfl⟩ := o4.shape
  obtain ⟨nl, hnl⟩ : ∃ nl, nl = L.length := ⟨_, rfl⟩
  obtain ⟨ma, hma⟩ : ∃ ma, ma = a.length := ⟨_, rfl⟩
  obtain ⟨md, hmd⟩ : ∃ md, md = d.length := ⟨_, rfl⟩
  have HPU := Lib.hid (push_any _ _ _ L a d w4 S4.out A4.out D4.out (HS.out.mono (by decide)) (by have := HAL.out; omega) (by have := HAL.out; omega))
  rw [← hnl] at S4 HPU ⊢
  rw [← hma] at A4 HPU ⊢
  rw [← hmd] at D4 HPU ⊢
  obtain ⟨pe, hpe⟩ : ∃ pe, pe = pushE L a d := ⟨_, rfl⟩
  obtain ⟨pl, hpl⟩ : ∃ pl, pl = pushL L a d := ⟨_, rfl⟩
  have hcs := push_cases L a d
  rw [← hpe, ← hpl] at hcs
  rw [← hpe, ← hpl] at HPU
  have HCS := Lib.hid hcs
  clear o4 b4 HAD S2 S3 A3 L1 L2 L3 hnl hma hmd hpe hpl hcs
  go_wp2_with fail
  refine HPU.out.mono ?_
  rintro e w5 ⟨v5, rfl, o5, b5⟩
  have L5 := Lib.hid (below_later L4.out b5)
  have S5 := Lib.hid (S4.out.later b5)
  have A5 := Lib.hid (A4.out.later b5)
  have D5 := Lib.hid (D4.out.later b5)
  have N5 := Lib.hid o5.seg
  obtain ⟨on, cn, rfl, _, _⟩ := o5.seg.shape
  clear o5 b5 HPU
  rcases HCS.out with ⟨h1, rfl⟩ | ⟨rfl, h2, hg, hoa, hod, hap, h24⟩
  · have t0 : (pe != 0) = true := by simpa using h1
    clear h1 HCS
    go_wp2
    go_ret
    exact ⟨rfl, L5.out⟩
  · have hgp := push_good hg hoa hod hap h24
    obtain ⟨c1, c2, c3, c4⟩ := push_cont hg HS.out hoa hod hap h24
    have hcl := cont_len HS.out
    have HG := Lib.hid (And.intro hg (And.intro hgp h24))
    have hpw : Wl (L ++ [(a, d)]) := fun t ht => by
      rcases List.mem_append.1 ht with ht | ht
      · exact HW.out t ht
      · simp at ht; rw [ht]; exact HWT.out
    have hps : SmT 16 (L ++ [(a, d)]) := fun t ht => by
      rcases List.mem_append.1 ht with ht | ht
      · exact HS.out t ht
      · simp at ht; rw [ht]; exact HAL.out
    rw [h2] at N5 ⊢
    have HPW := Lib.hid hpw
    have HPS := Lib.hid hps
    have H1 := Lib.hid c1
    have H2 := Lib.hid c2
    have H3 := Lib.hid c3
    have H4 := Lib.hid c4
    have HCL := Lib.hid (show (cont L).length ≤ 768 by have := hg.2; omega)
    obtain ⟨np, hnp⟩ : ∃ np, np = (L ++ [(a, d)]).length := ⟨_, rfl⟩
    rw [← hnp] at N5 ⊢
    have HCO := Lib.hid (content11_any _ L w5 S5.out HW.out (HS.out.mono (by decide)))
    clear hgp hcl hpw hps c1 c2 c3 c4 h2 HCS hg hoa hod hap h24 hnp
    go_wp2_with fail
    refine HCO.out.mono ?_
    rintro e w6 ⟨v6, rfl, o6, b6⟩
    have L6 := Lib.hid (below_later L5.out b6)
    have A6 := Lib.hid (A5.out.later b6)
    have D6 := Lib.hid (D5.out.later b6)
    have N6 := Lib.hid (N5.out.later b6)
    have C6 := Lib.hid o6.seg
    obtain ⟨oc, cc, rfl⟩ := o6.shape
    have HCO2 := Lib.hid (content11_any _ _ w6 N6.out HPW.out (HPS.out.mono (by decide)))
    rw [H1.out] at HCO2
    clear o6 b6 HCO
    go_wp2_with fail
    refine HCO2.out.mono ?_
    rintro e w7 ⟨v7, rfl, o7, b7⟩
    have L7 := Lib.hid (below_later L6.out b7)
    have A7 := Lib.hid (A6.out.later b7)
    have D7 := Lib.hid (D6.out.later b7)
    have N7 := Lib.hid (N6.out.later b7)
    have C7 := Lib.hid (C6.out.later b7)
    have I7 := Lib.hid o7.seg
    obtain ⟨oi, ci, rfl⟩ := o7.shape
    have HMI := Lib.hid (minus_any _ _ (cont L) d w7 C7.out D7.out (by have := HCL.out; have := HAL.out; omega))
    rw [H2.out] at HMI
    clear o7 b7 HCO2
    go_wp2_with fail
    refine HMI.out.mono ?_
    rintro e w8 ⟨v8, rfl, o8, b8⟩
    have L8 := Lib.hid (below_later L7.out b8)
    have A8 := Lib.hid (A7.out.later b8)
    have N8 := Lib.hid (N7.out.later b8)
    have I8 := Lib.hid (I7.out.later b8)
    have M8 := Lib.hid o8.seg
    obtain ⟨om, cm, rfl⟩ := o8.shape
    have HUN := Lib.hid (union_any _ _ (cmb true false false (cont L) d) a w8 M8.out A8.out (by have := H4.out; have := HAL.out; omega))
    rw [H3.out] at HUN
    clear o8 b8 HMI
    go_wp2_with fail
    refine HUN.out.mono ?_
    rintro e w9 ⟨v9, rfl, o9, b9⟩
    have L9 := Lib.hid (below_later L8.out b9)
    have N9 := Lib.hid (N8.out.later b9)
    have I9 := Lib.hid (I8.out.later b9)
    have U9 := Lib.hid o9.seg
    obtain ⟨ou, cu, rfl⟩ := o9.shape
    have HEQ := Lib.hid (equalP_seg _ _ _ _ w9 I9.out U9.out)
    rw [decide_eq_true rfl] at HEQ
    clear o9 b9 HUN
    go_wp2_with fail
    refine HEQ.out.mono ?_
    rintro e w10 ⟨rfl, g10⟩
    have L10 := Lib.hid (below_later L9.out g10.below)
    have HCK := Lib.hid (check11_any _ _ w10 (N9.out.gr g10) (HPS.out.mono (by decide)))
    rw [ckT_yes HG.out.2.1] at HCK
    clear g10 HEQ
    go_wp2_with fail
    refine HCK.out.mono ?_
    rintro e w11 ⟨rfl, b11⟩
    have L11 := Lib.hid (below_later L10.out b11)
    clear b11 HCK
    go_wp2
    go_ret
    exact ⟨rfl, L11.out⟩
end Go.Proofs.Ytcapmhmlipmciaa

