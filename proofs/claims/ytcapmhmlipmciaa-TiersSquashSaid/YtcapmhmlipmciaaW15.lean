/- tiers.Push. -/
import Derived.Test.YtcapmhmlipmciaaW14
namespace Go.Proofs.Kit
open Go.RowKit
/-- What Push says. -/
def pushE (L : List Tr) (a d : List Pr) : Int := if goodT L then (if okP a ∧ okP d then (if ∀ p ∈ a, p ∉ d then (if L.length = 24 then 6 else 0) else 2) else 130) else 210
theorem Blk.nwd {w w' : World} {vs : Array Value} {t : TypeId} (hb : Below (w.alloc (.cells vs t)).drew.heap.size (w.alloc (.cells vs t)).drew w') : Blk w' w.heap.size vs t := (Blk.new w vs t).drew.later hb
theorem TW.al {tt : TypeId} {w W : World} {b : Nat} {v1 v2 : Value} (h : TW tt w b v1 v2 W) (o : Obj) : TW tt w b v1 v2 (W.alloc o) := h.later (Gr.alloc _ _).below
def pushL (L : List Tr) (a d : List Pr) : List Tr := if pushE L a d = 0 then L ++ [(a, d)] else []
end Go.Proofs.Kit
namespace Go.Proofs.Ytcapmhmlipmciaa
open Go.RowKit Go.Proofs.Kit
theorem segT_one {w : World} {b : Nat} {ao bo : Option Addr} {an ac bn bc : Nat} {t : Tr} (hb : Blk w b #[.slice ao an ac, .slice bo bn bc] 38) (h : TR w ⟨ao, an, ac, bo, bn, bc⟩ t) : SegT w (.slice (some ⟨b, 0, none⟩) 1 1) [t] := by
  refine ⟨[⟨ao, an, ac, bo, bn, bc⟩], SegE.of_blk (E := tiE) (l := [⟨ao, an, ac, bo, bn, bc⟩]) (cap := 1) hb (by simp) (by decide) rfl, rfl, fun i a b => ?_⟩
  obtain rfl : i = 0 := by simp at a; omega
  exact h
set_option maxRecDepth 100000 in
set_option maxHeartbeats 4000000 in
theorem push_any (v va vd : Value) (L : List Tr) (a d : List Pr) (w : World) (h : SegT w v L) (ha : SegP w va a) (hd : SegP w vd d) (hS : SmT 500000 L) (hal : a.length ≤ 500000) (hdl : d.length ≤ 500000) :
    Calls Try.prog 23 #[v, va, vd] w fun e w' => ∃ v', e = .returned (.tuple #[v', .int .i64 (pushE L a d)]) ∧ OwnT 36 38 w.heap.size w' v' (pushL L a d) ∧ Below w.heap.size w w' := by
  obtain ⟨i0, hi, hz0, hz1, hz2⟩ := infoT
  have hmix := mixed
  obtain ⟨o, c, rfl, hc, hm⟩ := h.shape
  obtain ⟨ao, ac, rfl, hac, ham, _⟩ := ha.shape
  obtain ⟨bo, bc, rfl, hbc, hbm, _⟩ := hd.shape
  obtain ⟨n, hn⟩ : ∃ n, n = L.length := ⟨_, rfl⟩
  obtain ⟨an, han⟩ : ∃ an, an = a.length := ⟨_, rfl⟩
  obtain ⟨bn, hbn⟩ : ∃ bn, bn = d.length := ⟨_, rfl⟩
  rw [← hn] at h hc ⊢
  rw [← han] at ha hac ⊢
  rw [← hbn] at hd hbc ⊢
  have HN := Lib.hid hn
  have HL := Lib.hid h
  have HTR := Lib.hid (⟨ha, hd⟩ : TR w ⟨ao, an, ac, bo, bn, bc⟩ (a, d))
  have HS := Lib.hid hS
  have HAL := Lib.hid (And.intro hal hdl)
  have HC := Lib.hid (fun W (hb : Below w.heap.size w W) => check11_any _ L W (h.later hb) hS)
  obtain ⟨pe, hpe⟩ : ∃ pe, pe = pushE L a d := ⟨_, rfl⟩
  have HPE := Lib.hid hpe
  rw [← hpe]
  clear h ha hd hS hal hdl hn han hbn hpe
  go_enter Try.func23, Try.ntmps23
  go_wp2_with fail
  obtain ⟨W1, hW1⟩ : ∃ W1, W1 = w.alloc (.cells #[.slice ao an ac, .slice bo bn bc] 38) := ⟨_, rfl⟩
  have G1 : Gr w W1 := by rw [hW1]; exact Gr.alloc _ _
  have k1 : Blk W1 w.heap.size #[.slice ao an ac, .slice bo bn bc] 38 := by rw [hW1]; exact Blk.new _ _ _
  rw [← hW1]
  clear hW1
  by_cases hg : goodT L
  · have e1 : ckT L = 0 := ckT_yes hg
    rw [e1] at HC
    have HG := Lib.hid hg
    clear e1 hg
    refine (HC.out _ G1.below).mono ?_
    rintro e w2 ⟨rfl, b2⟩
    have K2 := Lib.hid (k1.later b2)
    have LOW2 := Lib.hid (below_later G1.below b2)
    have e0 := K2.out.cell 0
    have e1 := K2.out.cell 1
    have l2 := K2.out.lt
    simp only [List.getElem?_toArray, List.getElem?_cons_zero, List.getElem?_cons_succ] at e0 e1
    obtain ⟨b1, hb1⟩ : ∃ b1, b1 = decide (okP a ∧ okP d) := ⟨_, rfl⟩
    have HB1 := Lib.hid hb1
    have HR := Lib.hid (areRuns_any ⟨ao, an, ac, bo, bn, bc⟩ (a, d) w2 (HTR.out.later LOW2.out) b1 hb1)
    clear G1 k1 b2 hb1
    go_wp2_with fail
    refine HR.out.mono ?_
    rintro e w3 ⟨rfl, g3⟩
    have K3 := Lib.hid (K2.out.later g3.below)
    have LOW3 := Lib.hid (below_later LOW2.out g3.below)
    have e0 := K3.out.cell 0
    have e1 := K3.out.cell 1
    have l2 := K3.out.lt
    simp only [List.getElem?_toArray, List.getElem?_cons_zero, List.getElem?_cons_succ] at e0 e1
    clear g3 HR
    cases b1
    · have hno : ¬ (okP a ∧ okP d) := of_decide_eq_false HB1.out.symm
      have hpe : pe = 130 := by rw [HPE.out, pushE, if_pos HG.out, if_neg hno]
      subst hpe
      clear hno
      go_wp2
      go_ret2
      refine ⟨_, rfl, ?_, LOW3.out⟩
      rw [pushL, ← HPE.out]
      exact OwnT.nil _ _ _ _
    · have hok : okP a ∧ okP d := of_decide_eq_true HB1.out.symm
      obtain ⟨b2, hb2⟩ : ∃ b2, b2 = decide (∀ p ∈ a, p ∉ d) := ⟨_, rfl⟩
      have HB2 := Lib.hid hb2
      have HOK := Lib.hid hok
      have HR := Lib.hid (areApart_any ⟨ao, an, ac, bo, bn, bc⟩ (a, d) w3 (HTR.out.later LOW3.out) hok (by have := HAL.out; simp only; omega) b2 hb2)
      clear hb2 hok
      go_wp2_with fail
      refine HR.out.mono ?_
      rintro e w4 ⟨rfl, b4⟩
      have K4 := Lib.hid (K3.out.later b4)
      have LOW4 := Lib.hid (below_later LOW3.out b4)
      have e0 := K4.out.cell 0
      have e1 := K4.out.cell 1
      have l2 := K4.out.lt
      simp only [List.getElem?_toArray, List.getElem?_cons_zero, List.getElem?_cons_succ] at e0 e1
      clear b4 HR
      cases b2
      · have hno : ¬ ∀ p ∈ a, p ∉ d := of_decide_eq_false HB2.out.symm
        have hpe : pe = 2 := by rw [HPE.out, pushE, if_pos HG.out, if_pos HOK.out, if_neg hno]
        subst hpe
        clear hno
        go_wp2
        go_ret2
        refine ⟨_, rfl, ?_, LOW4.out⟩
        rw [pushL, ← HPE.out]
        exact OwnT.nil _ _ _ _
      · have hap : ∀ p ∈ a, p ∉ d := of_decide_eq_true HB2.out.symm
        by_cases h24 : n = 24
        · have hpe : pe = 6 := by rw [HPE.out, pushE, if_pos HG.out, if_pos HOK.out, if_pos hap, if_pos (by rw [← HN.out]; exact h24)]
          subst hpe h24
          clear hap
          go_wp2
          go_ret2
          refine ⟨_, rfl, ?_, LOW4.out⟩
          rw [pushL, ← HPE.out]
          exact OwnT.nil _ _ _ _
        · have hpe : pe = 0 := by rw [HPE.out, pushE, if_pos HG.out, if_pos HOK.out, if_pos hap, if_neg (by rw [← HN.out]; exact h24)]
          have t24 : ((n : Int) == 24) = false := by simp; omega
          have hPL : pushL L a d = L ++ [(a, d)] := by rw [pushL, ← HPE.out, if_pos hpe]
          have HPL := Lib.hid hPL
          subst hpe
          have HC1 := Lib.hid (fun W (hb : Below w.heap.size w W) => copied11_any _ L W (HL.out.later hb) (by have := HG.out.2; omega) (fun t ht => by have := HS.out t ht; omega))
          have HC2 := Lib.hid (fun W (hb : Below w.heap.size w W) (p : Nat) (hk : Blk W p #[.slice ao an ac, .slice bo bn bc] 38) => copied11_any _ [(a, d)] W (segT_one hk (HTR.out.later hb)) (by simp) (fun t ht => by simp at ht; rw [ht]; have := HAL.out; simp only; omega))
          clear hap h24 hPL
          go_wp2_with fail
          have hws : TW 38 w w.heap.size (.slice ao an ac) (.slice bo bn bc) w4 := ⟨K4.out, LOW4.out⟩
          go_region_law (first
            | (go_simp; go_at_call 48; (with_reducible refine (HC1.out _ (by first | exact hws.drew.low | exact (hws.al _).drew.low)).mono ?_); rintro e wS ⟨v1, rfl, hO1, _, bS⟩; (first | have kz := Blk.nwd bS | skip); have hB1 := hO1.mono (B' := w.heap.size) (by first | exact hws.drew.low.size | exact (hws.al _).drew.low.size); obtain ⟨l1, ot1⟩ := hB1.open; obtain ⟨o1, c1, rfl⟩ := ot1.own.shape; have hws := (by first | exact hws.drew.later bS | exact (hws.al _).drew.later bS : TW 38 w w.heap.size (.slice ao an ac) (.slice bo bn bc) wS); obtain ⟨e0, e1⟩ : wS.cell? ⟨w.heap.size, 0, none⟩ = some (.slice ao an ac) ∧ wS.cell? ⟨w.heap.size, 1, none⟩ = some (.slice bo bn bc) := ⟨hws.k.cell 0, hws.k.cell 1⟩; have l2 := hws.k.lt; clear bS hO1 hB1)
            | (go_simp; go_at_call 48; (with_reducible refine (HC2.out _ (by first | exact hws.low | exact (hws.al _).low) _ (by first | exact kz | exact Blk.new _ _ _)).mono ?_); rintro e wT ⟨v2, rfl, hO2, _, bT⟩; have ot1 := (by first | exact ot1.later bT | exact (ot1.later (Gr.alloc _ _).below).later bT : OT 36 38 w.heap.size wT (.slice o1 l1.length c1) l1 L); have hB2 := hO2.mono (B' := w.heap.size) (by first | exact hws.low.size | exact (hws.al _).low.size); obtain ⟨l2', ot2⟩ := hB2.open; have hws := (by first | exact hws.later bT | exact (hws.al _).later bT : TW 38 w w.heap.size (.slice ao an ac) (.slice bo bn bc) wT); clear bT hO2 hB2)
            | (refine step_append_segE (E := tiE) rfl _ _ 22 (by rfl) w.heap.size 38 i0 (.agg #[.slice none 0 0, .slice none 0 0]) 48 Try.underlying22 hi hz0 hz1 hz2 rfl _ l1 (by rfl) ot1.own _ l2' (by rfl) ot2.own.seg (by intro q; have := ot2.len; rw [q] at this; simp at this) (by show (_ + _) * 2 ≤ _; have h1 := ot1.len; have h2 := ot2.len; have h3 := HG.out.2; simp at h2; omega) (by show (_ + _) * 48 ≤ _; have h1 := ot1.len; have h2 := ot2.len; have h3 := HG.out.2; simp at h2; omega) hws.low.size ?_; intro v' w3 hO3 hb3 hg3))
          all_goals
            have hT : OwnT 36 38 w.heap.size w3 v' (L ++ [(a, d)]) := OwnT.join ot1.own ot1.len ot1.each ot2.len ot2.each hO3 hg3 (by decide)
            have hlow : Below w.heap.size w w3 := hws.low.trans hb3
            have HT := Lib.hid hT
            have HLow := Lib.hid hlow
            clear hT hlow hO3 hb3 hg3
            go_wp2
            go_ret2
            refine ⟨_, rfl, ?_, HLow.out⟩
            rw [HPL.out]
            exact HT.out
  · have e1 : ckT L = 210 := ckT_no hg
    rw [e1] at HC
    have hpe : pe = 210 := by rw [HPE.out, pushE, if_neg hg]
    subst hpe
    clear e1 hg
    refine (HC.out _ G1.below).mono ?_
    rintro e w2 ⟨rfl, b2⟩
    have LOW2 := Lib.hid (below_later G1.below b2)
    clear G1 b2 k1
    go_wp2
    go_ret2
    refine ⟨_, rfl, ?_, LOW2.out⟩
    rw [pushL, ← HPE.out]
    exact OwnT.nil _ _ _ _
end Go.Proofs.Ytcapmhmlipmciaa

