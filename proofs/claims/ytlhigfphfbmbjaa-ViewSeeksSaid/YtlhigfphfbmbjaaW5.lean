/- tiers.areRuns, areApart, Check; Same. -/
import Derived.Test.YtlhigfphfbmbjaaW0
import Derived.Test.YtlhigfphfbmbjaaW3
import Derived.Test.YtlhigfphfbmbjaaN13
import Derived.Lib.QuietBelow
namespace Go.Proofs.Ytlhigfphfbmbjaa
open Go.RowKit Go.Proofs.Kit
theorem ck_eq (l : List Pr) : (ckP l == 0) = decide (okP l) := by
  unfold ckP okP
  by_cases h : Run l ∧ l.length ≤ 1048576 <;> simp [h]
set_option maxRecDepth 100000 in
set_option maxHeartbeats 2000000 in
theorem areRuns_any (x : Ti) (t : Tr) (w : World) (h : TR w x t) (r : Bool) (hr : r = decide (okP t.1 ∧ okP t.2)) :
    Calls Try.prog 61 #[.agg #[.slice x.ao x.an x.ac, .slice x.bo x.bn x.bc]] w fun e w' => e = .returned (.bool r) ∧ Gr w w' := by
  obtain ⟨ao, an, ac, bo, bn, bc⟩ := x
  have HA := Lib.hid h.a
  have HB := Lib.hid h.b
  simp only at HA HB
  obtain ⟨c1, hc1⟩ : ∃ c1, c1 = ckP t.1 := ⟨_, rfl⟩
  obtain ⟨c2, hc2⟩ : ∃ c2, c2 = ckP t.2 := ⟨_, rfl⟩
  have e1 := ck_eq t.1
  have e2 := ck_eq t.2
  rw [← hc1] at e1
  rw [← hc2] at e2
  obtain ⟨b1, hb1⟩ : ∃ b1, b1 = decide (okP t.1) := ⟨_, rfl⟩
  obtain ⟨b2, hb2⟩ : ∃ b2, b2 = decide (okP t.2) := ⟨_, rfl⟩
  have hr' : r = (b1 && b2) := by rw [hr, hb1, hb2, Bool.decide_and]
  rw [← hb1] at e1
  rw [← hb2] at e2
  clear hr hb1 hb2 h
  have H1 := Lib.hid (fun W (hb : Gr w W) => check_any _ t.1 W (HA.out.later hb.below))
  have H2 := Lib.hid (fun W (hb : Gr w W) => check_any _ t.2 W (HB.out.later hb.below))
  rw [← hc1] at H1
  rw [← hc2] at H2
  clear hc1 hc2
  go_enter Try.func61, Try.ntmps61
  go_wp2_with fail
  have k0 := (Blk.new w #[.slice ao an ac, .slice bo bn bc] 24)
  refine (H1.out _ (Gr.alloc _ _)).mono ?_
  rintro e w1 ⟨rfl, g1⟩
  have k1 := k0.later g1.below
  have G1 := (Gr.alloc w (.cells #[.slice ao an ac, .slice bo bn bc] 24)).trans g1
  have d0 := k1.cell 0
  have d1 := k1.cell 1
  simp only [List.getElem?_toArray, List.getElem?_cons_zero, List.getElem?_cons_succ] at d0 d1
  clear k0 g1 k1
  cases b1
  · subst hr'
    go_wp2
    go_ret
    exact ⟨rfl, G1⟩
  · simp only [Bool.true_and] at hr'
    subst hr'
    go_wp2_with fail
    refine (H2.out _ G1).mono ?_
    rintro e w2 ⟨rfl, g2⟩
    have G2 := G1.trans g2
    clear g2 G1
    go_wp2
    go_ret
    exact ⟨rfl, G2⟩
theorem apart_len {a b : List Pr} (h : okP a ∧ okP b) (r : Bool) (hr : r = decide (∀ p ∈ a, p ∉ b)) : ((cmb false true false a b).length == 0) = r := by
  have hm : ∀ p, p ∈ cmb false true false a b ↔ p ∈ a ∧ p ∈ b := by
    intro p
    unfold cmb
    rw [if_pos h, comb_mem h.1.1 h.2.1]
    simp
  subst hr
  by_cases c : ∀ p ∈ a, p ∉ b
  · have : cmb false true false a b = [] := List.eq_nil_iff_forall_not_mem.2 fun p hp => c p ((hm p).1 hp).1 ((hm p).1 hp).2
    simp [this, decide_eq_true c]
  · have hne : cmb false true false a b ≠ [] := by
      intro e
      refine c fun p hp hq => ?_
      have := (hm p).2 ⟨hp, hq⟩
      rw [e] at this
      simp at this
    have h0 : (cmb false true false a b).length ≠ 0 := fun e => hne (List.length_eq_zero_iff.1 e)
    rw [decide_eq_false c]
    simpa using hne
set_option maxRecDepth 100000 in
set_option maxHeartbeats 2000000 in
theorem areApart_any (x : Ti) (t : Tr) (w : World) (h : TR w x t) (hok : okP t.1 ∧ okP t.2) (hlen : t.1.length + t.2.length ≤ 1048576) (r : Bool) (hr : r = decide (∀ p ∈ t.1, p ∉ t.2)) :
    Calls Try.prog 62 #[.agg #[.slice x.ao x.an x.ac, .slice x.bo x.bn x.bc]] w fun e w' => e = .returned (.bool r) ∧ Below w.heap.size w w' := by
  obtain ⟨ao, an, ac, bo, bn, bc⟩ := x
  have hz := apart_len hok r hr
  have HA := Lib.hid h.a
  have HB := Lib.hid h.b
  have HM := Lib.hid (fun W (hb : Gr w W) => meet_any _ _ t.1 t.2 W (HA.out.later hb.below) (HB.out.later hb.below) hlen)
  have hck : ck2 t.1 t.2 = 0 := if_pos hok
  rw [hck] at HM
  clear h hr hok hlen hck
  simp only at HM
  go_enter Try.func62, Try.ntmps62
  go_wp2_with fail
  refine (HM.out _ (Gr.alloc _ _)).mono ?_
  rintro e w1 ⟨v', rfl, o1, b1⟩
  obtain ⟨oo, cc, rfl⟩ := o1.shape
  have hlow := below_later (Gr.alloc w (.cells #[.slice ao an ac, .slice bo bn bc] 24)).below b1
  obtain ⟨q, hq⟩ : ∃ q, q = (cmb false true false t.1 t.2).length := ⟨_, rfl⟩
  rw [← hq] at hz ⊢
  have hz' : ((q : Int) == 0) = r := by rw [← hz]; cases q <;> rfl
  have LOW := Lib.hid hlow
  clear o1 b1 hlow hq hz
  go_wp2
  go_ret
  exact ⟨rfl, LOW.out⟩
set_option maxRecDepth 100000 in
set_option maxHeartbeats 4000000 in
theorem check11_any (v : Value) (L : List Tr) (w : World) (h : SegT w v L) (hS : SmT 500000 L) :
    Calls Try.prog 26 #[v] w fun e w' => e = .returned (.int .i64 (ckT L)) ∧ Below w.heap.size w w' := by
  have hl62 := h.len
  obtain ⟨o, c, rfl, hc, hm⟩ := h.shape
  obtain ⟨n, hn⟩ : ∃ n, n = L.length := ⟨_, rfl⟩
  rw [← hn] at h hc hl62 ⊢
  have HL := Lib.hid hn.symm
  have HA := Lib.hid h
  have HS := Lib.hid hS
  clear h hn hS
  by_cases h24 : n ≤ 24
  · have hgt : decide ((24 : Int) < (n : Int)) = false := decide_eq_false (by omega)
    go_enter Try.func26, Try.ntmps26
    go_wp2
    go_loopw [10] (fun i wr => ∃ k : Nat, k ≤ n ∧ i = .int .i64 (k : Int) ∧ Hid (∀ t ∈ L.take k, oneT t) ∧ Hid (Below w.heap.size w wr)) (fun i _ => n - (intOf i).toNat)
    case atStart => exact ⟨0, Nat.zero_le _, rfl, Lib.hid (by simp), Lib.hid (Below.refl _ _)⟩
    case round =>
      obtain ⟨k, hk, rfl, HO, HB⟩ := hrel
      by_cases hlt : k < n
      · have hkl : k < L.length := by have := HL.out; omega
        obtain ⟨b, f, x, rfl, _, lb0, d0, d1, hx⟩ := (HA.out.later HB.out).at hkl
        have hN := List.take_succ_eq_append_getElem hkl
        have hSt := HS.out _ (List.getElem_mem hkl)
        have htm := List.getElem_mem hkl
        obtain ⟨t, ht⟩ : ∃ t, t = L[k] := ⟨_, rfl⟩
        rw [← ht] at hx hN hSt htm
        obtain ⟨ao, an, ac, bo, bn, bc⟩ := x
        simp only at d0 d1
        have gA := Gr.alloc wr (.cells #[.slice ao an ac, .slice bo bn bc] 24)
        obtain ⟨b1, hb1⟩ : ∃ b1, b1 = decide (okP t.1 ∧ okP t.2) := ⟨_, rfl⟩
        obtain ⟨b2, hb2⟩ : ∃ b2, b2 = decide (∀ p ∈ t.1, p ∉ t.2) := ⟨_, rfl⟩
        have HN := Lib.hid hN
        have HX := Lib.hid hx
        have HTM := Lib.hid htm
        have HLOW := Lib.hid (below_later HB.out gA.below)
        have HR := Lib.hid (areRuns_any ⟨ao, an, ac, bo, bn, bc⟩ t (wr.alloc (.cells #[.slice ao an ac, .slice bo bn bc] 24)) (hx.later gA.below) b1 hb1)
        have HAP := Lib.hid (fun W (hb : Below wr.heap.size wr W) (hok : okP t.1 ∧ okP t.2) => areApart_any ⟨ao, an, ac, bo, bn, bc⟩ t W (HX.out.later hb) hok (by omega) b2 hb2)
        have HB1 := Lib.hid hb1
        have HB2 := Lib.hid hb2
        clear hx hN hSt htm ht hb1 hb2
        go_wp2_with fail
        refine HR.out.mono ?_
        rintro e w2 ⟨rfl, g2⟩
        have kt := (Blk.new wr #[.slice ao an ac, .slice bo bn bc] 24).later g2.below
        have e0 := kt.cell 0
        have e1 := kt.cell 1
        have l2 := kt.lt
        simp only [List.getElem?_toArray, List.getElem?_cons_zero, List.getElem?_cons_succ] at e0 e1
        have HG2 := Lib.hid (gA.trans g2)
        have HLOW2 := Lib.hid (HB.out.trans ((gA.trans g2).below.mono HB.out.size))
        clear kt g2 gA d0 d1 lb0
        cases b1
        · have hno : ckT L = 210 := ckT_no (fun c => by
            have := (c.1 _ HTM.out).1
            have h1 := HB1.out
            simp [this] at h1)
          go_wp2
          go_ret
          rw [hno]
          exact ⟨rfl, HLOW2.out⟩
        · have hok : okP t.1 ∧ okP t.2 := by have := HB1.out; exact of_decide_eq_true this.symm
          have HAP2 := Lib.hid (HAP.out w2 HG2.out.below hok)
          clear HAP
          go_wp2_with fail
          refine HAP2.out.mono ?_
          rintro e w3 ⟨rfl, l3⟩
          have HLOW3 := Lib.hid (below_later HLOW2.out l3)
          clear l3 HAP2 e0 e1 l2
          cases b2
          · have hno : ckT L = 210 := ckT_no (fun c => by
              have := (c.1 _ HTM.out).2
              have h1 := HB2.out
              rw [decide_eq_true this] at h1
              cases h1)
            go_wp2
            go_ret
            rw [hno]
            exact ⟨rfl, HLOW3.out⟩
          · have HALL : Hid (∀ t ∈ L.take (k + 1), oneT t) := Lib.hid (by
              rw [HN.out]
              intro y hy
              rcases List.mem_append.1 hy with hy | hy
              · exact HO.out y hy
              · simp at hy
                rw [hy]
                exact ⟨hok, of_decide_eq_true HB2.out.symm⟩)
            clear hok
            go_wp2
            go_roundw
            case rel => exact ⟨k + 1, by omega, by go_num, HALL, HLOW3⟩
            case measure => simp [intOf]; omega
      · have HT := Lib.hid (show L.take k = L from List.take_of_length_le (by have := HL.out; omega))
        have hyes : ckT L = 0 := ckT_yes ⟨by rw [← HT.out]; exact HO.out, by have := HL.out; omega⟩
        go_wp2
        go_ret
        rw [hyes]
        exact ⟨rfl, HB.out⟩
  · have hgt : decide ((24 : Int) < (n : Int)) = true := decide_eq_true (by omega)
    have hno : ckT L = 210 := ckT_no (fun c => by have := c.2; have := HL.out; omega)
    rw [hno]
    clear hno
    go_enter Try.func26, Try.ntmps26
    go_wp2
    go_ret
    exact ⟨rfl, Below.refl _ _⟩
end Go.Proofs.Ytlhigfphfbmbjaa

