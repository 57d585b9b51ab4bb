/- The reference of stage 7: Right. -/
import Derived.Test.YtjfnhjmdgfkgnaaU2
import Derived.Test.YtjfnhjmdgfkgnaaU4
namespace Go.Proofs.Ytjfnhjmdgfkgnaa
open Go.RowKit Go.Proofs.Kit
set_option maxRecDepth 100000 in
set_option maxHeartbeats 8000000 in
theorem zright_any (vb vl : Value) (bs : List Br) (lv : List Int) (w : World) (hb : SegR w vb bs) (hl : Seg .u64 w vl lv) (hlv : lv.length ≤ 1000000000) (hbs : bs.length ≤ 1000000000) :
    Calls Try.prog 13 #[.agg #[vb, vl]] w fun e w' => e = .returned (.bool (decide (ok7 bs lv))) ∧ Gr w w' := by
  obtain ⟨ob, cb, rfl, qb, qb', ab⟩ := hb.shape
  obtain ⟨ol, cl, rfl, ql, ql', al⟩ := hl.shape
  obtain ⟨m, hm⟩ : ∃ m, m = bs.length := ⟨_, rfl⟩
  obtain ⟨n, hn⟩ : ∃ n, n = lv.length := ⟨_, rfl⟩
  obtain ⟨R, hR⟩ : ∃ R, R = decide (ok7 bs lv) := ⟨_, rfl⟩
  rw [← hm] at qb hbs hb ⊢
  rw [← hn] at ql hlv hl ⊢
  rw [← hR]
  have HNL := Lib.hid (fun k (hk : k < bs.length) (h : ¬ Lnk n bs k) => show R = false by
    rw [hR, decide_eq_false_iff_not]
    exact fun hc => h (by rw [hn]; exact hc.2.1.1 k hk))
  have HNR := Lib.hid (fun k (hk : k < bs.length) (h : ¬ Rises (lvs lv bs[k])) => show R = false by
    rw [hR, decide_eq_false_iff_not]
    exact fun hc => h (hc.2.2 _ (List.getElem_mem hk)))
  have HEN := Lib.hid (fun (h : ¬ (endAt bs m = (n : Int) ∧ endAt bs m ≤ 1048576)) => show R = false by
    rw [hR, decide_eq_false_iff_not]
    intro hc
    have h1 := hc.2.1.2
    have h2 := hc.1
    rw [← hm, ← hn] at h1
    rw [← hn] at h2
    exact h ⟨h1, by omega⟩)
  have HYE := Lib.hid (fun (h1 : ∀ k, k < m → Lnk n bs k) (h2 : ∀ k (h : k < bs.length), k < m → Rises (lvs lv bs[k])) (h3 : endAt bs m = (n : Int)) (h4 : endAt bs m ≤ 1048576) => show R = true by
    rw [hR, decide_eq_true_iff]
    refine ⟨by omega, ⟨fun i hi => ?_, ?_⟩, fun x hx => ?_⟩
    · rw [← hn]; exact h1 i (by omega)
    · rw [← hm, ← hn]; exact h3
    · obtain ⟨i, hi, rfl⟩ := List.getElem_of_mem hx
      exact h2 i hi (by omega))
  have HB := Lib.hid hb
  have HA := Lib.hid al
  have HM := Lib.hid hm
  have HN := Lib.hid hn
  clear hm hn hb hl al ab hR
  have hmix := mixed
  go_enter Try.func13, Try.ntmps13
  go_wp2
  obtain ⟨wb, hwb⟩ : ∃ wb, wb = w.alloc (.cells #[.slice ob m cb, .slice ol n cl] 25) := ⟨_, rfl⟩
  have hk : Blk wb w.heap.size #[.slice ob m cb, .slice ol n cl] 25 := by rw [hwb]; exact Blk.new _ _ _
  have hG0 : Gr w wb := by rw [hwb]; exact Gr.alloc _ _
  rw [← hwb]
  have HK := Lib.hid hk
  have HG0 := Lib.hid hG0
  have HB1 := Lib.hid (HB.out.later hG0.below)
  clear hwb hk hG0
  go_loopw [3, 10] (fun e i wr => ∃ k : Nat, k ≤ m ∧ i = .int .i64 (k : Int) ∧ e = .int .i64 (endAt bs k) ∧ Hid (∀ j, j < k → Lnk n bs j) ∧ Hid (∀ j (h : j < bs.length), j < k → Rises (lvs lv bs[j])) ∧ Gr wb wr) (fun _ i _ => m - (intOf i).toNat)
  case atStart => exact ⟨0, by omega, rfl, rfl, Lib.hid (by simp), Lib.hid (fun _ _ h => by omega), Gr.refl _⟩
  case round =>
    obtain ⟨k, hk, rfl, rfl, HJ, HRS, hG⟩ := hrel
    obtain ⟨e0, e1, lt0⟩ := (HK.out.later hG.below).two
    by_cases hlt : k < m
    · have hkl : k < bs.length := by have := HM.out; omega
      obtain ⟨b, f, rfl, -, -, -, hbl, hcells⟩ := (HB1.out.later hG.below).has hkl
      obtain ⟨d1, d2, d3⟩ := hcells k hkl
      have eL : Lnk n bs k ↔ (0 < k → (bs.getD (k - 1) (0, 0, 0)).1 < (bs.getD k (0, 0, 0)).1) ∧ (bs.getD k (0, 0, 0)).2.1 = endAt bs k ∧ (bs.getD k (0, 0, 0)).2.1 < (bs.getD k (0, 0, 0)).2.2 ∧ (bs.getD k (0, 0, 0)).2.2 ≤ n := Iff.rfl
      have eN : endAt bs (k + 1) = (bs.getD k (0, 0, 0)).2.2 := rfl
      have eK := getD_of hkl
      rw [eK] at eL eN
      obtain ⟨u, hu⟩ : ∃ u, u = k - 1 := ⟨_, rfl⟩
      rw [← hu] at eL
      have d4 : 0 < k → wr.cell? ⟨b, f + u * 3, none⟩ = some (.int .u64 (bs.getD u (0, 0, 0)).1) := fun h0 => by
        have := (hcells u (by omega)).1
        rwa [getD_of (show u < bs.length by omega)]
      obtain ⟨p1, hp1⟩ : ∃ p1, p1 = (bs.getD u (0, 0, 0)).1 := ⟨_, rfl⟩
      rw [← hp1] at eL d4
      have HNLk := Lib.hid (HNL.out k hkl)
      have HNRk := Lib.hid (HNR.out k hkl)
      have HRR : Hid (Rises (lvs lv bs[k]) → ∀ j (h : j < bs.length), j < k + 1 → Rises (lvs lv bs[j])) := Lib.hid (fun hr j h hjk => by
        by_cases e : j = k
        · subst e; exact hr
        · exact HRS.out j h (by omega))
      obtain ⟨x, hx⟩ : ∃ x, x = bs[k] := ⟨_, rfl⟩
      rw [← hx] at eL eN d1 d2 d3 HNRk HRR
      obtain ⟨x1, x2, x3⟩ := x
      simp only at eL eN d1 d2 d3
      obtain ⟨E, hE⟩ : ∃ E, E = endAt bs k := ⟨_, rfl⟩
      have hE0 : Hid (Lnk n bs k → 0 ≤ x2) := Lib.hid (fun h => by
        have h2 := (eL.1 h).2.1
        rw [h2]
        cases k with
        | zero => simp [endAt]
        | succ k =>
          have h3 := HJ.out k (by omega)
          have : ∀ j, j ≤ k + 1 → 0 ≤ endAt bs j := fun j => by
            induction j with
            | zero => intro _; simp [endAt]
            | succ j ih =>
              intro hj
              have h4 := HJ.out j (by omega)
              unfold Lnk at h4
              have := ih (by omega)
              simp only [endAt]
              omega
          exact this _ (Nat.le_refl _))
      rw [← hE] at eL ⊢
      have HL := Lib.hid eL
      have HN1 := Lib.hid eN
      have D4 := Lib.hid d4
      have HU := Lib.hid hu
      clear eL eN hx hp1 hE eK hcells d4 hu
      have hT : (E ≠ x2 ∧ ¬ Lnk n bs k) ∨ ((x2 != E) = false ∧ decide (x3 ≤ x2) = true ∧ ¬ Lnk n bs k) ∨ ((x2 != E) = false ∧ decide (x3 ≤ x2) = false ∧ decide ((n : Int) < x3) = true ∧ ¬ Lnk n bs k) ∨
          ((x2 != E) = false ∧ decide (x3 ≤ x2) = false ∧ decide ((n : Int) < x3) = false ∧ ((0 < k → p1 < x1) → Lnk n bs k)) := by
        have := HL.out
        by_cases c2 : x2 = E
        · by_cases c3 : x3 ≤ x2
          · exact .inr (.inl ⟨by simpa using c2, by simpa using c3, by rw [this]; omega⟩)
          · by_cases c4 : (n : Int) < x3
            · exact .inr (.inr (.inl ⟨by simpa using c2, by simp; omega, by simpa using c4, by rw [this]; omega⟩))
            · exact .inr (.inr (.inr ⟨by simpa using c2, by simp; omega, by simp; omega, by rw [this]; omega⟩))
        · exact .inl ⟨fun e => c2 e.symm, by rw [this]; omega⟩
      have hG0 := HG0.out.trans hG
      have g1 : (k : Int) < (m : Int) := by omega
      go_wp2
      obtain ⟨Wb, hWb⟩ : ∃ Wb, Wb = wr.alloc (.cells #[.int .u64 x1, .int .i64 x2, .int .i64 x3] 68) := ⟨_, rfl⟩
      have gW : Gr wr Wb := by rw [hWb]; exact Gr.alloc _ _
      have b5 : Blk Wb wr.heap.size #[.int .u64 x1, .int .i64 x2, .int .i64 x3] 68 := by rw [hWb]; exact Blk.new _ _ _
      rw [← hWb]
      clear hWb d1 d2 d3
      have B5 := Lib.hid b5
      obtain ⟨c50, c51, c52, lt5⟩ := b5.c3
      have b1 := ((HK.out.later hG.below).later gW.below)
      have B1 := Lib.hid b1
      obtain ⟨c10, c11, lt1⟩ := b1.two
      have lbW : b < Wb.heap.size := Nat.lt_of_lt_of_le hbl gW.below.size
      have GW := Lib.hid (hG0.trans gW)
      have GB := Lib.hid (hG.trans gW)
      have D4 := Lib.hid (fun h0 => (gW.cell (p := ⟨b, f + u * 3, none⟩) hbl).trans (D4.out h0))
      clear b5 b1 e0 e1 gW hG hG0
      rcases hT with ⟨t0, hF⟩ | ⟨t1, t2, hF⟩ | ⟨t1, t2, t3, hF⟩ | ⟨t1, t2, t3, hY⟩
      · have HF := Lib.hid (HNLk.out hF)
        have t1 : (x2 != E) = true := by simpa using fun e => t0 e.symm
        clear hF t0
        go_quiet (fail)
        go_wp2
        go_ret
        exact ⟨by rw [HF.out]; rfl, GW.out.trans (Gr.drewN _ _)⟩
      · have HF := Lib.hid (HNLk.out hF)
        clear hF
        go_quiet (fail)
        go_wp2
        go_ret
        exact ⟨by rw [HF.out]; rfl, GW.out.trans (Gr.drewN _ _)⟩
      · have HF := Lib.hid (HNLk.out hF)
        clear hF
        go_quiet (fail)
        go_wp2
        go_ret
        exact ⟨by rw [HF.out]; rfl, GW.out.trans (Gr.drewN _ _)⟩
      · by_cases hbad : 0 < k ∧ x1 ≤ p1
        · have d4 := D4.out hbad.1
          have hg : decide (0 < k) = true := by simpa using hbad.1
          have q1 : IntKind.i64.wrap ((k : Int) - 1) = (u : Int) := by rw [IntKind.wrap_i64]; have := HU.out; omega
          have q4 : (u : Int) < (m : Int) := by have := HU.out; omega
          have h1 : decide (x1 ≤ p1) = true := by simpa using hbad.2
          have HF := Lib.hid (HNLk.out (by rw [HL.out]; intro h; have := h.1 hbad.1; omega))
          clear hbad hY
          go_quiet (fail)
          go_wp2
          go_ret
          exact ⟨by rw [HF.out]; rfl, GW.out.trans (Gr.drewN _ _)⟩
        · have hlk : Lnk n bs k := hY (fun h0 => by omega)
          have h00 := hE0.out hlk
          have h01 : x2 < x3 := by simp at t2; omega
          have h02 : x3 ≤ n := by simp at t3; omega
          have HLK := Lib.hid hlk
          have hd : (decide (0 < k) = true ∧ 0 < k) ∨ (decide (0 < k) = false) := by
            by_cases c : 0 < k
            · exact .inl ⟨by simpa using c, c⟩
            · exact .inr (by simpa using c)
          have HBAD := Lib.hid hbad
          clear hY hlk hbad
          rcases hd with ⟨hg, h0⟩ | hg
          all_goals
            first
              | (have d4 := D4.out h0
                 have q1 : IntKind.i64.wrap ((k : Int) - 1) = (u : Int) := by rw [IntKind.wrap_i64]; have := HU.out; omega
                 have q4 : (u : Int) < (m : Int) := by have := HU.out; omega
                 have h1 : decide (x1 ≤ p1) = false := by have := HBAD.out; simp; omega
                 clear h0)
              | skip
            go_quiet (fail)
            obtain ⟨p, hp⟩ : ∃ p : Nat, x2 = (p : Int) := ⟨x2.toNat, by omega⟩
            obtain ⟨r, hr⟩ : ∃ r : Nat, x3 = (r : Int) := ⟨x3.toNat, by omega⟩
            subst hp hr
            have i0' : p < r := by omega
            have i1 : (p : Int) ≤ (r : Int) := by omega
            have i3 : r ≤ n := by omega
            have i2 : r ≤ cl := by omega
            clear h00 h01 h02
            obtain ⟨lb, lf, rfl, hlb, hlc⟩ := HA.out.resolve_left (fun e => by have := HN.out; rw [e] at this; simp at this; omega)
            obtain ⟨L, hL⟩ : ∃ L, L = lvs lv (x1, (p : Int), (r : Int)) := ⟨_, rfl⟩
            rw [← hL] at HNRk HRR
            have hll : L.length = r - p := by
              have := lvs_len (lv := lv) (b := (x1, (p : Int), (r : Int))) (by simp) (by simpa using i1) (by simp; rw [← HN.out]; omega)
              rw [← hL] at this
              simp only at this
              omega
            have hLg : ∀ j (h : j < L.length), ∃ h2 : p + j < lv.length, L[j] = lv[p + j] := fun j h => by
              have hq := HN.out
              refine ⟨by omega, ?_⟩
              subst hL
              simp [lvs]
            have HLG := Lib.hid hLg
            have HLL := Lib.hid hll
            have HLC := Lib.hid hlc
            have hlb2 : lb < Wb.heap.size := Nat.lt_of_lt_of_le hlb GW.out.below.size
            clear hL hll hLg hlc
            clear t1 t2 t3 hg
            go_wp2
            (try clear d4 q1 q4 h1)
            go_loopw [58] (fun i wy => ∃ j : Nat, j ≤ r - p ∧ i = .int .i64 (j : Int) ∧ Hid (Rises (L.take j)) ∧ Gr Wb wy) (fun i _ => r - p - (intOf i).toNat)
            case atStart => exact ⟨0, by omega, rfl, Lib.hid (by simp [Rises]), Gr.drewN _ _⟩
            case round =>
              obtain ⟨j, hj, rfl, hp, hG⟩ := hrel
              obtain ⟨c50, c51, c52, lt5⟩ := (B5.out.later hG.below).c3
              obtain ⟨c10, c11, lt1⟩ := (B1.out.later hG.below).two
              by_cases hjl : j < r - p
              · have hjL : j < L.length := by have := HLL.out; omega
                by_cases h0 : 0 < j
                · have hj1 : j - 1 < L.length := by omega
                  obtain ⟨h2, hy⟩ := HLG.out j hjL
                  obtain ⟨h3, hz⟩ := HLG.out (j - 1) hj1
                  have gw := GW.out.trans hG
                  have d2 := (gw.cell (p := ⟨lb, lf + (p + j), none⟩) hlb).trans (HLC.out (p + j) h2)
                  have d1 := (gw.cell (p := ⟨lb, lf + (p + (j - 1)), none⟩) hlb).trans (HLC.out (p + (j - 1)) h3)
                  rw [← hy] at d2
                  rw [← hz] at d1
                  obtain ⟨s, hs⟩ : ∃ s, s = p + j := ⟨_, rfl⟩
                  obtain ⟨t, ht⟩ : ∃ t, t = p + (j - 1) := ⟨_, rfl⟩
                  rw [← hs] at d2
                  rw [← ht] at d1
                  obtain ⟨y, hy'⟩ : ∃ y, y = L[j] := ⟨_, rfl⟩
                  obtain ⟨z, hz'⟩ : ∃ z, z = L[j - 1]'hj1 := ⟨_, rfl⟩
                  rw [← hy'] at d2
                  rw [← hz'] at d1
                  have HY := Lib.hid hy'
                  have HZ := Lib.hid hz'
                  have q1 : IntKind.i64.wrap ((p : Int) + (j : Int)) = (s : Int) := by rw [IntKind.wrap_i64]; omega
                  have q2 : IntKind.i64.wrap ((s : Int) - 1) = (t : Int) := by rw [IntKind.wrap_i64]; omega
                  have q3 : (s : Int) < (n : Int) := by omega
                  have q4 : (t : Int) < (n : Int) := by omega
                  have hg : decide (0 < j) = true := by simpa using h0
                  have hlbr : lb < wr.heap.size := Nat.lt_of_lt_of_le hlb gw.below.size
                  clear hy hz hy' hz' hs ht h2 h3 gw
                  by_cases c : z < y
                  · have t1 : decide (y ≤ z) = false := by simp; omega
                    have HC := Lib.hid c
                    clear c
                    go_wp2
                    go_quiet (fail)
                    go_wp2
                    go_roundw
                    case rel => exact ⟨j + 1, by omega, by go_num, Lib.hid (rises_take_succ hjL (by omega) hp.out (by rw [← HY.out, ← HZ.out]; exact HC.out)), hG.trans (Gr.drewN _ _)⟩
                    case measure => simp [intOf]; omega
                  · have t1 : decide (y ≤ z) = true := by simp; omega
                    have HF := Lib.hid (HNRk.out (fun hr => c (by
                      have h1 := hr.at (i := j - 1) (j := j) (by omega) hjL (by omega)
                      rw [← HY.out, ← HZ.out] at h1
                      exact h1)))
                    clear c
                    go_wp2
                    go_quiet (fail)
                    go_wp2
                    go_ret
                    exact ⟨by rw [HF.out]; rfl, GW.out.trans (hG.trans (Gr.drewN _ _))⟩
                · have hg : decide (0 < j) = false := by simpa using h0
                  have hj0 : j = 0 := by omega
                  go_wp2
                  go_quiet (fail)
                  go_wp2
                  go_roundw
                  case rel =>
                    refine ⟨j + 1, by omega, by go_num, Lib.hid ?_, hG.trans (Gr.drewN _ _)⟩
                    subst hj0
                    rw [List.take_succ_eq_append_getElem hjL]
                    simp [Rises]
                  case measure => simp [intOf]; omega
              · have hrl : Rises L := by
                  have := hp.out
                  rwa [List.take_of_length_le (by have := HLL.out; omega)] at this
                have HR2 := Lib.hid (HRR.out hrl)
                clear hrl
                go_wp2
                go_roundw
                case rel =>
                  refine ⟨k + 1, by omega, by go_num, by rw [HN1.out], Lib.hid (fun j hj => ?_), HR2, GB.out.trans hG⟩
                  by_cases e : j = k
                  · subst e; exact HLK.out
                  · exact HJ.out j (by omega)
                case measure => simp [intOf]; omega
    · have hkm : k = m := by omega
      subst hkm
      have h1 := HEN.out
      have h2 := HYE.out HJ.out HRS.out
      obtain ⟨E, hE⟩ : ∃ E, E = endAt bs k := ⟨_, rfl⟩
      rw [← hE] at h1 h2 ⊢
      have H1 := Lib.hid h1
      have H2 := Lib.hid h2
      clear h1 h2 hE hlt
      by_cases c1 : E = (n : Int)
      · have t1 : (E == (n : Int)) = true := by simpa using c1
        by_cases c2 : E ≤ 1048576
        · have t2 : decide (E ≤ 1048576) = true := by simpa using c2
          have HF := Lib.hid (H2.out c1 c2)
          clear c1 c2
          go_wp2
          go_ret
          exact ⟨by rw [HF.out]; rfl, HG0.out.trans hG⟩
        · have t2 : decide (E ≤ 1048576) = false := by simpa using c2
          have HF := Lib.hid (H1.out (fun h => c2 h.2))
          clear c1 c2
          go_wp2
          go_ret
          exact ⟨by rw [HF.out]; rfl, HG0.out.trans hG⟩
      · have t1 : (E == (n : Int)) = false := by simpa using c1
        have HF := Lib.hid (H1.out (fun h => c1 h.1))
        clear c1
        go_wp2
        go_ret
        exact ⟨by rw [HF.out]; rfl, HG0.out.trans hG⟩
end Go.Proofs.Ytjfnhjmdgfkgnaa

