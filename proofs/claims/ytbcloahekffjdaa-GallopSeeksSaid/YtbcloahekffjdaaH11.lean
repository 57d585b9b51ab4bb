/- The walk of GallopSeeks. -/
import Derived.Test.YtbcloahekffjdaaH8
namespace Go.Proofs.Ytbcloahekffjdaa
open Go.RowKit Go.Proofs.Kit

set_option maxHeartbeats 1000000 in
theorem eLooks_true (n f a q : Nat) (h : Lks n f a q) (hfa : f ≤ a) (hf : f ≤ n) (han : a ≤ n) (hn : n ≤ 1000000) (w : World) :
    Calls Try.prog 18 #[.int .i64 (n : Int), .int .i64 (f : Int), .int .i64 (a : Int), .int .i64 (q : Int)] w fun e w' => e = .returned (.bool true) ∧ w = w' := by
  by_cases he : f = n
  · have e1 : ((f : Int) == (n : Int)) = true := by simp; omega
    have e1' : (f == n) = true := by simpa using he
    have hq : q = 0 := h.1 he
    have e2 : ((q : Int) == 0) = true := by simp; omega
    have e2' : (q == 0) = true := by simpa using hq
    clear h hq he
    go_enter Try.func18, Try.ntmps18
    go_wp2
    go_ret
    exact ⟨rfl, rfl⟩
  · have e1 : ((f : Int) == (n : Int)) = false := by simp; omega
    have e1' : (f == n) = false := by simpa using he
    obtain ⟨h1, h2⟩ := h.2 (by omega)
    have g1 : decide ((1 : Int) ≤ (q : Int)) = true := by simp; omega
    have g1' : decide (1 ≤ q) = true := by simpa using h1
    obtain ⟨r, hr⟩ : ∃ r, r = Nat.log2 (1 + a - f) := ⟨_, rfl⟩
    have hlr := log2_lt63 (m := 1 + a - f) (by omega)
    have e3 : (1 + (a : Int) - (f : Int)).toNat = 1 + a - f := by omega
    rw [← hr] at h2 hlr
    have HE3 := Lib.hid (show Nat.log2 (1 + (a : Int) - (f : Int)).toNat = r by rw [e3, hr])
    clear h he hr e3
    go_enter Try.func18, Try.ntmps18
    go_wp2_with fail
    refine (eLog_any (1 + (a : Int) - (f : Int)) (by omega) (by omega) _).mono ?_
    rw [HE3.out]
    rintro e w' ⟨rfl, rfl⟩
    have g3 : decide ((q : Int) ≤ 2 + 2 * (r : Int)) = true := by simp; omega
    go_wp2
    go_ret
    exact ⟨rfl, rfl⟩

set_option maxRecDepth 100000 in
set_option maxHeartbeats 8000000 in
theorem seeks_true (o op ok : Option Addr) (n c np cp nk ck : Nat) (l lp lk : List Int) (w : World) (hl : l.length = n) (hc : n ≤ c) (hm : c ≤ 9223372036854775807) (h : ArgI .u64 w o c l)
    (hlp : lp.length = np) (hnp : np ≤ 9223372036854775807) (hp : ArgI .i64 w op cp lp) (hrp : ∀ x ∈ lp, -9223372036854775808 ≤ x ∧ x ≤ 9223372036854775807) (hlk : lk.length = nk) (hnk : nk ≤ 9223372036854775807) (hk : ArgI .u64 w ok ck lk) :
    Calls Try.prog 3 #[.slice o n c, .slice op np cp, .slice ok nk ck] w fun e w' => e = .returned (.bool true) ∧ Below w.heap.size w w' := by
  have HL := Lib.hid hl
  have HA := Lib.hid h
  have HLP := Lib.hid hlp
  have HP := Lib.hid hp
  have HRP := Lib.hid hrp
  have HLK := Lib.hid hlk
  have HK := Lib.hid hk
  obtain ⟨L, hL⟩ : ∃ L, L = l.take 200 := ⟨_, rfl⟩
  have hn : L.length ≤ 200 := by rw [hL]; simp; omega
  have HLL := Lib.hid hL
  clear hl h hlp hp hrp hlk hk hL
  go_enter Try.func3, Try.ntmps3
  go_wp2_with fail
  refine (wakes4_true _).mono ?_
  rintro e w1 ⟨rfl, B1⟩
  go_wp2_with fail
  refine (few4_any o n c l w1 HL.out hc hm (HA.out.later B1)).mono ?_
  rw [← HLL.out]
  rintro e w2 ⟨v, rfl, ho, b2⟩
  have B2 := below_later B1 b2
  have HO := Lib.hid (ho.mono B1.size)
  obtain ⟨o2, c2, rfl⟩ := HO.out.shape
  clear ho b2 B1
  obtain ⟨N, hN⟩ : ∃ N, N = L.length := ⟨_, rfl⟩
  rw [← hN] at hn HO ⊢
  have HN := Lib.hid hN
  clear hN
  obtain ⟨t, ht⟩ : ∃ t, t = decide (Inc L) := ⟨_, rfl⟩
  have HT := Lib.hid ht
  clear ht
  go_wp2_with fail
  refine (eRising_any _ L w2 HO.out.seg).mono ?_
  rw [← HT.out]
  rintro e w3 ⟨rfl, rfl⟩
  go_wp2_with fail
  refine (rising_any _ L w2 HO.out.seg).mono ?_
  rw [← HT.out]
  rintro e w4 ⟨rfl, d4⟩
  have HB4 := Lib.hid (below_later B2 d4.below)
  have HO4 := Lib.hid (HO.out.later d4.below)
  clear d4 B2 HO
  have ett : (t != t) = false := by simp
  go_wp2
  go_loopg [31] np (fun kx s wr => ∃ i : Nat, s = .int .i64 (i : Int) ∧ i ≤ np ∧ np - i ≤ kx ∧ Hid (Below w.heap.size w wr) ∧ Hid (Owns .u64 27 w.heap.size wr (.slice o2 N c2) L))
  case atStart => exact ⟨0, rfl, Nat.zero_le _, by omega, HB4, HO4⟩
  case round =>
    clear HB4 HO4
    obtain ⟨i, rfl, hi, hkx, HB, HO⟩ := hrel
    by_cases hlt : i < np
    · have hip : i < lp.length := by have := HLP.out; omega
      obtain ⟨ap, rfl, hcp⟩ := HP.out.resolve_left (fun e => by rw [e.2.1] at hip; simp at hip)
      have d0 := hcp i hip
      have d1 : wr.cell? (ap.add i) = some (.int .i64 lp[i]) := (HB.out.cell (World.block_lt_of_cell? _ _ d0)).trans d0
      have hx := HRP.out _ (List.getElem_mem hip)
      obtain ⟨f, hf⟩ : ∃ f, f = lp[i] := ⟨_, rfl⟩
      rw [← hf] at d1 hx
      have HX := Lib.hid hx
      clear hf d0 hcp hx
      by_cases h6 : i = 6
      · have g6 : ((i : Int) == 6) = true := by simp; omega
        clear h6
        go_wp2_with fail
        refine (few4_any o n c l wr HL.out hc hm (HA.out.later HB.out)).mono ?_
        rw [← HLL.out]
        rintro e w5 ⟨v, rfl, ho, b5⟩
        go_wp2_with fail
        refine (equalu_seg _ _ L L w5 (HO.out.later b5).seg ho.seg).mono ?_
        rw [decide_eq_true rfl]
        rintro e w6 ⟨rfl, d6⟩
        go_wp2
        go_ret
        exact ⟨rfl, (below_later HB.out b5).trans d6.below⟩
      · have g6 : ((i : Int) == 6) = false := by simp; omega
        clear h6
        by_cases hM : May L f
        · have HM := Lib.hid hM
          obtain ⟨hI, hf0, hf1⟩ := hM
          obtain ⟨F, rfl⟩ : ∃ F : Nat, f = F := ⟨f.toNat, by omega⟩
          obtain rfl : t = true := by rw [HT.out]; simpa using hI
          have hFN : F ≤ N := by have := HN.out; omega
          have HI := Lib.hid hI
          clear hI hf0 hf1
          go_wp2
          go_loopg [40] nk (fun ky s wz => ∃ j : Nat, s = .int .i64 (j : Int) ∧ j ≤ nk ∧ nk - j ≤ ky ∧ Hid (Below w.heap.size w wz) ∧ Hid (Owns .u64 27 w.heap.size wz (.slice o2 N c2) L))
          case atStart => exact ⟨0, rfl, Nat.zero_le _, by omega, HB, HO⟩
          case round =>
            clear HB HO
            obtain ⟨j, rfl, hj, hky, HB, HO⟩ := hrel
            by_cases hjk : j < nk
            · have hjl : j < lk.length := by have := HLK.out; omega
              obtain ⟨ak, rfl, hck⟩ := HK.out.resolve_left (fun e => by rw [e.2.1] at hjl; simp at hjl)
              have d0 := hck j hjl
              have d2 : wr.cell? (ak.add j) = some (.int .u64 lk[j]) := (HB.out.cell (World.block_lt_of_cell? _ _ d0)).trans d0
              obtain ⟨y, hy⟩ : ∃ y, y = lk[j] := ⟨_, rfl⟩
              rw [← hy] at d2
              clear hy d0 hck
              by_cases h8 : j = 8
              · have g8 : ((j : Int) == 8) = true := by simp; omega
                clear h8
                go_wp2
                go_roundg (np - (i + 1))
                case measure => omega
                case rel => exact ⟨i + 1, by go_num, by omega, Nat.le_refl _, HB, HO⟩
              · have g8 : ((j : Int) == 8) = false := by simp; omega
                clear h8
                go_wp2_with fail
                refine (gSeek_ok _ L wr HO.out.seg (by have := HN.out; omega) HI.out F (by have := HN.out; omega) y).mono ?_
                obtain ⟨a, ha⟩ : ∃ a, a = sk (ge y) L F := ⟨_, rfl⟩
                have ha0 := sk_ge (ge y) L F
                have ha1 := sk_le (p := ge y) (l := L) (f := F) (by have := HN.out; omega)
                rw [← ha] at ha0 ha1 ⊢
                have HSA := Lib.hid ha
                clear ha
                rintro e w5 ⟨q, rfl, hq, b5⟩
                have HQ := Lib.hid hq
                have B5 := below_later HB.out b5
                have HO5 := Lib.hid (HO.out.later b5)
                clear b5 hq HB HO
                go_wp2_with fail
                refine (gBehind_ok _ L w5 HO5.out.seg (by have := HN.out; omega) HI.out F (by have := HN.out; omega) y).mono ?_
                obtain ⟨b, hb⟩ : ∃ b, b = sk (gt y) L F := ⟨_, rfl⟩
                have hb0 := sk_ge (gt y) L F
                have hb1 := sk_le (p := gt y) (l := L) (f := F) (by have := HN.out; omega)
                rw [← hb] at hb0 hb1 ⊢
                have HSB := Lib.hid hb
                clear hb
                rintro e w6 ⟨q', rfl, hq, b6⟩
                have HQ' := Lib.hid hq
                have HB := Lib.hid (below_later B5 b6)
                have HO := Lib.hid (HO5.out.later b6)
                clear b6 hq B5 HO5
                have ga : ((a : Int) != (a : Int)) = false := by simp
                have gb : ((b : Int) != (b : Int)) = false := by simp
                have g3 : decide (N < F) = false := by simp; omega
                have ha2 : a ≤ N := by have := HN.out; omega
                have hb2 : b ≤ N := by have := HN.out; omega
                clear ha1 hb1
                go_wp2_with fail
                refine (eSeek_any _ L w6 HO.out.seg F (by have := HN.out; omega) y).mono ?_
                rw [← HSA.out]
                rintro e w7 ⟨rfl, rfl⟩
                go_wp2_with fail
                refine (eBehind_any _ L w6 HO.out.seg F (by have := HN.out; omega) y).mono ?_
                rw [← HSB.out]
                rintro e w7 ⟨rfl, rfl⟩
                go_wp2_with fail
                refine (eLooks_true N F a q (by have := HQ.out; rw [← HN.out] at this; exact this) ha0 hFN ha2 (by omega) w6).mono ?_
                rintro e w7 ⟨rfl, rfl⟩
                go_wp2_with fail
                refine (eLooks_true N F b q' (by have := HQ'.out; rw [← HN.out] at this; exact this) hb0 hFN hb2 (by omega) w6).mono ?_
                rintro e w7 ⟨rfl, rfl⟩
                go_wp2
                go_roundg (nk - (j + 1))
                case measure => omega
                case rel => exact ⟨j + 1, by go_num, by omega, Nat.le_refl _, HB, HO⟩
            · go_wp2
              go_roundg (np - (i + 1))
              case measure => omega
              case rel => exact ⟨i + 1, by go_num, by omega, Nat.le_refl _, HB, HO⟩
        · have HM := Lib.hid hM
          clear hM
          go_wp2
          go_loopg [40] nk (fun ky s wz => ∃ j : Nat, s = .int .i64 (j : Int) ∧ j ≤ nk ∧ nk - j ≤ ky ∧ Hid (Below w.heap.size w wz) ∧ Hid (Owns .u64 27 w.heap.size wz (.slice o2 N c2) L))
          case atStart => exact ⟨0, rfl, Nat.zero_le _, by omega, HB, HO⟩
          case round =>
            clear HB HO
            obtain ⟨j, rfl, hj, hky, HB, HO⟩ := hrel
            by_cases hjk : j < nk
            · have hjl : j < lk.length := by have := HLK.out; omega
              obtain ⟨ak, rfl, hck⟩ := HK.out.resolve_left (fun e => by rw [e.2.1] at hjl; simp at hjl)
              have d0 := hck j hjl
              have d2 : wr.cell? (ak.add j) = some (.int .u64 lk[j]) := (HB.out.cell (World.block_lt_of_cell? _ _ d0)).trans d0
              obtain ⟨y, hy⟩ : ∃ y, y = lk[j] := ⟨_, rfl⟩
              rw [← hy] at d2
              clear hy d0 hck
              by_cases h8 : j = 8
              · have g8 : ((j : Int) == 8) = true := by simp; omega
                clear h8
                go_wp2
                go_roundg (np - (i + 1))
                case measure => omega
                case rel => exact ⟨i + 1, by go_num, by omega, Nat.le_refl _, HB, HO⟩
              · have g8 : ((j : Int) == 8) = false := by simp; omega
                clear h8
                go_wp2_with fail
                refine (gSeek_no _ L wr HO.out.seg f HX.out.1 HX.out.2 HM.out y).mono ?_
                rintro e w5 ⟨rfl, b5⟩
                have B5 := below_later HB.out b5
                have HO5 := Lib.hid (HO.out.later b5)
                clear b5 HB HO
                go_wp2_with fail
                refine (gBehind_no _ L w5 HO5.out.seg f HX.out.1 HX.out.2 HM.out y).mono ?_
                rintro e w6 ⟨rfl, b6⟩
                have HB := Lib.hid (below_later B5 b6)
                have HO := Lib.hid (HO5.out.later b6)
                clear b6 B5 HO5
                have hno : t = false ∨ (t = true ∧ f < 0) ∨ (t = true ∧ ¬ f < 0 ∧ (N : Int) < f) := by
                  have h1 := HM.out
                  have h2 := HT.out
                  have h3 := HN.out
                  cases t
                  · exact .inl rfl
                  · refine .inr ?_
                    by_cases c1 : f < 0
                    · exact .inl ⟨rfl, c1⟩
                    · refine .inr ⟨rfl, c1, ?_⟩
                      by_cases c2 : (N : Int) < f
                      · exact c2
                      · exact absurd ⟨by simpa using h2.symm, by omega, by omega⟩ h1
                rcases hno with rfl | ⟨rfl, c1⟩ | ⟨rfl, c1, c2⟩
                · go_wp2
                  go_roundg (nk - (j + 1))
                  case measure => omega
                  case rel => exact ⟨j + 1, by go_num, by omega, Nat.le_refl _, HB, HO⟩
                · have g1 : decide (f < 0) = true := by simpa using c1
                  go_wp2
                  go_roundg (nk - (j + 1))
                  case measure => omega
                  case rel => exact ⟨j + 1, by go_num, by omega, Nat.le_refl _, HB, HO⟩
                · have g1 : decide (f < 0) = false := by simpa using c1
                  have g2 : decide ((N : Int) < f) = true := by simpa using c2
                  go_wp2
                  go_roundg (nk - (j + 1))
                  case measure => omega
                  case rel => exact ⟨j + 1, by go_num, by omega, Nat.le_refl _, HB, HO⟩
            · go_wp2
              go_roundg (np - (i + 1))
              case measure => omega
              case rel => exact ⟨i + 1, by go_num, by omega, Nat.le_refl _, HB, HO⟩
    · skip
      go_wp2_with fail
      refine (few4_any o n c l wr HL.out hc hm (HA.out.later HB.out)).mono ?_
      rw [← HLL.out]
      rintro e w5 ⟨v, rfl, ho, b5⟩
      go_wp2_with fail
      refine (equalu_seg _ _ L L w5 (HO.out.later b5).seg ho.seg).mono ?_
      rw [decide_eq_true rfl]
      rintro e w6 ⟨rfl, d6⟩
      go_wp2
      go_ret
      exact ⟨rfl, (below_later HB.out b5).trans d6.below⟩
end Go.Proofs.Ytbcloahekffjdaa
