/- A part turned round; the sort. -/
import Derived.Test.YtbcloahekffjdaaH17
import Derived.Test.YtbcloahekffjdaaH19
import Derived.Test.YtbcloahekffjdaaH20
import Derived.Test.YtbcloahekffjdaaH21
import Derived.Test.YtbcloahekffjdaaH22
import Derived.Test.YtbcloahekffjdaaH23
import Derived.Test.YtbcloahekffjdaaH24
import Derived.Deep.CutBlock
namespace Go.Proofs.Ytbcloahekffjdaa
open Go.RowKit Go.Proofs.Kit
set_option maxHeartbeats 4000000 in
theorem rev_any (B g n cap a b : Nat) (d0 : Array Int) (w0 w : World) (h : SRt B g n cap w0 d0 w) (hab : a < b) (hb : b ≤ n) (hn : n ≤ 1000000) :
    Calls Try.prog 51 #[.slice (some ⟨g, 0, none⟩) n cap, .int .i64 a, .int .i64 b] w (BpP B g n cap a b w0 d0) := by
  have hbs : b ≤ d0.size := by rw [h.len]; exact hb
  have HK0 := Lib.hid h
  have hbb : (b : Int) - 1 = ((b - 1 : Nat) : Int) := by omega
  obtain ⟨j0, hj0⟩ : ∃ j0, j0 = b - 1 := ⟨_, rfl⟩
  rw [← hj0] at hbb
  clear h hj0
  go_enter Try.func51, Try.ntmps51
  go_wp2
  go_loopw [6, 7] (fun s v wr => ∃ (i j : Nat) (d : Array Int), s = .int .i64 (i : Int) ∧ v = .int .i64 (j : Int) ∧ a ≤ i ∧ a ≤ j ∧ j < b ∧ Sort.PermIn a b d0 d ∧ Hid (SRt B g n cap w0 d wr)) (fun s v _ => (intOf v - intOf s).toNat)
  case atStart => exact ⟨a, j0, d0, rfl, by first | rfl | rw [hbb], Nat.le_refl _, by omega, by omega, Sort.permIn_refl _ _ _, HK0⟩
  case round =>
    obtain ⟨i, j, d, rfl, rfl, hai, haj, hjb, hp, HK⟩ := hrel
    clear HK0 hbb
    by_cases hij : i < j
    · have hij1 : decide ((i : Int) < (j : Int)) = true := by rw [decide_eq_true_eq]; omega
      have hne : i ≠ j := by omega
      have ci := HK.out.cell (i := i) (by omega)
      have cp := HK.out.cell (i := j) (by omega)
      have fi := HK.out.frozen (i := i) (by omega)
      have fp := HK.out.frozen (i := j) (by omega)
      have hgl := HK.out.lt
      obtain ⟨x, hx⟩ : ∃ x, x = d[i]! := ⟨_, rfl⟩
      obtain ⟨y, hy⟩ : ∃ y, y = d[j]! := ⟨_, rfl⟩
      rw [← hx] at ci
      rw [← hy] at cp
      have HX := Lib.hid hx
      have HY := Lib.hid hy
      have hjj : (j : Int) - 1 = ((j - 1 : Nat) : Int) := by omega
      have hp2 := Sort.permIn_trans _ _ _ _ _ hp (Sort.swp_permIn d a b i j (by omega) (by omega) (by omega) (by omega) (by rw [hp.1]; exact hbs))
      have HP2 := Lib.hid hp2
      clear hx hy hp hp2
      go_wp2
      go_region
      all_goals
        go_wp2
        go_roundw
        case rel => exact ⟨i + 1, j - 1, _, by go_num, by first | rfl | rw [hjj], by omega, by omega, by omega, HP2.out, Lib.hid (HK.out.swpN (by omega) (by omega) HX.out HY.out _)⟩
        case measure => simp [intOf]; omega
    · have hij1 : decide ((i : Int) < (j : Int)) = false := by rw [decide_eq_false_iff_not]; omega
      have HP2 := Lib.hid hp
      clear hp
      go_wp2
      go_end0
      exact ⟨d, rfl, HP2.out, HK⟩
/-- A part sorted. -/
def PdP (B g n cap a b : Nat) (w0 : World) (d0 : Array Int) (e : Ending) (w' : World) : Prop :=
  ∃ d : Array Int, e = .returned (.tuple #[]) ∧ Sort.PermIn a b d0 d ∧ Srt a b d ∧ Hid (SRt B g n cap w0 d w')
set_option maxRecDepth 100000 in
set_option maxHeartbeats 16000000 in
theorem pdq_rec (B g n cap : Nat) (w0 : World) (hn : n ≤ 1000000) : ∀ (N A E : Nat) (x y : Int) (lim : Nat) (d0 : Array Int) (w : World), E - A < N → x = (A : Int) → y = (E : Int) → SRt B g n cap w0 d0 w → A ≤ E → E ≤ n → lim ≤ 1000 → Bel A E d0 →
    Calls Try.prog 39 #[.slice (some ⟨g, 0, none⟩) n cap, .int .i64 x, .int .i64 y, .int .i64 (lim : Int)] w (PdP B g n cap A E w0 d0) := by
  intro N
  induction N with
  | zero => intro A E x y lim d0 w h; omega
  | succ N ih =>
    intro A E x y lim d0 w hN hx hy h hAE hEn hlim hbel
    subst hx hy
    have IH := Lib.hid ih
    have HK0 := Lib.hid h
    have HQ0 := Lib.hid (Pq.start hAE (by rw [h.len]; exact hEn) hbel)
    clear ih h hbel
    go_enter Try.func39, Try.ntmps39
    go_wp2
    go_loopw [1, 2, 3, 8, 9, 10, 11, 12, 13, 14, 15, 16, 17, 18] (fun v1 v2 v3 v8 v9 _ _ _ _ _ _ _ _ _ wr => ∃ (a b l : Nat) (bal par : Bool) (d : Array Int), v1 = .int .i64 (a : Int) ∧ v2 = .int .i64 (b : Int) ∧ v3 = .int .i64 (l : Int) ∧ v8 = .bool bal ∧ v9 = .bool par ∧ l ≤ 1000 ∧ Hid (Pq A E d0 a b d) ∧ Hid (SRt B g n cap w0 d wr)) (fun v1 v2 _ _ _ _ _ _ _ _ _ _ _ _ _ => (intOf v2 - intOf v1).toNat)
    case atStart => exact ⟨A, E, lim, true, true, d0, rfl, rfl, rfl, rfl, rfl, hlim, HQ0, HK0⟩
    case round =>
      obtain ⟨a, b, l, bal, par, d, rfl, rfl, rfl, rfl, rfl, hl, HQ, HK⟩ := hrel
      clear HK0 HQ0
      have hAa := HQ.out.Aa
      have hab := HQ.out.ab
      have hbE := HQ.out.bE
      by_cases h12 : b - a ≤ 12
      · have h12' : decide ((b : Int) - (a : Int) ≤ 12) = true := by rw [decide_eq_true_eq]; omega
        go_wp2_with (go_at_call 47; refine (ins_any B g n cap a b d w0 _ HK.out hab (by omega) hn).mono ?_; rintro e w' ⟨rfl, HS⟩)
        have hi := Sort.insertionSort_holds Sort.swo_ltInt d a b hab HQ.out.size
        have hd := HQ.out.done hi.1 (srt_of hi.2)
        exact bodyPost_ret (v := .tuple #[]) (by simp [results, Try.results39, go_sem]) rfl ⟨_, rfl, hd.1, hd.2, Lib.hid HS⟩
      · have h12' : decide ((b : Int) - (a : Int) ≤ 12) = false := by rw [decide_eq_false_iff_not]; omega
        by_cases hl0 : l = 0
        · subst hl0
          go_wp2_with (go_at_call 48; refine (heap_any B g n cap a b d w0 _ HK.out hab (by omega) hn).mono ?_; rintro e w' ⟨rfl, HS⟩)
          have hi := Sort.heapSort_holds Sort.swo_ltInt d a b hab HQ.out.size
          have hd := HQ.out.done hi.1 (srt_of hi.2)
          exact bodyPost_ret (v := .tuple #[]) (by simp [results, Try.results39, go_sem]) rfl ⟨_, rfl, hd.1, hd.2, Lib.hid HS⟩
        · have hl0' : ((l : Int) == 0) = false := by rw [beq_eq_false_iff_ne]; omega
          have hab12 : a + 12 < b := by omega
          have hbn : b ≤ n := by omega
          go_upto_if 35 with (fail)
          go_cut [3, 35] from 36 to 41 (fun s _ wx => ∃ (l : Nat) (d : Array Int), s = .int .i64 (l : Int) ∧ l ≤ 1000 ∧ Hid (Pq A E d0 a b d) ∧ Hid (SRt B g n cap w0 d wx))
          case first =>
            cases bal
            · go_wp2_with (go_at_call 49; refine (break_any B g n cap a b d w0 _ HK.out hab12 hbn hn).mono ?_; rintro e w' ⟨d1, rfl, hp, HS⟩)
              go_meet
              exact ⟨l - 1, d1, by go_num, by omega, Lib.hid (HQ.out.perm' hp), HS⟩
            · go_wp2
              go_meet
              exact ⟨l, d, rfl, hl, HQ, HK⟩
          case rest =>
            obtain ⟨l1, d1, rfl, hl1, HQ1, HK1⟩ := hcut
            clear HQ HK hl0 hl0' hl
            go_wp2_with fail
            refine (pivot_any B g n cap a b d1 w0 _ HK1.out hab12 hbn hn).mono ?_
            rintro e w2 ⟨pv, t, rfl, hpa, hpb, ht, HK2⟩
            clear HK1
            go_upto_if 50 with (fail)
            go_cut [11, 12, 50] from 51 to 60 (fun s v _ wx => ∃ (pv : Nat) (t : Int) (d : Array Int), s = .int .i64 (pv : Int) ∧ v = .int .i64 t ∧ a ≤ pv ∧ pv < b ∧ Hid (Pq A E d0 a b d) ∧ Hid (SRt B g n cap w0 d wx))
            case first =>
              by_cases h2 : t = 2
              · subst h2
                go_wp2_with (go_at_call 51; refine (rev_any B g n cap a b d1 w0 _ HK2.out (by omega) hbn hn).mono ?_; rintro e w' ⟨d2, rfl, hp, HS⟩)
                go_meet
                exact ⟨b - 1 - (pv - a), 1, d2, by go_num, rfl, by omega, by omega, Lib.hid (HQ1.out.perm' hp), HS⟩
              · have h2' : (t == 2) = false := by rw [beq_eq_false_iff_ne]; exact h2
                go_wp2
                go_meet
                exact ⟨pv, t, d1, rfl, rfl, hpa, hpb, HQ1, HK2⟩
            case rest =>
              clear HQ1 HK2 hpa hpb ht
              obtain ⟨pv, t, d2, rfl, rfl, hpa, hpb, HQ2, HK2⟩ := hcut
              obtain ⟨c, hc⟩ : ∃ c : Bool, c = (bal && par && (t == 1)) := ⟨_, rfl⟩
              have HC := Lib.hid hc
              clear hc
              go_upto_region 15 with (fail)
              go_cut [68] from 61 to 68 (fun s wx => s = .bool c ∧ Hid (SRt B g n cap w0 d2 wx))
              case first =>
                cases bal
                · obtain rfl : c = false := by rw [HC.out]; rfl
                  go_wp2
                  go_meet
                  exact ⟨rfl, HK2⟩
                · cases par
                  · obtain rfl : c = false := by rw [HC.out]; rfl
                    go_wp2
                    go_meet
                    exact ⟨rfl, HK2⟩
                  · have hc : (t == 1) = c := by rw [HC.out]; rfl
                    go_wp2
                    go_meet
                    exact ⟨by first | rfl | rw [hc], HK2⟩
              case rest =>
                clear HK2
                obtain ⟨rfl, HK2⟩ := hcut
                go_upto_if 68 with (fail)
                go_cut [68] from 69 to 72 (fun _ wx => ∃ (d : Array Int), Hid (Pq A E d0 a b d) ∧ Hid (SRt B g n cap w0 d wx))
                case first =>
                  cases c
                  · go_wp2
                    go_meet
                    exact ⟨d2, HQ2, HK2⟩
                  · go_wp2_with fail
                    refine (pins_any B g n cap a b d2 w0 _ HK2.out (by omega) hbn hn).mono ?_
                    rintro e w3 ⟨ok, d3, rfl, hpi, HS⟩
                    have hi := Sort.partialInsertionSort_holds Sort.swo_ltInt d2 a b (by omega) HQ2.out.size HQ2.out.bel.lib
                    rw [hpi] at hi
                    cases ok
                    · have HQ3 := Lib.hid (HQ2.out.perm' hi.1)
                      clear hi hpi
                      go_wp2
                      go_meet
                      exact ⟨d3, HQ3, HS⟩
                    · have hd := HQ2.out.done hi.1 (srt_of (hi.2 rfl))
                      have HD := Lib.hid hd
                      clear hi hpi hd
                      go_wp2
                      exact bodyPost_ret (v := .tuple #[]) (by simp [results, Try.results39, go_sem]) rfl ⟨_, rfl, HD.out.1, HD.out.2, HS⟩
                case rest =>
                  clear HQ2 HK2
                  obtain ⟨d3, HQ3, HK3⟩ := hcut
                  go_upto_region 17 with (fail)
                  go_cut [87] from 73 to 87 (fun s wx => ∃ c : Bool, s = .bool c ∧ Hid (SRt B g n cap w0 d3 wx) ∧ Hid (c = true → 0 < a ∧ ¬ d3[a - 1]! < d3[pv]!))
                  case first =>
                    by_cases ha0 : a = 0
                    · have ha1 : decide ((0 : Int) < (a : Int)) = false := by rw [decide_eq_false_iff_not]; omega
                      have ha2 : decide (0 < a) = false := by rw [decide_eq_false_iff_not]; omega
                      clear ha0
                      go_wp2
                      go_quiet (first | (go_at_call 53; refine Calls.quiet_of_same (less_any _ _ _)) | (go_at_call 53; refine less_from _ _))
                      go_wp2
                      go_meet
                      exact ⟨false, rfl, Lib.hid (HK3.out.drewN _), Lib.hid (fun h => absurd h (by decide))⟩
                    · have ha1 : decide ((0 : Int) < (a : Int)) = true := by rw [decide_eq_true_eq]; omega
                      have ha2 : decide (0 < a) = true := by rw [decide_eq_true_eq]; omega
                      obtain ⟨q, hq⟩ : ∃ q, q = a - 1 := ⟨_, rfl⟩
                      have haq : (a : Int) - 1 = (q : Int) := by omega
                      have dx := HK3.out.cell (i := q) (by omega)
                      have dy := HK3.out.cell (i := pv) (by omega)
                      obtain ⟨x, hx⟩ : ∃ x, x = d3[q]! := ⟨_, rfl⟩
                      obtain ⟨y, hy⟩ : ∃ y, y = d3[pv]! := ⟨_, rfl⟩
                      rw [← hx] at dx
                      rw [← hy] at dy
                      have HX := Lib.hid hx
                      have HY := Lib.hid hy
                      have HQq := Lib.hid hq
                      clear hx hy hq
                      by_cases hc : x < y
                      · have hd : decide (x < y) = true := by rw [decide_eq_true_eq]; exact hc
                        go_wp2
                        go_quiet (first | (go_at_call 53; refine Calls.quiet_of_same (less_any _ _ _)) | (go_at_call 53; refine less_from _ _))
                        go_wp2
                        go_meet
                        exact ⟨false, rfl, Lib.hid (HK3.out.drewN _), Lib.hid (fun h => absurd h (by decide))⟩
                      · have hd : decide (x < y) = false := by rw [decide_eq_false_iff_not]; exact hc
                        have HC := Lib.hid hc
                        go_wp2
                        go_quiet (first | (go_at_call 53; refine Calls.quiet_of_same (less_any _ _ _)) | (go_at_call 53; refine less_from _ _))
                        go_wp2
                        go_meet
                        exact ⟨true, rfl, Lib.hid (HK3.out.drewN _), Lib.hid (fun _ => ⟨by omega, by rw [← HQq.out, ← HX.out, ← HY.out]; have := HC.out; omega⟩)⟩
                  case rest =>
                    clear HK3
                    obtain ⟨c, rfl, HK3, HE⟩ := hcut
                    cases c
                    · clear HE
                      go_wp2_with fail
                      refine (part_any B g n cap a b pv d3 w0 _ HK3.out hpa hpb hbn hn).mono ?_
                      rintro e w4 ⟨m, ok, d4, rfl, hm1, hm2, hp, hpm, hlo, hhi, HS⟩
                      have HQ4 := Lib.hid (HQ3.out.perm' hp)
                      have HPM := Lib.hid hpm
                      have HLO := Lib.hid hlo
                      have HHI := Lib.hid hhi
                      clear hp hpm hlo hhi HK3 HQ3
                      by_cases hlr : (m : Int) - (a : Int) < (b : Int) - (m : Int)
                      · have hlr' : decide ((m : Int) - (a : Int) < (b : Int) - (m : Int)) = true := by rw [decide_eq_true_eq]; exact hlr
                        go_wp2_with fail
                        refine (IH.out a m (a : Int) (m : Int) l1 d4 _ (by omega) rfl rfl HS.out hm1 (by omega) hl1 (HQ4.out.bel_left hm2)).mono ?_
                        rintro e w5 ⟨d5, rfl, hp5, hs5, HS5⟩
                        have HQ5 := Lib.hid (HQ4.out.left hm1 hm2 HPM.out HLO.out HHI.out hp5 hs5)
                        clear hp5 hs5
                        go_wp2
                        go_roundw
                        case rel => exact ⟨m + 1, b, l1, _, ok, d5, by go_num, rfl, rfl, rfl, rfl, hl1, HQ5, HS5⟩
                        case measure => simp [intOf]; omega
                      · have hlr' : decide ((m : Int) - (a : Int) < (b : Int) - (m : Int)) = false := by rw [decide_eq_false_iff_not]; exact hlr
                        go_wp2_with fail
                        refine (IH.out (m + 1) b ((m : Int) + 1) (b : Int) l1 d4 _ (by omega) (by omega) rfl HS.out (by omega) hbn hl1 (bel_right HPM.out HHI.out)).mono ?_
                        rintro e w5 ⟨d5, rfl, hp5, hs5, HS5⟩
                        have HQ5 := Lib.hid (HQ4.out.right hm1 hm2 HPM.out HLO.out HHI.out hp5 hs5)
                        clear hp5 hs5
                        go_wp2
                        go_roundw
                        case rel => exact ⟨a, m, l1, _, ok, d5, rfl, rfl, rfl, rfl, rfl, hl1, HQ5, HS5⟩
                        case measure => simp [intOf]; omega
                    · obtain ⟨he1, he2⟩ := HE.out rfl
                      have HE2 := Lib.hid he2
                      clear he2 HE
                      go_wp2_with fail
                      refine (partEq_any B g n cap a b pv d3 w0 _ HK3.out hpa hpb hbn hn).mono ?_
                      rintro e w4 ⟨m, d4, rfl, hm1, hm2, hp, hlo, hhi, HS⟩
                      have HQ4 := Lib.hid (HQ3.out.eq (pv := pv) he1 (by have := HE2.out; omega) hm1 hm2 hp hlo hhi)
                      clear hp hlo hhi
                      go_wp2
                      go_roundw
                      case rel => exact ⟨m, b, l1, bal, par, d4, rfl, rfl, rfl, rfl, rfl, hl1, HQ4, Lib.hid HS⟩
                      case measure => simp [intOf]; omega
end Go.Proofs.Ytbcloahekffjdaa
