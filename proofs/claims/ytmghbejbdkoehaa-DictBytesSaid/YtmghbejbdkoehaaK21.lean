/- The reference's May; ref05's Same. -/
import Derived.Test.YtmghbejbdkoehaaMf
namespace Go.Proofs.Kit
open Go.RowKit
/-- Does a byte fit a kind? -/
def pas (k : Int) (c : Nat) : Bool := !((decide (k < 4) && !keyN c) || (decide (k = 4) && !valN c))
theorem pas_bad {k : Int} {s : ByteArray} {j : Nat} (h : j < s.size) (hp : pas k s[j].toNat = false) : mayB k s = false := by
  simp only [pas, Bool.not_eq_false', Bool.or_eq_true, Bool.and_eq_true, decide_eq_true_eq, Bool.not_eq_true'] at hp
  rcases hp with ⟨h4, hc⟩ | ⟨rfl, hc⟩
  · have hb : allB false s = false := allB_false h (by simpa [okN] using hc)
    have h5 : k ≠ 4 := by omega
    simp [mayB, hb, h5]
  · have hb : allB true s = false := allB_false h (by simpa [okN] using hc)
    simp [mayB, hb]
theorem allB_true {v : Bool} {s : ByteArray} (h : ∀ j (hj : j < s.size), okN v s[j].toNat = true) : allB v s = true := by
  unfold allB
  rw [List.all_eq_true]
  intro x hx
  obtain ⟨j, hj, rfl⟩ := List.getElem_of_mem hx
  exact h j (by simpa using hj)
theorem pas_low {k : Int} {s : ByteArray} (h : ∀ j (hj : j < s.size), pas k s[j].toNat = true) (h0 : 0 ≤ k) (h4 : k < 4) : mayB k s = (decide (1 ≤ s.size) && decide (s.size ≤ 32)) := by
  have hb : allB false s = true := allB_true fun j hj => by have := h j hj; simp [pas, h4, okN] at this ⊢; exact this.1
  have h5 : k ≠ 4 := by omega
  simp [mayB, hb, h0, h4, h5]
theorem pas_val {s : ByteArray} (h : ∀ j (hj : j < s.size), pas 4 s[j].toNat = true) : mayB 4 s = decide (s.size ≤ 40) := by
  have hb : allB true s = true := allB_true fun j hj => by have := h j hj; simpa [pas, okN] using this
  simp [mayB, hb]
theorem may_none {k : Int} {s : ByteArray} (h : ¬ (0 ≤ k ∧ k ≤ 4)) : mayB k s = false := by
  cases hc : mayB k s
  · rfl
  · exact absurd (mayB_kind hc) (by omega)
end Go.Proofs.Kit
namespace Go.Proofs.Ytmghbejbdkoehaa
open Go.RowKit Go.Proofs.Kit Go.Shelf

set_option maxRecDepth 100000 in
set_option maxHeartbeats 4000000 in
theorem emay_any (k : Int) (s : ByteArray) (hs : s.size ≤ 9223372036854775807) (w : World) : Calls Try.prog 18 #[.int .i64 k, .string s] w fun e w' => e = .returned (.bool (mayB k s)) ∧ w' = w := by
  go_enter Try.func18, Try.ntmps18
  go_wp2
  go_loopw [5, 6, 7, 8, 11] (fun _ _ _ _ i wr => ∃ j : Nat, j ≤ s.size ∧ i = .int .i64 j ∧ wr = w ∧ Hid (∀ m (h : m < s.size), m < j → pas k s[m].toNat = true)) (fun _ _ _ _ i _ => s.size - (intOf i).toNat)
  case atStart => exact ⟨0, Nat.zero_le _, rfl, rfl, Lib.hid fun m _ h => by omega⟩
  case round =>
    obtain ⟨j, hj, rfl, rfl, hall⟩ := hrel
    by_cases hlt : j < s.size
    · have hbad : pas k s[j].toNat = false → mayB k s = false := pas_bad hlt
      have HBAD := Lib.hid hbad
      clear hbad
      go_upto_region 5 with (fail)
      obtain ⟨c, hc⟩ : ∃ c, c = s[j].toNat := ⟨_, rfl⟩
      rw [← hc] at HBAD
      rw [← hc]
      have HC := Lib.hid hc
      clear hc
      go_cut [7] from 17 to 34 (fun v wd => v = .bool (keyN c) ∧ wd = wr)
      case first =>
        clear hj HC hlt
        by_cases h1 : 97 ≤ c
        · have g1 : decide ((97 : Int) ≤ (c : Int)) = true := by simp; omega
          have g3 : decide ((48 : Int) ≤ (c : Int)) = true := by simp; omega
          have g4 : decide ((c : Int) ≤ 57) = false := by simp; omega
          have g5 : ((c : Int) == 95) = false := by simp; omega
          by_cases h2 : c ≤ 122
          · have g2 : decide ((c : Int) ≤ 122) = true := by simp; omega
            have hr : keyN c = true := by simp [keyN]; omega
            have HR := Lib.hid hr
            clear h1 h2 hr
            go_wp2
            go_meet
            exact ⟨by rw [HR.out] <;> rfl, rfl⟩
          · have g2 : decide ((c : Int) ≤ 122) = false := by simp; omega
            have hr : keyN c = false := by simp [keyN]; omega
            have HR := Lib.hid hr
            clear h1 h2 hr
            go_wp2
            go_meet
            exact ⟨by rw [HR.out] <;> rfl, rfl⟩
        · have g1 : decide ((97 : Int) ≤ (c : Int)) = false := by simp; omega
          by_cases h3 : 48 ≤ c
          · have g3 : decide ((48 : Int) ≤ (c : Int)) = true := by simp; omega
            by_cases h4 : c ≤ 57
            · have g4 : decide ((c : Int) ≤ 57) = true := by simp; omega
              have hr : keyN c = true := by simp [keyN]; omega
              have HR := Lib.hid hr
              clear h1 h3 h4 hr
              go_wp2
              go_meet
              exact ⟨by rw [HR.out] <;> rfl, rfl⟩
            · have g4 : decide ((c : Int) ≤ 57) = false := by simp; omega
              have hr : keyN c = ((c : Int) == 95) := by rw [Bool.eq_iff_iff]; simp [keyN]; omega
              have HR := Lib.hid hr
              clear h1 h3 h4 hr
              go_wp2
              go_meet
              exact ⟨by rw [HR.out] <;> rfl, rfl⟩
          · have g3 : decide ((48 : Int) ≤ (c : Int)) = false := by simp; omega
            have hr : keyN c = ((c : Int) == 95) := by rw [Bool.eq_iff_iff]; simp [keyN]; omega
            have HR := Lib.hid hr
            clear h1 h3 hr
            go_wp2
            go_meet
            exact ⟨by rw [HR.out] <;> rfl, rfl⟩
      case rest =>
        obtain ⟨rfl, hw⟩ := hcut
        have hw := hw.symm
        subst hw
        go_upto_region 6 with (fail)
        go_cut [8] from 35 to 48 (fun v wd => v = .bool (valN c) ∧ wd = wr)
        case first =>
          clear hj HC hlt
          by_cases h1 : 32 ≤ c
          · have g1 : decide ((32 : Int) ≤ (c : Int)) = true := by simp; omega
            by_cases h2 : c ≤ 126
            · have g2 : decide ((c : Int) ≤ 126) = true := by simp; omega
              by_cases h3 : c = 34
              · have g3 : ((c : Int) != 34) = false := by simp; omega
                have hr : valN c = false := by simp [valN]; omega
                have HR := Lib.hid hr
                clear h1 h2 h3 hr
                go_wp2
                go_meet
                exact ⟨by rw [HR.out] <;> rfl, rfl⟩
              · have g3 : ((c : Int) != 34) = true := by simp; omega
                have hr : valN c = ((c : Int) != 92) := by rw [Bool.eq_iff_iff]; simp [valN]; omega
                have HR := Lib.hid hr
                clear h1 h2 h3 hr
                go_wp2
                go_meet
                exact ⟨by rw [HR.out] <;> rfl, rfl⟩
            · have g2 : decide ((c : Int) ≤ 126) = false := by simp; omega
              have hr : valN c = false := by simp [valN]; omega
              have HR := Lib.hid hr
              clear h1 h2 hr
              go_wp2
              go_meet
              exact ⟨by rw [HR.out] <;> rfl, rfl⟩
          · have g1 : decide ((32 : Int) ≤ (c : Int)) = false := by simp; omega
            have hr : valN c = false := by simp [valN]; omega
            have HR := Lib.hid hr
            clear h1 hr
            go_wp2
            go_meet
            exact ⟨by rw [HR.out] <;> rfl, rfl⟩
        case rest =>
          obtain ⟨rfl, hw⟩ := hcut
          have hw := hw.symm
          subst hw
          obtain ⟨p, hp⟩ : ∃ p, p = pas k c := ⟨_, rfl⟩
          have hpk : p = !((decide (k < 4) && !keyN c) || (decide (k = 4) && !valN c)) := hp
          generalize keyN c = b1 at hpk ⊢
          generalize valN c = b2 at hpk ⊢
          go_upto_region 7 with (fail)
          go_cut [62] from 49 to 61 (fun v wd => v = .bool (!p) ∧ wd = wr)
          case first =>
            clear hj HC hlt HBAD
            clear hp
            by_cases h4 : k < 4
            · have g1 : decide (k < 4) = true := decide_eq_true h4
              have g2 : (k == 4) = false := by simp; omega
              have g3 : decide (k = 4) = false := by simp; omega
              rw [g1, g3] at hpk
              clear h4 g3
              cases b1
              all_goals
                simp at hpk
                subst hpk
                go_wp2
                go_meet
                exact ⟨rfl, rfl⟩
            · have g1 : decide (k < 4) = false := decide_eq_false h4
              by_cases h5 : k = 4
              · have g2 : (k == 4) = true := by simp; omega
                have g3 : decide (k = 4) = true := by simp; omega
                rw [g1, g3] at hpk
                clear h4 h5 g3
                cases b2
                all_goals
                  simp at hpk
                  subst hpk
                  go_wp2
                  go_meet
                  exact ⟨rfl, rfl⟩
              · have g2 : (k == 4) = false := by simp; omega
                have g3 : decide (k = 4) = false := by simp; omega
                rw [g1, g3] at hpk
                clear h4 h5 g3
                simp at hpk
                subst hpk
                go_wp2
                go_meet
                exact ⟨rfl, rfl⟩
          case rest =>
            obtain ⟨rfl, hw⟩ := hcut
            have hw := hw.symm
            subst hw
            clear hpk
            cases p
            · have HR := Lib.hid (HBAD.out hp.symm)
              clear hp
              go_wp2
              go_ret
              exact ⟨by rw [HR.out] <;> rfl, rfl⟩
            · go_wp2
              go_roundw
              case rel =>
                refine ⟨j + 1, by omega, by go_num, by trivial, Lib.hid fun m hm hmj => ?_⟩
                by_cases hmj' : m < j
                · exact hall.out m hm hmj'
                · obtain rfl : m = j := by omega
                  rw [← HC.out, ← hp]
              case measure => simp [intOf]; omega
    · have hfin : ∀ m (h : m < s.size), pas k s[m].toNat = true := fun m hm => hall.out m hm (by omega)
      obtain ⟨n, hn⟩ : ∃ n, n = s.size := ⟨_, rfl⟩
      have HN := Lib.hid hn
      have HF := Lib.hid hfin
      clear hfin hall
      by_cases h0 : 0 ≤ k
      · have g0 : decide ((0 : Int) ≤ k) = true := decide_eq_true h0
        by_cases h4 : k < 4
        · have g1 : decide (k < 4) = true := decide_eq_true h4
          have g2 : (k == 4) = false := by simp; omega
          have hm := pas_low HF.out h0 h4
          rw [← hn] at hm
          by_cases h5 : 1 ≤ n
          · have g3 : decide ((1 : Int) ≤ (s.size : Int)) = true := by simp; omega
            by_cases h6 : n ≤ 32
            · have g4 : decide ((s.size : Int) ≤ 32) = true := by simp; omega
              have hr : mayB k s = true := by rw [hm]; simp [h5, h6]
              have HR := Lib.hid hr
              clear h0 h4 h5 h6 hm hr hn hj
              go_wp2
              go_ret
              exact ⟨by rw [HR.out] <;> rfl, rfl⟩
            · have g4 : decide ((s.size : Int) ≤ 32) = false := by simp; omega
              have hr : mayB k s = false := by rw [hm]; simp [h6]
              have HR := Lib.hid hr
              clear h0 h4 h5 h6 hm hr hn hj
              go_wp2
              go_ret
              exact ⟨by rw [HR.out] <;> rfl, rfl⟩
          · have g3 : decide ((1 : Int) ≤ (s.size : Int)) = false := by simp; omega
            have hr : mayB k s = false := by rw [hm]; simp [h5]
            have HR := Lib.hid hr
            clear h0 h4 h5 hm hr hn hj
            go_wp2
            go_ret
            exact ⟨by rw [HR.out] <;> rfl, rfl⟩
        · have g1 : decide (k < 4) = false := decide_eq_false h4
          by_cases h5 : k = 4
          · subst h5
            have hm := pas_val HF.out
            rw [← hn] at hm
            by_cases h6 : n ≤ 40
            · have g4 : decide ((s.size : Int) ≤ 40) = true := by simp; omega
              have hr : mayB 4 s = true := by rw [hm]; simp [h6]
              have HR := Lib.hid hr
              clear h0 h4 h6 hm hr hn hj
              go_wp2
              go_ret
              exact ⟨by rw [HR.out] <;> rfl, rfl⟩
            · have g4 : decide ((s.size : Int) ≤ 40) = false := by simp; omega
              have hr : mayB 4 s = false := by rw [hm]; simp [h6]
              have HR := Lib.hid hr
              clear h0 h4 h6 hm hr hn hj
              go_wp2
              go_ret
              exact ⟨by rw [HR.out] <;> rfl, rfl⟩
          · have g2 : (k == 4) = false := by simp; omega
            have hr : mayB k s = false := may_none (by omega)
            have HR := Lib.hid hr
            clear h0 h4 h5 hr hn hj
            go_wp2
            go_ret
            exact ⟨by rw [HR.out] <;> rfl, rfl⟩
      · have g0 : decide ((0 : Int) ≤ k) = false := decide_eq_false h0
        have g2 : (k == 4) = false := by simp; omega
        have hr : mayB k s = false := may_none (by omega)
        have HR := Lib.hid hr
        clear h0 hr hn hj
        go_wp2
        go_ret
        exact ⟨by rw [HR.out] <;> rfl, rfl⟩

set_option maxRecDepth 100000 in
theorem rsame_lens (o1 o2 : Option Addr) (n1 n2 c1 c2 : Nat) (hne : n1 ≠ n2) (w : World) :
    Calls Try.prog 42 #[.slice o1 n1 c1, .slice o2 n2 c2] w fun e w' => e = .returned (.bool false) ∧ w' = w := by
  have h : ((n1 : Int) != (n2 : Int)) = true := by simp; omega
  go_enter Try.func42, Try.ntmps42
  go_wp2
  go_ret
  exact ⟨rfl, rfl⟩
set_option maxRecDepth 100000 in
theorem rsame_none (o1 o2 : Option Addr) (c1 c2 : Nat) (w : World) :
    Calls Try.prog 42 #[.slice o1 0 c1, .slice o2 0 c2] w fun e w' => e = .returned (.bool true) ∧ w' = w := by
  go_enter Try.func42, Try.ntmps42
  go_wp2
  go_loopw [5, 13] (fun _ i wr => i = .int .i64 0 ∧ wr = w) (fun _ _ _ => 0)
  case atStart => exact ⟨rfl, rfl⟩
  case round =>
    obtain ⟨rfl, rfl⟩ := hrel
    go_wp2
    go_ret
    exact ⟨rfl, rfl⟩
set_option maxRecDepth 100000 in
set_option maxHeartbeats 1000000 in
theorem rsame_some (b1 f1 b2 f2 n c1 c2 : Nat) (l1 l2 : List ByteArray) (w : World) (hn : n ≤ 9223372036854775807) (e1 : l1.length = n) (e2 : l2.length = n)
    (hc1 : ∀ i (h : i < l1.length), w.cell? ⟨b1, f1 + i, none⟩ = some (.string l1[i])) (hc2 : ∀ i (h : i < l2.length), w.cell? ⟨b2, f2 + i, none⟩ = some (.string l2[i])) :
    Calls Try.prog 42 #[.slice (some ⟨b1, f1, none⟩) n c1, .slice (some ⟨b2, f2, none⟩) n c2] w fun e w' => e = .returned (.bool (decide (l1 = l2))) ∧ Dr w w' := by
  have H1 := Lib.hid hc1; clear hc1
  have H2 := Lib.hid hc2; clear hc2
  have E1 := Lib.hid e1; clear e1
  have E2 := Lib.hid e2; clear e2
  go_enter Try.func42, Try.ntmps42
  go_wp2
  go_loopw [5, 13] (fun _ i wr => ∃ k : Nat, k ≤ n ∧ i = .int .i64 k ∧ Hid (l1.take k = l2.take k) ∧ Dr w wr) (fun _ i _ => n - (intOf i).toNat)
  case atStart => exact ⟨0, Nat.zero_le _, rfl, Lib.hid (by simp), Dr.refl _⟩
  case round =>
    obtain ⟨k, hk, rfl, hp, hB⟩ := hrel
    by_cases hlt : k < n
    · have k1 : k < l1.length := by have := E1.out; omega
      have k2 : k < l2.length := by have := E2.out; omega
      have d1 : wr.cell? ⟨b1, f1 + k, none⟩ = some (.string l1[k]) := (hB.cell ⟨b1, f1 + k, none⟩).trans (H1.out k k1)
      have d2 : wr.cell? ⟨b2, f2 + k, none⟩ = some (.string l2[k]) := (hB.cell ⟨b2, f2 + k, none⟩).trans (H2.out k k2)
      obtain ⟨x, hx⟩ : ∃ x, x = l1[k] := ⟨_, rfl⟩
      obtain ⟨y, hy⟩ : ∃ y, y = l2[k] := ⟨_, rfl⟩
      rw [← hx] at d1
      rw [← hy] at d2
      have HX := Lib.hid hx; clear hx
      have HY := Lib.hid hy; clear hy
      by_cases hxy : x = y
      · have ht := eq_s hxy
        have HXY := Lib.hid hxy; clear hxy
        go_wp2
        go_quiet (fail)
        go_wp2
        go_roundw
        case rel =>
          refine ⟨k + 1, by omega, by go_num, Lib.hid ?_, ?_⟩
          · rw [List.take_succ_eq_append_getElem k1, List.take_succ_eq_append_getElem k2, hp.out, ← HX.out, ← HY.out, HXY.out]
          · exact hB.trans (Dr.drewN _ _)
        case measure => simp [intOf]; omega
      · have ht := ne_s hxy
        have HXY := Lib.hid hxy; clear hxy
        go_wp2
        go_quiet (fail)
        go_wp2
        go_ret
        refine ⟨?_, ?_⟩
        · have : l1 ≠ l2 := by
            intro e
            have a := HX.out
            have b := HY.out
            subst e
            exact HXY.out (a.trans b.symm)
          simp [this]
        · exact hB.trans (Dr.drewN _ _)
    · go_wp2
      go_ret
      have : l1 = l2 := by
        have := hp.out
        rwa [List.take_of_length_le (by have := E1.out; omega), List.take_of_length_le (by have := E2.out; omega)] at this
      exact ⟨by simp [this], hB⟩
theorem rsame_sl (v1 v2 : Value) (l1 l2 : List ByteArray) (w : World) (h1 : Sl w v1 (l1.map .string)) (h2 : Sl w v2 (l2.map .string)) :
    Calls Try.prog 42 #[v1, v2] w fun e w' => e = .returned (.bool (decide (l1 = l2))) ∧ Dr w w' := by
  obtain ⟨o1, c1, rfl, hc1, hm1, a1⟩ := h1.mshape
  obtain ⟨o2, c2, rfl, hc2, hm2, a2⟩ := h2.mshape
  by_cases hl : l1.length = l2.length
  · rcases a1 with rfl | ⟨b1, f1, rfl, _, a1⟩
    · obtain rfl : l2 = [] := List.length_eq_zero_iff.1 hl.symm
      exact (rsame_none o1 o2 c1 c2 w).mono fun e w' ⟨he, hw⟩ => ⟨by simpa using he, hw ▸ Dr.refl _⟩
    · rcases a2 with rfl | ⟨b2, f2, rfl, _, a2⟩
      · obtain rfl : l1 = [] := List.length_eq_zero_iff.1 hl
        exact (rsame_none _ o2 c1 c2 w).mono fun e w' ⟨he, hw⟩ => ⟨by simpa using he, hw ▸ Dr.refl _⟩
      · rw [← hl]
        exact rsame_some b1 f1 b2 f2 l1.length c1 c2 l1 l2 w (by simpa using h1.1) rfl hl.symm a1 a2
  · refine (rsame_lens o1 o2 _ _ c1 c2 hl w).mono fun e w' ⟨he, hw⟩ => ⟨?_, hw ▸ Dr.refl _⟩
    have : l1 ≠ l2 := fun e => hl (by rw [e])
    simp [he, this]
end Go.Proofs.Ytmghbejbdkoehaa

