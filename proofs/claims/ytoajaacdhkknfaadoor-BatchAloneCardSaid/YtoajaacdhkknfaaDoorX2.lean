/- Names and values, of the program and of the reference; kinds. -/
import Derived.Test.YtoajaacdhkknfaaDoorProg
import Derived.Test.YtoajaacdhkknfaaDoorX1
import Derived.Test.YtoajaacdhkknfaaDoorX00
import Derived.Outline
namespace Go.Proofs.Kit
open Go.RowKit
theorem okN_key (c : Nat) : okN false c = keyN c := rfl
theorem okN_val (c : Nat) : okN true c = valN c := rfl
end Go.Proofs.Kit
namespace Go.Proofs.YtoajaacdhkknfaaDoor
open Go.RowKit Go.Proofs.Kit Go.Shelf
theorem mixed : Tryd.prog.follows .mixedOrders = true := by kernel_rfl

set_option maxRecDepth 100000 in
set_option maxHeartbeats 1000000 in
theorem bnameA_any (r : Nat) (w : World) : Calls Tryd.prog 55 #[.int .u8 (r : Int)] w fun e w' => e = .returned (.bool (keyN r)) ∧ w' = w := by
  by_cases h1 : 97 ≤ r
  · have g1 : decide ((97 : Int) ≤ (r : Int)) = true := by simp; omega
    have g3 : decide ((48 : Int) ≤ (r : Int)) = true := by simp; omega
    have g4 : decide ((r : Int) ≤ 57) = false := by simp; omega
    have g5 : ((r : Int) == 95) = false := by simp; omega
    by_cases h2 : r ≤ 122
    · have g2 : decide ((r : Int) ≤ 122) = true := by simp; omega
      have hr : keyN r = true := by simp [keyN]; omega
      rw [hr]
      clear h1 h2 hr
      go_enter Tryd.func55, Tryd.ntmps55
      go_wp2
      go_ret
      exact ⟨rfl, rfl⟩
    · have g2 : decide ((r : Int) ≤ 122) = false := by simp; omega
      have hr : keyN r = false := by simp [keyN]; omega
      rw [hr]
      clear h1 h2 hr
      go_enter Tryd.func55, Tryd.ntmps55
      go_wp2
      go_ret
      exact ⟨rfl, rfl⟩
  · have g1 : decide ((97 : Int) ≤ (r : Int)) = false := by simp; omega
    by_cases h3 : 48 ≤ r
    · have g3 : decide ((48 : Int) ≤ (r : Int)) = true := by simp; omega
      by_cases h4 : r ≤ 57
      · have g4 : decide ((r : Int) ≤ 57) = true := by simp; omega
        have hr : keyN r = true := by simp [keyN]; omega
        rw [hr]
        clear h1 h3 h4 hr
        go_enter Tryd.func55, Tryd.ntmps55
        go_wp2
        go_ret
        exact ⟨rfl, rfl⟩
      · have g4 : decide ((r : Int) ≤ 57) = false := by simp; omega
        have hr : keyN r = ((r : Int) == 95) := by rw [Bool.eq_iff_iff]; simp [keyN]; omega
        rw [hr]
        clear h1 h3 h4 hr
        go_enter Tryd.func55, Tryd.ntmps55
        go_wp2
        go_ret
        exact ⟨rfl, rfl⟩
    · have g3 : decide ((48 : Int) ≤ (r : Int)) = false := by simp; omega
      have hr : keyN r = ((r : Int) == 95) := by rw [Bool.eq_iff_iff]; simp [keyN]; omega
      rw [hr]
      clear h1 h3 hr
      go_enter Tryd.func55, Tryd.ntmps55
      go_wp2
      go_ret
      exact ⟨rfl, rfl⟩
set_option maxRecDepth 100000 in
set_option maxHeartbeats 1000000 in
theorem bvalueA_any (r : Nat) (w : World) : Calls Tryd.prog 54 #[.int .u8 (r : Int)] w fun e w' => e = .returned (.bool (valN r)) ∧ w' = w := by
  by_cases h1 : 32 ≤ r
  · have g1 : decide ((32 : Int) ≤ (r : Int)) = true := by simp; omega
    by_cases h2 : r ≤ 126
    · have g2 : decide ((r : Int) ≤ 126) = true := by simp; omega
      by_cases h3 : r = 34
      · have g3 : ((r : Int) != 34) = false := by simp; omega
        have hr : valN r = false := by simp [valN]; omega
        rw [hr]
        clear h1 h2 h3 hr
        go_enter Tryd.func54, Tryd.ntmps54
        go_wp2
        go_ret
        exact ⟨rfl, rfl⟩
      · have g3 : ((r : Int) != 34) = true := by simp; omega
        have hr : valN r = ((r : Int) != 92) := by rw [Bool.eq_iff_iff]; simp [valN]; omega
        rw [hr]
        clear h1 h2 h3 hr
        go_enter Tryd.func54, Tryd.ntmps54
        go_wp2
        go_ret
        exact ⟨rfl, rfl⟩
    · have g2 : decide ((r : Int) ≤ 126) = false := by simp; omega
      have hr : valN r = false := by simp [valN]; omega
      rw [hr]
      clear h1 h2 hr
      go_enter Tryd.func54, Tryd.ntmps54
      go_wp2
      go_ret
      exact ⟨rfl, rfl⟩
  · have g1 : decide ((32 : Int) ≤ (r : Int)) = false := by simp; omega
    have hr : valN r = false := by simp [valN]; omega
    rw [hr]
    clear h1 hr
    go_enter Tryd.func54, Tryd.ntmps54
    go_wp2
    go_ret
    exact ⟨rfl, rfl⟩
set_option maxRecDepth 100000 in
set_option maxHeartbeats 2000000 in
theorem madek_any (s : ByteArray) (hs : s.size ≤ 9223372036854775807) (w : World) :
    Calls Tryd.prog 53 #[.string s, .int .i64 1, .int .i64 32, .func (.func 55) #[] #[]] w fun e w' => e = .returned (.bool (decide (1 ≤ s.size) && decide (s.size ≤ 32) && allB false s)) ∧ w' = w := by
  obtain ⟨q, hq⟩ : ∃ q, q = s.size := ⟨_, rfl⟩
  by_cases h1 : q < 1
  · have g1 : decide ((q : Int) < 1) = true := by simp; omega
    have hr : (decide (1 ≤ s.size) && decide (s.size ≤ 32) && allB false s) = false := by simp; omega
    rw [hr]
    rw [hq] at g1
    clear h1 hr hq
    go_enter Tryd.func53, Tryd.ntmps53
    go_wp2
    go_ret
    exact ⟨rfl, rfl⟩
  · have g1 : decide ((q : Int) < 1) = false := decide_eq_false (by omega)
    by_cases h2 : 32 < q
    · have g2 : decide ((32 : Int) < (q : Int)) = true := by simp; omega
      have hr : (decide (1 ≤ s.size) && decide (s.size ≤ 32) && allB false s) = false := by simp; omega
      rw [hr]
      rw [hq] at g1 g2
      clear h1 h2 hr hq
      go_enter Tryd.func53, Tryd.ntmps53
      go_wp2
      go_ret
      exact ⟨rfl, rfl⟩
    · have g2 : decide ((32 : Int) < (q : Int)) = false := by simp; omega
      have hr : (decide (1 ≤ s.size) && decide (s.size ≤ 32) && allB false s) = allB false s := by
        have a1 : decide (s.size ≤ 32) = true := decide_eq_true (by omega)
        have a2 : decide (1 ≤ s.size) = true := decide_eq_true (by omega)
        rw [a1, a2, Bool.true_and, Bool.true_and]
      rw [hr]
      rw [hq] at g1 g2
      clear h1 h2 hr hq
      go_enter Tryd.func53, Tryd.ntmps53
      go_wp2
      go_loop [9, 22] (fun _ i => ∃ k : Nat, k ≤ s.size ∧ i = .int .i64 k ∧ Hid (((s.data.toList.take k).all fun b => okN false b.toNat) = true)) (fun _ i => s.size - (intOf i).toNat)
      case atStart => exact ⟨0, Nat.zero_le _, rfl, Lib.hid rfl⟩
      case round =>
        obtain ⟨k, hle, rfl, HA⟩ := hrel
        clear g1 g2
        by_cases hlt : k < s.size
        · obtain ⟨c, hc⟩ : ∃ c : Nat, c = s[k].toNat := ⟨_, rfl⟩
          have HC := Lib.hid hc
          clear hc
          by_cases hd : okN false c = true
          · have hk : keyN c = true := hd
            go_wp2_with fail
            rw [← HC.out]
            refine (bnameA_any c _).mono ?_
            rintro e w' ⟨rfl, rfl⟩
            rw [hk]
            go_wp2
            go_round
            case rel => exact ⟨k + 1, by omega, by go_num, Lib.hid (by rw [allB_take false s k hlt, HA.out, ← HC.out, hd]; rfl)⟩
            case measure => simp [intOf]; omega
          · have hk : keyN c = false := by simpa [okN] using hd
            have hfin : allB false s = false := allB_false hlt (by rw [← HC.out]; simpa using hd)
            have HF := Lib.hid hfin
            clear hd hfin
            go_wp2_with fail
            rw [← HC.out]
            refine (bnameA_any c _).mono ?_
            rintro e w' ⟨rfl, rfl⟩
            rw [hk]
            go_wp2
            go_ret
            exact ⟨by rw [HF.out]; rfl, rfl⟩
        · have hfin : allB false s = true := by have := HA.out; rw [List.take_of_length_le (by simp; omega)] at this; exact this
          have HF := Lib.hid hfin
          clear hfin
          go_wp2
          go_ret
          exact ⟨by rw [HF.out]; rfl, rfl⟩
set_option maxRecDepth 100000 in
set_option maxHeartbeats 2000000 in
theorem madev_any (s : ByteArray) (hs : s.size ≤ 9223372036854775807) (w : World) :
    Calls Tryd.prog 53 #[.string s, .int .i64 0, .int .i64 40, .func (.func 54) #[] #[]] w fun e w' => e = .returned (.bool (decide (0 ≤ s.size) && decide (s.size ≤ 40) && allB true s)) ∧ w' = w := by
  obtain ⟨q, hq⟩ : ∃ q, q = s.size := ⟨_, rfl⟩
  by_cases h1 : q < 0
  · have g1 : decide ((q : Int) < 0) = true := by simp; omega
    have hr : (decide (0 ≤ s.size) && decide (s.size ≤ 40) && allB true s) = false := by simp; omega
    rw [hr]
    rw [hq] at g1
    clear h1 hr hq
    go_enter Tryd.func53, Tryd.ntmps53
    go_wp2
    go_ret
    exact ⟨rfl, rfl⟩
  · have g1 : decide ((q : Int) < 0) = false := decide_eq_false (by omega)
    by_cases h2 : 40 < q
    · have g2 : decide ((40 : Int) < (q : Int)) = true := by simp; omega
      have hr : (decide (0 ≤ s.size) && decide (s.size ≤ 40) && allB true s) = false := by simp; omega
      rw [hr]
      rw [hq] at g1 g2
      clear h1 h2 hr hq
      go_enter Tryd.func53, Tryd.ntmps53
      go_wp2
      go_ret
      exact ⟨rfl, rfl⟩
    · have g2 : decide ((40 : Int) < (q : Int)) = false := by simp; omega
      have hr : (decide (0 ≤ s.size) && decide (s.size ≤ 40) && allB true s) = allB true s := by
        have a1 : decide (s.size ≤ 40) = true := decide_eq_true (by omega)
        have a2 : decide (0 ≤ s.size) = true := decide_eq_true (by omega)
        rw [a1, a2, Bool.true_and, Bool.true_and]
      rw [hr]
      rw [hq] at g1 g2
      clear h1 h2 hr hq
      go_enter Tryd.func53, Tryd.ntmps53
      go_wp2
      go_loop [9, 22] (fun _ i => ∃ k : Nat, k ≤ s.size ∧ i = .int .i64 k ∧ Hid (((s.data.toList.take k).all fun b => okN true b.toNat) = true)) (fun _ i => s.size - (intOf i).toNat)
      case atStart => exact ⟨0, Nat.zero_le _, rfl, Lib.hid rfl⟩
      case round =>
        obtain ⟨k, hle, rfl, HA⟩ := hrel
        clear g1 g2
        by_cases hlt : k < s.size
        · obtain ⟨c, hc⟩ : ∃ c : Nat, c = s[k].toNat := ⟨_, rfl⟩
          have HC := Lib.hid hc
          clear hc
          by_cases hd : okN true c = true
          · have hk : valN c = true := hd
            go_wp2_with fail
            rw [← HC.out]
            refine (bvalueA_any c _).mono ?_
            rintro e w' ⟨rfl, rfl⟩
            rw [hk]
            go_wp2
            go_round
            case rel => exact ⟨k + 1, by omega, by go_num, Lib.hid (by rw [allB_take true s k hlt, HA.out, ← HC.out, hd]; rfl)⟩
            case measure => simp [intOf]; omega
          · have hk : valN c = false := by simpa [okN] using hd
            have hfin : allB true s = false := allB_false hlt (by rw [← HC.out]; simpa using hd)
            have HF := Lib.hid hfin
            clear hd hfin
            go_wp2_with fail
            rw [← HC.out]
            refine (bvalueA_any c _).mono ?_
            rintro e w' ⟨rfl, rfl⟩
            rw [hk]
            go_wp2
            go_ret
            exact ⟨by rw [HF.out]; rfl, rfl⟩
        · have hfin : allB true s = true := by have := HA.out; rw [List.take_of_length_le (by simp; omega)] at this; exact this
          have HF := Lib.hid hfin
          clear hfin
          go_wp2
          go_ret
          exact ⟨by rw [HF.out]; rfl, rfl⟩
set_option maxRecDepth 100000 in
set_option maxHeartbeats 1000000 in
theorem bname_any (s : ByteArray) (hs : s.size ≤ 9223372036854775807) (w : World) : Calls Tryd.prog 42 #[.string s] w fun e w' => e = .returned (.bool (nameB s)) ∧ w' = w := by
  have H := Lib.hid (madek_any s hs w)
  clear hs
  go_enter Tryd.func42, Tryd.ntmps42
  go_wp2_with fail
  refine (H.out).mono ?_
  rintro e w' ⟨rfl, rfl⟩
  rw [show (decide (1 ≤ s.size) && decide (s.size ≤ 32) && allB false s) = nameB s from rfl]
  go_wp2
  go_ret
  exact ⟨rfl, rfl⟩
set_option maxRecDepth 100000 in
set_option maxHeartbeats 1000000 in
theorem bvalue_any (s : ByteArray) (hs : s.size ≤ 9223372036854775807) (w : World) : Calls Tryd.prog 41 #[.string s] w fun e w' => e = .returned (.bool (valueB s)) ∧ w' = w := by
  have H := Lib.hid (madev_any s hs w)
  clear hs
  go_enter Tryd.func41, Tryd.ntmps41
  go_wp2_with fail
  refine (H.out).mono ?_
  rintro e w' ⟨rfl, rfl⟩
  rw [show (decide (0 ≤ s.size) && decide (s.size ≤ 40) && allB true s) = valueB s from rfl]
  go_wp2
  go_ret
  exact ⟨rfl, rfl⟩
set_option maxRecDepth 100000 in
set_option maxHeartbeats 1000000 in
theorem biskind_any (k : Int) (w : World) : Calls Tryd.prog 21 #[.int .i64 k] w fun e w' => e = .returned (.bool (kindB k)) ∧ w' = w := by
  by_cases h : 1 ≤ k
  · have g : decide ((1 : Int) ≤ k) = true := by simpa using h
    have hr : kindB k = decide (k ≤ 8) := by simp [kindB, h]
    rw [hr]
    clear h hr
    go_enter Tryd.func21, Tryd.ntmps21
    go_wp2
    go_ret
    exact ⟨rfl, rfl⟩
  · have g : decide ((1 : Int) ≤ k) = false := by simpa using h
    have hr : kindB k = false := by simp [kindB, h]
    rw [hr]
    clear h hr
    go_enter Tryd.func21, Tryd.ntmps21
    go_wp2
    go_ret
    exact ⟨rfl, rfl⟩
end Go.Proofs.YtoajaacdhkknfaaDoor

