/- Names and values of the reference; what a kind asks of a part. -/
import Derived.Test.YtoajaacdhkknfaaX2
namespace Go.Proofs.Kit
open Go.RowKit
theorem key_six (c : Nat) : (keyN c = true ∧ 97 ≤ c ∧ c ≤ 122) ∨ (keyN c = true ∧ 48 ≤ c ∧ c ≤ 57) ∨ (keyN c = true ∧ 95 ≤ c ∧ c ≤ 95) ∨ (keyN c = false ∧ 0 ≤ c ∧ c < 48) ∨ (keyN c = false ∧ 57 < c ∧ c < 97 ∧ c ≠ 95) ∨ (keyN c = false ∧ 122 < c) := by
  simp only [keyN]
  by_cases h1 : 97 ≤ c <;> by_cases h2 : c ≤ 122 <;> by_cases h3 : 48 ≤ c <;> by_cases h4 : c ≤ 57 <;> by_cases h5 : c = 95 <;> simp [h1, h2, h3, h4, h5] <;> omega
theorem val_five (c : Nat) : (valN c = true ∧ 32 ≤ c ∧ c ≤ 126 ∧ c ≠ 34 ∧ c ≠ 92) ∨ (valN c = false ∧ c < 32) ∨ (valN c = false ∧ 126 < c) ∨ (valN c = false ∧ c = 34) ∨ (valN c = false ∧ c = 92) := by
  simp only [valN]
  by_cases h1 : 32 ≤ c <;> by_cases h2 : c ≤ 126 <;> by_cases h3 : c = 34 <;> by_cases h4 : c = 92 <;> simp [h1, h2, h3, h4] <;> omega
end Go.Proofs.Kit
namespace Go.Proofs.Ytoajaacdhkknfaa
open Go.RowKit Go.Proofs.Kit Go.Shelf
set_option maxRecDepth 100000 in
set_option maxHeartbeats 4000000 in
theorem rbName_any (s : ByteArray) (hs : s.size ≤ 9223372036854775807) (w : World) : Calls Try.prog 15 #[.string s] w fun e w' => e = .returned (.bool (nameB s)) ∧ w' = w := by
  go_enter Try.func15, Try.ntmps15
  go_wp2
  go_loop [3, 4, 7] (fun _ _ i => ∃ k : Nat, k ≤ s.size ∧ i = .int .i64 k ∧ Hid (((s.data.toList.take k).all fun b => okN false b.toNat) = true)) (fun _ _ i => s.size - (intOf i).toNat)
  case atStart => exact ⟨0, Nat.zero_le _, rfl, Lib.hid rfl⟩
  case round =>
    obtain ⟨k, hle, rfl, HA⟩ := hrel
    by_cases hlt : k < s.size
    · obtain ⟨c, hc⟩ : ∃ c : Nat, c = s[k].toNat := ⟨_, rfl⟩
      rcases key_six c with ⟨hk, hh⟩ | ⟨hk, hh⟩ | ⟨hk, hh⟩ | ⟨hk, hh⟩ | ⟨hk, hh⟩ | ⟨hk, hh⟩
      · have g1 : decide ((97 : Int) ≤ (c : Int)) = true := by simp; try omega
        have g2 : decide ((c : Int) ≤ 122) = true := by simp; try omega
        have g3 : decide ((48 : Int) ≤ (c : Int)) = true := by simp; try omega
        have g4 : decide ((c : Int) ≤ 57) = false := by simp; try omega
        have g5 : ((c : Int) == 95) = false := by simp; try omega
        have hd : okN false s[k].toNat = true := by rw [← hc]; exact hk
        have HD := Lib.hid (show ((s.data.toList.take (k + 1)).all fun b => okN false b.toNat) = true by rw [allB_take false s k hlt, HA.out, hd]; rfl)
        rw [hc] at g1 g2 g3 g4 g5
        clear hc hh hd hk
        go_wp2
        go_round
        case rel => exact ⟨k + 1, by omega, by go_num, HD⟩
        case measure => simp [intOf]; omega
      · have g1 : decide ((97 : Int) ≤ (c : Int)) = false := by simp; try omega
        have g2 : decide ((c : Int) ≤ 122) = true := by simp; try omega
        have g3 : decide ((48 : Int) ≤ (c : Int)) = true := by simp; try omega
        have g4 : decide ((c : Int) ≤ 57) = true := by simp; try omega
        have g5 : ((c : Int) == 95) = false := by simp; try omega
        have hd : okN false s[k].toNat = true := by rw [← hc]; exact hk
        have HD := Lib.hid (show ((s.data.toList.take (k + 1)).all fun b => okN false b.toNat) = true by rw [allB_take false s k hlt, HA.out, hd]; rfl)
        rw [hc] at g1 g2 g3 g4 g5
        clear hc hh hd hk
        go_wp2
        go_round
        case rel => exact ⟨k + 1, by omega, by go_num, HD⟩
        case measure => simp [intOf]; omega
      · have g1 : decide ((97 : Int) ≤ (c : Int)) = false := by simp; try omega
        have g2 : decide ((c : Int) ≤ 122) = true := by simp; try omega
        have g3 : decide ((48 : Int) ≤ (c : Int)) = true := by simp; try omega
        have g4 : decide ((c : Int) ≤ 57) = false := by simp; try omega
        have g5 : ((c : Int) == 95) = true := by simp; try omega
        have hd : okN false s[k].toNat = true := by rw [← hc]; exact hk
        have HD := Lib.hid (show ((s.data.toList.take (k + 1)).all fun b => okN false b.toNat) = true by rw [allB_take false s k hlt, HA.out, hd]; rfl)
        rw [hc] at g1 g2 g3 g4 g5
        clear hc hh hd hk
        go_wp2
        go_round
        case rel => exact ⟨k + 1, by omega, by go_num, HD⟩
        case measure => simp [intOf]; omega
      · have g1 : decide ((97 : Int) ≤ (c : Int)) = false := by simp; try omega
        have g2 : decide ((c : Int) ≤ 122) = true := by simp; try omega
        have g3 : decide ((48 : Int) ≤ (c : Int)) = false := by simp; try omega
        have g4 : decide ((c : Int) ≤ 57) = true := by simp; try omega
        have g5 : ((c : Int) == 95) = false := by simp; try omega
        have hd : okN false s[k].toNat = false := by rw [← hc]; exact hk
        have HF := Lib.hid (show nameB s = false by simp only [nameB, allB_false hlt hd, Bool.and_false])
        rw [hc] at g1 g2 g3 g4 g5
        clear hc hh hd hk
        go_wp2
        go_ret
        exact ⟨by rw [HF.out]; rfl, rfl⟩
      · have g1 : decide ((97 : Int) ≤ (c : Int)) = false := by simp; try omega
        have g2 : decide ((c : Int) ≤ 122) = true := by simp; try omega
        have g3 : decide ((48 : Int) ≤ (c : Int)) = true := by simp; try omega
        have g4 : decide ((c : Int) ≤ 57) = false := by simp; try omega
        have g5 : ((c : Int) == 95) = false := by simp; try omega
        have hd : okN false s[k].toNat = false := by rw [← hc]; exact hk
        have HF := Lib.hid (show nameB s = false by simp only [nameB, allB_false hlt hd, Bool.and_false])
        rw [hc] at g1 g2 g3 g4 g5
        clear hc hh hd hk
        go_wp2
        go_ret
        exact ⟨by rw [HF.out]; rfl, rfl⟩
      · have g1 : decide ((97 : Int) ≤ (c : Int)) = true := by simp; try omega
        have g2 : decide ((c : Int) ≤ 122) = false := by simp; try omega
        have g3 : decide ((48 : Int) ≤ (c : Int)) = true := by simp; try omega
        have g4 : decide ((c : Int) ≤ 57) = false := by simp; try omega
        have g5 : ((c : Int) == 95) = false := by simp; try omega
        have hd : okN false s[k].toNat = false := by rw [← hc]; exact hk
        have HF := Lib.hid (show nameB s = false by simp only [nameB, allB_false hlt hd, Bool.and_false])
        rw [hc] at g1 g2 g3 g4 g5
        clear hc hh hd hk
        go_wp2
        go_ret
        exact ⟨by rw [HF.out]; rfl, rfl⟩
    · have hall : allB false s = true := by have := HA.out; rw [List.take_of_length_le (by simp; omega)] at this; exact this
      by_cases h1 : 1 ≤ s.size
      · by_cases h2 : s.size ≤ 32
        · have HF := Lib.hid (show nameB s = true by simp [nameB, h1, h2, hall])
          have g2 : decide ((s.size : Int) ≤ 32) = true := by simp; omega
          clear hall
          go_wp2
          go_ret
          exact ⟨by rw [HF.out]; rfl, rfl⟩
        · have HF := Lib.hid (show nameB s = false by simp [nameB, h2])
          have g2 : decide ((s.size : Int) ≤ 32) = false := by simp; omega
          clear hall
          go_wp2
          go_ret
          exact ⟨by rw [HF.out]; rfl, rfl⟩
      · have HF := Lib.hid (show nameB s = false by simp [nameB, h1])
        clear hall
        go_wp2
        go_ret
        exact ⟨by rw [HF.out]; rfl, rfl⟩
set_option maxRecDepth 100000 in
set_option maxHeartbeats 4000000 in
theorem rbValue_any (s : ByteArray) (hs : s.size ≤ 9223372036854775807) (w : World) : Calls Try.prog 17 #[.string s] w fun e w' => e = .returned (.bool (valueB s)) ∧ w' = w := by
  go_enter Try.func17, Try.ntmps17
  go_wp2
  go_loop [3, 6] (fun _ i => ∃ k : Nat, k ≤ s.size ∧ i = .int .i64 k ∧ Hid (((s.data.toList.take k).all fun b => okN true b.toNat) = true)) (fun _ i => s.size - (intOf i).toNat)
  case atStart => exact ⟨0, Nat.zero_le _, rfl, Lib.hid rfl⟩
  case round =>
    obtain ⟨k, hle, rfl, HA⟩ := hrel
    by_cases hlt : k < s.size
    · obtain ⟨c, hc⟩ : ∃ c : Nat, c = s[k].toNat := ⟨_, rfl⟩
      rcases val_five c with ⟨hk, hh⟩ | ⟨hk, hh⟩ | ⟨hk, hh⟩ | ⟨hk, hh⟩ | ⟨hk, hh⟩
      · have g1 : decide ((c : Int) < 32) = false := by simp; try omega
        have g2 : decide ((126 : Int) < (c : Int)) = false := by simp; try omega
        have g3 : ((c : Int) == 34) = false := by simp; try omega
        have g4 : ((c : Int) == 92) = false := by simp; try omega
        have hd : okN true s[k].toNat = true := by rw [← hc]; exact hk
        have HD := Lib.hid (show ((s.data.toList.take (k + 1)).all fun b => okN true b.toNat) = true by rw [allB_take true s k hlt, HA.out, hd]; rfl)
        rw [hc] at g1 g2 g3 g4
        clear hc hh hd hk
        go_wp2
        go_round
        case rel => exact ⟨k + 1, by omega, by go_num, HD⟩
        case measure => simp [intOf]; omega
      · have g1 : decide ((c : Int) < 32) = true := by simp; try omega
        have g2 : decide ((126 : Int) < (c : Int)) = false := by simp; try omega
        have g3 : ((c : Int) == 34) = false := by simp; try omega
        have g4 : ((c : Int) == 92) = false := by simp; try omega
        have hd : okN true s[k].toNat = false := by rw [← hc]; exact hk
        have HF := Lib.hid (show valueB s = false by simp only [valueB, allB_false hlt hd, Bool.and_false])
        rw [hc] at g1 g2 g3 g4
        clear hc hh hd hk
        go_wp2
        go_ret
        exact ⟨by rw [HF.out]; rfl, rfl⟩
      · have g1 : decide ((c : Int) < 32) = false := by simp; try omega
        have g2 : decide ((126 : Int) < (c : Int)) = true := by simp; try omega
        have g3 : ((c : Int) == 34) = false := by simp; try omega
        have g4 : ((c : Int) == 92) = false := by simp; try omega
        have hd : okN true s[k].toNat = false := by rw [← hc]; exact hk
        have HF := Lib.hid (show valueB s = false by simp only [valueB, allB_false hlt hd, Bool.and_false])
        rw [hc] at g1 g2 g3 g4
        clear hc hh hd hk
        go_wp2
        go_ret
        exact ⟨by rw [HF.out]; rfl, rfl⟩
      · have g1 : decide ((c : Int) < 32) = false := by simp; try omega
        have g2 : decide ((126 : Int) < (c : Int)) = false := by simp; try omega
        have g3 : ((c : Int) == 34) = true := by simp; try omega
        have g4 : ((c : Int) == 92) = false := by simp; try omega
        have hd : okN true s[k].toNat = false := by rw [← hc]; exact hk
        have HF := Lib.hid (show valueB s = false by simp only [valueB, allB_false hlt hd, Bool.and_false])
        rw [hc] at g1 g2 g3 g4
        clear hc hh hd hk
        go_wp2
        go_ret
        exact ⟨by rw [HF.out]; rfl, rfl⟩
      · have g1 : decide ((c : Int) < 32) = false := by simp; try omega
        have g2 : decide ((126 : Int) < (c : Int)) = false := by simp; try omega
        have g3 : ((c : Int) == 34) = false := by simp; try omega
        have g4 : ((c : Int) == 92) = true := by simp; try omega
        have hd : okN true s[k].toNat = false := by rw [← hc]; exact hk
        have HF := Lib.hid (show valueB s = false by simp only [valueB, allB_false hlt hd, Bool.and_false])
        rw [hc] at g1 g2 g3 g4
        clear hc hh hd hk
        go_wp2
        go_ret
        exact ⟨by rw [HF.out]; rfl, rfl⟩
    · have hall : allB true s = true := by have := HA.out; rw [List.take_of_length_le (by simp; omega)] at this; exact this
      have HF := Lib.hid (show valueB s = decide (s.size ≤ 40) by simp [valueB, hall])
      clear hall
      go_wp2
      go_ret
      exact ⟨by rw [HF.out]; simp; try omega, rfl⟩
end Go.Proofs.Ytoajaacdhkknfaa

