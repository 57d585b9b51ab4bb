import Derived.Test.YtfknocgmobddmaaD1
import Derived.Laws.Bits64b
import Derived.Shelf.Bits.Mul64
namespace Go.Proofs.Ytfknocgmobddmaa
open Go.RowKit Go.Proofs.Kit

theorem div_final {N y S Y u L a b T v T0 r : Nat} (hS : 0 < S) (hY : Y = y * S) (hN : N * S = u * 18446744073709551616 + L) (hL : L = a * 4294967296 + b)
    (h1 : Y * T + v = u * 4294967296 + a) (h2 : Y * T0 + r = v * 4294967296 + b) (hr : r < Y) : T * 4294967296 + T0 = N / y ∧ r / S = N % y := by
  have hy : 0 < y := by rcases Nat.eq_zero_or_pos y with h | h; (subst h; simp at hY; omega); exact h
  have e : Y * (T * 4294967296 + T0) + r = N * S := by
    rw [Nat.mul_add, ← Nat.mul_assoc]; omega
  have hd : S ∣ r := by
    have h3 : S ∣ Y * (T * 4294967296 + T0) := ⟨y * (T * 4294967296 + T0), by rw [hY, Nat.mul_comm y S, Nat.mul_assoc]⟩
    have h4 : S ∣ Y * (T * 4294967296 + T0) + r := ⟨N, by rw [e, Nat.mul_comm]⟩
    exact (Nat.dvd_add_right h3).1 h4
  obtain ⟨k, rfl⟩ := hd
  have hk : S * k / S = k := Nat.mul_div_cancel_left k hS
  have hlt : k < y := by
    rw [hY, Nat.mul_comm y S] at hr
    exact Nat.lt_of_mul_lt_mul_left hr
  have e2 : N = y * (T * 4294967296 + T0) + k := by
    have : S * N = S * (y * (T * 4294967296 + T0) + k) := by
      rw [Nat.mul_comm S N, ← e, hY, Nat.mul_comm y S, Nat.mul_assoc, ← Nat.mul_add]
    exact Nat.eq_of_mul_eq_mul_left hS this
  rw [hk]
  refine ⟨?_, ?_⟩
  · rw [e2, Nat.mul_add_div hy, Nat.div_eq_of_lt hlt, Nat.add_zero]
  · rw [e2, Nat.mul_add_mod, Nat.mod_eq_of_lt hlt]

theorem div64_nat (hi lo y : Nat) (hlt : hi < y) (hlo : lo < 18446744073709551616) (hy : y < 18446744073709551616) (w : World) :
    Calls Try.prog 58 #[.int .u64 hi, .int .u64 lo, .int .u64 y] w fun e w' => e = .returned (.tuple #[.int .u64 (((hi * 18446744073709551616 + lo) / y : Nat) : Int), .int .u64 (((hi * 18446744073709551616 + lo) % y : Nat) : Int)]) ∧ ∃ n, w' = w.drewN n := by
  rcases Nat.eq_zero_or_pos hi with h0 | hhi
  · subst h0
    refine (div64_low lo y hlo hy hlt w).mono ?_
    rintro e w' ⟨rfl, h⟩
    refine ⟨?_, h⟩
    simp
  · obtain ⟨b1, b2, b3, b4⟩ := bitLen_bounds 64 y hy (Nat.le_refl _) (by omega)
    obtain ⟨s, hs⟩ : ∃ s, s = 64 - Lib.bitLen y := ⟨_, rfl⟩
    have hsl : s < 64 := by omega
    have e64 : 18446744073709551616 = 2 ^ (64 - s) * 2 ^ s := by rw [← Nat.pow_add, show 64 - s + s = 64 by omega]
    have e63 : 9223372036854775808 = 2 ^ (Lib.bitLen y - 1) * 2 ^ s := by rw [← Nat.pow_add, show Lib.bitLen y - 1 + s = 63 by omega]
    have hS : 0 < 2 ^ s := Nat.two_pow_pos s
    have y1 : y * 2 ^ s < 18446744073709551616 := by
      rw [e64]; exact Nat.mul_lt_mul_of_pos_right (by rw [show 64 - s = Lib.bitLen y by omega]; exact b2) hS
    have y2 : 9223372036854775808 ≤ y * 2 ^ s := by rw [e63]; exact Nat.mul_le_mul_right _ b1
    have hi1 : (hi + 1) * 2 ^ s ≤ y * 2 ^ s := Nat.mul_le_mul_right _ hlt
    have hd : lo / 2 ^ (64 - s) < 2 ^ s := by
      rw [Nat.div_lt_iff_lt_mul (Nat.two_pow_pos _), Nat.mul_comm, ← e64]; exact hlo
    have hLd : lo * 2 ^ s / 18446744073709551616 = lo / 2 ^ (64 - s) := by rw [e64, Nat.mul_div_mul_right _ _ hS]
    have hLm := Nat.div_add_mod (lo * 2 ^ s) 18446744073709551616
    rw [hLd] at hLm
    have hLlt : lo * 2 ^ s % 18446744073709551616 < 18446744073709551616 := Nat.mod_lt _ (by decide)
    obtain ⟨Y, hYe⟩ : ∃ Y, Y = y * 2 ^ s := ⟨_, rfl⟩
    obtain ⟨D, hD⟩ : ∃ D, D = lo / 2 ^ (64 - s) := ⟨_, rfl⟩
    obtain ⟨L, hL⟩ : ∃ L, L = lo * 2 ^ s % 18446744073709551616 := ⟨_, rfl⟩
    obtain ⟨H, hH⟩ : ∃ H, H = hi * 2 ^ s := ⟨_, rfl⟩
    rw [← hYe] at y1 y2 hi1
    rw [Nat.add_mul, Nat.one_mul, ← hH] at hi1
    rw [← hD] at hd hLm hLd
    rw [← hL] at hLm hLlt
    have hor : H ||| D = H + D := by
      have := Nat.two_pow_add_eq_or_of_lt hd hi
      rw [Nat.mul_comm, ← hH] at this
      exact this.symm
    have eY : IntKind.u64.wrap ((y : Int) * 2 ^ s) = (Y : Int) := by
      rw [show ((y : Int) * 2 ^ s) = (Y : Int) by rw [hYe]; simp, wrapU]; omega
    have eH : IntKind.u64.wrap ((hi : Int) * 2 ^ s) = (H : Int) := by
      rw [show ((hi : Int) * 2 ^ s) = (H : Int) by rw [hH]; simp, wrapU]; omega
    have eD : (lo : Int) / 2 ^ (64 - s) = (D : Int) := by rw [hD]; simp
    have eL : IntKind.u64.wrap ((lo : Int) * 2 ^ s) = (L : Int) := by
      rw [show ((lo : Int) * 2 ^ s) = ((lo * 2 ^ s : Nat) : Int) by simp, wrapU, hL]; simp
    have eU : bits .or .u64 (IntKind.u64.wrap ((hi : Int) * 2 ^ s)) ((lo : Int) / 2 ^ (64 - s)) = ((H + D : Nat) : Int) := by
      rw [eH, eD, bits_or_u64_nat H D (by omega) (by omega), hor]
    have hYs := Nat.div_add_mod Y 4294967296
    have hLs := Nat.div_add_mod L 4294967296
    have fin := div_final (N := hi * 18446744073709551616 + lo) (y := y) (S := 2 ^ s) (Y := Y) (u := H + D) (L := L) (a := L / 4294967296) (b := L % 4294967296) hS hYe
      (by rw [Nat.add_mul, Nat.mul_assoc, Nat.mul_comm 18446744073709551616, ← Nat.mul_assoc, ← hH]; omega) (by omega)
      (Nat.div_add_mod _ Y) (Nat.div_add_mod _ Y) (Nat.mod_lt _ (by omega))
    refine (div64_walk hi lo y s Y (Y / 4294967296) (Y % 4294967296) (H + D) L (L / 4294967296) (L % 4294967296) _ _ _ _ hhi hlt hlo hy hsl hs.symm b4 eY (by omega) (Mul64.maskN Y y1) eU eL (by omega) (Mul64.maskN L hLlt)
      (by omega) (by omega) (by omega) (by omega) (by omega) (by omega) (by omega) rfl rfl rfl rfl w).mono ?_
    rintro e w' ⟨rfl, rfl⟩
    refine ⟨?_, 0, rfl⟩
    rw [← fin.1, ← fin.2]
    simp
end Go.Proofs.Ytfknocgmobddmaa
