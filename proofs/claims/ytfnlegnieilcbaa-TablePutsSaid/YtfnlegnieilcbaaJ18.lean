/- The reference's Hash and Find. -/
import Derived.Test.YtfnlegnieilcbaaJ14
namespace Go.Proofs.Kit
theorem xor_low (h b : Nat) (hb : b < 256) : h ^^^ b = h - h % 256 + (h % 256 ^^^ b) := by
  have h1 : (h ^^^ b) / 2 ^ 8 = h / 2 ^ 8 := by
    rw [Nat.xor_div_two_pow, show b / 2 ^ 8 = 0 by omega, Nat.xor_zero]
  have h2 : (h ^^^ b) % 2 ^ 8 = (h % 2 ^ 8) ^^^ b := by
    rw [Nat.xor_mod_two_pow, show b % 2 ^ 8 = b by omega]
  have h3 := Nat.div_add_mod (h ^^^ b) (2 ^ 8)
  rw [h1, h2] at h3
  have h4 := Nat.div_add_mod h (2 ^ 8)
  simp only [show (2 : Nat) ^ 8 = 256 from rfl] at h3 h4
  omega
/-- One bit more. -/
theorem xor_bit (x y i : Nat) : (x ^^^ y) % 2 ^ (i + 1) = (x ^^^ y) % 2 ^ i + (if x / 2 ^ i % 2 = y / 2 ^ i % 2 then 0 else 2 ^ i) := by
  rw [Nat.mod_pow_succ]
  have e : (x ^^^ y) / 2 ^ i % 2 = if x / 2 ^ i % 2 = y / 2 ^ i % 2 then 0 else 1 := by
    have h := Nat.testBit_xor x y i
    rw [Nat.testBit_eq_decide_div_mod_eq, Nat.testBit_eq_decide_div_mod_eq, Nat.testBit_eq_decide_div_mod_eq] at h
    rcases Nat.mod_two_eq_zero_or_one (x / 2 ^ i) with a | a <;> rcases Nat.mod_two_eq_zero_or_one (y / 2 ^ i) with b | b <;> rcases Nat.mod_two_eq_zero_or_one ((x ^^^ y) / 2 ^ i) with c | c <;> simp [a, b, c] at h ⊢
  rw [e]
  split <;> simp
theorem pow8 {i : Nat} (hi : i < 8) : 2 ^ i = 1 ∨ 2 ^ i = 2 ∨ 2 ^ i = 4 ∨ 2 ^ i = 8 ∨ 2 ^ i = 16 ∨ 2 ^ i = 32 ∨ 2 ^ i = 64 ∨ 2 ^ i = 128 := by
  have : i = 0 ∨ i = 1 ∨ i = 2 ∨ i = 3 ∨ i = 4 ∨ i = 5 ∨ i = 6 ∨ i = 7 := by omega
  rcases this with rfl | rfl | rfl | rfl | rfl | rfl | rfl | rfl <;> simp
/-- What the reference's sum of bits comes to. -/
theorem hstep_ref (h : Nat) (b : UInt8) (hh : h < 18446744073709551616) : IntKind.u64.wrap (((h : Int) - ((h % 256 : Nat) : Int) + ((h % 256 ^^^ b.toNat : Nat) : Int)) * 1099511628211) = ((hstep h b : Nat) : Int) := by
  have hb := b.toNat_lt
  have e : (h : Int) - ((h % 256 : Nat) : Int) + ((h % 256 ^^^ b.toNat : Nat) : Int) = ((h ^^^ b.toNat : Nat) : Int) := by
    rw [xor_low h b.toNat (by omega)]
    omega
  rw [e, IntKind.wrap_u64]
  unfold hstep
  generalize h ^^^ b.toNat = x
  rw [Int.natCast_emod, Int.natCast_mul]
  simp
end Go.Proofs.Kit
namespace Go.Proofs.Ytfnlegnieilcbaa
open Go.RowKit Go.Proofs.Kit Go.Shelf

set_option maxHeartbeats 4000000 in
theorem rhash_any (s : ByteArray) (hs : s.size ≤ 9223372036854775807) (w : World) :
    Calls Try.prog 17 #[.string s] w fun e w' => e = .returned (.int .u64 (hsh s : Nat)) ∧ Dr w w' := by
  go_enter Try.func17, Try.ntmps17
  go_wp2
  go_loopw [3, 4, 5, 6, 7, 10] (fun h _ _ _ _ i wr => ∃ k : Nat, k ≤ s.size ∧ i = .int .i64 k ∧ h = .int .u64 (((s.data.toList.take k).foldl hstep hb0 : Nat) : Int) ∧ Dr w wr) (fun _ _ _ _ _ i _ => s.size - (intOf i).toNat)
  case atStart => exact ⟨0, Nat.zero_le _, rfl, by rw [hb0_cast]; simp, Dr.refl _⟩
  case round =>
    obtain ⟨k, hk, rfl, rfl, hB⟩ := hrel
    by_cases hlt : k < s.size
    · have hst : (s.data.toList.take (k + 1)).foldl hstep hb0 = hstep ((s.data.toList.take k).foldl hstep hb0) s[k] := by rw [take_byte s k hlt, List.foldl_append, List.foldl_cons, List.foldl_nil]
      have hh := hfold_lt (s.data.toList.take k)
      obtain ⟨h, hh'⟩ : ∃ h, h = (s.data.toList.take k).foldl hstep hb0 := ⟨_, rfl⟩
      rw [← hh'] at hst hh ⊢
      clear hh'
      have HST := Lib.hid hst; clear hst
      have hlow : (h : Int) % 256 = ((h % 256 : Nat) : Int) := by omega
      obtain ⟨low, hl⟩ : ∃ low, low = h % 256 := ⟨_, rfl⟩
      have hl256 : low < 256 := by omega
      rw [← hl] at hlow
      have HL := Lib.hid hl
      have HH := Lib.hid hh
      clear hl hh
      go_wp2
      go_loopw [6, 7, 15] (fun t b i wr => ∃ j : Nat, j ≤ 8 ∧ i = .int .i64 j ∧ t = .int .u64 (((low ^^^ s[k].toNat) % 2 ^ j : Nat) : Int) ∧ b = .int .u64 ((2 ^ j : Nat) : Int) ∧ Dr w wr) (fun _ _ i _ => 8 - (intOf i).toNat)
      case atStart => exact ⟨0, by omega, rfl, by simp, by simp, hB⟩
      case round =>
        clear hB
        obtain ⟨j, hj, rfl, rfl, rfl, hB⟩ := hrel
        by_cases hj8 : j < 8
        · have hbl := s[k].toNat_lt
          have hcvB : IntKind.u64.wrap (s[k].toNat : Int) = (s[k].toNat : Int) := by rw [IntKind.wrap_u64]; omega
          have hp8 := pow8 hj8
          have hxb := xor_bit low s[k].toNat j
          obtain ⟨P, hP⟩ : ∃ P, P = 2 ^ j := ⟨_, rfl⟩
          rw [← hP] at hp8 hxb ⊢
          have hPz : ((P : Int) == 0) = false := by rw [beq_eq_false_iff_ne]; omega
          have HXB := Lib.hid hxb
          have HPP := Lib.hid hP
          clear hxb hP
          have tm : ∀ a : Nat, a < 256 → (IntKind.u64.wrap ((a : Int) / (P : Int))).tmod 2 = ((a / P % 2 : Nat) : Int) := fun a ha => by
            have e : (a : Int) / (P : Int) = ((a / P : Nat) : Int) := by simp
            have hle : a / P ≤ a := Nat.div_le_self a P
            rw [e, IntKind.wrap_u64, Int.tmod_eq_emod_of_nonneg (by omega)]
            omega
          have t1 := tm low hl256
          have t2 := tm s[k].toNat hbl
          obtain ⟨x, hx⟩ : ∃ x, x = low / P % 2 := ⟨_, rfl⟩
          obtain ⟨y, hy⟩ : ∃ y, y = s[k].toNat / P % 2 := ⟨_, rfl⟩
          rw [← hx] at t1 HXB
          rw [← hy] at t2 HXB
          have T1 := Lib.hid t1
          have T2 := Lib.hid t2
          obtain ⟨u, hu⟩ : ∃ u, u = (low ^^^ s[k].toNat) % P := ⟨_, rfl⟩
          have hu256 : u < P := by rw [hu]; exact Nat.mod_lt _ (by omega)
          rw [← hu] at HXB ⊢
          clear tm t1 t2 hx hy hu
          have hP2 : 2 * P = 2 ^ (j + 1) := by rw [HPP.out, Nat.pow_succ]; omega
          have HP2 := Lib.hid hP2
          clear hP2
          go_wp2
          go_quiet (fail)
          rw [T1.out, T2.out]
          by_cases hxy : x = y
          · have hxy' : ((x : Int) != (y : Int)) = false := by simp; omega
            rw [if_pos hxy, Nat.add_zero] at HXB
            clear hxy
            go_wp2
            go_roundw
            case rel => exact ⟨j + 1, by omega, by go_num, by rw [HXB.out]; simp, by rw [← HP2.out]; exact congrArg _ (by omega : (2 * (P : Int)) = ((2 * P : Nat) : Int)), hB.trans (Dr.drewN _ _)⟩
            case measure => simp [intOf]; omega
          · have hxy' : ((x : Int) != (y : Int)) = true := by simp; omega
            rw [if_neg hxy] at HXB
            clear hxy
            go_wp2
            go_roundw
            case rel => exact ⟨j + 1, by omega, by go_num, by rw [HXB.out]; exact congrArg _ (by omega : (u : Int) + (P : Int) = ((u + P : Nat) : Int)), by rw [← HP2.out]; exact congrArg _ (by omega : (2 * (P : Int)) = ((2 * P : Nat) : Int)), hB.trans (Dr.drewN _ _)⟩
            case measure => simp [intOf]; omega
        · obtain rfl : j = 8 := by omega
          have hx8 : (low ^^^ s[k].toNat) % 2 ^ 8 = low ^^^ s[k].toNat := Nat.mod_eq_of_lt (Nat.xor_lt_two_pow (by omega) (by have := s[k].toNat_lt; omega))
          rw [hx8]
          have hst := hstep_ref h s[k] HH.out
          rw [← HL.out] at hst
          have HR := Lib.hid hst
          have hxh : (h : Int) - (low : Int) + ((low ^^^ s[k].toNat : Nat) : Int) = ((h ^^^ s[k].toNat : Nat) : Int) := by
            rw [xor_low h s[k].toNat (by have := s[k].toNat_lt; omega), ← HL.out]
            have := HL.out
            omega
          have hxl : h ^^^ s[k].toNat < 18446744073709551616 := Nat.xor_lt_two_pow (n := 64) (by have := HH.out; omega) (by have := s[k].toNat_lt; omega)
          have w3 : IntKind.u64.wrap ((h : Int) - (low : Int)) = (h : Int) - (low : Int) := by rw [IntKind.wrap_u64]; have := HL.out; have := HH.out; omega
          have w4 : IntKind.u64.wrap ((h : Int) - (low : Int) + ((low ^^^ s[k].toNat : Nat) : Int)) = (h : Int) - (low : Int) + ((low ^^^ s[k].toNat : Nat) : Int) := by rw [hxh, IntKind.wrap_u64]; omega
          have W3 := Lib.hid w3
          have W4 := Lib.hid w4
          clear hst hx8 hxh hxl w3 w4
          go_wp2
          go_roundw
          case rel => exact ⟨k + 1, by omega, by go_num, by rw [W3.out, W4.out, HR.out, HST.out], hB⟩
          case measure => simp [intOf]; omega
    · go_wp2
      go_ret
      rw [List.take_of_length_le (by simp; omega)]
      exact ⟨rfl, hB⟩
end Go.Proofs.Ytfnlegnieilcbaa
