/- The arithmetic of a division of two words by one, digit by digit of 32 bits: no program is named here. -/
import Derived.Lib.BitFns
import Derived.WalkKit
namespace Go.Proofs.Kit

/-- A trial quotient is not too great just if its product with the low half fits what is left. -/
theorem trial_iff {p q u a Q R : Nat} (hu : u = Q * p + R) (hY : 0 < p * 4294967296 + q) :
    Q * q ≤ 4294967296 * R + a ↔ Q ≤ (u * 4294967296 + a) / (p * 4294967296 + q) := by
  rw [Nat.le_div_iff_mul_le hY, hu, Nat.mul_add, ← Nat.mul_assoc, Nat.add_mul]
  omega
theorem trial_first {p q u a : Nat} (ha : a < 4294967296) (hp : 0 < p) : (u * 4294967296 + a) / (p * 4294967296 + q) ≤ u / p := by
  rw [Nat.le_div_iff_mul_le hp]
  have h := Nat.div_mul_le_self (u * 4294967296 + a) (p * 4294967296 + q)
  generalize (u * 4294967296 + a) / (p * 4294967296 + q) = T at *
  rw [Nat.mul_add, ← Nat.mul_assoc] at h
  omega
theorem trial_lt {p q u a : Nat} (ha : a < 4294967296) (hu : u < p * 4294967296 + q) : (u * 4294967296 + a) / (p * 4294967296 + q) < 4294967296 := by
  rw [Nat.div_lt_iff_lt_mul (by omega)]
  omega
theorem trial_small {p q u : Nat} (hp : 2147483648 ≤ p) (hq : q < 4294967296) (hu : u < p * 4294967296 + q) : u / p ≤ 4294967297 := by
  have : u / p < 4294967298 := by
    rw [Nat.div_lt_iff_lt_mul (by omega)]; omega
  omega
theorem trial_break {q a Q R : Nat} (hq : q < 4294967296) (hQ : Q ≤ 4294967296) (hR : 4294967296 ≤ R) : Q * q ≤ 4294967296 * R + a := by
  have h1 : Q * q ≤ 4294967296 * 4294967295 := Nat.mul_le_mul hQ (by omega)
  omega
theorem trial_fits {q Q : Nat} (hq : q < 4294967296) (hQ : Q ≤ 4294967297) : Q * q < 18446744073709551616 := by
  have h1 : Q * q ≤ 4294967297 * 4294967295 := Nat.mul_le_mul hQ (by omega)
  omega

/-- What stands while a digit of the quotient is sought: u is the part that is divided, a the next digit, p and q the divisor's halves, T the digit that is sought; Q is tried, R is left. -/
structure Trial (p q u a T Q R : Nat) : Prop where
  split : u = Q * p + R
  up : T ≤ Q
  small : Q ≤ 4294967297
  isT : T = (u * 4294967296 + a) / (p * 4294967296 + q)
  lt : u < p * 4294967296 + q
  hp : 2147483648 ≤ p
  hp1 : p < 4294967296
  hq : q < 4294967296
  ha : a < 4294967296
theorem Trial.start {p q u a T : Nat} (hT : T = (u * 4294967296 + a) / (p * 4294967296 + q)) (lt : u < p * 4294967296 + q) (hp : 2147483648 ≤ p) (hp1 : p < 4294967296) (hq : q < 4294967296) (ha : a < 4294967296) : Trial p q u a T (u / p) (u % p) :=
  ⟨by rw [Nat.mul_comm]; exact (Nat.div_add_mod u p).symm, by rw [hT]; exact trial_first ha (by omega), trial_small hp hq lt, hT, lt, hp, hp1, hq, ha⟩
theorem Trial.ltB {p q u a T Q R : Nat} (h : Trial p q u a T Q R) : T < 4294967296 := by rw [h.isT]; exact trial_lt h.ha h.lt
theorem Trial.fits {p q u a T Q R : Nat} (h : Trial p q u a T Q R) : Q * q < 18446744073709551616 := trial_fits h.hq h.small
/-- It fits: it is the digit. -/
theorem Trial.done {p q u a T Q R : Nat} (h : Trial p q u a T Q R) (hM : Q * q ≤ 4294967296 * R + a) : Q = T := by
  have := (trial_iff h.split (by have := h.hp; omega)).1 hM
  rw [← h.isT] at this
  have := h.up
  omega
theorem Trial.great {p q u a T Q R : Nat} (h : Trial p q u a T Q R) (hM : 4294967296 ≤ Q ∨ 4294967296 * R + a < Q * q) : T < Q := by
  have hb := h.ltB
  have hu := h.up
  rcases hM with hM | hM
  · omega
  · have : ¬ Q ≤ T := fun hle => by
      rw [h.isT] at hle
      have := (trial_iff h.split (by have := h.hp; omega)).2 hle
      omega
    omega
/-- One less is tried. -/
theorem Trial.next {p q u a T Q R : Nat} (h : Trial p q u a T Q R) (hg : T < Q) : Trial p q u a T (Q - 1) (R + p) := by
  refine ⟨?_, by omega, by have := h.small; omega, h.isT, h.lt, h.hp, h.hp1, h.hq, h.ha⟩
  obtain ⟨k, rfl⟩ : ∃ k, Q = k + 1 := ⟨Q - 1, by omega⟩
  have := h.split
  rw [Nat.add_mul] at this
  simp only [Nat.add_sub_cancel]
  omega
/-- So much is left that it fits. -/
theorem Trial.stop {p q u a T Q R : Nat} (h : Trial p q u a T Q R) (hQ : Q ≤ 4294967296) (hR : 4294967296 ≤ R) : Q = T := h.done (trial_break h.hq hQ hR)

theorem wrapU (x : Int) : IntKind.u64.wrap x = x % 18446744073709551616 := by rw [IntKind.wrap_u64]

theorem wrapNat (x : Int) : ∃ n : Nat, (n : Int) = IntKind.u64.wrap x := ⟨(IntKind.u64.wrap x).toNat, by rw [wrapU]; omega⟩
theorem wrapSub {x1 x2 x3 u a t v : Nat} (h1 : (x1 : Int) = IntKind.u64.wrap ((u : Int) * 4294967296)) (h2 : (x2 : Int) = IntKind.u64.wrap ((x1 : Int) + (a : Int))) (h3 : (x3 : Int) = IntKind.u64.wrap (t : Int)) (hn : t + v = u * 4294967296 + a) (hv : v < 18446744073709551616) :
    IntKind.u64.wrap ((x2 : Int) - (x3 : Int)) = (v : Int) := by
  rw [wrapU] at *; omega

/-- How many bits: bounds. -/
theorem bitLen_bounds : ∀ (k x : Nat), x < 2 ^ k → k ≤ 64 → 0 < x → 2 ^ (Lib.bitLen x - 1) ≤ x ∧ x < 2 ^ Lib.bitLen x ∧ 1 ≤ Lib.bitLen x ∧ Lib.bitLen x ≤ k := by
  intro k
  induction k with
  | zero => intro x hx _ h0; omega
  | succ k ih =>
    intro x hx hk h0
    have hx64 : x < 2 ^ 64 := Nat.lt_of_lt_of_le hx (Nat.pow_le_pow_right (by omega) hk)
    have hb := Lib.bitLen_half x (by omega) hx64
    by_cases h1 : x = 1
    · subst h1
      have : Lib.bitLen 1 = 1 := by decide
      rw [this]; simp
    · have hh : x / 2 < 2 ^ k := by rw [Nat.pow_succ] at hx; omega
      obtain ⟨i1, i2, i3, i4⟩ := ih (x / 2) hh (by omega) (by omega)
      rw [hb]
      have e : 1 + Lib.bitLen (x / 2) - 1 = (Lib.bitLen (x / 2) - 1) + 1 := by omega
      rw [e, Nat.pow_succ, Nat.add_comm 1, Nat.pow_succ]
      refine ⟨by omega, by omega, by omega, by omega⟩
end Go.Proofs.Kit
