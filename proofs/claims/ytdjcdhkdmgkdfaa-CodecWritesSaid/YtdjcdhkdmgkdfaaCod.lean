/- Numbers, rows and frames as bytes, and how they are read: plain lists of integers; no program is named here. -/
import Derived.WalkKit
namespace Go.Proofs.Kit

/-- Bytes. -/
def Byt (l : List Int) : Prop := ∀ x ∈ l, 0 ≤ x ∧ x < 256
/-- A number's bytes. -/
def sept (n : Nat) : List Int := if n < 128 then [(n : Int)] else ((n % 128 + 128 : Nat) : Int) :: sept (n / 128)
termination_by n
decreasing_by omega
theorem sept_last {n : Nat} (h : n < 128) : sept n = [(n : Int)] := by rw [sept, if_pos h]
theorem sept_more {n : Nat} (h : 128 ≤ n) : sept n = ((n % 128 + 128 : Nat) : Int) :: sept (n / 128) := by rw [sept, if_neg (by omega)]
theorem sept_byt (n : Nat) : Byt (sept n) := by
  induction n using Nat.strongRecOn with
  | ind n ih =>
    by_cases h : n < 128
    · rw [sept_last h]; intro x hx; simp at hx; omega
    · rw [sept_more (by omega)]; intro x hx
      rcases List.mem_cons.1 hx with rfl | hx
      · omega
      · exact ih (n / 128) (by omega) x hx
theorem sept_pos (n : Nat) : 1 ≤ (sept n).length := by rw [sept]; split <;> simp
theorem sept_le : ∀ (k n : Nat), n < 2 ^ (7 * (k + 1)) → (sept n).length ≤ k + 1
  | 0, n, h => by rw [sept_last (by simpa using h)]; simp
  | k + 1, n, h => by
    by_cases h0 : n < 128
    · rw [sept_last h0]; simp
    · rw [sept_more (by omega)]
      have := sept_le k (n / 128) (by rw [show 7 * (k + 1 + 1) = 7 * (k + 1) + 7 by omega, Nat.pow_add] at h; omega)
      simp; omega
theorem sept_ten {n : Nat} (h : n < 18446744073709551616) : (sept n).length ≤ 10 := sept_le 9 n (Nat.lt_trans h (by decide))
theorem sept_mono {a b : Nat} (h : a ≤ b) : (sept a).length ≤ (sept b).length := by
  induction b using Nat.strongRecOn generalizing a with
  | ind b ih =>
    by_cases ha : a < 128
    · rw [sept_last ha]; exact sept_pos b
    · rw [sept_more (by omega), sept_more (n := b) (by omega)]
      have := ih (b / 128) (by omega) (a := a / 128) (by omega)
      simp; omega

/-- To read a number: m bytes of it are read, and come to acc. -/
def rdNum : Nat → Int → List Int → Except Int (Int × Nat)
  | _, _, [] => .error 120
  | m, acc, x :: t =>
    if x < 128 then (if (1 ≤ m ∧ x = 0) ∨ (m = 9 ∧ 1 < x) then .error 121 else .ok (acc + x * 2 ^ (7 * m), m + 1))
    else if m = 9 then .error 121 else rdNum (m + 1) (acc + (x - 128) * 2 ^ (7 * m)) t
/-- The number that stands at a place of bytes, and the place behind it. -/
def rdN (bs : List Int) (a : Nat) : Except Int (Int × Nat) := (rdNum 0 0 (bs.drop a)).map fun p => (p.1, a + p.2)

theorem pow7 (m : Nat) : (2 : Int) ^ (7 * (m + 1)) = 128 * 2 ^ (7 * m) := by rw [show 7 * (m + 1) = 7 * m + 7 by omega, Int.pow_add]; omega
theorem pow7_pos (m : Nat) : (0 : Int) < 2 ^ (7 * m) := Int.pow_pos (by decide)

theorem rdNum_sept (n : Nat) : ∀ (m : Nat) (acc : Int) (post : List Int), m ≤ 9 → (1 ≤ m → 1 ≤ n) → n < 2 ^ (64 - 7 * m) →
    rdNum m acc (sept n ++ post) = .ok (acc + n * 2 ^ (7 * m), m + (sept n).length) := by
  induction n using Nat.strongRecOn with
  | ind n ih =>
    intro m acc post hm h1 hn
    by_cases h : n < 128
    · rw [sept_last h]
      simp only [List.singleton_append, rdNum]
      rw [if_pos (by omega), if_neg]
      · rfl
      · rintro (⟨a, b⟩ | ⟨a, b⟩)
        · have := h1 a; omega
        · subst a; simp at hn; omega
    · rw [sept_more (by omega)]
      simp only [List.cons_append, rdNum]
      have hm9 : m ≠ 9 := by rintro rfl; simp at hn; omega
      rw [if_neg (by omega), if_neg hm9]
      have hle : n / 128 < 2 ^ (64 - 7 * (m + 1)) := by
        have e : 64 - 7 * m = (64 - 7 * (m + 1)) + 7 := by omega
        rw [e, Nat.pow_add] at hn
        omega
      rw [ih (n / 128) (by omega) (m + 1) _ post (by omega) (by omega) hle]
      have hp := pow7 m
      have hd : (n : Int) = 128 * ((n / 128 : Nat) : Int) + ((n % 128 : Nat) : Int) := by omega
      congr 2
      · rw [hp]
        have e2 : (((n % 128 + 128 : Nat) : Int) - 128) = ((n % 128 : Nat) : Int) := by omega
        rw [e2]
        generalize ((n / 128 : Nat) : Int) = q at *
        generalize ((n % 128 : Nat) : Int) = s at *
        rw [hd, Int.add_mul, Int.add_assoc, Int.mul_assoc 128 q, Int.mul_left_comm 128 q, Int.add_comm (s * _)]
      · simp; omega

theorem rdN_sept (n : Nat) (h : n < 18446744073709551616) (pre post : List Int) : rdN (pre ++ (sept n ++ post)) pre.length = .ok ((n : Int), pre.length + (sept n).length) := by
  unfold rdN
  rw [List.drop_left, rdNum_sept n 0 0 post (by omega) (by omega) (by simpa using h)]
  simp [Except.map]

theorem rdNum_back : ∀ (l : List Int) (m : Nat) (acc : Int) (n : Int) (k : Nat), Byt l → m ≤ 9 → rdNum m acc l = .ok (n, k) →
    ∃ q : Nat, n = acc + q * 2 ^ (7 * m) ∧ (1 ≤ m → 1 ≤ q) ∧ q < 2 ^ (64 - 7 * m) ∧ m < k ∧ k - m ≤ l.length ∧ sept q = l.take (k - m)
  | [], m, acc, n, k, _, _, h => by simp [rdNum] at h
  | x :: t, m, acc, n, k, hb, hm, h => by
    have hx := hb x (by simp)
    simp only [rdNum] at h
    by_cases h1 : x < 128
    · rw [if_pos h1] at h
      by_cases h2 : (1 ≤ m ∧ x = 0) ∨ (m = 9 ∧ 1 < x)
      · rw [if_pos h2] at h; cases h
      · rw [if_neg h2] at h
        injection h with h; injection h with ha hk
        subst hk
        refine ⟨x.toNat, by rw [← ha]; congr 2; omega, by omega, ?_, by omega, by simp, ?_⟩
        · by_cases hm9 : m = 9
          · subst hm9; simp; omega
          · have e1 : 2 ^ 7 ≤ 2 ^ (64 - 7 * m) := Nat.pow_le_pow_right (by decide) (by omega)
            omega
        · rw [sept_last (by omega)]
          simp only [Nat.add_sub_cancel_left, List.take_succ_cons, List.take_zero]
          congr 1; omega
    · rw [if_neg h1] at h
      by_cases h2 : m = 9
      · rw [if_pos h2] at h; cases h
      · rw [if_neg h2] at h
        obtain ⟨q, e1, e2, e3, e4, e5, e6⟩ := rdNum_back t (m + 1) _ n k (fun y hy => hb y (by simp [hy])) (by omega) h
        have hq := e2 (by omega)
        have hnd : ((x - 128).toNat + 128 * q) / 128 = q := by omega
        have hnm : ((x - 128).toNat + 128 * q) % 128 = (x - 128).toNat := by omega
        refine ⟨(x - 128).toNat + 128 * q, ?_, by omega, ?_, by omega, by simp; omega, ?_⟩
        · rw [e1, pow7]
          have : (((x - 128).toNat + 128 * q : Nat) : Int) = (x - 128) + 128 * (q : Int) := by omega
          rw [this, Int.add_mul, Int.add_assoc, Int.mul_assoc 128 (q : Int), Int.mul_left_comm 128 (q : Int)]
        · rw [show 64 - 7 * m = (64 - 7 * (m + 1)) + 7 by omega, Nat.pow_add]; omega
        · rw [sept_more (by omega), hnd, hnm, e6, show k - m = (k - (m + 1)) + 1 by omega, List.take_succ_cons]
          congr 1; omega

theorem rdN_back {bs : List Int} {a : Nat} {n : Int} {p : Nat} (hb : Byt bs) (h : rdN bs a = .ok (n, p)) :
    ∃ q : Nat, n = q ∧ q < 18446744073709551616 ∧ a < p ∧ p ≤ bs.length ∧ sept q = (bs.drop a).take (p - a) := by
  unfold rdN at h
  cases hr : rdNum 0 0 (bs.drop a) with
  | error c => rw [hr] at h; cases h
  | ok y =>
    rw [hr] at h
    simp only [Except.map] at h
    injection h with h; injection h with ha hp
    obtain ⟨n', k⟩ := y
    obtain ⟨q, e1, _, e3, e4, e5, e6⟩ := rdNum_back (bs.drop a) 0 0 n' k (fun y hy => hb y (List.mem_of_mem_drop hy)) (by omega) hr
    simp only at ha hp
    simp at e1 e3 e5
    refine ⟨q, by omega, by omega, by omega, by omega, ?_⟩
    rw [e6]; congr 1; omega

/-- No number's bytes are how another one's begin. -/
theorem sept_apart {a b : Nat} (h : (sept b).take (sept a).length = sept a) : a = b := by
  induction a using Nat.strongRecOn generalizing b with
  | ind a ih =>
    by_cases ha : a < 128
    · rw [sept_last ha] at h
      by_cases hb : b < 128
      · rw [sept_last hb] at h; simp at h; omega
      · rw [sept_more (n := b) (by omega)] at h; simp at h; omega
    · rw [sept_more (n := a) (by omega)] at h
      by_cases hb : b < 128
      · rw [sept_last hb] at h; simp at h; omega
      · rw [sept_more (n := b) (by omega)] at h
        simp only [List.length_cons, List.take_succ_cons, List.cons.injEq] at h
        have := ih (a / 128) (by omega) (b := b / 128) h.2
        omega

/-- The sum of bytes. -/
def sumB (l : List Int) : Int := l.foldl (fun s x => (31 * s + x + 1) % 4294967296) 1
end Go.Proofs.Kit
