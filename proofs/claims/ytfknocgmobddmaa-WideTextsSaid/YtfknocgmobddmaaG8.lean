/- The reference's Power. -/
import Derived.Test.YtfknocgmobddmaaG7
import Derived.Test.YtfknocgmobddmaaT9
namespace Go.Proofs.Ytfknocgmobddmaa
open Go.RowKit Go.Proofs.Kit

theorem pow_more {A : Int} (h : 1 ≤ A) {i n : Nat} (hi : i ≤ n) : A ^ i ≤ A ^ n := by
  rw [show n = i + (n - i) by omega, Int.pow_add]
  exact mul_ge (by have := pow_ge1 h i; omega) (pow_ge1 h _)
theorem pow_two_le {A : Int} (h : 2 ≤ A) : ∀ n : Nat, (2 : Int) ^ n ≤ A ^ n
  | 0 => by simp
  | n + 1 => by
    rw [Int.pow_succ, Int.pow_succ]
    have := pow_two_le h n
    have h2 : (0 : Int) ≤ 2 ^ n := by have := pow_ge1 (A := 2) (by decide) n; omega
    exact Int.mul_le_mul this h (by decide) (by omega)
/-- What Power's loop ends with. -/
def PowOf (A : Int) (n : Nat) (X : Int) : Prop := 0 ≤ X ∧ (A ^ n < Big → X = A ^ n) ∧ (¬ A ^ n < Big → Big ≤ X)
theorem powOf_all (A : Int) (n : Nat) (h : 0 ≤ A) : PowOf A n (A ^ n) := ⟨Int.pow_nonneg h, fun _ => rfl, fun h => by omega⟩
theorem powOf_big {A : Int} {n i : Nat} (h : 0 ≤ A) (hi : i ≤ n) (hb : Big ≤ A ^ i) : PowOf A n (A ^ i) := by
  have hA : 1 ≤ A := by
    apply Classical.byContradiction
    intro hc
    obtain rfl : A = 0 := by omega
    have : (0 : Int) ^ i ≤ 1 := by cases i with | zero => simp | succ k => rw [Int.pow_succ]; simp
    unfold Big at hb; omega
  have := pow_more hA hi
  exact ⟨Int.pow_nonneg h, fun h => by omega, fun _ => hb⟩
theorem powOf_200 {A : Int} {n : Nat} (h : 0 ≤ A) (hn : 200 ≤ n) (hb : A ^ 200 < Big) : PowOf A n (A ^ 200) := by
  by_cases h0 : A = 0
  · subst h0
    have e : (0 : Int) ^ n = 0 := by rw [show n = (n - 1) + 1 by omega, Int.pow_succ]; simp
    have e2 : (0 : Int) ^ 200 = 0 := by decide
    rw [e2]
    exact ⟨by decide, fun _ => e.symm, fun h => absurd (by rw [e]; decide) h⟩
  · by_cases h1 : A = 1
    · subst h1
      have e : (1 : Int) ^ n = 1 := Int.one_pow
      have e2 : (1 : Int) ^ 200 = 1 := Int.one_pow
      rw [e2]
      exact ⟨by decide, fun _ => e.symm, fun h => absurd (by rw [e]; decide) h⟩
    · have := pow_two_le (A := A) (by omega) 200
      exfalso
      have h2 : Big ≤ (2 : Int) ^ 200 := by decide
      omega

set_option maxRecDepth 100000 in
set_option maxHeartbeats 4000000 in
theorem rpower_any (v : Value) (l : List Int) (n : Nat) (w : World) (s : Seg .u64 w v l) (d : Dig l) (hl : l.length ≤ 8) (hn : n < 9223372036854775808) :
    Calls Try.prog 23 #[v, .int .i64 n] w fun e w' => ∃ v' X, e = .returned v' ∧ PowOf (dv l) n X ∧ Owns .u64 24 w.heap.size w' v' (dg X.toNat) ∧ Below w.heap.size w w' := by
  have hA := dv_nonneg d
  have S := Lib.hid s
  have D := Lib.hid d
  clear s d
  go_enter Try.func23, Try.ntmps23
  go_wp2_with fail
  refine (small_any 1 (by decide) _).mono ?_
  rintro e w1 ⟨v1, rfl, o1, B1⟩
  go_wp2_with fail
  go_loopw [5, 6] (fun s i wr => ∃ m : Nat, m ≤ n ∧ m ≤ 200 ∧ i = .int .i64 (m : Int) ∧ Owns .u64 24 w.heap.size wr s (dg (dv l ^ m).toNat) ∧ Below w.heap.size w wr) (fun _ i _ => 200 - (intOf i).toNat)
  case atStart => exact ⟨0, by omega, by omega, rfl, by simpa using o1, B1⟩
  case round =>
    obtain ⟨m, hm, hm2, rfl, hO, hB⟩ := hrel
    clear o1 B1
    have hseg := hO.seg
    obtain ⟨o, c, rfl⟩ := hO.shape
    have hp0 : 0 ≤ dv l ^ m := Int.pow_nonneg hA
    obtain ⟨k, hk⟩ : ∃ k, k = (dg (dv l ^ m).toNat).length := ⟨_, rfl⟩
    have hkm : k ≤ 9223372036854775807 := by have := hseg.1; omega
    rw [← hk] at hseg hO ⊢
    have HK := Lib.hid hk
    have HO := Lib.hid hO
    clear hk hO
    by_cases hmn : m < n
    · have t1 : decide ((m : Int) < n) = true := by simp; omega
      by_cases hk8 : k ≤ 8
      · have t2 : decide ((k : Int) ≤ 8) = true := by simp; omega
        by_cases hm200 : m < 200
        · have t3 : decide ((m : Int) < 200) = true := by simp; omega
          go_wp2_with fail
          refine (times_any _ _ _ _ _ hseg (S.out.below hB (Nat.le_refl _)) (dg_dig _) D.out (by have := HK.out; omega) (by omega)).mono ?_
          rintro e w2 ⟨v2, rfl, o2, B2⟩
          rw [dv_dg] at o2
          have e1 : ((((dv l ^ m).toNat : Nat) : Int) * dv l).toNat = (dv l ^ (m + 1)).toNat := by
            rw [show (((dv l ^ m).toNat : Nat) : Int) = dv l ^ m by omega, Int.pow_succ]
          rw [e1] at o2
          go_wp2_with fail
          go_roundw
          case rel => exact ⟨m + 1, by omega, by omega, by go_num, o2.mono hB.size, hB.trans (B2.mono hB.size)⟩
          case measure => simp [intOf]; omega
        · have t3 : decide ((m : Int) < 200) = false := by simp; omega
          go_wp2_with fail
          go_ret
          obtain rfl : m = 200 := by omega
          refine ⟨_, _, rfl, powOf_200 hA (by omega) ?_, by simpa using HO.out, hB⟩
          apply Classical.byContradiction
          intro hc
          have := dg_len_lt (n := (dv l ^ 200).toNat) (k := 8) (by unfold Big at hc; omega)
          have := HK.out
          omega
      · have t2 : decide ((k : Int) ≤ 8) = false := by simp; omega
        go_wp2_with fail
        go_ret
        refine ⟨_, _, rfl, powOf_big hA hm ?_, by simpa using HO.out, hB⟩
        apply Classical.byContradiction
        intro hc
        have := dg_len (n := (dv l ^ m).toNat) (k := 8) (by unfold Big at hc; omega)
        have := HK.out
        omega
    · obtain rfl : m = n := by omega
      have t1 : decide ((m : Int) < m) = false := by simp
      go_wp2_with fail
      go_ret
      exact ⟨_, _, rfl, powOf_all _ _ hA, by simpa using HO.out, hB⟩
end Go.Proofs.Ytfknocgmobddmaa
