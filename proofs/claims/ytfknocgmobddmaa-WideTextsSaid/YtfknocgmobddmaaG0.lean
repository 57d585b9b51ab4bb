/- Rows of digits to the base 2^16, the last one first: plain lists of integers; no program is named here. -/
import Derived.WalkKit
namespace Go.Proofs.Kit

def Dig (l : List Int) : Prop := ∀ x ∈ l, 0 ≤ x ∧ x < 65536
/-- The number of digits. -/
def dv : List Int → Int
  | [] => 0
  | x :: t => x + 65536 * dv t
/-- The digits of a number, without noughts at the end. -/
def dg (n : Nat) : List Int := if n = 0 then [] else ((n % 65536 : Nat) : Int) :: dg (n / 65536)
termination_by n
decreasing_by omega
theorem dg_zero : dg 0 = [] := by rw [dg, if_pos rfl]
theorem dg_pos {n : Nat} (h : n ≠ 0) : dg n = ((n % 65536 : Nat) : Int) :: dg (n / 65536) := by rw [dg, if_neg h]
theorem dg_dig (n : Nat) : Dig (dg n) := by
  induction n using Nat.strongRecOn with
  | ind n ih =>
    by_cases h : n = 0
    · subst h; rw [dg_zero]; intro x hx; simp at hx
    · rw [dg_pos h]; intro x hx
      rcases List.mem_cons.1 hx with rfl | hx
      · omega
      · exact ih (n / 65536) (by omega) x hx
theorem dv_dg (n : Nat) : dv (dg n) = n := by
  induction n using Nat.strongRecOn with
  | ind n ih =>
    by_cases h : n = 0
    · subst h; rw [dg_zero]; rfl
    · rw [dg_pos h, dv, ih (n / 65536) (by omega)]; omega
theorem dv_bd : ∀ l : List Int, Dig l → 0 ≤ dv l ∧ dv l < 65536 ^ l.length
  | [], _ => by simp [dv]
  | x :: t, h => by
    have h1 := h x (by simp)
    have h2 := dv_bd t (fun y hy => h y (by simp [hy]))
    simp only [dv, List.length_cons, Int.pow_succ]
    omega
theorem dv_nonneg {l : List Int} (h : Dig l) : 0 ≤ dv l := (dv_bd l h).1
theorem dv_append : ∀ a b : List Int, dv (a ++ b) = dv a + 65536 ^ a.length * dv b
  | [], b => by simp [dv]
  | x :: t, b => by
    simp only [List.cons_append, dv, dv_append t b, List.length_cons, Int.pow_succ]
    rw [Int.mul_comm (65536 ^ t.length) 65536, Int.mul_assoc]
    omega
theorem dv_snoc (a : List Int) (x : Int) : dv (a ++ [x]) = dv a + 65536 ^ a.length * x := by rw [dv_append]; simp [dv]
theorem dig_snoc {a : List Int} {x : Int} (h : Dig a) (h0 : 0 ≤ x) (h1 : x < 65536) : Dig (a ++ [x]) := by
  intro y hy
  rcases List.mem_append.1 hy with hy | hy
  · exact h y hy
  · simp at hy; subst hy; exact ⟨h0, h1⟩
theorem dig_drop {a : List Int} (h : Dig a) (k : Nat) : Dig (a.drop k) := fun x hx => h x (List.mem_of_mem_drop hx)
theorem dig_take {a : List Int} (h : Dig a) (k : Nat) : Dig (a.take k) := fun x hx => h x (List.mem_of_mem_take hx)
theorem dv_drop {l : List Int} {k : Nat} (h : k < l.length) : dv (l.drop k) = l[k] + 65536 * dv (l.drop (k + 1)) := by rw [List.drop_eq_getElem_cons h]; rfl
theorem dv_drop_end {l : List Int} {k : Nat} (h : l.length ≤ k) : dv (l.drop k) = 0 := by rw [List.drop_eq_nil_of_le h]; rfl
/-- The digit at a place, 0 behind the end. -/
def dat (l : List Int) (k : Nat) : Int := if h : k < l.length then l[k] else 0
theorem dat_lt {l : List Int} {k : Nat} (h : k < l.length) : dat l k = l[k] := dif_pos h
theorem dat_ge {l : List Int} {k : Nat} (h : ¬ k < l.length) : dat l k = 0 := dif_neg h
theorem dat_bd {l : List Int} (h : Dig l) (k : Nat) : 0 ≤ dat l k ∧ dat l k < 65536 := by
  by_cases hk : k < l.length
  · rw [dat_lt hk]; exact h _ (List.getElem_mem hk)
  · rw [dat_ge hk]; omega
theorem dv_dat (l : List Int) (k : Nat) : dv (l.drop k) = dat l k + 65536 * dv (l.drop (k + 1)) := by
  by_cases hk : k < l.length
  · rw [dat_lt hk]; exact dv_drop hk
  · rw [dat_ge hk, dv_drop_end (by omega), dv_drop_end (by omega)]; rfl

/-- A row whose last digit is no nought is the row of its number. -/
theorem dg_dv : ∀ l : List Int, Dig l → (∀ h : l ≠ [], l.getLast h ≠ 0) → dg (dv l).toNat = l
  | [], _, _ => by simp [dv, dg_zero]
  | x :: t, h, hl => by
    have h1 := h x (by simp)
    have ht : Dig t := fun y hy => h y (by simp [hy])
    have h2 := dv_nonneg ht
    have ih := dg_dv t ht (fun hne => by
      have := hl (by simp)
      rwa [List.getLast_cons hne] at this)
    have hne : (dv (x :: t)).toNat ≠ 0 := by
      by_cases he : t = []
      · subst he
        have := hl (by simp)
        simp [dv] at this ⊢
        omega
      · have : dv t ≠ 0 := by
          intro e
          rw [e] at ih
          simp [dg_zero] at ih
          exact he ih
        simp only [dv]
        omega
    rw [dg_pos hne]
    have e1 : (dv (x :: t)).toNat / 65536 = (dv t).toNat := by simp only [dv]; omega
    have e2 : (((dv (x :: t)).toNat % 65536 : Nat) : Int) = x := by simp only [dv]; omega
    rw [e1, e2, ih]
/-- The row of a row's number is how it begins. -/
theorem dg_take (l : List Int) (h : Dig l) : dg (dv l).toNat = l.take (dg (dv l).toNat).length ∧ (dg (dv l).toNat).length ≤ l.length := by
  suffices H : ∀ n, ∀ l : List Int, l.length = n → Dig l → dg (dv l).toNat = l.take (dg (dv l).toNat).length ∧ (dg (dv l).toNat).length ≤ l.length from H _ l rfl h
  intro n
  induction n with
  | zero => intro l hl _; rw [List.length_eq_zero_iff.1 hl]; simp [dv, dg_zero]
  | succ n ih =>
    intro l hl hd
    rcases List.eq_nil_or_concat l with rfl | ⟨m, x, rfl⟩
    · simp at hl
    · rw [List.concat_eq_append] at *
      by_cases hx : x = 0
      · subst hx
        have e : dv (m ++ [0]) = dv m := by rw [dv_snoc]; simp
        have hm : m.length = n := by simp at hl; omega
        have := ih m hm (fun y hy => hd y (by simp [hy]))
        rw [e]
        refine ⟨?_, by simp; omega⟩
        rw [List.take_append_of_le_length this.2]
        exact this.1
      · have := dg_dv (m ++ [x]) hd (fun hne => by simpa using hx)
        rw [this]
        exact ⟨(List.take_length).symm, Nat.le_refl _⟩
theorem dg_len {n k : Nat} (h : n < 65536 ^ k) : (dg n).length ≤ k := by
  induction k generalizing n with
  | zero => simp at h; subst h; simp [dg_zero]
  | succ k ih =>
    by_cases h0 : n = 0
    · subst h0; simp [dg_zero]
    · rw [dg_pos h0]
      have := ih (n := n / 65536) (by rw [Nat.pow_succ] at h; omega)
      simp; omega
theorem dg_len_lt {n k : Nat} (h : 65536 ^ k ≤ n) : k < (dg n).length := by
  have h1 := dv_bd (dg n) (dg_dig n)
  rw [dv_dg] at h1
  apply Classical.byContradiction
  intro hk
  have h2 : 65536 ^ (dg n).length ≤ 65536 ^ k := Nat.pow_le_pow_right (by decide) (by omega)
  have h3 : ((65536 ^ (dg n).length : Nat) : Int) = 65536 ^ (dg n).length := Int.natCast_pow 65536 _
  omega
theorem dg_inj {a b : Nat} (h : dg a = dg b) : a = b := by
  have h1 := dv_dg a
  have h2 := dv_dg b
  rw [h] at h1
  omega
end Go.Proofs.Kit
