import Derived.Test.YtfknocgmobddmaaR2
namespace Go.Proofs.Ytfknocgmobddmaa
open Go.RowKit Go.Proofs.Kit Go.Shelf

theorem textOf_last {n : Nat} (h : n / 10 = 0) : textOf n = [UInt8.ofNat (48 + n % 10)] := by unfold textOf txt; rw [digs_last h]; rfl
theorem textOf_more {n : Nat} (h : n / 10 ≠ 0) : textOf n = textOf (n / 10) ++ [UInt8.ofNat (48 + n % 10)] := by unfold textOf txt; rw [digs_more h]; simp
theorem dig_byte (k : Nat) (h : k < 10) : (UInt8.ofNat (48 + k)).toNat = 48 + k := by rw [UInt8.toNat_ofNat']; omega
theorem isDig_byte (k : Nat) (h : k < 10) : isDig (UInt8.ofNat (48 + k)) = true := by unfold isDig; rw [dig_byte k h]; simp; omega
theorem textOf_ne (n : Nat) : textOf n ≠ [] := by
  by_cases h : n / 10 = 0
  · rw [textOf_last h]; simp
  · rw [textOf_more h]; simp
theorem textOf_dig (n : Nat) : (textOf n).all isDig = true := by
  induction n using Nat.strongRecOn with
  | _ n ih =>
    by_cases h : n / 10 = 0
    · rw [textOf_last h, List.all_cons, isDig_byte (n % 10) (by omega)]; rfl
    · rw [textOf_more h, List.all_append, ih (n / 10) (by omega), List.all_cons, isDig_byte (n % 10) (by omega)]; rfl
theorem textOf_val (n : Nat) : valOf (textOf n) = n := by
  induction n using Nat.strongRecOn with
  | _ n ih =>
    by_cases h : n / 10 = 0
    · rw [textOf_last h]; simp only [valOf, List.foldl_cons, List.foldl_nil]; rw [dig_byte _ (by omega)]; omega
    · rw [textOf_more h, valOf_snoc, ih (n / 10) (by omega), dig_byte _ (by omega)]; omega
theorem textOf_head (n : Nat) (h0 : 0 < n) : (textOf n).head? ≠ some 48 := by
  induction n using Nat.strongRecOn with
  | _ n ih =>
    by_cases h : n / 10 = 0
    · rw [textOf_last h]
      intro e
      simp only [List.head?_cons, Option.some.injEq] at e
      have := congrArg UInt8.toNat e
      rw [dig_byte _ (by omega)] at this
      simp at this
      omega
    · rw [textOf_more h, List.head?_append]
      have h2 := ih (n / 10) (by omega) (by omega)
      cases hh : (textOf (n / 10)).head? with
      | none => rw [List.head?_eq_none_iff] at hh; exact absurd hh (textOf_ne _)
      | some x => rw [hh] at h2; simpa using h2
theorem textOf_is (n : Nat) : isTextB (textOf n) = true := by
  unfold isTextB
  have h1 : (textOf n).isEmpty = false := by simpa using textOf_ne n
  have h2 : (decide (1 < (textOf n).length) && decide ((textOf n).head? = some 48)) = false := by
    by_cases h : n / 10 = 0
    · rw [textOf_last h]; simp
    · rw [decide_eq_false (textOf_head n (by omega))]; simp
  rw [h1, h2, textOf_dig]; rfl

theorem valOf_pos1 {l : List UInt8} (h : l.all isDig = true) (hn : l ≠ []) (hh : l.head? ≠ some 48) : 1 ≤ valOf l := by
  cases l with
  | nil => exact absurd rfl hn
  | cons c t =>
    have ht := valOf_take_le h 1
    simp only [List.take_succ_cons, List.take_zero] at ht
    simp only [List.all_cons, Bool.and_eq_true] at h
    have hc := h.1
    unfold isDig at hc
    simp only [Bool.and_eq_true, decide_eq_true_eq] at hc
    have hne : c.toNat ≠ 48 := by
      intro e
      exact hh (by simp only [List.head?_cons, Option.some.injEq]; exact UInt8.toNat_inj.1 e)
    have : valOf [c] = (c.toNat : Int) - 48 := by simp [valOf]
    omega
theorem dig_of {c : UInt8} (h : isDig c = true) : 48 ≤ c.toNat ∧ c.toNat ≤ 57 := by
  unfold isDig at h
  simpa only [Bool.and_eq_true, decide_eq_true_eq] using h
/-- The text of what a text says is the text. -/
theorem text_val : ∀ (k : Nat) (l : List UInt8), l.length = k → isTextB l = true → textOf (valOf l).toNat = l := by
  intro k
  induction k with
  | zero =>
    intro l hl h
    rw [List.length_eq_zero_iff] at hl
    subst hl
    simp [isTextB] at h
  | succ k ih =>
    intro l hl h
    obtain ⟨l', c, rfl⟩ : ∃ l' c, l = l' ++ [c] := ⟨l.dropLast, l.getLast (by intro e; rw [e] at hl; simp at hl), (List.dropLast_concat_getLast _).symm⟩
    unfold isTextB at h
    simp only [Bool.and_eq_true, Bool.not_eq_true', List.all_append] at h
    obtain ⟨⟨_, h2⟩, h3, h4⟩ := h
    have hc := dig_of (c := c) (by simpa using h4)
    have hcb : UInt8.ofNat (48 + (c.toNat - 48)) = c := UInt8.toNat_inj.1 (by rw [dig_byte _ (by omega)]; omega)
    rw [valOf_snoc]
    by_cases he : l' = []
    · subst he
      have e1 : (valOf [] * 10 + ((c.toNat : Int) - 48)).toNat = c.toNat - 48 := by simp [valOf]; omega
      rw [e1, textOf_last (by omega), Nat.mod_eq_of_lt (by omega), hcb]
      rfl
    · have hlen : 1 < (l' ++ [c]).length := by
        have := List.length_pos_iff.2 he
        simp; omega
      have hhd : (l' ++ [c]).head? = l'.head? := by rw [List.head?_append]; cases hx : l'.head? with
        | none => rw [List.head?_eq_none_iff] at hx; exact absurd hx he
        | some x => rfl
      have hh : l'.head? ≠ some 48 := by
        rw [decide_eq_true hlen, hhd] at h2
        simpa using h2
      have hp := valOf_pos1 h3 he hh
      have hi : isTextB l' = true := by
        unfold isTextB
        rw [h3, decide_eq_false hh]
        simp [he]
      have hv := ih l' (by simp at hl; omega) hi
      obtain ⟨v, hv0⟩ := Int.eq_ofNat_of_zero_le (show 0 ≤ valOf l' by omega)
      rw [hv0] at hv hp ⊢
      simp only [Int.toNat_natCast] at hv
      have e1 : ((v : Int) * 10 + ((c.toNat : Int) - 48)).toNat = v * 10 + (c.toNat - 48) := by omega
      have e2 : (v * 10 + (c.toNat - 48)) / 10 = v := by omega
      have e3 : (v * 10 + (c.toNat - 48)) % 10 = c.toNat - 48 := by omega
      rw [e1, textOf_more (by rw [e2]; omega), e2, e3, hv, hcb]
end Go.Proofs.Ytfknocgmobddmaa
