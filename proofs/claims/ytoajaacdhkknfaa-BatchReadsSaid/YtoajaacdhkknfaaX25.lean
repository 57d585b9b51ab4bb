/- A line's words, cut at every blank; the change that they would say, of a kind. No program is named here. -/
import Derived.Test.YtoajaacdhkknfaaX00
namespace Go.Proofs.Kit
open Go.RowKit
theorem snoc_ind {P : List UInt8 → Prop} (h0 : P []) (h1 : ∀ l c, P l → P (l ++ [c])) (l : List UInt8) : P l := by
  rw [← List.reverse_reverse l]
  induction l.reverse with
  | nil => exact h0
  | cons c t ih => rw [List.reverse_cons]; exact h1 _ _ ih
/-- One byte more. -/
def stepA (R : List (List UInt8)) (c : UInt8) : List (List UInt8) := if c = 32 then R ++ [[]] else R.dropLast ++ [R.getLastD [] ++ [c]]
def wordsA (l : List UInt8) : List (List UInt8) := l.foldl stepA [[]]
theorem stepA_ne (R : List (List UInt8)) (c : UInt8) : stepA R c ≠ [] := by
  unfold stepA
  split <;> simp
theorem wordsA_snoc (l : List UInt8) (c : UInt8) : wordsA (l ++ [c]) = stepA (wordsA l) c := by simp [wordsA, List.foldl_append]
theorem wordsA_ne (l : List UInt8) : wordsA l ≠ [] := by
  rcases List.eq_nil_or_concat l with rfl | ⟨l', c, rfl⟩
  · simp [wordsA]
  · rw [List.concat_eq_append, wordsA_snoc]
    exact stepA_ne _ _
theorem stepA_len (R : List (List UInt8)) (c : UInt8) (h : R ≠ []) : (stepA R c).length ≤ R.length + 1 := by
  have := List.length_pos_iff.2 h
  unfold stepA
  split <;> simp <;> omega
theorem wordsA_len (l : List UInt8) : (wordsA l).length ≤ l.length + 1 := by
  induction l using snoc_ind with
  | h0 => simp [wordsA]
  | h1 l c ih =>
    rw [wordsA_snoc, List.length_append]
    have := stepA_len (wordsA l) c (wordsA_ne l)
    simp
    omega
theorem stepA_pre (P R : List (List UInt8)) (c : UInt8) (h : R ≠ []) : stepA (P ++ R) c = P ++ stepA R c := by
  unfold stepA
  split
  · simp
  · rw [List.dropLast_append_of_ne_nil h, List.append_assoc]
    obtain ⟨x, hx⟩ : ∃ x, R.getLast? = some x := ⟨_, List.getLast?_eq_some_getLast h⟩
    simp [List.getLastD_eq_getLast?, List.getLast?_append, hx]
theorem foldA_pre (b : List UInt8) : ∀ (P R : List (List UInt8)), R ≠ [] → b.foldl stepA (P ++ R) = P ++ b.foldl stepA R := by
  induction b with
  | nil => intro P R _; rfl
  | cons c b ih =>
    intro P R h
    rw [List.foldl_cons, List.foldl_cons, stepA_pre P R c h, ih _ _ (stepA_ne _ _)]
theorem wordsA_no {a : List UInt8} (h : (32 : UInt8) ∉ a) : wordsA a = [a] := by
  induction a using snoc_ind with
  | h0 => rfl
  | h1 l c ih =>
    simp only [List.mem_append, List.mem_singleton, not_or] at h
    rw [wordsA_snoc, ih h.1, stepA, if_neg (fun e => h.2 e.symm)]
    rfl
theorem wordsA_at {a b : List UInt8} (h : (32 : UInt8) ∉ a) : wordsA (a ++ 32 :: b) = a :: wordsA b := by
  rw [wordsA, List.foldl_append, show List.foldl stepA [[]] a = [a] from wordsA_no h, List.foldl_cons, stepA, if_pos rfl, foldA_pre b [a] [[]] (by simp)]
  rfl
/-- The change that a line would say, of a kind. -/
def valA (k : Nat) (L : List (List UInt8)) (s : List UInt8) : ByteArray :=
  let b := (wordN k).length + (wd L 1).length + (if 3 ≤ k then (wd L 2).length else 0) + 4
  if k = 5 ∧ b < s.length then lb ((s.take (s.length - 1)).drop b) else noB
def cand (k : Nat) (s : List UInt8) : Chg :=
  ⟨k, lb (wd (wordsA s) 1), if 3 ≤ k then lb (wd (wordsA s) 2) else noB, valA k (wordsA s) s, if 7 ≤ k then lb (wd (wordsA s) 3) else noB⟩
theorem says_cand {c : Chg} {s : List UInt8} (h : Says c s) : ∃ k : Nat, 1 ≤ k ∧ k ≤ 8 ∧ c.kind = k ∧ wd (wordsA s) 0 = wordN k ∧ cand k s = c := by
  obtain ⟨hr, rfl⟩ := h
  obtain ⟨k, hk, h1, h8⟩ := kind_cases hr
  obtain ⟨ck, key, name, val, tt⟩ := c
  simp only at hk
  subst hk
  simp only [rightB, Bool.and_eq_true] at hr
  obtain ⟨_, h0, hn, hv, ht⟩ := hr
  have hwn := (@wordN_no k).1
  refine ⟨k, h1, h8, rfl, ?_⟩
  rcases eight h1 h8 with rfl | rfl | rfl | rfl | rfl | rfl | rfl | rfl <;> simp [partOk, hasB] at h0 hn hv ht
  all_goals
    have k0 := (name_no h0).1
    first | have k1 := (name_no hn).1 | skip
    first | have k3 := (name_no ht).1 | skip
    first | subst hn | skip
    first | subst hv | skip
    first | subst ht | skip
    simp only [cand, valA, lineL]
    simp
    first
      | rw [wordsA_at hwn, wordsA_at k0, wordsA_at k1, wordsA_no k3]
      | rw [wordsA_at hwn, wordsA_at k0, wordsA_no k1]
      | rw [wordsA_at hwn, wordsA_no k0]
      | rw [wordsA_at hwn, wordsA_at k0, wordsA_at k1]
    simp [wd, lb_bl]
  rw [if_pos (by omega)]
  have e : wordN 5 ++ 32 :: (bl key ++ 32 :: (bl name ++ 32 :: 34 :: (bl val ++ [34]))) = ((wordN 5 ++ 32 :: (bl key ++ 32 :: (bl name ++ [32, 34]))) ++ bl val) ++ [34] := by simp
  refine bl_inj ?_
  rw [bl_lb, e, List.take_left' (by simp; omega), List.drop_left' (by simp; omega)]
/-- Of's answer: a kind whose word it is, and whose change has that line. -/
theorem of_yes {k : Nat} {s : List UInt8} (hr : rightB (cand k s) = true) (hl : lineL (cand k s) = s) : saysO s = some (cand k s) := saysO_some ⟨hr, hl⟩
theorem of_no {s : List UInt8} (h : ∀ k : Nat, 1 ≤ k → k ≤ 8 → wd (wordsA s) 0 = wordN k → rightB (cand k s) = true → lineL (cand k s) ≠ s) : saysO s = none := saysO_none fun c hc => by
  obtain ⟨k, h1, h8, _, h0, rfl⟩ := says_cand hc
  exact h k h1 h8 h0 hc.1 hc.2
end Go.Proofs.Kit

