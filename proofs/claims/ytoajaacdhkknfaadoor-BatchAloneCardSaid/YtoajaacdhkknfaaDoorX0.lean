/- Changes, their lines, and what a line says. No program is named here. -/
import Derived.Test.YtoajaacdhkknfaaDoorK0
namespace Go.Proofs.Kit
open Go.RowKit

/-- A change. -/
structure Chg where
  kind : Int
  key : ByteArray
  name : ByteArray
  val : ByteArray
  to : ByteArray
  deriving DecidableEq
abbrev noB : ByteArray := ⟨#[]⟩
abbrev CV (c : Chg) : Value := .agg #[.int .i64 c.kind, .string c.key, .string c.name, .string c.val, .string c.to]
def Chg.zero : Chg := ⟨0, noB, noB, noB, noB⟩
/-- A name; a value. -/
def nameB (s : ByteArray) : Bool := decide (1 ≤ s.size) && decide (s.size ≤ 32) && allB false s
def valueB (s : ByteArray) : Bool := decide (0 ≤ s.size) && decide (s.size ≤ 40) && allB true s
/-- What a kind asks of a part: 0 the key, 1 the name, 2 the value, 3 the other key. -/
def hasB (k : Int) (p : Nat) : Bool := p == 0 || p == 1 && decide (3 ≤ k) || p == 2 && decide (k = 5) || p == 3 && decide (7 ≤ k)
def partOk (k : Int) (p : Nat) (s : ByteArray) : Bool := if hasB k p then (if p = 2 then valueB s else nameB s) else decide (s = noB)
def kindB (k : Int) : Bool := decide (1 ≤ k) && decide (k ≤ 8)
def Chg.part (c : Chg) (p : Nat) : ByteArray := if p = 0 then c.key else if p = 1 then c.name else if p = 2 then c.val else c.to
def rightB (c : Chg) : Bool := kindB c.kind && (partOk c.kind 0 c.key && (partOk c.kind 1 c.name && (partOk c.kind 2 c.val && partOk c.kind 3 c.to)))
/-- The word of a kind. -/
def wordN (k : Nat) : List UInt8 :=
  match k with
  | 1 => [97, 100, 100]
  | 2 => [100, 114, 111, 112]
  | 3 => [108, 97, 98, 101, 108]
  | 4 => [117, 110, 108, 97, 98, 101, 108]
  | 5 => [115, 101, 116]
  | 6 => [117, 110, 115, 101, 116]
  | 7 => [108, 105, 110, 107]
  | 8 => [117, 110, 108, 105, 110, 107]
  | _ => []
abbrev bl (s : ByteArray) : List UInt8 := s.data.toList
abbrev lb (l : List UInt8) : ByteArray := ⟨l.toArray⟩
theorem bl_lb (l : List UInt8) : bl (lb l) = l := rfl
theorem lb_bl (s : ByteArray) : lb (bl s) = s := by cases s; simp
theorem bl_inj {s t : ByteArray} (h : bl s = bl t) : s = t := by rw [← lb_bl s, ← lb_bl t, h]
theorem bl_len (s : ByteArray) : (bl s).length = s.size := by simp
theorem lb_size (l : List UInt8) : (lb l).size = l.length := by simp [ByteArray.size]
theorem bl_append (s t : ByteArray) : bl (s ++ t) = bl s ++ bl t := by simp
theorem size_zero {s : ByteArray} (h : s.size = 0) : s = noB := bl_inj (by rw [show bl noB = [] from rfl]; exact List.length_eq_zero_iff.1 (by rw [bl_len, h]))
/-- The line of a change. -/
def lineL (c : Chg) : List UInt8 :=
  wordN c.kind.toNat ++ 32 :: bl c.key ++ (if 3 ≤ c.kind then 32 :: bl c.name else []) ++ (if c.kind = 5 then 32 :: 34 :: bl c.val ++ [34] else []) ++ (if 7 ≤ c.kind then 32 :: bl c.to else [])
def lineB (c : Chg) : ByteArray := lb (lineL c)
/-- A line says a change. -/
def Says (c : Chg) (s : List UInt8) : Prop := rightB c = true ∧ lineL c = s

/-! ### The words of a line -/
/-- Cut at the first n blanks. -/
def splitN : Nat → List UInt8 → List (List UInt8)
  | 0, l => [l]
  | _ + 1, [] => [[]]
  | n + 1, c :: t => if c = 32 then [] :: splitN n t else match splitN (n + 1) t with
    | [] => [[c]]
    | a :: r => (c :: a) :: r
theorem splitN_ne (n : Nat) (l : List UInt8) : splitN n l ≠ [] := by
  cases n with
  | zero => simp [splitN]
  | succ n =>
    cases l with
    | nil => simp [splitN]
    | cons c t =>
      rw [splitN]
      split
      · simp
      · split <;> simp
theorem splitN_no {a : List UInt8} (n : Nat) (h : (32 : UInt8) ∉ a) : splitN n a = [a] := by
  induction a with
  | nil => cases n <;> rfl
  | cons c t ih =>
    cases n with
    | zero => rfl
    | succ n =>
      simp only [List.mem_cons, not_or] at h
      rw [splitN, if_neg (fun e => h.1 e.symm), ih h.2]
theorem splitN_at {a b : List UInt8} (n : Nat) (h : (32 : UInt8) ∉ a) : splitN (n + 1) (a ++ 32 :: b) = a :: splitN n b := by
  induction a with
  | nil => simp [splitN]
  | cons c t ih =>
    simp only [List.mem_cons, not_or] at h
    rw [List.cons_append, splitN, if_neg (fun e => h.1 e.symm), ih h.2]
/-- Put together again. -/
def joinB : List (List UInt8) → List UInt8
  | [] => []
  | [a] => a
  | a :: r => a ++ 32 :: joinB r
theorem joinB_cons (a : List UInt8) {r : List (List UInt8)} (h : r ≠ []) : joinB (a :: r) = a ++ 32 :: joinB r := by
  cases r with
  | nil => exact absurd rfl h
  | cons b r => rfl
theorem join_split (n : Nat) (l : List UInt8) : joinB (splitN n l) = l := by
  induction l generalizing n with
  | nil => cases n <;> rfl
  | cons c t ih =>
    cases n with
    | zero => rfl
    | succ n =>
      rw [splitN]
      split
      · rename_i h
        rw [joinB_cons _ (splitN_ne n t), ih, h]
        rfl
      · have hi := ih (n + 1)
        split
        · rename_i h2
          exact absurd h2 (splitN_ne _ _)
        · rename_i a r h2
          rw [h2] at hi
          cases r with
          | nil => simp only [joinB] at hi ⊢; rw [hi]
          | cons b r => rw [joinB_cons _ (by simp)] at hi ⊢; rw [List.cons_append, hi]

/-! ### What names and values hold -/
theorem name_no {s : ByteArray} (h : nameB s = true) : (32 : UInt8) ∉ bl s ∧ (10 : UInt8) ∉ bl s := by
  simp only [nameB, Bool.and_eq_true] at h
  have ha : ∀ b ∈ bl s, okN false b.toNat = true := List.all_eq_true.1 h.2
  exact ⟨fun hm => by have := ha _ hm; exact absurd this (by decide), fun hm => by have := ha _ hm; exact absurd this (by decide)⟩
theorem value_no {s : ByteArray} (h : valueB s = true) : (10 : UInt8) ∉ bl s ∧ (34 : UInt8) ∉ bl s := by
  simp only [valueB, Bool.and_eq_true] at h
  have ha : ∀ b ∈ bl s, okN true b.toNat = true := List.all_eq_true.1 h.2
  exact ⟨fun hm => by have := ha _ hm; exact absurd this (by decide), fun hm => by have := ha _ hm; exact absurd this (by decide)⟩
theorem kind_cases {c : Chg} (h : rightB c = true) : ∃ k : Nat, c.kind = k ∧ 1 ≤ k ∧ k ≤ 8 := by
  simp only [rightB, kindB, Bool.and_eq_true, decide_eq_true_eq] at h
  exact ⟨c.kind.toNat, by omega, by omega, by omega⟩
theorem eight {k : Nat} (h1 : 1 ≤ k) (h8 : k ≤ 8) : k = 1 ∨ k = 2 ∨ k = 3 ∨ k = 4 ∨ k = 5 ∨ k = 6 ∨ k = 7 ∨ k = 8 := by omega
theorem wordN_no {k : Nat} : (32 : UInt8) ∉ wordN k ∧ (10 : UInt8) ∉ wordN k := by
  unfold wordN
  split <;> decide
theorem wordN_inj {j k : Nat} (hj : 1 ≤ j) (hj8 : j ≤ 8) (hk : 1 ≤ k) (hk8 : k ≤ 8) (h : wordN j = wordN k) : j = k := by
  rcases eight hj hj8 with rfl | rfl | rfl | rfl | rfl | rfl | rfl | rfl <;> rcases eight hk hk8 with rfl | rfl | rfl | rfl | rfl | rfl | rfl | rfl <;> first | rfl | exact absurd h (by decide)

/-! ### What a line's words say -/
/-- How many words a kind's line has beside the first. -/
def cntK (k : Nat) : Nat := if k ≤ 2 then 1 else if k = 5 ∨ 7 ≤ k then 3 else 2
def wd (l : List (List UInt8)) (i : Nat) : List UInt8 := l.getD i []
/-- The change that words would say, of a kind; a value without what stands around it. -/
def inner (l : List UInt8) : List UInt8 := (l.drop 1).take (l.length - 2)
def chgOf (k : Nat) (l : List (List UInt8)) : Chg :=
  ⟨k, lb (wd l 1), if 3 ≤ k then lb (wd l 2) else noB, if k = 5 then lb (inner (wd l 3)) else noB, if 7 ≤ k then lb (wd l 3) else noB⟩
/-- Do the words stand as such a kind's do? -/
def stands9 (k : Nat) (l : List (List UInt8)) : Prop := 1 ≤ k ∧ k ≤ 8 ∧ wd l 0 = wordN k ∧ l.length = 1 + cntK k ∧ (k = 5 → wd l 3 = 34 :: inner (wd l 3) ++ [34])
theorem says_words {c : Chg} {s : List UInt8} (h : Says c s) : ∃ k : Nat, c.kind = k ∧ stands9 k (splitN 3 s) ∧ chgOf k (splitN 3 s) = c := by
  obtain ⟨hr, rfl⟩ := h
  obtain ⟨k, hk, h1, h8⟩ := kind_cases hr
  obtain ⟨ck, key, name, val, to⟩ := c
  simp only at hk
  subst hk
  simp only [rightB, Bool.and_eq_true] at hr
  obtain ⟨_, h0, hn, hv, ht⟩ := hr
  have hwn := (@wordN_no k).1
  refine ⟨k, rfl, ?_⟩
  rcases eight h1 h8 with rfl | rfl | rfl | rfl | rfl | rfl | rfl | rfl <;> simp [partOk, hasB] at h0 hn hv ht
  all_goals
    have k0 := (name_no h0).1
    first | have k1 := (name_no hn).1 | skip
    first | have k3 := (name_no ht).1 | skip
    first | subst hn | skip
    first | subst hv | skip
    first | subst ht | skip
    simp [lineL]
    first
      | rw [splitN_at 2 hwn, splitN_at 1 k0, splitN_at 0 k1]
      | rw [splitN_at 2 hwn, splitN_at 1 k0, splitN_no 1 k1]
      | rw [splitN_at 2 hwn, splitN_no 2 k0]
    simp [stands9, cntK, wd, chgOf, inner, lb_bl, splitN]
theorem words_say {k : Nat} {s : List UInt8} (h : stands9 k (splitN 3 s)) (hr : rightB (chgOf k (splitN 3 s)) = true) : Says (chgOf k (splitN 3 s)) s := by
  refine ⟨hr, ?_⟩
  have hj := join_split 3 s
  obtain ⟨h1, h8, h0, hl, h5⟩ := h
  generalize splitN 3 s = l at *
  rcases eight h1 h8 with rfl | rfl | rfl | rfl | rfl | rfl | rfl | rfl
  all_goals
    simp [cntK] at hl
    first
      | match l, hl with
        | [a, b], _ => simp [wd] at h0; subst h0; simpa [lineL, chgOf, wd, joinB, bl_lb] using hj
      | match l, hl with
        | [a, b, c], _ => simp [wd] at h0; subst h0; simpa [lineL, chgOf, wd, joinB, bl_lb] using hj
      | match l, hl with
        | [a, b, c, d], _ =>
          simp [wd] at h0 h5
          subst h0
          rw [← hj]
          simp [lineL, chgOf, wd, joinB, bl_lb]
          try (rw [← h5])
theorem says_iff (s : List UInt8) (c : Chg) : Says c s ↔ ∃ k : Nat, stands9 k (splitN 3 s) ∧ rightB (chgOf k (splitN 3 s)) = true ∧ c = chgOf k (splitN 3 s) := by
  constructor
  · intro h
    obtain ⟨k, _, h2, h3⟩ := says_words h
    exact ⟨k, h2, by rw [h3]; exact h.1, h3.symm⟩
  · rintro ⟨k, h1, h2, rfl⟩
    exact words_say h1 h2
theorem says_one {s : List UInt8} {c d : Chg} (h : Says c s) (g : Says d s) : c = d := by
  obtain ⟨k, _, h2, h3⟩ := says_words h
  obtain ⟨j, _, g2, g3⟩ := says_words g
  have : k = j := wordN_inj h2.1 h2.2.1 g2.1 g2.2.1 (h2.2.2.1.symm.trans g2.2.2.1)
  subst this
  rw [← h3, ← g3]
open Classical in
/-- What a line says. -/
noncomputable def saysO (s : List UInt8) : Option Chg := if h : ∃ c, Says c s then some h.choose else none
theorem saysO_some {s : List UInt8} {c : Chg} (h : Says c s) : saysO s = some c := by
  have hx : ∃ c, Says c s := ⟨c, h⟩
  rw [saysO, dif_pos hx]
  exact congrArg some (says_one hx.choose_spec h)
theorem saysO_none {s : List UInt8} (h : ∀ c, ¬ Says c s) : saysO s = none := dif_neg (fun ⟨c, hc⟩ => h c hc)
theorem saysO_is {s : List UInt8} {c : Chg} (h : saysO s = some c) : Says c s := by
  unfold saysO at h
  split at h
  · rename_i hx
    injection h with h
    rw [← h]
    exact hx.choose_spec
  · cases h
theorem saysO_iff {s : List UInt8} {c : Chg} : saysO s = some c ↔ Says c s := ⟨saysO_is, saysO_some⟩
end Go.Proofs.Kit

