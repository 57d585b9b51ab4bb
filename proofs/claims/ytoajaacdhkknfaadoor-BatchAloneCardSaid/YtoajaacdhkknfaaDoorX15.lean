/- What the words of a line say, part by part. No program is named here. -/
import Derived.Test.YtoajaacdhkknfaaDoorX12
namespace Go.Proofs.Kit
open Go.RowKit
def trimQ (L : List UInt8) : List UInt8 := Lib.trimSuffix (Lib.trimPrefix L [34]) [34]
def quotB (L : List UInt8) : Bool := Lib.hasPrefix L [34] && Lib.hasSuffix (Lib.trimPrefix L [34]) [34]
theorem quoted_of {m : List UInt8} : quotB (34 :: m ++ [34]) = true ∧ trimQ (34 :: m ++ [34]) = m := by
  have h1 : Lib.hasPrefix (34 :: m ++ [34]) [34] = true := by simp [Lib.hasPrefix, List.isPrefixOf]
  have h2 : Lib.trimPrefix (34 :: m ++ [34]) [34] = m ++ [34] := by rw [Lib.trimPrefix, if_pos h1]; rfl
  have h3 : Lib.hasSuffix (m ++ [34]) [34] = true := by
    rw [Lib.hasSuffix, List.isSuffixOf_iff_suffix]
    exact ⟨m, rfl⟩
  refine ⟨by rw [quotB, h1, h2, h3]; rfl, ?_⟩
  rw [trimQ, h2, Lib.trimSuffix, h3]
  simp
theorem quoted_is {L : List UInt8} (h : quotB L = true) : ∃ m, L = 34 :: m ++ [34] := by
  simp only [quotB, Bool.and_eq_true] at h
  obtain ⟨h1, h2⟩ := h
  cases L with
  | nil => simp [Lib.hasPrefix, List.isPrefixOf] at h1
  | cons a t =>
    obtain rfl : a = 34 := by
      simp [Lib.hasPrefix, List.isPrefixOf] at h1
      exact h1.symm
    have h3 : Lib.trimPrefix (34 :: t) [34] = t := by rw [Lib.trimPrefix, if_pos h1]; rfl
    rw [h3, Lib.hasSuffix, List.isSuffixOf_iff_suffix] at h2
    obtain ⟨m, hm⟩ := h2
    exact ⟨m, by rw [← hm]; rfl⟩
theorem inner_of (m : List UInt8) : inner (34 :: m ++ [34]) = m := by simp [inner]
theorem quoted_inner {L : List UInt8} : quotB L = true ↔ L = 34 :: inner L ++ [34] := by
  constructor
  · intro h
    obtain ⟨m, rfl⟩ := quoted_is h
    rw [inner_of]
  · intro h
    rw [h]
    exact quoted_of.1
theorem trimQ_inner {L : List UInt8} (h : quotB L = true) : trimQ L = inner L := by
  obtain ⟨m, rfl⟩ := quoted_is h
  rw [quoted_of.2, inner_of]
/-- What a word tells of a part, and whether it stands as such a part does. -/
def readP (p : Nat) (L : List UInt8) : ByteArray := if p = 2 then lb (trimQ L) else lb L
def okP (p : Nat) (L : List UInt8) : Bool := if p = 2 then quotB L else true
/-- A change with a part put. -/
def setP (c : Chg) (p : Nat) (s : ByteArray) : Chg := if p = 0 then ⟨c.kind, s, c.name, c.val, c.to⟩ else if p = 1 then ⟨c.kind, c.key, s, c.val, c.to⟩ else if p = 2 then ⟨c.kind, c.key, c.name, s, c.to⟩ else ⟨c.kind, c.key, c.name, c.val, s⟩
def hasN (k j : Nat) : Nat := ((hasL k).getD j 0).toNat
def drf (k : Nat) (l : List (List UInt8)) : Nat → Chg
  | 0 => ⟨k, noB, noB, noB, noB⟩
  | j + 1 => setP (drf k l j) (hasN k j) (readP (hasN k j) (wd l (1 + j)))
theorem hasL_cnt {k : Nat} (h1 : 1 ≤ k) (h8 : k ≤ 8) : (hasL k).length = cntK k := by
  rcases eight h1 h8 with rfl | rfl | rfl | rfl | rfl | rfl | rfl | rfl <;> rfl
theorem hasN_lt (k j : Nat) : hasN k j < 4 := by
  unfold hasN
  by_cases h : j < (hasL k).length
  · obtain ⟨p, hp, e⟩ := hasL_lt h
    rw [List.getD_eq_getElem?_getD, List.getElem?_eq_getElem h, e]
    simpa using hp
  · rw [List.getD_eq_getElem?_getD, List.getElem?_eq_none (by omega)]
    decide
theorem hasN_get {k j : Nat} (h : j < (hasL k).length) : (hasL k)[j] = (hasN k j : Int) := by
  obtain ⟨p, hp, e⟩ := hasL_lt h
  rw [hasN, List.getD_eq_getElem?_getD, List.getElem?_eq_getElem h, Option.getD_some, e]
  simp
theorem stands_part {k : Nat} {l : List (List UInt8)} (h : stands9 k l) {j : Nat} (hj : j < (hasL k).length) : okP (hasN k j) (wd l (1 + j)) = true ∧ (chgOf k l).part (hasN k j) = readP (hasN k j) (wd l (1 + j)) := by
  obtain ⟨h1, h8, _, _, h5⟩ := h
  rw [hasL_cnt h1 h8] at hj
  rcases eight h1 h8 with rfl | rfl | rfl | rfl | rfl | rfl | rfl | rfl <;> simp only [cntK] at hj <;> simp at hj
  all_goals
    rcases (by omega : j = 0 ∨ j = 1 ∨ j = 2) with rfl | rfl | rfl
    all_goals
      first
        | omega
        | (refine ⟨rfl, rfl⟩)
        | (have hq := quoted_inner.2 (h5 rfl)
           refine ⟨hq, ?_⟩
           show lb (inner (wd l 3)) = lb (trimQ (wd l 3))
           rw [trimQ_inner hq])
theorem drf_end {k : Nat} {l : List (List UInt8)} (h1 : 1 ≤ k) (h8 : k ≤ 8) (h0 : wd l 0 = wordN k) (hl : l.length = 1 + cntK k)
    (hok : ∀ j, j < (hasL k).length → okP (hasN k j) (wd l (1 + j)) = true) : stands9 k l ∧ drf k l (hasL k).length = chgOf k l := by
  rw [hasL_cnt h1 h8] at hok ⊢
  rcases eight h1 h8 with rfl | rfl | rfl | rfl | rfl | rfl | rfl | rfl
  all_goals
    first
      | exact ⟨⟨h1, h8, h0, hl, fun h => absurd h (by decide)⟩, rfl⟩
      | (have hq : quotB (wd l 3) = true := hok 2 (by decide)
         refine ⟨⟨h1, h8, h0, hl, fun _ => quoted_inner.1 hq⟩, ?_⟩
         show (⟨_, _, _, lb (trimQ (wd l 3)), _⟩ : Chg) = ⟨_, _, _, lb (inner (wd l 3)), _⟩
         rw [trimQ_inner hq]
         rfl)
theorem right_parts9 {k : Nat} {l : List (List UInt8)} (h : stands9 k l) (hp : ∀ j, j < (hasL k).length → partOk k (hasN k j) (readP (hasN k j) (wd l (1 + j))) = true) : rightB (chgOf k l) = true := by
  have hs := fun j hj => (stands_part h (j := j) hj).2
  obtain ⟨h1, h8, _, _, _⟩ := h
  refine right_of h1 h8 fun p hp4 => ?_
  by_cases hh : hasB k p = true
  · have : ∃ j, j < (hasL k).length ∧ hasN k j = p := by
      rcases eight h1 h8 with rfl | rfl | rfl | rfl | rfl | rfl | rfl | rfl <;> rcases (by omega : p = 0 ∨ p = 1 ∨ p = 2 ∨ p = 3) with rfl | rfl | rfl | rfl <;> first | exact ⟨0, by decide, by decide⟩ | exact ⟨1, by decide, by decide⟩ | exact ⟨2, by decide, by decide⟩ | exact absurd hh (by decide)
    obtain ⟨j, hj, rfl⟩ := this
    rw [show (Chg.mk k _ _ _ _).part (hasN k j) = (chgOf k l).part (hasN k j) from rfl, hs j hj]
    exact hp j hj
  · have hh : hasB k p = false := by simpa using hh
    rw [partOk, hh]
    rcases eight h1 h8 with rfl | rfl | rfl | rfl | rfl | rfl | rfl | rfl <;> rcases (by omega : p = 0 ∨ p = 1 ∨ p = 2 ∨ p = 3) with rfl | rfl | rfl | rfl <;> first | exact absurd hh (by decide) | rfl
end Go.Proofs.Kit

