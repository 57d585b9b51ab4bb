/- Where a cursor stands, as plain lists: no program is named here. -/
import Derived.Test.YtjfnhjmdgfkgnaaH0
import Derived.Test.YtjfnhjmdgfkgnaaU11
namespace Go.Proofs.Kit
open Go.RowKit

/-- A cursor's depth, what is left of its rows, its steps. -/
structure Cs where
  d : Nat
  r0 : List Int
  r1 : List Int
  s : Nat
def Cs.row (X : Cs) : List Int := if X.d = 0 then [] else if X.d = 1 then X.r0 else X.r1
def Cs.on (X : Cs) (p q : Nat) : Cs := if X.d = 1 then ⟨1, X.r0.drop p, X.r1, X.s + q⟩ else ⟨X.d, X.r0, X.r1.drop p, X.s + q⟩
/-- Why a move can't be made. -/
def cerr (k : Int) (X : Cs) : Int := if k < 1 ∨ 4 < k then 180 else if (k = 1 ∧ X.d = 2) ∨ (k ≠ 1 ∧ X.d = 0) then 2 else if k ≠ 2 ∧ 0 < X.d ∧ X.row = [] then 4 else 0
def brAt (bs : List Br) (X : Cs) : Br := bs.getD (bs.length - X.r0.length) (0, 0, 0)
def copen (bs : List Br) (lv : List Int) (X : Cs) : Cs := if X.d = 0 then ⟨1, keysB bs, [], X.s + 1⟩ else ⟨2, X.r0, lvs lv (brAt bs X), X.s + 1⟩
def cup (X : Cs) : Cs := if X.d = 1 then ⟨0, [], [], X.s⟩ else ⟨1, X.r0, [], X.s⟩
/-- How many places a seek goes on. -/
def cfar (key : Int) (X : Cs) : Nat := sk (ge key) X.row 0
/-- Where it stands behind a move; q: the looks of a seek. -/
def cgo (bs : List Br) (lv : List Int) (k key : Int) (q : Nat) (X : Cs) : Cs :=
  if k = 1 then copen bs lv X else if k = 2 then cup X else if k = 3 then X.on 1 1 else X.on (cfar key X) q
/-- How long the part of a row is within which a seek looks. -/
def wl (key : Int) (l : List Int) : Nat := if l.length ≤ ((key - l.headD 0) % 18446744073709551616).toNat then l.length else ((key - l.headD 0) % 18446744073709551616).toNat + 1
def Lk8 (k key : Int) (X : Cs) (q : Nat) : Prop := k = 4 → (1 ≤ q ∧ q ≤ 2 + 2 * Nat.log2 (1 + cfar key X)) ∧ LkF (wl key X.row) 0 (cfar key X) q
/-- What a cursor's places are. -/
structure Cok (bs : List Br) (lv : List Int) (X : Cs) : Prop where
  d2 : X.d ≤ 2
  r0 : ∃ i, X.r0 = (keysB bs).drop i
  z0 : X.d = 0 → X.r0 = []
  r1 : X.d = 2 → X.r0 ≠ [] ∧ ∃ j, X.r1 = (lvs lv (brAt bs X)).drop j
  z1 : X.d < 2 → X.r1 = []
def U64s (l : List Int) : Prop := ∀ x ∈ l, 0 ≤ x ∧ x < 18446744073709551616

theorem keysB_len (bs : List Br) : (keysB bs).length = bs.length := by simp [keysB]
theorem Cok.len0 {bs : List Br} {lv : List Int} {X : Cs} (h : Cok bs lv X) : X.r0.length ≤ bs.length := by
  obtain ⟨i, e⟩ := h.r0
  rw [e, List.length_drop, keysB_len]
  omega
theorem lvs_sub (lv : List Int) (b : Br) : (lvs lv b).Sublist lv := (List.take_sublist _ _).trans (List.drop_sublist _ _)
theorem Cok.rng {bs : List Br} {lv : List Int} {X : Cs} (h : Cok bs lv X) (hb : U64s (keysB bs)) (hl : U64s lv) : U64s X.row := by
  intro x hx
  unfold Cs.row at hx
  split at hx
  · simp at hx
  · split at hx
    · obtain ⟨i, e⟩ := h.r0
      rw [e] at hx
      exact hb x (List.mem_of_mem_drop hx)
    · have hd : X.d = 2 := by have := h.d2; omega
      obtain ⟨_, j, e⟩ := h.r1 hd
      rw [e] at hx
      exact hl x ((lvs_sub lv _).subset (List.mem_of_mem_drop hx))
theorem keysB_inc {bs : List Br} {n : Nat} (h : Chd n bs) : Inc (keysB bs) := by
  refine inc_of fun i hi => ?_
  have hi' : i + 1 < bs.length := by simpa [keysB] using hi
  have := (h.1 (i + 1) hi').1 (by omega)
  rw [getD_of hi', Nat.add_sub_cancel, getD_of (by omega : i < bs.length)] at this
  simpa [keysB] using this
theorem brAt_mem {bs : List Br} {X : Cs} (h1 : X.r0 ≠ []) (h2 : X.r0.length ≤ bs.length) : ∃ hi : bs.length - X.r0.length < bs.length, brAt bs X = bs[bs.length - X.r0.length] := by
  have : 0 < X.r0.length := by cases hr : X.r0 with | nil => exact (h1 hr).elim | cons _ _ => simp
  have hi : bs.length - X.r0.length < bs.length := by omega
  exact ⟨hi, by unfold brAt; exact getD_of hi⟩
theorem Cok.inc {bs : List Br} {lv : List Int} {X : Cs} (h : Cok bs lv X) (hok : ok7 bs lv) : Inc X.row := by
  unfold Cs.row
  split
  · exact inc_nil
  · split
    · obtain ⟨i, e⟩ := h.r0
      rw [e]
      exact (keysB_inc hok.2.1).drop i
    · have hd : X.d = 2 := by have := h.d2; omega
      obtain ⟨h0, j, e⟩ := h.r1 hd
      rw [e]
      obtain ⟨hi, e2⟩ := brAt_mem h0 h.len0
      have := hok.2.2 _ (List.getElem_mem hi)
      rw [← e2] at this
      exact Inc.drop this j
theorem cs_on1 {X : Cs} (hd : X.d = 1) (p q : Nat) : X.on p q = ⟨1, X.r0.drop p, X.r1, X.s + q⟩ := by unfold Cs.on; rw [if_pos hd]
theorem cs_on2 {X : Cs} (hd : X.d = 2) (p q : Nat) : X.on p q = ⟨2, X.r0, X.r1.drop p, X.s + q⟩ := by unfold Cs.on; rw [if_neg (by omega), hd]
theorem Cok.on {bs : List Br} {lv : List Int} {X : Cs} (h : Cok bs lv X) (hd : 0 < X.d) (p q : Nat) : Cok bs lv (X.on p q) := by
  have h2 := h.d2
  rcases (by omega : X.d = 1 ∨ X.d = 2) with e | e
  · rw [cs_on1 e]
    obtain ⟨i, ei⟩ := h.r0
    exact ⟨by simp, ⟨i + p, by simp only; rw [ei, List.drop_drop]⟩, by simp, by simp, fun _ => h.z1 (by omega)⟩
  · rw [cs_on2 e]
    obtain ⟨h0, j, ej⟩ := h.r1 e
    refine ⟨by simp, h.r0, by simp, fun _ => ⟨h0, j + p, ?_⟩, by simp⟩
    simp only
    rw [ej, List.drop_drop]
    rfl
theorem Cok.open {bs : List Br} {lv : List Int} {X : Cs} (h : Cok bs lv X) (he : cerr 1 X = 0) : Cok bs lv (copen bs lv X) := by
  unfold copen
  split
  · exact ⟨by simp, ⟨0, by simp⟩, by simp, by simp, by simp⟩
  · rename_i hd
    have h2 := h.d2
    have e : X.d = 1 := by
      by_cases e : X.d = 2
      · simp [cerr, e] at he
      · omega
    have h0 : X.r0 ≠ [] := by
      intro h0
      simp [cerr, e, Cs.row, h0] at he
    exact ⟨by simp, h.r0, by simp, fun _ => ⟨h0, 0, by simp [brAt]⟩, by simp⟩
theorem Cok.up {bs : List Br} {lv : List Int} {X : Cs} (h : Cok bs lv X) : Cok bs lv (cup X) := by
  unfold cup
  split
  · exact ⟨by simp, ⟨bs.length, by simp [keysB]⟩, by simp, by simp, by simp⟩
  · exact ⟨by simp, h.r0, by simp, by simp, by simp⟩
theorem Cok.go {bs : List Br} {lv : List Int} {X : Cs} (h : Cok bs lv X) {k key : Int} {q : Nat} (he : cerr k X = 0) : Cok bs lv (cgo bs lv k key q X) := by
  unfold cgo
  split
  · rename_i e; subst e; exact h.open he
  · split
    · exact h.up
    · rename_i h1 h2
      have hd : 0 < X.d := by
        by_cases e : X.d = 0
        · simp [cerr, h1, e] at he
          split at he <;> simp at he
        · omega
      split
      · exact h.on hd _ _
      · exact h.on hd _ _
theorem cok_new (bs : List Br) (lv : List Int) (s : Nat) : Cok bs lv ⟨0, [], [], s⟩ := ⟨by simp, ⟨bs.length, by simp [keysB]⟩, by simp, by simp, by simp⟩

/-- Sought in the part where it can stand it is found where it is found in the whole row. -/
theorem sk_within {l : List Int} {key : Int} {n : Nat} (hn : n < l.length) (hk : key ≤ l[n]) : sk (ge key) (l.take (n + 1)) 0 = sk (ge key) l 0 := by
  have hs : sk (ge key) l 0 ≤ n := by
    by_cases c : sk (ge key) l 0 ≤ n
    · exact c
    · have := sk_before (p := ge key) (Nat.zero_le n) (by omega) hn
      simp [ge] at this
      omega
  refine sk_of (Nat.zero_le _) (by rw [List.length_take]; omega) (fun k hk' _ h => ?_) (fun h => ?_)
  · rw [List.getElem_take]
    exact sk_before (Nat.zero_le _) h (by omega)
  · rw [List.getElem_take]
    exact sk_at (by omega)
theorem inc_grow {l : List Int} (hi : Inc l) : ∀ (n : Nat) (hn : n < l.length), l[0]'(by omega) + n ≤ l[n]
  | 0, _ => by simp
  | n + 1, hn => by
    have h1 := inc_grow hi n (by omega)
    have h2 := hi.at (i := n) (j := n + 1) (by omega) hn (by omega)
    omega
/-- The difference of a key and the first number, as numbers that wrap round. -/
theorem within_far {l : List Int} (hi : Inc l) (hu : U64s l) {key : Int} (h0 : 0 ≤ key) (h1 : key < 18446744073709551616) (hl : 0 < l.length) :
    (key - l[0]) % (18446744073709551616 : Int) < (l.length : Int) → ∃ n : Nat, (key - l[0]) % (18446744073709551616 : Int) = (n : Int) ∧ ∃ hn : n < l.length, key ≤ l[n] := by
  intro h
  have a0 := hu _ (List.getElem_mem hl)
  have hlast := inc_grow hi (l.length - 1) (by omega)
  have a1 := hu _ (List.getElem_mem (show l.length - 1 < l.length by omega))
  by_cases c : l[0] ≤ key
  · have e : (key - l[0]) % (18446744073709551616 : Int) = key - l[0] := by omega
    rw [e] at h ⊢
    refine ⟨(key - l[0]).toNat, by omega, by omega, ?_⟩
    have := inc_grow hi (key - l[0]).toNat (by omega)
    omega
  · exfalso
    omega
end Go.Proofs.Kit

