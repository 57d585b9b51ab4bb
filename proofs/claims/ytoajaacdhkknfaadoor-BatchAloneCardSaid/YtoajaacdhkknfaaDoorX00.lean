/- The lines of a text, and what a text says. No program is named here. -/
import Derived.Test.YtoajaacdhkknfaaDoorX0
import Derived.Lib.CutLaws
namespace Go.Proofs.Kit
open Go.RowKit

/-- The lines of a text, each with whether a line feed stands behind it. -/
def linesL : List UInt8 → List (List UInt8 × Bool)
  | [] => []
  | c :: t => if c = 10 then ([], true) :: linesL t else match linesL t with
    | [] => [([c], false)]
    | (a, e) :: r => (c :: a, e) :: r
theorem linesL_at {a b : List UInt8} (h : (10 : UInt8) ∉ a) : linesL (a ++ 10 :: b) = (a, true) :: linesL b := by
  induction a with
  | nil => simp [linesL]
  | cons c t ih =>
    simp only [List.mem_cons, not_or] at h
    rw [List.cons_append, linesL, if_neg (fun e => h.1 e.symm), ih h.2]
theorem linesL_no {a : List UInt8} (h : (10 : UInt8) ∉ a) (hne : a ≠ []) : linesL a = [(a, false)] := by
  induction a with
  | nil => exact absurd rfl hne
  | cons c t ih =>
    simp only [List.mem_cons, not_or] at h
    rw [linesL, if_neg (fun e => h.1 e.symm)]
    by_cases ht : t = []
    · subst ht; rfl
    · rw [ih h.2 ht]
/-- A line with its line feed. -/
def withF (p : List UInt8 × Bool) : List UInt8 := p.1 ++ if p.2 then [10] else []
def glue : List (List UInt8 × Bool) → List UInt8
  | [] => []
  | p :: r => withF p ++ glue r
theorem glue_lines (l : List UInt8) : glue (linesL l) = l := by
  induction l with
  | nil => rfl
  | cons c t ih =>
    rw [linesL]
    split
    · rename_i h
      simp [glue, withF, ih, h]
    · split
      · rename_i h
        rw [h] at ih
        simp only [glue] at ih
        simp [glue, withF, ← ih]
      · rename_i a e r h
        rw [h] at ih
        simp only [glue, withF] at ih ⊢
        rw [List.cons_append, List.cons_append, ih]
/-- What lines say, behind what has been said. -/
noncomputable def readR (acc : List Chg) : List (List UInt8 × Bool) → List Chg × Int × Int
  | [] => (acc, acc.length, 0)
  | p :: r => if acc.length = 64 then ([], 0, 3) else if p.2 = true ∧ (saysO p.1).isSome = true then readR (acc ++ [(saysO p.1).getD Chg.zero]) r else ([], acc.length + 1, 191)
noncomputable def readS (s : List UInt8) : List Chg × Int × Int := readR [] (linesL s)
theorem readR_full {acc : List Chg} {p : List UInt8 × Bool} {r : List (List UInt8 × Bool)} (h : acc.length = 64) : readR acc (p :: r) = ([], 0, 3) := by
  rw [readR, if_pos h]
theorem readR_yes {acc : List Chg} {l : List UInt8} {c : Chg} {r : List (List UInt8 × Bool)} (h : acc.length ≠ 64) (hc : saysO l = some c) : readR acc ((l, true) :: r) = readR (acc ++ [c]) r := by
  rw [readR, if_neg h, hc]
  rfl
theorem readR_no {acc : List Chg} {l : List UInt8} {r : List (List UInt8 × Bool)} {e : Bool} (h : acc.length ≠ 64) (hc : saysO l = none ∨ e = false) : readR acc ((l, e) :: r) = ([], (acc.length : Int) + 1, 191) := by
  rw [readR, if_neg h, if_neg]
  rcases hc with hc | hc
  · simp [hc]
  · simp [hc]
/-- The text of changes. -/
def textL : List Chg → List UInt8
  | [] => []
  | c :: r => lineL c ++ 10 :: textL r
theorem textL_append (a b : List Chg) : textL (a ++ b) = textL a ++ textL b := by
  induction a with
  | nil => rfl
  | cons c r ih => simp [textL, ih]
theorem no_mem {α : Type} {x : α} {a b : List α} (ha : x ∉ a) (hb : x ∉ b) : x ∉ a ++ b := by simp [ha, hb]
theorem line_no {c : Chg} (h : rightB c = true) : (10 : UInt8) ∉ lineL c := by
  obtain ⟨k, hk, h1, h8⟩ := kind_cases h
  obtain ⟨ck, key, name, val, to⟩ := c
  simp only at hk
  subst hk
  simp only [rightB, Bool.and_eq_true] at h
  obtain ⟨_, h0, hn, hv, ht⟩ := h
  have hw := (@wordN_no k).2
  have e : ∀ l : List UInt8, (10 : UInt8) ∉ l → (10 : UInt8) ∉ 32 :: l := fun l hl => by simp [hl]
  have k0 : (10 : UInt8) ∉ bl key := (name_no (by simpa [partOk, hasB] using h0)).2
  have k1 : 3 ≤ (k : Int) → (10 : UInt8) ∉ bl name := fun hh => (name_no (by simpa [partOk, hasB, hh] using hn)).2
  have k2 : (k : Int) = 5 → (10 : UInt8) ∉ bl val := fun hh => (value_no (by simpa [partOk, hasB, hh] using hv)).1
  have k3 : 7 ≤ (k : Int) → (10 : UInt8) ∉ bl to := fun hh => (name_no (by simpa [partOk, hasB, hh] using ht)).2
  unfold lineL
  refine no_mem (no_mem (no_mem (no_mem (by simpa using hw) (e _ k0)) ?_) ?_) ?_
  · split
    · rename_i hh; exact e _ (k1 hh)
    · simp
  · split
    · rename_i hh
      have := k2 hh
      simpa using this
    · simp
  · split
    · rename_i hh; exact e _ (k3 hh)
    · simp
theorem says_text {c : Chg} (h : rightB c = true) : saysO (lineL c) = some c := saysO_some ⟨h, rfl⟩
theorem read_text (l : List Chg) : ∀ acc : List Chg, (∀ c ∈ l, rightB c = true) → acc.length + l.length ≤ 64 → readR acc (linesL (textL l)) = (acc ++ l, ((acc.length + l.length : Nat) : Int), 0) := by
  induction l with
  | nil => intro acc _ _; simp [textL, linesL, readR]
  | cons c r ih =>
    intro acc hr hl
    simp only [List.length_cons] at hl
    have hc := hr c (by simp)
    rw [textL, linesL_at (line_no hc), readR_yes (by omega) (says_text hc), ih (acc ++ [c]) (fun d hd => hr d (by simp [hd])) (by simp; omega)]
    simp
    omega
theorem text_read (ls : List (List UInt8 × Bool)) : ∀ (acc out : List Chg) (n : Int), acc.length ≤ 64 → readR acc ls = (out, n, 0) → ∃ l, out = acc ++ l ∧ glue ls = textL l ∧ (∀ c ∈ l, rightB c = true) ∧ n = out.length ∧ out.length ≤ 64 ∧ l.length = ls.length := by
  induction ls with
  | nil =>
    intro acc out n ha h
    simp only [readR, Prod.mk.injEq] at h
    obtain ⟨rfl, rfl, _⟩ := h
    exact ⟨[], by simp, rfl, by simp, rfl, ha, rfl⟩
  | cons p r ih =>
    intro acc out n ha h
    obtain ⟨l, e⟩ := p
    by_cases h64 : acc.length = 64
    · rw [readR_full h64] at h
      simp at h
    · rcases hs : saysO l with _ | c
      · rw [readR_no h64 (.inl hs)] at h
        simp at h
      · cases e
        · rw [readR_no h64 (.inr rfl)] at h
          simp at h
        · rw [readR_yes h64 hs] at h
          obtain ⟨m, h1, h2, h3, h4, h5, h6⟩ := ih (acc ++ [c]) out n (by simp; omega) h
          have hc := saysO_is hs
          refine ⟨c :: m, by rw [h1]; simp, ?_, ?_, h4, h5, by simp [h6]⟩
          · rw [glue, h2, textL, hc.2]
            simp [withF]
          · intro d hd
            rcases List.mem_cons.1 hd with rfl | hd
            · exact hc.1
            · exact h3 d hd
/-- What is told where nothing is. -/
theorem readR_err (ls : List (List UInt8 × Bool)) : ∀ (acc out : List Chg) (n e : Int), readR acc ls = (out, n, e) → (e = 0 ∨ e = 3 ∨ e = 191) ∧ (e ≠ 0 → out = []) := by
  induction ls with
  | nil =>
    intro acc out n e h
    simp only [readR, Prod.mk.injEq] at h
    obtain ⟨_, _, rfl⟩ := h
    exact ⟨.inl rfl, fun h => absurd rfl h⟩
  | cons p r ih =>
    intro acc out n e h
    obtain ⟨l, b⟩ := p
    by_cases h64 : acc.length = 64
    · rw [readR_full h64] at h
      simp only [Prod.mk.injEq] at h
      obtain ⟨rfl, _, rfl⟩ := h
      exact ⟨.inr (.inl rfl), fun _ => rfl⟩
    · rcases hs : saysO l with _ | c
      · rw [readR_no h64 (.inl hs)] at h
        simp only [Prod.mk.injEq] at h
        obtain ⟨rfl, _, rfl⟩ := h
        exact ⟨.inr (.inr rfl), fun _ => rfl⟩
      · cases b
        · rw [readR_no h64 (.inr rfl)] at h
          simp only [Prod.mk.injEq] at h
          obtain ⟨rfl, _, rfl⟩ := h
          exact ⟨.inr (.inr rfl), fun _ => rfl⟩
        · rw [readR_yes h64 hs] at h
          exact ih _ _ _ _ h
theorem readS_text {l : List Chg} (hr : ∀ c ∈ l, rightB c = true) (hl : l.length ≤ 64) : readS (textL l) = (l, (l.length : Int), 0) := by
  have := read_text l [] hr (by simpa using hl)
  simpa [readS] using this
theorem readS_ok {s : List UInt8} {out : List Chg} {n : Int} (h : readS s = (out, n, 0)) : textL out = s ∧ (∀ c ∈ out, rightB c = true) ∧ n = out.length ∧ out.length ≤ 64 := by
  obtain ⟨l, h1, h2, h3, h4, h5, _⟩ := text_read _ [] out n (by simp) h
  rw [List.nil_append] at h1
  subst h1
  rw [glue_lines] at h2
  exact ⟨h2.symm, h3, h4, h5⟩
theorem readS_no {s : List UInt8} {out : List Chg} {n e : Int} (h : readS s = (out, n, e)) (he : e ≠ 0) : out = [] := (readR_err _ [] out n e h).2 he

/-! ### A text cut at its first line feed -/
theorem index_feed (l : List UInt8) : (Lib.index l [10] = -1 ∧ (10 : UInt8) ∉ l) ∨ ∃ a b, l = a ++ 10 :: b ∧ (10 : UInt8) ∉ a ∧ Lib.index l [10] = (a.length : Int) := by
  induction l with
  | nil => exact .inl ⟨by simp [Lib.index], by simp⟩
  | cons c t ih =>
    by_cases hc : c = 10
    · subst hc
      exact .inr ⟨[], t, rfl, by simp, by simp [Lib.index]⟩
    · have hp : List.isPrefixOf [10] (c :: t) = false := by simp [List.isPrefixOf]; exact fun e => hc e.symm
      rcases ih with ⟨h1, h2⟩ | ⟨a, b, h1, h2, h3⟩
      · refine .inl ⟨?_, by simp [h2]; exact fun e => hc e.symm⟩
        rw [Lib.index, hp, h1]
        rfl
      · refine .inr ⟨c :: a, b, by rw [h1]; rfl, by simp [h2]; exact fun e => hc e.symm, ?_⟩
        rw [Lib.index, hp, h3]
        have : ((a.length : Int) == -1) = false := by simp
        simp [this]
theorem cut_feed {l : List UInt8} (h : l ≠ []) : linesL l = ((Lib.cut l [10]).1, (Lib.cut l [10]).2.2) :: linesL (Lib.cut l [10]).2.1 ∧ (Lib.cut l [10]).2.1.length < l.length := by
  rcases index_feed l with ⟨h1, h2⟩ | ⟨a, b, rfl, h2, h3⟩
  · have e : Lib.cut l [10] = (l, [], false) := by
      unfold Lib.cut
      rw [h1]
      rfl
    rw [e, linesL_no h2 h]
    exact ⟨rfl, List.length_pos_iff.2 h⟩
  · have e : Lib.cut (a ++ 10 :: b) [10] = (a, b, true) := by
      unfold Lib.cut
      rw [h3, if_pos (by omega)]
      simp
    rw [e, linesL_at h2]
    exact ⟨rfl, by simp; omega⟩
end Go.Proofs.Kit

