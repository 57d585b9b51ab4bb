/- BatchAlone, the plain part: the pieces of a text behind each feed; what is read of the first of them, and of one alone. No program is named here. -/
import Derived.Test.YtoajaacdhkknfaaDoorX00
import Derived.Lib.Split
import Derived.Lib.SplitLaws
namespace Go.Proofs.Kit
open Go.RowKit
/-- Are all lines ended? -/
def fedL (L : List UInt8) : Bool := (linesL L).all fun p => p.2
def afterL (L : List UInt8) : List (List UInt8) := (linesL L).map withF ++ if fedL L then [[]] else []
theorem afterL_no {L : List UInt8} (h : (10 : UInt8) ∉ L) : afterL L = [L] := by
  by_cases e : L = []
  · subst e; rfl
  · simp [afterL, fedL, linesL_no h e, withF]
theorem afterL_at {a b : List UInt8} (h : (10 : UInt8) ∉ a) : afterL (a ++ 10 :: b) = (a ++ [10]) :: afterL b := by
  unfold afterL fedL
  rw [linesL_at h]
  rfl
theorem splitK_after : ∀ (k : Nat) (L : List UInt8), L.count 10 = k → Lib.splitK [10] 1 k L = afterL L
  | 0, L, h => by
    rw [afterL_no (List.count_eq_zero.1 h)]
    rfl
  | k + 1, L, h => by
    rcases index_feed L with ⟨_, hno⟩ | ⟨a, b, rfl, hno, hix⟩
    · rw [List.count_eq_zero.2 hno] at h
      cases h
    · have hb : b.count 10 = k := by
        rw [List.count_append, List.count_cons_self, List.count_eq_zero.2 hno] at h
        omega
      rw [afterL_at hno, Lib.splitK, if_neg (by rw [hix]; simp), hix, ← splitK_after k b hb]
      have e1 : (a ++ 10 :: b).take (((a.length : Nat) : Int).toNat + 1) = a ++ [10] := by
        rw [Int.toNat_natCast, List.take_append, List.take_of_length_le (by omega)]
        simp
      have e2 : (a ++ 10 :: b).drop (((a.length : Nat) : Int).toNat + [(10 : UInt8)].length) = b := by
        rw [Int.toNat_natCast, List.drop_append, List.drop_eq_nil_of_le (by simp)]
        simp
      rw [e1, e2]
theorem afterL_len (L : List UInt8) : (afterL L).length = (linesL L).length + if fedL L then 1 else 0 := by
  unfold afterL
  split <;> simp
theorem lines_mem' : ∀ l : List UInt8, ∀ p ∈ linesL l, (10 : UInt8) ∉ p.1 ∧ (p.2 = false → p.1 ≠ [])
  | [], p, h => by simp [linesL] at h
  | c :: t, p, h => by
    have ih := lines_mem' t
    rw [linesL] at h
    split at h
    · rcases List.mem_cons.1 h with rfl | h
      · simp
      · exact ih p h
    · rename_i hc
      split at h
      · rw [List.mem_singleton.1 h]
        simp only [List.mem_singleton]
        exact ⟨fun e => hc e.symm, by simp⟩
      · rename_i a e r hr
        rcases List.mem_cons.1 h with rfl | h
        · have := ih (a, e) (by rw [hr]; simp)
          refine ⟨?_, by simp⟩
          simp only [List.mem_cons, not_or]
          exact ⟨fun e => hc e.symm, this.1⟩
        · exact ih p (by rw [hr]; simp [h])
/-- What lines of changes are. -/
def saidL (l : List Chg) : List (List UInt8 × Bool) := l.map fun c => (lineL c, true)
theorem glue_said (l : List Chg) : glue (saidL l) = textL l := by
  induction l with
  | nil => rfl
  | cons c r ih =>
    show withF (lineL c, true) ++ glue (saidL r) = _
    rw [ih]
    simp [withF, textL]
theorem readR_long (ls : List (List UInt8 × Bool)) : ∀ (acc out : List Chg) (n : Int), acc.length ≤ 64 → readR acc ls = (out, n, 3) → n = 0 ∧ out = [] ∧ 64 < acc.length + ls.length := by
  induction ls with
  | nil =>
    intro acc out n _ h
    simp [readR] at h
  | cons p r ih =>
    intro acc out n ha h
    obtain ⟨l, e⟩ := p
    by_cases h64 : acc.length = 64
    · rw [readR_full h64] at h
      simp only [Prod.mk.injEq] at h
      exact ⟨h.2.1.symm, h.1.symm, by simp; omega⟩
    · rcases hs : saysO l with _ | c
      · rw [readR_no h64 (.inl hs)] at h
        simp at h
      · cases e
        · rw [readR_no h64 (.inr rfl)] at h
          simp at h
        · rw [readR_yes h64 hs] at h
          obtain ⟨h1, h2, h3⟩ := ih (acc ++ [c]) out n (by simp; omega) h
          exact ⟨h1, h2, by simp at h3 ⊢; omega⟩
theorem readR_line (ls : List (List UInt8 × Bool)) : ∀ (acc out : List Chg) (n : Int), acc.length ≤ 64 → readR acc ls = (out, n, 191) →
    out = [] ∧ ∃ (l : List Chg) (p : List UInt8 × Bool) (r : List (List UInt8 × Bool)), ls = saidL l ++ p :: r ∧ (∀ c ∈ l, rightB c = true) ∧ acc.length + l.length < 64 ∧ n = (acc.length + l.length : Nat) + 1 ∧ (saysO p.1 = none ∨ p.2 = false) := by
  induction ls with
  | nil =>
    intro acc out n _ h
    simp [readR] at h
  | cons p r ih =>
    intro acc out n ha h
    obtain ⟨l, e⟩ := p
    by_cases h64 : acc.length = 64
    · rw [readR_full h64] at h
      simp at h
    · by_cases hbad : saysO l = none ∨ e = false
      · rw [readR_no h64 hbad] at h
        simp only [Prod.mk.injEq] at h
        exact ⟨h.1.symm, [], (l, e), r, rfl, by simp, by simp; omega, by rw [← h.2.1]; simp, hbad⟩
      · rcases hs : saysO l with _ | c
        · exact absurd (.inl hs) hbad
        · cases e
          · exact absurd (.inr rfl) hbad
          · rw [readR_yes h64 hs] at h
            obtain ⟨h1, m, q, r', h2, h3, h4, h5, h6⟩ := ih (acc ++ [c]) out n (by simp; omega) h
            have hc := saysO_is hs
            refine ⟨h1, c :: m, q, r', ?_, ?_, by simp at h4 ⊢; omega, by rw [h5]; simp; omega, h6⟩
            · rw [h2, saidL, saidL, List.map_cons, hc.2]
              rfl
            · intro d hd
              rcases List.mem_cons.1 hd with rfl | hd
              · exact hc.1
              · exact h3 d hd
theorem readR_all (ls : List (List UInt8 × Bool)) : ∀ (acc out : List Chg) (n : Int), acc.length ≤ 64 → readR acc ls = (out, n, 0) → ∃ l, out = acc ++ l ∧ ls = saidL l ∧ (∀ c ∈ l, rightB c = true) ∧ n = out.length ∧ out.length ≤ 64 := by
  induction ls with
  | nil =>
    intro acc out n ha h
    simp only [readR, Prod.mk.injEq] at h
    obtain ⟨rfl, rfl, _⟩ := h
    exact ⟨[], by simp, rfl, by simp, rfl, ha⟩
  | cons p r ih =>
    intro acc out n ha h
    obtain ⟨l, e⟩ := p
    by_cases h64 : acc.length = 64
    · rw [readR_full h64] at h
      simp at h
    · rcases hs : saysO l with _ | c
      · rw [readR_no h64 (.inl hs)] at h
        simp at h
      · cases e
        · rw [readR_no h64 (.inr rfl)] at h
          simp at h
        · rw [readR_yes h64 hs] at h
          obtain ⟨m, h1, h2, h3, h4, h5⟩ := ih (acc ++ [c]) out n (by simp; omega) h
          have hc := saysO_is hs
          refine ⟨c :: m, by rw [h1]; simp, ?_, ?_, h4, h5⟩
          · rw [h2, saidL, saidL, List.map_cons, hc.2]
          · intro d hd
            rcases List.mem_cons.1 hd with rfl | hd
            · exact hc.1
            · exact h3 d hd
/-- One line that says nothing, alone. -/
theorem read_one_no {p : List UInt8 × Bool} (h1 : (10 : UInt8) ∉ p.1) (h2 : p.2 = false → p.1 ≠ []) (h : saysO p.1 = none ∨ p.2 = false) : readS (withF p) = ([], 1, 191) := by
  obtain ⟨a, e⟩ := p
  have hl : linesL (withF (a, e)) = [(a, e)] := by
    cases e
    · simpa [withF] using linesL_no h1 (h2 rfl)
    · have := linesL_at (b := []) h1
      simpa [withF, linesL] using this
  show readR [] (linesL (withF (a, e))) = _
  rw [hl, readR_no (by simp) h]
  rfl
end Go.Proofs.Kit
namespace Go.Proofs.Kit
theorem readR_e (ls : List (List UInt8 × Bool)) : ∀ (acc : List Chg), (readR acc ls).2.2 = 0 ∨ (readR acc ls).2.2 = 3 ∨ (readR acc ls).2.2 = 191 := by
  induction ls with
  | nil => intro acc; exact .inl rfl
  | cons p r ih =>
    intro acc
    rw [readR]
    split
    · exact .inr (.inl rfl)
    · split
      · exact ih _
      · exact .inr (.inr rfl)
theorem after_get {L : List UInt8} {i : Nat} (h : i < (linesL L).length) : (afterL L)[i]? = some (withF (linesL L)[i]) := by
  rw [afterL, List.getElem?_append_left (by simpa using h)]
  simp [h]
theorem take_after {L : List UInt8} {q : Nat} (h : q ≤ (linesL L).length) : ((afterL L).take q) = ((linesL L).take q).map withF := by
  rw [afterL, List.take_append_of_le_length (by simpa using h), List.map_take]
theorem flat_withF (ls : List (List UInt8 × Bool)) : (ls.map withF).flatten = glue ls := by
  induction ls with
  | nil => rfl
  | cons p r ih => simp [glue, ih]
/-- Too many. -/
theorem alone_long {L : List UInt8} {out : List Chg} {n : Int} (h : readS L = (out, n, 3)) : n = 0 ∧ out = [] ∧ 64 < (afterL L).length := by
  obtain ⟨h1, h2, h3⟩ := readR_long _ [] out n (by simp) h
  have := afterL_len L
  exact ⟨h1, h2, by simp at h3; omega⟩
/-- A line that says nothing: what is ahead of it, and it alone. -/
theorem alone_line {L : List UInt8} {out : List Chg} {n : Int} (h : readS L = (out, n, 191)) :
    out = [] ∧ ∃ (q : Nat) (l : List Chg) (x : List UInt8), n = (q : Int) + 1 ∧ q < (afterL L).length ∧ l.length = q ∧ q < 64 ∧ readS ((afterL L).take q).flatten = (l, (q : Int), 0) ∧ (afterL L)[q]? = some x ∧ readS x = ([], 1, 191) := by
  obtain ⟨h1, l, p, r, h2, h3, h4, h5, h6⟩ := readR_line _ [] out n (by simp) h
  have hlen : l.length < (linesL L).length := by rw [h2]; simp [saidL]
  have hp : (linesL L)[l.length] = p := by
    have : (linesL L)[l.length]? = some p := by rw [h2, List.getElem?_append_right (by simp [saidL])]; simp [saidL]
    rw [List.getElem?_eq_getElem hlen] at this
    exact Option.some.inj this
  have htk : (linesL L).take l.length = saidL l := by rw [h2]; exact List.take_left' (by simp [saidL])
  have hm := lines_mem' L p (by rw [← hp]; exact List.getElem_mem hlen)
  refine ⟨h1, l.length, l, withF p, by rw [h5]; simp, by have := afterL_len L; omega, rfl, by simpa using h4, ?_, ?_, read_one_no hm.1 hm.2 h6⟩
  · rw [take_after (by omega), flat_withF, htk, glue_said]
    exact readS_text h3 (by simp at h4; omega)
  · rw [after_get hlen, hp]
/-- All of it: each piece alone. -/
theorem alone_all {L : List UInt8} {out : List Chg} {n : Int} (h : readS L = (out, n, 0)) :
    n = out.length ∧ out.length ≤ 64 ∧ (afterL L).length = out.length + 1 ∧ (∀ c ∈ out, rightB c = true) ∧ ∀ i (hi : i < out.length), (afterL L)[i]? = some (lineL out[i] ++ [10]) ∧ readS (lineL out[i] ++ [10]) = ([out[i]], 1, 0) := by
  obtain ⟨l, h1, h2, h3, h4, h5⟩ := readR_all _ [] out n (by simp) h
  rw [List.nil_append] at h1
  subst h1
  have hll : (linesL L).length = out.length := by rw [h2]; simp [saidL]
  have hf : fedL L = true := by simp [fedL, h2, saidL]
  refine ⟨h4, h5, by rw [afterL_len, hf, hll]; rfl, h3, fun i hi => ⟨?_, ?_⟩⟩
  · have hg : (linesL L)[i]'(by omega) = (lineL out[i], true) := by
      have : (linesL L)[i]? = some (lineL out[i], true) := by rw [h2]; simp [saidL, hi]
      rw [List.getElem?_eq_getElem (by omega)] at this
      exact Option.some.inj this
    rw [after_get (by omega), hg]
    rfl
  · have := readS_text (l := [out[i]]) (by simpa using h3 _ (List.getElem_mem hi)) (by simp)
    simpa [textL] using this
end Go.Proofs.Kit

