/- slices.BinarySearchFunc by run.Compare in a run; run.place; run.Has. -/
import Derived.Test.YtlhigfphfbmbjaaN3
namespace Go.Proofs.Kit
open Go.RowKit
/-- How many pairs stand ahead of p. -/
def plc (l : List Pr) (p : Pr) : Nat := l.countP fun x => decide (lt2 x p)
theorem plc_le (l : List Pr) (p : Pr) : plc l p ≤ l.length := List.countP_le_length
theorem plc_of {l : List Pr} {p : Pr} {i : Nat} (hi : i ≤ l.length) (h1 : ∀ k (h : k < l.length), k < i → lt2 l[k] p) (h2 : ∀ k (h : k < l.length), i ≤ k → ¬ lt2 l[k] p) : plc l p = i := by
  unfold plc
  rw [← List.take_append_drop i l, List.countP_append]
  have e1 : (l.take i).countP (fun x => decide (lt2 x p)) = (l.take i).length := List.countP_eq_length.2 fun x hx => by
    obtain ⟨k, hk, rfl⟩ := List.getElem_of_mem hx
    rw [List.length_take] at hk
    rw [List.getElem_take]
    simpa using h1 k (by omega) (by omega)
  have e2 : (l.drop i).countP (fun x => decide (lt2 x p)) = 0 := List.countP_eq_zero.2 fun x hx => by
    obtain ⟨k, hk, rfl⟩ := List.getElem_of_mem hx
    rw [List.length_drop] at hk
    rw [List.getElem_drop]
    simpa using h2 (i + k) (by omega) (by omega)
  rw [e1, e2, List.length_take]
  omega
theorem Run.below {l : List Pr} (h : Run l) {p : Pr} {i j : Nat} (hj : j < l.length) (hij : i ≤ j) (hl : lt2 l[j] p) : lt2 (l[i]'(by omega)) p := by
  by_cases e : i = j
  · subst e; exact hl
  · exact lt2_trans (h.at (by omega) hj (by omega)) hl
theorem plc_zero {l : List Pr} {x p : Pr} (h : ¬ lt2 x p) (hx : ∀ y ∈ l, lt2 x y) : plc l p = 0 := by
  refine List.countP_eq_zero.2 fun y hy => ?_
  simp only [decide_eq_true_eq]
  intro k
  exact h (lt2_trans (hx y hy) k)
theorem plc_lt : ∀ {l : List Pr} (_ : Run l) {p : Pr} {i : Nat} (hi : i < l.length), i < plc l p ↔ lt2 l[i] p
  | [], _, _, _, hi => by simp at hi
  | x :: t, h, p, i, hi => by
    have e : plc (x :: t) p = plc t p + if lt2 x p then 1 else 0 := by simp [plc, List.countP_cons]
    rw [e]
    by_cases hx : lt2 x p
    · rw [if_pos hx]
      cases i with
      | zero => simpa using hx
      | succ i =>
        have := plc_lt (l := t) h.tail (p := p) (i := i) (by simpa using hi)
        simp only [List.getElem_cons_succ]
        rw [← this]
        omega
    · rw [if_neg hx, plc_zero hx h.head]
      simp only [Nat.add_zero, Nat.not_lt_zero, false_iff]
      intro k
      cases i with
      | zero => exact hx k
      | succ i => exact hx (lt2_trans (h.head _ (List.getElem_mem (by simpa using hi))) k)
/-- Where p stands in a run, if it is there. -/
theorem plc_mem {l : List Pr} (h : Run l) (p : Pr) : p ∈ l ↔ ∃ hp : plc l p < l.length, l[plc l p] = p := by
  constructor
  · intro hm
    obtain ⟨i, hi, rfl⟩ := List.getElem_of_mem hm
    have : plc l l[i] = i := plc_of (Nat.le_of_lt hi) (fun k hk hki => h.at hk hi hki) (fun k hk hik hl => by
      by_cases e : k = i
      · subst e; exact lt2_irrefl _ hl
      · exact lt2_asymm hl (h.at hi hk (by omega)))
    exact ⟨by omega, by simp only [this]⟩
  · rintro ⟨hp, e⟩
    exact e ▸ List.getElem_mem hp
end Go.Proofs.Kit
namespace Go.Proofs.Ytlhigfphfbmbjaa
open Go.RowKit Go.Proofs.Kit

/-- Whether a run has a pair. -/
def hasP (l : List Pr) (p : Pr) : Bool := decide ((Run l ∧ l.length ≤ 1048576) ∧ p ∈ l)
theorem ckP_yes {l : List Pr} (h : Run l ∧ l.length ≤ 1048576) : ckP l = 0 := if_pos h
theorem ckP_no {l : List Pr} (h : ¬ (Run l ∧ l.length ≤ 1048576)) : ckP l = 130 := if_neg h
end Go.Proofs.Ytlhigfphfbmbjaa

