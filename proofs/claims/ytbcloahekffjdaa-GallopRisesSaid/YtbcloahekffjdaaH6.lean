/- What two rows that rise have both, found by leaping in whichever is behind: plain facts; no program is named here. -/
import Derived.Test.YtbcloahekffjdaaH0
namespace Go.Proofs.Kit

/-- What both have. -/
def mt (a b : List Int) : List Int := a.filter fun x => decide (x ∈ b)
theorem mt_mem {a b : List Int} {x : Int} : x ∈ mt a b ↔ x ∈ a ∧ x ∈ b := by simp [mt]
theorem mt_len (a b : List Int) : (mt a b).length ≤ a.length := List.length_filter_le _ _
theorem mt_inc {a b : List Int} (h : Inc a) : Inc (mt a b) := List.Pairwise.sublist List.filter_sublist h
theorem filter_more {a b : List Int} {i i1 : Nat} (h : i ≤ i1) (hn : ∀ k (_ : k < a.length), i ≤ k → k < i1 → a[k] ∉ b) : mt (a.take i1) b = mt (a.take i) b := by
  have e : a.take i1 = a.take i ++ (a.take i1).drop i := by
    have := List.take_append_drop i (a.take i1)
    rw [List.take_take, Nat.min_eq_left h] at this
    exact this.symm
  rw [e]
  unfold mt
  rw [List.filter_append]
  have e2 : ((a.take i1).drop i).filter (fun x => decide (x ∈ b)) = [] := by
    refine List.filter_eq_nil_iff.2 fun x hx => ?_
    obtain ⟨k, hk, rfl⟩ := List.getElem_of_mem hx
    simp only [List.length_drop, List.length_take] at hk
    simp only [List.getElem_drop, List.getElem_take, decide_eq_true_eq]
    exact hn (i + k) (by omega) (by omega) (by omega)
  rw [e2, List.append_nil]
theorem mt_snoc {a b : List Int} {i : Nat} (hi : i < a.length) (hb : a[i] ∈ b) : mt (a.take (i + 1)) b = mt (a.take i) b ++ [a[i]] := by
  rw [List.take_succ_eq_append_getElem hi]
  unfold mt
  rw [List.filter_append, List.filter_cons_of_pos (by simpa using hb), List.filter_nil]

/-- So many looks a leap may take at most, and one more. -/
def lkc (a b : List Int) : Nat := 3 + 2 * Nat.log2 (1 + max a.length b.length)
/-- What stands at places i and j. -/
structure MI (a b : List Int) (i j : Nat) (F : List Int) (q : Nat) : Prop where
  hi : i ≤ a.length
  hj : j ≤ b.length
  m1 : F.length ≤ i
  m2 : F.length ≤ j
  o1 : ∀ k (_ : k < a.length) k' (_ : k' < b.length), k < i → j ≤ k' → a[k] < b[k']
  o2 : ∀ k (_ : k < a.length) k' (_ : k' < b.length), i ≤ k → k' < j → b[k'] < a[k]
  fd : mt (a.take i) b = F
  qa : q ≤ lkc a b * (2 * j) ∨ (q ≤ lkc a b * (2 * j + 1) ∧ (i = a.length ∨ ∃ (h : i < a.length) (h' : j < b.length), b[j] ≤ a[i]))
  qb : q ≤ lkc a b * (2 * i) ∨ (q ≤ lkc a b * (2 * i + 1) ∧ (j = b.length ∨ ∃ (h : i < a.length) (h' : j < b.length), a[i] ≤ b[j]))
  qz : q ≠ 0 → 0 < a.length ∧ 0 < b.length
theorem MI.start (a b : List Int) : MI a b 0 0 [] 0 :=
  ⟨Nat.zero_le _, Nat.zero_le _, Nat.le_refl _, Nat.le_refl _, fun _ _ _ _ h => by omega, fun _ _ _ _ _ h => by omega, by simp [mt], .inl (Nat.zero_le _), .inl (Nat.zero_le _), fun h => absurd rfl h⟩
theorem lkc_leap {a b : List Int} {n f s q : Nat} (h : Lks n f s q) (hf : f ≤ n) (hs : s ≤ n) (hn : n = a.length ∨ n = b.length) (hf1 : 1 ≤ f) : q + 1 ≤ lkc a b := by
  by_cases e : f = n
  · have := h.1 e
    unfold lkc; omega
  · have h2 := (h.2 (by omega)).2
    have := log2_mono (a := 1 + s - f) (b := 1 + max a.length b.length) (by rcases hn with rfl | rfl <;> omega)
    unfold lkc; omega
theorem mul_step {C q x y : Nat} (h : q ≤ C * x) (hy : x + 1 ≤ y) {d : Nat} (hd : d ≤ C) : q + d ≤ C * y := by
  have h1 : C * (x + 1) ≤ C * y := Nat.mul_le_mul_left C hy
  rw [Nat.mul_succ] at h1
  omega
section
variable {a b F : List Int} {i j q : Nat}
/-- What stands in the first row is less: a leap there. -/
theorem MI.left (h : MI a b i j F q) (hb : Inc b) (hi : i < a.length) (hj : j < b.length) (hlt : a[i] < b[j]) {d : Nat} (hd : Lks a.length (i + 1) (sk (ge b[j]) a (i + 1)) d) :
    MI a b (sk (ge b[j]) a (i + 1)) j F (q + 1 + d) := by
  have g1 := sk_ge (ge b[j]) a (i + 1)
  have g2 := sk_le (p := ge b[j]) (l := a) (f := i + 1) (by omega)
  have hbl : ∀ k (hk : k < a.length), i ≤ k → k < sk (ge b[j]) a (i + 1) → a[k] < b[j] := fun k hk hik hks => by
    by_cases e : k = i
    · subst e; exact hlt
    · have := sk_before (p := ge b[j]) (show i + 1 ≤ k by omega) hks hk
      simp only [ge, decide_eq_false_iff_not] at this
      omega
  have hC := lkc_leap (a := a) (b := b) hd (by omega) g2 (.inl rfl) (by omega)
  have m1 := h.m1
  refine ⟨g2, h.hj, by omega, h.m2, ?_, fun k hk k' hk' h1 h2 => h.o2 k hk k' hk' (by omega) h2, ?_, .inr ⟨?_, ?_⟩, .inl ?_, fun _ => ⟨by omega, by omega⟩⟩
  · intro k hk k' hk' h1 h2
    by_cases e : k < i
    · exact h.o1 k hk k' hk' e h2
    · have := hbl k hk (by omega) h1
      have := hb.le hk' h2
      omega
  · rw [filter_more (show i ≤ sk (ge b[j]) a (i + 1) by omega), h.fd]
    intro k hk h1 h2 hm
    obtain ⟨k', hk', e⟩ := List.getElem_of_mem hm
    have h3 := hbl k hk h1 h2
    by_cases c : k' < j
    · have := h.o2 k hk k' hk' h1 c; omega
    · have := hb.le hk' (show j ≤ k' by omega); omega
  · rcases h.qa with qa | ⟨_, e | ⟨_, _, e⟩⟩
    · rw [Nat.add_assoc, Nat.add_comm 1 d]; exact mul_step qa (Nat.le_refl _) hC
    · omega
    · omega
  · by_cases c : sk (ge b[j]) a (i + 1) < a.length
    · have := sk_at c
      simp only [ge, decide_eq_true_eq] at this
      exact .inr ⟨c, hj, this⟩
    · exact .inl (by omega)
  · rw [Nat.add_assoc, Nat.add_comm 1 d]
    rcases h.qb with qb | ⟨qb, _⟩
    · exact mul_step qb (by omega) hC
    · exact mul_step qb (by omega) hC
/-- What stands in the second row is less: a leap there. -/
theorem MI.right (h : MI a b i j F q) (ha : Inc a) (hi : i < a.length) (hj : j < b.length) (hlt : b[j] < a[i]) {d : Nat} (hd : Lks b.length (j + 1) (sk (ge a[i]) b (j + 1)) d) :
    MI a b i (sk (ge a[i]) b (j + 1)) F (q + 1 + d) := by
  have g1 := sk_ge (ge a[i]) b (j + 1)
  have g2 := sk_le (p := ge a[i]) (l := b) (f := j + 1) (by omega)
  have hbl : ∀ k (hk : k < b.length), j ≤ k → k < sk (ge a[i]) b (j + 1) → b[k] < a[i] := fun k hk hik hks => by
    by_cases e : k = j
    · subst e; exact hlt
    · have := sk_before (p := ge a[i]) (show j + 1 ≤ k by omega) hks hk
      simp only [ge, decide_eq_false_iff_not] at this
      omega
  have hC := lkc_leap (a := a) (b := b) hd (by omega) g2 (.inr rfl) (by omega)
  have m2 := h.m2
  refine ⟨h.hi, g2, h.m1, by omega, fun k hk k' hk' h1 h2 => h.o1 k hk k' hk' h1 (by omega), ?_, h.fd, .inl ?_, .inr ⟨?_, ?_⟩, fun _ => ⟨by omega, by omega⟩⟩
  · intro k hk k' hk' h1 h2
    by_cases e : k' < j
    · exact h.o2 k hk k' hk' h1 e
    · have := hbl k' hk' (by omega) h2
      have := ha.le hk h1
      omega
  · rw [Nat.add_assoc, Nat.add_comm 1 d]
    rcases h.qa with qa | ⟨qa, _⟩
    · exact mul_step qa (by omega) hC
    · exact mul_step qa (by omega) hC
  · rcases h.qb with qb | ⟨_, e | ⟨_, _, e⟩⟩
    · rw [Nat.add_assoc, Nat.add_comm 1 d]; exact mul_step qb (Nat.le_refl _) hC
    · omega
    · omega
  · by_cases c : sk (ge a[i]) b (j + 1) < b.length
    · have := sk_at c
      simp only [ge, decide_eq_true_eq] at this
      exact .inr ⟨hi, c, this⟩
    · exact .inl (by omega)
/-- Both stand there. -/
theorem MI.both (h : MI a b i j F q) (ha : Inc a) (hb : Inc b) (hi : i < a.length) (hj : j < b.length) (he : a[i] = b[j]) : MI a b (i + 1) (j + 1) (F ++ [a[i]]) (q + 1) := by
  have m1 := h.m1
  have m2 := h.m2
  have hC : 1 ≤ lkc a b := by unfold lkc; omega
  refine ⟨by omega, by omega, by simp; omega, by simp; omega, ?_, ?_, ?_, .inl ?_, .inl ?_, fun _ => ⟨by omega, by omega⟩⟩
  · intro k hk k' hk' h1 h2
    by_cases e : k < i
    · exact h.o1 k hk k' hk' e (by omega)
    · obtain rfl : k = i := by omega
      rw [he]; exact hb.at hj hk' (by omega)
  · intro k hk k' hk' h1 h2
    by_cases e : k' < j
    · exact h.o2 k hk k' hk' (by omega) e
    · obtain rfl : k' = j := by omega
      rw [← he]; exact ha.at hi hk (by omega)
  · rw [mt_snoc hi (by rw [he]; exact List.getElem_mem hj), h.fd]
  · rcases h.qa with qa | ⟨qa, _⟩
    · exact mul_step qa (by omega) hC
    · exact mul_step qa (by omega) hC
  · rcases h.qb with qb | ⟨qb, _⟩
    · exact mul_step qb (by omega) hC
    · exact mul_step qb (by omega) hC
/-- One row is at its end. -/
theorem MI.done (h : MI a b i j F q) (e : ¬ (i < a.length ∧ j < b.length)) : F = mt a b ∧ q ≤ 8 + 8 * min a.length b.length * (1 + Nat.log2 (1 + max a.length b.length)) := by
  have hi := h.hi
  have hj := h.hj
  constructor
  · rw [← h.fd]
    by_cases c : i = a.length
    · rw [c, List.take_of_length_le (Nat.le_refl _)]
    · have := filter_more (a := a) (b := b) (i := i) (i1 := a.length) hi fun k hk h1 _ hm => by
        obtain ⟨k', hk', e'⟩ := List.getElem_of_mem hm
        have := h.o2 k hk k' hk' h1 (by omega)
        omega
      rw [List.take_of_length_le (Nat.le_refl a.length)] at this
      exact this.symm
  · have b1 : q ≤ lkc a b * (2 * j + 1) := by
      rcases h.qa with qa | ⟨qa, _⟩
      · exact mul_step qa (by omega) (Nat.zero_le _)
      · exact qa
    have b2 : q ≤ lkc a b * (2 * i + 1) := by
      rcases h.qb with qb | ⟨qb, _⟩
      · exact mul_step qb (by omega) (Nat.zero_le _)
      · exact qb
    have b3 : q ≤ lkc a b * (2 * min a.length b.length + 1) := by
      rcases Nat.le_total a.length b.length with hl | hl
      · rw [Nat.min_eq_left hl]; exact Nat.le_trans b2 (Nat.mul_le_mul_left _ (by omega))
      · rw [Nat.min_eq_right hl]; exact Nat.le_trans b1 (Nat.mul_le_mul_left _ (by omega))
    obtain ⟨m, hm⟩ : ∃ m, m = min a.length b.length := ⟨_, rfl⟩
    rw [← hm] at b3 ⊢
    unfold lkc at b3
    obtain ⟨l, hl⟩ : ∃ l, l = Nat.log2 (1 + max a.length b.length) := ⟨_, rfl⟩
    rw [← hl] at b3 ⊢
    by_cases z : q = 0
    · omega
    · have hz := h.qz z
      have hm1 : 1 ≤ m := by omega
      have e1 : (3 + 2 * l) * (2 * m + 1) = 6 * m + 3 + 4 * (l * m) + 2 * l := by
        have e0 : 2 * l * (2 * m) = 4 * (l * m) := by rw [Nat.mul_assoc, Nat.mul_left_comm l 2 m]; omega
        rw [Nat.add_mul, Nat.mul_add (2 * l), e0]; omega
      have e2 : 8 * m * (1 + l) = 8 * m + 8 * (l * m) := by rw [Nat.mul_add, Nat.mul_assoc 8 m l, Nat.mul_comm m l]; omega
      have e3 : l ≤ l * m := Nat.le_mul_of_pos_right l hm1
      rw [e1] at b3
      rw [e2]
      omega
/-- The looks are few. -/
theorem MI.small (h : MI a b i j F q) (la : a.length ≤ 100000) (lb : b.length ≤ 100000) : q ≤ 200000000 := by
  have hj := h.hj
  have hl : Nat.log2 (1 + max a.length b.length) < 17 := (Nat.log2_lt (by omega)).2 (by omega)
  have hC : lkc a b ≤ 37 := by unfold lkc; omega
  have b1 : q ≤ lkc a b * (2 * j + 1) := by
    rcases h.qa with qa | ⟨qa, _⟩
    · exact mul_step qa (by omega) (Nat.zero_le _)
    · exact qa
  have b2 : lkc a b * (2 * j + 1) ≤ 37 * 200001 := Nat.mul_le_mul hC (by omega)
  omega
end
end Go.Proofs.Kit
