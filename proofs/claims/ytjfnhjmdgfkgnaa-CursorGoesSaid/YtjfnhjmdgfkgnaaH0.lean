/- Rows that rise, places that are sought, logs, and what a search by leaps and halves keeps: plain facts; no program is named here. -/
import Derived.Test.YtjfnhjmdgfkgnaaKit
namespace Go.Proofs.Kit

/-- A row that rises. -/
def Inc (l : List Int) : Prop := l.Pairwise (· < ·)
instance (l : List Int) : Decidable (Inc l) := inferInstanceAs (Decidable (l.Pairwise (· < ·)))
theorem Inc.at {l : List Int} (h : Inc l) {i j : Nat} (hi : i < l.length) (hj : j < l.length) (hij : i < j) : l[i] < l[j] := List.pairwise_iff_getElem.1 h i j hi hj hij
theorem Inc.le {l : List Int} (h : Inc l) {i j : Nat} (hj : j < l.length) (hij : i ≤ j) : l[i]'(by omega) ≤ l[j] := by
  by_cases e : i = j
  · subst e; exact Int.le_refl _
  · have := h.at (by omega) hj (show i < j by omega); omega
theorem inc_of {l : List Int} (h : ∀ i (h : i + 1 < l.length), l[i] < l[i + 1]) : Inc l := by
  refine List.pairwise_iff_getElem.2 fun i j hi hj hij => ?_
  obtain ⟨d, rfl⟩ : ∃ d, j = i + 1 + d := ⟨j - i - 1, by omega⟩
  clear hij
  induction d with
  | zero => exact h i hj
  | succ d ih =>
    have h1 := ih (by omega)
    have h2 := h (i + 1 + d) (by omega)
    exact Int.lt_trans h1 h2
theorem inc_take_succ {l : List Int} {k : Nat} (hk : k < l.length) (h0 : 0 < k) (h : Inc (l.take k)) (hl : l[k - 1] < l[k]) : Inc (l.take (k + 1)) := by
  refine inc_of fun i hi => ?_
  have hi' : i + 1 < k + 1 := by simp at hi; omega
  simp only [List.getElem_take]
  by_cases e : i + 1 = k
  · subst e; simpa using hl
  · have := h.at (i := i) (j := i + 1) (by simp; omega) (by simp; omega) (by omega)
    simpa using this
theorem Inc.take {l : List Int} (h : Inc l) (n : Nat) : Inc (l.take n) := List.Pairwise.sublist (List.take_sublist _ _) h
theorem Inc.drop {l : List Int} (h : Inc l) (n : Nat) : Inc (l.drop n) := List.Pairwise.sublist (List.drop_sublist _ _) h
theorem inc_nil : Inc [] := List.Pairwise.nil

/-- The first place from f on that is sought. -/
def sk (p : Int → Bool) (l : List Int) (f : Nat) : Nat := f + (l.drop f).findIdx p
theorem sk_ge (p : Int → Bool) (l : List Int) (f : Nat) : f ≤ sk p l f := Nat.le_add_right _ _
theorem sk_le {p : Int → Bool} {l : List Int} {f : Nat} (h : f ≤ l.length) : sk p l f ≤ l.length := by
  have := List.findIdx_le_length (p := p) (xs := l.drop f)
  rw [List.length_drop] at this
  unfold sk; omega
theorem sk_before {p : Int → Bool} {l : List Int} {f k : Nat} (h1 : f ≤ k) (h2 : k < sk p l f) (hk : k < l.length) : p l[k] = false := by
  have h3 : k - f < (l.drop f).findIdx p := by unfold sk at h2; omega
  have := List.not_of_lt_findIdx h3
  rw [List.getElem_drop] at this
  simpa [show f + (k - f) = k by omega] using this
theorem sk_at {p : Int → Bool} {l : List Int} {f : Nat} (h : sk p l f < l.length) : p l[sk p l f] = true := by
  have h3 : (l.drop f).findIdx p < (l.drop f).length := by rw [List.length_drop]; unfold sk at h; omega
  have := List.findIdx_getElem (w := h3)
  rw [List.getElem_drop] at this
  exact this
theorem sk_of {p : Int → Bool} {l : List Int} {f i : Nat} (h1 : f ≤ i) (h2 : i ≤ l.length) (h3 : ∀ k (_ : k < l.length), f ≤ k → k < i → p l[k] = false) (h4 : ∀ _ : i < l.length, p l[i] = true) : sk p l f = i := by
  rcases Nat.lt_trichotomy (sk p l f) i with h | h | h
  · have hl : sk p l f < l.length := by omega
    have a := sk_at hl
    rw [h3 _ hl (sk_ge _ _ _) h] at a
    cases a
  · exact h
  · have hs := sk_le (p := p) (l := l) (f := f) (by omega)
    have hl : i < l.length := by omega
    have a := sk_before h1 h hl
    rw [h4 hl] at a
    cases a

/-- Behind a number that is, all are. -/
def Mono (p : Int → Bool) (l : List Int) : Prop := ∀ i j (hj : j < l.length) (hij : i ≤ j), p (l[i]'(by omega)) = true → p l[j] = true
def ge (key : Int) : Int → Bool := fun n => decide (key ≤ n)
def gt (key : Int) : Int → Bool := fun n => decide (key < n)
theorem mono_ge {l : List Int} (h : Inc l) (key : Int) : Mono (ge key) l := fun i j hj hij hp => by
  have := h.le hj hij
  simp only [ge, decide_eq_true_eq] at hp ⊢
  omega
theorem mono_gt {l : List Int} (h : Inc l) (key : Int) : Mono (gt key) l := fun i j hj hij hp => by
  have := h.le hj hij
  simp only [gt, decide_eq_true_eq] at hp ⊢
  omega

/-- So many looks may be taken: of n places, from f on, where the place is a. -/
def Lks (n f a q : Nat) : Prop := (f = n → q = 0) ∧ (f < n → 1 ≤ q ∧ q ≤ 2 + 2 * Nat.log2 (1 + a - f))

/-- What a search keeps: the place lies from low to high, fewer than 2^m lie between. -/
structure Sch (p : Int → Bool) (l : List Int) (f low high looks m : Nat) : Prop where
  h1 : f ≤ low
  h2 : low ≤ high
  h3 : high ≤ l.length
  before : ∀ k (_ : k < l.length), f ≤ k → k < low → p l[k] = false
  after : ∀ k (_ : k < l.length), high ≤ k → p l[k] = true
  win : high < low + 2 ^ m
  few : f < l.length → 1 ≤ looks ∧ looks + m ≤ 2 + 2 * Nat.log2 (1 + low - f)
  none : f = l.length → looks = 0
theorem log2_mono {a b : Nat} (h : a ≤ b) : Nat.log2 a ≤ Nat.log2 b := by
  by_cases ha : a = 0
  · subst ha; simp
  · exact (Nat.le_log2 (by omega)).2 (Nat.le_trans (Nat.log2_self_le ha) h)
section
variable {p : Int → Bool} {l : List Int} {f low high looks m : Nat}
theorem Sch.done (h : Sch p l f low high looks m) (e : ¬ low < high) : low = sk p l f ∧ Lks l.length f (sk p l f) looks := by
  have h1 := h.h1; have h2 := h.h2; have h3 := h.h3
  have e1 : low = high := by omega
  have hs : sk p l f = low := sk_of h1 (by omega) h.before (fun hl => h.after low hl (by omega))
  rw [hs]
  refine ⟨rfl, h.none, fun hf => ⟨(h.few hf).1, ?_⟩⟩
  have := (h.few hf).2
  omega
theorem Sch.left (h : Sch p l f low high looks m) (e : low < high) (hm : low + (high - low) / 2 < l.length) (hp : p (l[low + (high - low) / 2]'hm) = true) (hmono : Mono p l) :
    ∃ m', m = m' + 1 ∧ Sch p l f low (low + (high - low) / 2) (looks + 1) m' := by
  have hw := h.win
  have hm0 : m ≠ 0 := by rintro rfl; simp at hw; omega
  obtain ⟨m', rfl⟩ : ∃ m', m = m' + 1 := ⟨m - 1, by omega⟩
  have h3 := h.h3
  refine ⟨m', rfl, h.h1, by omega, by omega, h.before, fun k hk hkm => hmono _ _ hk hkm hp, ?_, ?_, ?_⟩
  · rw [Nat.pow_succ] at hw; omega
  · intro hf
    have := h.few hf
    omega
  · intro hf
    have := h.h1; omega
theorem Sch.right (h : Sch p l f low high looks m) (e : low < high) (hm : low + (high - low) / 2 < l.length) (hp : p (l[low + (high - low) / 2]'hm) = false) (hmono : Mono p l) :
    ∃ m', m = m' + 1 ∧ Sch p l f (low + (high - low) / 2 + 1) high (looks + 1) m' := by
  have hw := h.win
  have hm0 : m ≠ 0 := by rintro rfl; simp at hw; omega
  obtain ⟨m', rfl⟩ : ∃ m', m = m' + 1 := ⟨m - 1, by omega⟩
  have h1 := h.h1
  have h3 := h.h3
  refine ⟨m', rfl, by omega, by omega, h.h3, fun k hk hfk hkm => ?_, h.after, ?_, ?_, ?_⟩
  · cases hq : p l[k] with
    | false => rfl
    | true => rw [hmono k (low + (high - low) / 2) hm (by omega) hq] at hp; cases hp
  · rw [Nat.pow_succ] at hw; omega
  · intro hf
    have := h.few hf
    have := log2_mono (a := 1 + low - f) (b := 1 + (low + (high - low) / 2 + 1) - f) (by omega)
    omega
  · intro hf; omega
end
/-- Where the search begins behind these leaps. -/
def lo (f : Nat) : List Nat → Nat
  | [] => f
  | k :: t => match t with
    | [] => f + 2 ^ k
    | _ => lo f t
theorem lo_snoc (f : Nat) (pre : List Nat) (k : Nat) : lo f (pre ++ [k]) = f + 2 ^ k := by
  induction pre with
  | nil => rfl
  | cons a t ih =>
    cases t with
    | nil => rfl
    | cons b t => exact ih
theorem range_snoc {pre : List Nat} {k : Nat} (h : pre ++ [k] = List.range (pre ++ [k]).length) : k = pre.length ∧ pre = List.range pre.length := by
  simp only [List.length_append, List.length_cons, List.length_nil, Nat.zero_add, List.range_succ] at h
  have := List.append_inj' h (by simp)
  exact ⟨by simpa using this.2, this.1⟩
section
variable {p : Int → Bool} {l : List Int} {f : Nat}
/-- A leap found it. -/
theorem sch_stop (hmono : Mono p l) {pre : List Nat} {k : Nat} (hr : pre ++ [k] = List.range (pre ++ [k]).length) (hk : f + 2 ^ k ≤ l.length)
    (hno : ∀ j ∈ pre, ∀ h : f + 2 ^ j - 1 < l.length, p l[f + 2 ^ j - 1] = false) (hyes : p (l[f + 2 ^ k - 1]'(by have := Nat.two_pow_pos k; omega)) = true) :
    Sch p l f (lo f pre) (f + 2 ^ k - 1) (pre.length + 1) (k - 1) := by
  obtain ⟨hk1, hp⟩ := range_snoc hr
  have kp := Nat.two_pow_pos k
  have hyes' := fun n (hn : n < l.length) (h : f + 2 ^ k - 1 ≤ n) => hmono (f + 2 ^ k - 1) n hn h hyes
  rcases Nat.eq_zero_or_pos k with h0 | h0
  · have hl : pre = [] := List.length_eq_zero_iff.1 (by omega)
    subst hl
    subst h0
    refine ⟨Nat.le_refl _, by simp [lo], by simp at hk; simp; omega, fun j _ h1 h2 => ?_, hyes', by simp [lo], fun hf => ⟨by simp, ?_⟩, fun hf => ?_⟩
    · simp only [lo] at h2; omega
    · simp only [lo, List.length_nil]
      omega
    · simp at hk; omega
  · obtain ⟨k', rfl⟩ : ∃ k', k = k' + 1 := ⟨k - 1, by omega⟩
    have hkr : pre = List.range k' ++ [k'] := by rw [hp, ← hk1, List.range_succ]
    have hlo : lo f pre = f + 2 ^ k' := by rw [hkr, lo_snoc]
    have kp' := Nat.two_pow_pos k'
    clear hyes
    rw [Nat.pow_succ] at hk hyes' ⊢
    have hlen : pre.length = k' + 1 := hk1.symm
    rw [hlo, hlen]
    have hb := hno k' (by rw [hkr]; simp) (by omega)
    refine ⟨by omega, by omega, by omega, fun j hj h1 h2 => ?_, hyes', by simp; omega, fun hf => ⟨by omega, ?_⟩, fun hf => by omega⟩
    · cases hq : p l[j] with
      | false => rfl
      | true => rw [hmono j _ (by omega) (by omega) hq] at hb; cases hb
    · have : k' ≤ Nat.log2 (1 + (f + 2 ^ k') - f) := (Nat.le_log2 (by omega)).2 (by omega)
      simp only [Nat.add_sub_cancel]
      omega
/-- No leap found it. -/
theorem sch_all (hmono : Mono p l) {pre : List Nat} (hr : pre = List.range pre.length) (hf : f ≤ l.length) (hk : ∀ k ∈ pre, f + 2 ^ k ≤ l.length) (hend : l.length < f + 2 ^ pre.length)
    (hno : ∀ j ∈ pre, ∀ h : f + 2 ^ j - 1 < l.length, p l[f + 2 ^ j - 1] = false) : Sch p l f (lo f pre) l.length pre.length (pre.length - 1) := by
  rcases Nat.eq_zero_or_pos pre.length with h0 | h0
  · have hl : pre = [] := List.length_eq_zero_iff.1 h0
    subst hl
    simp only [List.length_nil, Nat.pow_zero] at hend
    have e : f = l.length := by omega
    exact ⟨Nat.le_refl _, by simpa [lo] using hf, Nat.le_refl _, fun j _ h1 h2 => by simp only [lo] at h2; omega, fun j hj h => by omega, by simp [lo]; omega, fun h => by omega, fun _ => rfl⟩
  · obtain ⟨k', hk'⟩ : ∃ k', pre.length = k' + 1 := ⟨pre.length - 1, by omega⟩
    have hkr : pre = List.range k' ++ [k'] := by rw [hr, hk', List.range_succ]
    have hlo : lo f pre = f + 2 ^ k' := by rw [hkr, lo_snoc]
    have hmem : k' ∈ pre := by rw [hkr]; simp
    have hk1 := hk k' hmem
    have kp' := Nat.two_pow_pos k'
    have hb := hno k' hmem (by omega)
    rw [hk', Nat.pow_succ] at hend
    rw [hlo, hk']
    refine ⟨by omega, by omega, Nat.le_refl _, fun j hj h1 h2 => ?_, fun j hj h => by omega, by simp; omega, fun h => ⟨by omega, ?_⟩, fun h => by omega⟩
    · cases hq : p l[j] with
      | false => rfl
      | true => rw [hmono j _ (by omega) (by omega) hq] at hb; cases hb
    · have : k' ≤ Nat.log2 (1 + (f + 2 ^ k') - f) := (Nat.le_log2 (by omega)).2 (by omega)
      simp only [Nat.add_sub_cancel]
      omega
end
end Go.Proofs.Kit

