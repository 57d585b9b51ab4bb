/- Rows that rise, places that are sought, logs, and what a search by leaps and halves keeps: plain facts; no program is named here. -/
import Derived.Test.YtjfnhjmdgfkgnaaKit
namespace Go.Proofs.Kit

/-- A row that rises. -/
def Inc (l : List Int) : Prop := l.Pairwise (· < ·)
instance (l : List Int) : Decidable (Inc l) := inferInstanceAs (Decidable (l.Pairwise (· < ·)))
theorem Inc.at {l : List Int} (h : Inc l) {i j : Nat} (hi : i < l.length) (hj : j < l.length) (hij : i < j) : l[i] < l[j] := List.pairwise_iff_getElem.1 h i j hi hj hij
theorem Inc.le {l : List Int} (h : Inc l) {i j : Nat} (hj : j < l.length) (hij : i ≤ j) : l[i]'(by omega) ≤ l[j] := by
  by_cases e : i = j
  · subst e; exact Int.le_refl _
  · have := h.at (by omega) hj (show i < j by omega); omega
theorem inc_of {l : List Int} (h : ∀ i (h : i + 1 < l.length), l[i] < l[i + 1]) : Inc l := by
  refine List.pairwise_iff_getElem.2 fun i j hi hj hij => ?_
  obtain ⟨d, rfl⟩ : ∃ d, j = i + 1 + d := ⟨j - i - 1, by omega⟩
  clear hij
  induction d with
  | zero => exact h i hj
  | succ d ih =>
    have h1 := ih (by omega)
    have h2 := h (i + 1 + d) (by omega)
    exact Int.lt_trans h1 h2
theorem inc_take_succ {l : List Int} {k : Nat} (hk : k < l.length) (h0 : 0 < k) (h : Inc (l.take k)) (hl : l[k - 1] < l[k]) : Inc (l.take (k + 1)) := by
  refine inc_of fun i hi => ?_
  have hi' : i + 1 < k + 1 := by simp at hi; omega
  simp only [List.getElem_take]
  by_cases e : i + 1 = k
  · subst e; simpa using hl
  · have := h.at (i := i) (j := i + 1) (by simp; omega) (by simp; omega) (by omega)
    simpa using this
theorem Inc.take {l : List Int} (h : Inc l) (n : Nat) : Inc (l.take n) := List.Pairwise.sublist (List.take_sublist _ _) h
theorem Inc.drop {l : List Int} (h : Inc l) (n : Nat) : Inc (l.drop n) := List.Pairwise.sublist (List.drop_sublist _ _) h
theorem inc_nil : Inc [] := List.Pairwise.nil

/-- The first place from f on that is sought. -/
def sk (p : Int → Bool) (l : List Int) (f : Nat) : Nat := f + (l.drop f).findIdx p
theorem sk_ge (p : Int → Bool) (l : List Int) (f : Nat) : f ≤ sk p l f := Nat.le_add_right _ _
theorem sk_le {p : Int → Bool} {l : List Int} {f : Nat} (h : f ≤ l.length) : sk p l f ≤ l.length := by
  have := List.findIdx_le_length (p := p) (xs := l.drop f)
  rw [List.length_drop] at this
  unfold sk; omega
theorem sk_before {p : Int → Bool} {l : List Int} {f k : Nat} (h1 : f ≤ k) (h2 : k < sk p l f) (hk : k < l.length) : p l[k] = false := by
  have h3 : k - f < (l.drop f).findIdx p := by unfold sk at h2; omega
  have := List.not_of_lt_findIdx h3
  rw [List.getElem_drop] at this
  simpa [show f + (k - f) = k by omega] using this
theorem sk_at {p : Int → Bool} {l : List Int} {f : Nat} (h : sk p l f < l.length) : p l[sk p l f] = true := by
  have h3 : (l.drop f).findIdx p < (l.drop f).length := by rw [List.length_drop]; unfold sk at h; omega
  have := List.findIdx_getElem (w := h3)
  rw [List.getElem_drop] at this
  exact this
theorem sk_of {p : Int → Bool} {l : List Int} {f i : Nat} (h1 : f ≤ i) (h2 : i ≤ l.length) (h3 : ∀ k (_ : k < l.length), f ≤ k → k < i → p l[k] = false) (h4 : ∀ _ : i < l.length, p l[i] = true) : sk p l f = i := by
  rcases Nat.lt_trichotomy (sk p l f) i with h | h | h
  · have hl : sk p l f < l.length := by omega
    have a := sk_at hl
    rw [h3 _ hl (sk_ge _ _ _) h] at a
    cases a
  · exact h
  · have hs := sk_le (p := p) (l := l) (f := f) (by omega)
    have hl : i < l.length := by omega
    have a := sk_before h1 h hl
    rw [h4 hl] at a
    cases a

/-- Behind a number that is, all are. -/
def Mono (p : Int → Bool) (l : List Int) : Prop := ∀ i j (hj : j < l.length) (hij : i ≤ j), p (l[i]'(by omega)) = true → p l[j] = true
def ge (key : Int) : Int → Bool := fun n => decide (key ≤ n)
def gt (key : Int) : Int → Bool := fun n => decide (key < n)
theorem mono_ge {l : List Int} (h : Inc l) (key : Int) : Mono (ge key) l := fun i j hj hij hp => by
  have := h.le hj hij
  simp only [ge, decide_eq_true_eq] at hp ⊢
  omega
theorem mono_gt {l : List Int} (h : Inc l) (key : Int) : Mono (gt key) l := fun i j hj hij hp => by
  have := h.le hj hij
  simp only [gt, decide_eq_true_eq] at hp ⊢
  omega

/-- How many looks the halves take, from low to high, where the place is a. -/
def hv (a low high : Nat) : Nat := if low < high then 1 + (if a ≤ low + (high - low) / 2 then hv a low (low + (high - low) / 2) else hv a (low + (high - low) / 2 + 1) high) else 0
termination_by high - low
decreasing_by all_goals omega
theorem hv_left {a low high : Nat} (h : low < high) (ha : a ≤ low + (high - low) / 2) : hv a low high = 1 + hv a low (low + (high - low) / 2) := by rw [hv, if_pos h, if_pos ha]
theorem hv_right {a low high : Nat} (h : low < high) (ha : ¬ a ≤ low + (high - low) / 2) : hv a low high = 1 + hv a (low + (high - low) / 2 + 1) high := by rw [hv, if_pos h, if_neg ha]
theorem hv_end {a low high : Nat} (h : ¬ low < high) : hv a low high = 0 := by rw [hv, if_neg h]
def lf (f k : Nat) : Nat := if k = 0 then f else f + 2 ^ (k - 1)
/-- Where the halves begin, behind so many leaps. -/
def Start (n f a lo hi c : Nat) : Prop :=
  (∃ k, f + 2 ^ k ≤ n ∧ a ≤ f + 2 ^ k - 1 ∧ (∀ j, j < k → f + 2 ^ j - 1 < a) ∧ lo = lf f k ∧ hi = f + 2 ^ k - 1 ∧ c = k + 1) ∨
  (∃ k, (∀ j, j < k → f + 2 ^ j ≤ n ∧ f + 2 ^ j - 1 < a) ∧ n < f + 2 ^ k ∧ lo = lf f k ∧ hi = n ∧ c = k)
theorem pow_mono2 {j k : Nat} (h : j ≤ k) : 2 ^ j ≤ 2 ^ k := Nat.pow_le_pow_right (by decide) h
theorem Start.uniq {n f a lo hi c lo' hi' c' : Nat} (h : Start n f a lo hi c) (h' : Start n f a lo' hi' c') : lo = lo' ∧ hi = hi' ∧ c = c' := by
  rcases h with ⟨k, h1, h2, h3, e1, e2, e3⟩ | ⟨k, h1, h2, e1, e2, e3⟩ <;> rcases h' with ⟨k', g1, g2, g3, d1, d2, d3⟩ | ⟨k', g1, g2, d1, d2, d3⟩
  · have : k = k' := by
      rcases Nat.lt_trichotomy k k' with e | e | e
      · have := g3 k e; omega
      · exact e
      · have := h3 k' e; omega
    subst this
    exact ⟨e1.trans d1.symm, e2.trans d2.symm, e3.trans d3.symm⟩
  · exfalso
    rcases Nat.lt_or_ge k k' with e | e
    · have := (g1 k e).2; omega
    · have := pow_mono2 e; omega
  · exfalso
    rcases Nat.lt_or_ge k' k with e | e
    · have := (h1 k' e).2; omega
    · have := pow_mono2 e; omega
  · have : k = k' := by
      rcases Nat.lt_trichotomy k k' with e | e | e
      · have := (g1 k e).1; omega
      · exact e
      · have := (h1 k' e).1; omega
    subst this
    exact ⟨e1.trans d1.symm, e2.trans d2.symm, e3.trans d3.symm⟩
/-- So many looks are taken: of n places, from f on, where the place is a. -/
def LkF (n f a q : Nat) : Prop := ∃ lo hi c, Start n f a lo hi c ∧ q = c + hv a lo hi
theorem LkF.uniq {n f a q q' : Nat} (h : LkF n f a q) (h' : LkF n f a q') : q = q' := by
  obtain ⟨lo, hi, c, h1, rfl⟩ := h
  obtain ⟨lo', hi', c', h2, rfl⟩ := h'
  obtain ⟨rfl, rfl, rfl⟩ := h1.uniq h2
  rfl
/-- So many looks may be taken: of n places, from f on, where the place is a. -/
def Lks (n f a q : Nat) : Prop := ((f = n → q = 0) ∧ LkF n f a q) ∧ (f < n → 1 ≤ q ∧ q ≤ 2 + 2 * Nat.log2 (1 + a - f))

/-- What a search keeps: the place lies from low to high, fewer than 2^m lie between. -/
structure Sch0 (p : Int → Bool) (l : List Int) (f low high looks m : Nat) : Prop where
  h1 : f ≤ low
  h2 : low ≤ high
  h3 : high ≤ l.length
  before : ∀ k (_ : k < l.length), f ≤ k → k < low → p l[k] = false
  after : ∀ k (_ : k < l.length), high ≤ k → p l[k] = true
  win : high < low + 2 ^ m
  few : f < l.length → 1 ≤ looks ∧ looks + m ≤ 2 + 2 * Nat.log2 (1 + low - f)
  none : f = l.length → looks = 0
theorem log2_mono {a b : Nat} (h : a ≤ b) : Nat.log2 a ≤ Nat.log2 b := by
  by_cases ha : a = 0
  · subst ha; simp
  · exact (Nat.le_log2 (by omega)).2 (Nat.le_trans (Nat.log2_self_le ha) h)
section
variable {p : Int → Bool} {l : List Int} {f low high looks m : Nat}
theorem Sch0.done (h : Sch0 p l f low high looks m) (e : ¬ low < high) : low = sk p l f ∧ (f = l.length → looks = 0) ∧ (f < l.length → 1 ≤ looks ∧ looks ≤ 2 + 2 * Nat.log2 (1 + sk p l f - f)) := by
  have h1 := h.h1; have h2 := h.h2; have h3 := h.h3
  have e1 : low = high := by omega
  have hs : sk p l f = low := sk_of h1 (by omega) h.before (fun hl => h.after low hl (by omega))
  rw [hs]
  refine ⟨rfl, h.none, fun hf => ⟨(h.few hf).1, ?_⟩⟩
  have := (h.few hf).2
  omega
theorem Sch0.left (h : Sch0 p l f low high looks m) (e : low < high) (hm : low + (high - low) / 2 < l.length) (hp : p (l[low + (high - low) / 2]'hm) = true) (hmono : Mono p l) :
    ∃ m', m = m' + 1 ∧ Sch0 p l f low (low + (high - low) / 2) (looks + 1) m' := by
  have hw := h.win
  have hm0 : m ≠ 0 := by rintro rfl; simp at hw; omega
  obtain ⟨m', rfl⟩ : ∃ m', m = m' + 1 := ⟨m - 1, by omega⟩
  have h3 := h.h3
  refine ⟨m', rfl, h.h1, by omega, by omega, h.before, fun k hk hkm => hmono _ _ hk hkm hp, ?_, ?_, ?_⟩
  · rw [Nat.pow_succ] at hw; omega
  · intro hf
    have := h.few hf
    omega
  · intro hf
    have := h.h1; omega
theorem Sch0.right (h : Sch0 p l f low high looks m) (e : low < high) (hm : low + (high - low) / 2 < l.length) (hp : p (l[low + (high - low) / 2]'hm) = false) (hmono : Mono p l) :
    ∃ m', m = m' + 1 ∧ Sch0 p l f (low + (high - low) / 2 + 1) high (looks + 1) m' := by
  have hw := h.win
  have hm0 : m ≠ 0 := by rintro rfl; simp at hw; omega
  obtain ⟨m', rfl⟩ : ∃ m', m = m' + 1 := ⟨m - 1, by omega⟩
  have h1 := h.h1
  have h3 := h.h3
  refine ⟨m', rfl, by omega, by omega, h.h3, fun k hk hfk hkm => ?_, h.after, ?_, ?_, ?_⟩
  · cases hq : p l[k] with
    | false => rfl
    | true => rw [hmono k (low + (high - low) / 2) hm (by omega) hq] at hp; cases hp
  · rw [Nat.pow_succ] at hw; omega
  · intro hf
    have := h.few hf
    have := log2_mono (a := 1 + low - f) (b := 1 + (low + (high - low) / 2 + 1) - f) (by omega)
    omega
  · intro hf; omega
end
/-- Where the search begins behind these leaps. -/
def lo (f : Nat) : List Nat → Nat
  | [] => f
  | k :: t => match t with
    | [] => f + 2 ^ k
    | _ => lo f t
theorem lo_snoc (f : Nat) (pre : List Nat) (k : Nat) : lo f (pre ++ [k]) = f + 2 ^ k := by
  induction pre with
  | nil => rfl
  | cons a t ih =>
    cases t with
    | nil => rfl
    | cons b t => exact ih
theorem range_snoc {pre : List Nat} {k : Nat} (h : pre ++ [k] = List.range (pre ++ [k]).length) : k = pre.length ∧ pre = List.range pre.length := by
  simp only [List.length_append, List.length_cons, List.length_nil, Nat.zero_add, List.range_succ] at h
  have := List.append_inj' h (by simp)
  exact ⟨by simpa using this.2, this.1⟩
section
variable {p : Int → Bool} {l : List Int} {f : Nat}
/-- A leap found it. -/
theorem sch_stop0 (hmono : Mono p l) {pre : List Nat} {k : Nat} (hr : pre ++ [k] = List.range (pre ++ [k]).length) (hk : f + 2 ^ k ≤ l.length)
    (hno : ∀ j ∈ pre, ∀ h : f + 2 ^ j - 1 < l.length, p l[f + 2 ^ j - 1] = false) (hyes : p (l[f + 2 ^ k - 1]'(by have := Nat.two_pow_pos k; omega)) = true) :
    Sch0 p l f (lo f pre) (f + 2 ^ k - 1) (pre.length + 1) (k - 1) := by
  obtain ⟨hk1, hp⟩ := range_snoc hr
  have kp := Nat.two_pow_pos k
  have hyes' := fun n (hn : n < l.length) (h : f + 2 ^ k - 1 ≤ n) => hmono (f + 2 ^ k - 1) n hn h hyes
  rcases Nat.eq_zero_or_pos k with h0 | h0
  · have hl : pre = [] := List.length_eq_zero_iff.1 (by omega)
    subst hl
    subst h0
    refine ⟨Nat.le_refl _, by simp [lo], by simp at hk; simp; omega, fun j _ h1 h2 => ?_, hyes', by simp [lo], fun hf => ⟨by simp, ?_⟩, fun hf => ?_⟩
    · simp only [lo] at h2; omega
    · simp only [lo, List.length_nil]
      omega
    · simp at hk; omega
  · obtain ⟨k', rfl⟩ : ∃ k', k = k' + 1 := ⟨k - 1, by omega⟩
    have hkr : pre = List.range k' ++ [k'] := by rw [hp, ← hk1, List.range_succ]
    have hlo : lo f pre = f + 2 ^ k' := by rw [hkr, lo_snoc]
    have kp' := Nat.two_pow_pos k'
    clear hyes
    rw [Nat.pow_succ] at hk hyes' ⊢
    have hlen : pre.length = k' + 1 := hk1.symm
    rw [hlo, hlen]
    have hb := hno k' (by rw [hkr]; simp) (by omega)
    refine ⟨by omega, by omega, by omega, fun j hj h1 h2 => ?_, hyes', by simp; omega, fun hf => ⟨by omega, ?_⟩, fun hf => by omega⟩
    · cases hq : p l[j] with
      | false => rfl
      | true => rw [hmono j _ (by omega) (by omega) hq] at hb; cases hb
    · have : k' ≤ Nat.log2 (1 + (f + 2 ^ k') - f) := (Nat.le_log2 (by omega)).2 (by omega)
      simp only [Nat.add_sub_cancel]
      omega
/-- No leap found it. -/
theorem sch_all0 (hmono : Mono p l) {pre : List Nat} (hr : pre = List.range pre.length) (hf : f ≤ l.length) (hk : ∀ k ∈ pre, f + 2 ^ k ≤ l.length) (hend : l.length < f + 2 ^ pre.length)
    (hno : ∀ j ∈ pre, ∀ h : f + 2 ^ j - 1 < l.length, p l[f + 2 ^ j - 1] = false) : Sch0 p l f (lo f pre) l.length pre.length (pre.length - 1) := by
  rcases Nat.eq_zero_or_pos pre.length with h0 | h0
  · have hl : pre = [] := List.length_eq_zero_iff.1 h0
    subst hl
    simp only [List.length_nil, Nat.pow_zero] at hend
    have e : f = l.length := by omega
    exact ⟨Nat.le_refl _, by simpa [lo] using hf, Nat.le_refl _, fun j _ h1 h2 => by simp only [lo] at h2; omega, fun j hj h => by omega, by simp [lo]; omega, fun h => by omega, fun _ => rfl⟩
  · obtain ⟨k', hk'⟩ : ∃ k', pre.length = k' + 1 := ⟨pre.length - 1, by omega⟩
    have hkr : pre = List.range k' ++ [k'] := by rw [hr, hk', List.range_succ]
    have hlo : lo f pre = f + 2 ^ k' := by rw [hkr, lo_snoc]
    have hmem : k' ∈ pre := by rw [hkr]; simp
    have hk1 := hk k' hmem
    have kp' := Nat.two_pow_pos k'
    have hb := hno k' hmem (by omega)
    rw [hk', Nat.pow_succ] at hend
    rw [hlo, hk']
    refine ⟨by omega, by omega, Nat.le_refl _, fun j hj h1 h2 => ?_, fun j hj h => by omega, by simp; omega, fun h => ⟨by omega, ?_⟩, fun h => by omega⟩
    · cases hq : p l[j] with
      | false => rfl
      | true => rw [hmono j _ (by omega) (by omega) hq] at hb; cases hb
    · have : k' ≤ Nat.log2 (1 + (f + 2 ^ k') - f) := (Nat.le_log2 (by omega)).2 (by omega)
      simp only [Nat.add_sub_cancel]
      omega
/-- What a search keeps, and how many looks it has taken. -/
structure Sch (p : Int → Bool) (l : List Int) (f low high looks m : Nat) : Prop extends Sch0 p l f low high looks m where
  cnt : ∃ lo hi c, Start l.length f (sk p l f) lo hi c ∧ looks + hv (sk p l f) low high = c + hv (sk p l f) lo hi
theorem sk_yes {i : Nat} (hf : f ≤ i) (hi : i < l.length) (hp : p l[i] = true) : sk p l f ≤ i := by
  rcases Nat.lt_or_ge i (sk p l f) with h | h
  · rw [sk_before hf h hi] at hp; cases hp
  · exact h
theorem sk_no (hmono : Mono p l) {i : Nat} (hi : i < l.length) (hp : p l[i] = false) : i < sk p l f := by
  rcases Nat.lt_or_ge i (sk p l f) with h | h
  · exact h
  · rw [hmono (sk p l f) i hi h (sk_at (by omega))] at hp; cases hp
theorem Sch.done {low high looks m : Nat} (h : Sch p l f low high looks m) (e : ¬ low < high) : low = sk p l f ∧ Lks l.length f (sk p l f) looks := by
  obtain ⟨h1, h2, h3⟩ := h.toSch0.done e
  obtain ⟨lo, hi, c, g1, g2⟩ := h.cnt
  rw [hv_end e] at g2
  exact ⟨h1, ⟨h2, lo, hi, c, g1, by omega⟩, h3⟩
theorem Sch.left {low high looks m : Nat} (h : Sch p l f low high looks m) (e : low < high) (hm : low + (high - low) / 2 < l.length) (hp : p (l[low + (high - low) / 2]'hm) = true) (hmono : Mono p l) :
    ∃ m', m = m' + 1 ∧ Sch p l f low (low + (high - low) / 2) (looks + 1) m' := by
  obtain ⟨m', h1, h2⟩ := h.toSch0.left e hm hp hmono
  obtain ⟨lo, hi, c, g1, g2⟩ := h.cnt
  have hs := sk_yes (f := f) (by have := h.h1; omega) hm hp
  rw [hv_left e hs] at g2
  exact ⟨m', h1, { h2 with cnt := ⟨lo, hi, c, g1, by omega⟩ }⟩
theorem Sch.right {low high looks m : Nat} (h : Sch p l f low high looks m) (e : low < high) (hm : low + (high - low) / 2 < l.length) (hp : p (l[low + (high - low) / 2]'hm) = false) (hmono : Mono p l) :
    ∃ m', m = m' + 1 ∧ Sch p l f (low + (high - low) / 2 + 1) high (looks + 1) m' := by
  obtain ⟨m', h1, h2⟩ := h.toSch0.right e hm hp hmono
  obtain ⟨lo, hi, c, g1, g2⟩ := h.cnt
  have hs := sk_no (f := f) hmono hm hp
  rw [hv_right e (by omega)] at g2
  exact ⟨m', h1, { h2 with cnt := ⟨lo, hi, c, g1, by omega⟩ }⟩
theorem lo_lf {pre : List Nat} (hr : pre = List.range pre.length) : lo f pre = lf f pre.length := by
  rcases Nat.eq_zero_or_pos pre.length with h0 | h0
  · have hl : pre = [] := List.length_eq_zero_iff.1 h0
    subst hl
    rfl
  · obtain ⟨k', hk'⟩ : ∃ k', pre.length = k' + 1 := ⟨pre.length - 1, by omega⟩
    rw [hk', hr, hk', List.range_succ, lo_snoc]
    simp [lf]
theorem sch_stop (hmono : Mono p l) {pre : List Nat} {k : Nat} (hr : pre ++ [k] = List.range (pre ++ [k]).length) (hk : f + 2 ^ k ≤ l.length)
    (hno : ∀ j ∈ pre, ∀ h : f + 2 ^ j - 1 < l.length, p l[f + 2 ^ j - 1] = false) (hyes : p (l[f + 2 ^ k - 1]'(by have := Nat.two_pow_pos k; omega)) = true) :
    Sch p l f (lo f pre) (f + 2 ^ k - 1) (pre.length + 1) (k - 1) := by
  obtain ⟨hk1, hp⟩ := range_snoc hr
  have kp := Nat.two_pow_pos k
  refine { sch_stop0 hmono hr hk hno hyes with cnt := ⟨lo f pre, f + 2 ^ k - 1, pre.length + 1, .inl ⟨k, hk, sk_yes (by omega) (by omega) hyes, fun j hj => ?_, by rw [lo_lf hp, hk1], rfl, by rw [hk1]⟩, rfl⟩ }
  have := pow_mono2 (Nat.le_of_lt hj)
  have hjm : j ∈ pre := by rw [hp]; exact List.mem_range.2 (by omega)
  have hl : f + 2 ^ j - 1 < l.length := by omega
  exact sk_no hmono hl (hno j hjm hl)
theorem sch_all (hmono : Mono p l) {pre : List Nat} (hr : pre = List.range pre.length) (hf : f ≤ l.length) (hk : ∀ k ∈ pre, f + 2 ^ k ≤ l.length) (hend : l.length < f + 2 ^ pre.length)
    (hno : ∀ j ∈ pre, ∀ h : f + 2 ^ j - 1 < l.length, p l[f + 2 ^ j - 1] = false) : Sch p l f (lo f pre) l.length pre.length (pre.length - 1) := by
  refine { sch_all0 hmono hr hf hk hend hno with cnt := ⟨lo f pre, l.length, pre.length, .inr ⟨pre.length, fun j hj => ?_, hend, lo_lf hr, rfl, rfl⟩, rfl⟩ }
  have hjm : j ∈ pre := by rw [hr]; exact List.mem_range.2 hj
  have h1 := hk j hjm
  have := Nat.two_pow_pos j
  exact ⟨h1, sk_no hmono (by omega) (hno j hjm (by omega))⟩
end
end Go.Proofs.Kit

