/- Tables: texts, and slots that tell their numbers: what may be, and what is found. No program is named here. -/
import Init
namespace Go.Proofs.Kit

/-- The number that stands at a place; 0: none. -/
def at0 (S : List Int) (p : Nat) : Int := S.getD p 0
theorem at0_lt {S : List Int} {p : Nat} (h : p < S.length) : at0 S p = S[p] := by simp [at0, h]
/-- The i-th of the places of a text of hash h, among m. -/
def prb (h m i : Nat) : Nat := (h + i) % m
theorem prb_lt {m : Nat} (hm : 0 < m) (h i : Nat) : prb h m i < m := Nat.mod_lt _ hm
/-- Each place is one of a text's. -/
theorem prb_all {m : Nat} (hm : 0 < m) (h p : Nat) (hp : p < m) : ∃ i, i < m ∧ prb h m i = p := by
  have hh := Nat.mod_lt h hm
  by_cases c : h % m ≤ p
  · refine ⟨p - h % m, by omega, ?_⟩
    unfold prb
    rw [Nat.add_mod, Nat.mod_eq_of_lt (a := p - h % m) (by omega), Nat.add_sub_cancel' c, Nat.mod_eq_of_lt hp]
  · refine ⟨p + m - h % m, by omega, ?_⟩
    unfold prb
    rw [Nat.add_mod, Nat.mod_eq_of_lt (a := p + m - h % m) (by omega), show h % m + (p + m - h % m) = p + m by omega, Nat.add_mod_right, Nat.mod_eq_of_lt hp]
theorem prb_inj {m : Nat} {h i j : Nat} (hi : i < m) (hj : j < m) (e : prb h m i = prb h m j) : i = j := by
  unfold prb at e
  have hm : 0 < m := by omega
  have key : ∀ a b : Nat, a ≤ b → b < m → (h + a) % m = (h + b) % m → a = b := by
    intro a b hab hb e
    have h1 : (h + b) = (h + a) + (b - a) := by omega
    have h2 : (b - a) % m = 0 := by
      have hx := Nat.div_add_mod (h + a) m
      have hy := Nat.div_add_mod (h + b) m
      rw [← e] at hy
      have : b - a = m * ((h + b) / m - (h + a) / m) := by
        rw [Nat.mul_sub]
        have hle : m * ((h + a) / m) ≤ m * ((h + b) / m) := Nat.mul_le_mul_left _ (Nat.div_le_div_right (by omega))
        omega
      rw [this]
      exact Nat.mul_mod_right _ _
    rw [Nat.mod_eq_of_lt (by omega)] at h2
    omega
  rcases Nat.le_total i j with c | c
  · exact key i j c hj e
  · exact (key j i c hi e.symm).symm

section
variable {α : Type} [DecidableEq α]
/-- A place where a text's search ends: it is free, or has the text. -/
def stp (T : List α) (S : List Int) (s : α) (p : Nat) : Bool := decide (at0 S p = 0) || decide (T[(at0 S p - 1).toNat]? = some s)
/-- Where a text's search ends. -/
def seatO (hs : α → Nat) (T : List α) (S : List Int) (s : α) : Option Nat := ((List.range S.length).map (prb (hs s) S.length)).find? (stp T S s)
variable {hs : α → Nat} {T : List α} {S : List Int}
theorem seatO_iff {s : α} {p : Nat} : seatO hs T S s = some p ↔ ∃ i, i < S.length ∧ p = prb (hs s) S.length i ∧ stp T S s p = true ∧ ∀ j, j < i → stp T S s (prb (hs s) S.length j) = false := by
  unfold seatO
  rw [List.find?_map]
  constructor
  · intro h
    obtain ⟨i, hi, rfl⟩ := Option.map_eq_some_iff.1 h
    obtain ⟨h1, h2, h3⟩ := List.find?_range_eq_some.1 hi
    exact ⟨i, List.mem_range.1 h2, rfl, h1, fun j hj => by have := h3 j hj; simpa using this⟩
  · rintro ⟨i, hi, rfl, h1, h2⟩
    rw [Option.map_eq_some_iff]
    exact ⟨i, List.find?_range_eq_some.2 ⟨h1, List.mem_range.2 hi, fun j hj => by have := h2 j hj; simpa using this⟩, rfl⟩
theorem seatO_lt {s : α} {p : Nat} (h : seatO hs T S s = some p) : p < S.length := by
  obtain ⟨i, hi, rfl, _⟩ := seatO_iff.1 h
  exact prb_lt (by omega) _ _
theorem seatO_stp {s : α} {p : Nat} (h : seatO hs T S s = some p) : at0 S p = 0 ∨ T[(at0 S p - 1).toNat]? = some s := by
  obtain ⟨i, _, _, h1, _⟩ := seatO_iff.1 h
  simpa [stp] using h1
/-- If a place is free, the search ends. -/
theorem seatO_some {s : α} (hf : ∃ p, p < S.length ∧ at0 S p = 0) : ∃ p, seatO hs T S s = some p := by
  obtain ⟨p, hp, h0⟩ := hf
  obtain ⟨i, hi, rfl⟩ := prb_all (m := S.length) (by omega) (hs s) p hp
  cases h : seatO hs T S s with
  | some q => exact ⟨q, rfl⟩
  | none =>
    unfold seatO at h
    rw [List.find?_eq_none] at h
    exact absurd (by simp [stp, h0]) (h _ (List.mem_map.2 ⟨i, List.mem_range.2 hi, rfl⟩))

/-- As many as are not free. -/
def taken (S : List Int) : Nat := S.countP (fun x => decide (x ≠ 0))
theorem taken_le (S : List Int) : taken S ≤ S.length := List.countP_le_length
theorem free_of_taken (h : taken S < S.length) : ∃ p, p < S.length ∧ at0 S p = 0 := by
  by_cases c : ∀ x ∈ S, x ≠ 0
  · have : taken S = S.length := List.countP_eq_length.2 (fun x hx => by simpa using c x hx)
    omega
  · simp only [Classical.not_forall, Decidable.not_not] at c
    obtain ⟨x, hx, rfl⟩ := c
    obtain ⟨p, hp, e⟩ := List.getElem_of_mem hx
    exact ⟨p, hp, by rw [at0_lt hp, e]⟩

/-- The first n texts' numbers stand in S, each found from its text's places. -/
structure Part (hs : α → Nat) (T : List α) (S : List Int) (n : Nat) : Prop where
  le : n ≤ T.length
  num : ∀ x ∈ S, 0 ≤ x ∧ x ≤ (n : Int)
  cnt : taken S = n
  sits : ∀ k (h : k < n), ∃ i, i < S.length ∧ at0 S (prb (hs (T[k]'(by omega))) S.length i) = (k : Int) + 1 ∧ ∀ j, j < i → at0 S (prb (hs (T[k]'(by omega))) S.length j) ≠ 0
theorem at0_num {n : Nat} (hn : ∀ x ∈ S, 0 ≤ x ∧ x ≤ (n : Int)) (p : Nat) : 0 ≤ at0 S p ∧ at0 S p ≤ (n : Int) := by
  by_cases hp : p < S.length
  · rw [at0_lt hp]; exact hn _ (List.getElem_mem hp)
  · have : at0 S p = 0 := by simp [at0, hp]
    omega
omit [DecidableEq α] in
theorem at0_mem {p : Nat} (h : at0 S p ≠ 0) : p < S.length ∧ at0 S p ∈ S := by
  by_cases hp : p < S.length
  · rw [at0_lt hp]; exact ⟨hp, List.getElem_mem hp⟩
  · exact absurd (by simp [at0, hp]) h
/-- A row of n numbers that has all from 1 to n is those. -/
theorem perm_of_has : ∀ (n : Nat) (L : List Int), L.length = n → (∀ k, k < n → (k : Int) + 1 ∈ L) → L.Perm ((List.range n).map (fun k : Nat => (k : Int) + 1))
  | 0, L, h, _ => by rw [List.length_eq_zero_iff.1 h]; exact List.Perm.refl _
  | n + 1, L, h, hk => by
    have h1 := hk n (by omega)
    have h2 := List.perm_cons_erase h1
    have h3 := perm_of_has n (L.erase ((n : Int) + 1)) (by have := h2.length_eq; simp at this; omega) (fun k hk' => (List.mem_erase_of_ne (by omega)).2 (hk k (by omega)))
    rw [List.range_succ, List.map_append]
    exact h2.trans ((List.Perm.cons _ h3).trans (by
      have := List.perm_append_comm (l₁ := [(n : Int) + 1]) (l₂ := (List.range n).map (fun k : Nat => (k : Int) + 1))
      simpa using this))
theorem nodup_nums (n : Nat) : ((List.range n).map (fun k : Nat => (k : Int) + 1)).Nodup := by
  unfold List.Nodup
  rw [List.pairwise_map]
  exact (List.nodup_range (n := n)).imp (fun h e => h (by omega))
theorem nodup_at {S : List Int} (h : (S.filter (fun x => decide (x ≠ 0))).Nodup) {p q : Nat} (hpq : p < q) (hq : q < S.length) (e : at0 S p = at0 S q) (h0 : at0 S p ≠ 0) : False := by
  unfold List.Nodup at h
  rw [List.pairwise_filter] at h
  rw [List.pairwise_iff_getElem] at h
  rw [at0_lt (by omega : p < S.length)] at e h0
  rw [at0_lt hq] at e
  exact h p q (by omega) hq hpq (by simpa using h0) (by simpa [← e] using h0) e
omit [DecidableEq α] in
theorem Part.nodup {n : Nat} (h : Part hs T S n) : (S.filter (fun x => decide (x ≠ 0))).Nodup := by
  have hl : (S.filter (fun x => decide (x ≠ 0))).length = n := by rw [← List.countP_eq_length_filter]; exact h.cnt
  refine (perm_of_has n _ hl fun k hk => ?_).nodup_iff.2 (nodup_nums n)
  obtain ⟨i, _, h1, _⟩ := h.sits k hk
  rw [List.mem_filter]
  have h0 : at0 S (prb (hs (T[k]'(by have := h.le; omega))) S.length i) ≠ 0 := by rw [h1]; omega
  exact ⟨by rw [← h1]; exact (at0_mem h0).2, by simp; omega⟩
omit [DecidableEq α] in
/-- No number stands twice. -/
theorem Part.one {n p q : Nat} (h : Part hs T S n) (e : at0 S p = at0 S q) (h0 : at0 S p ≠ 0) : p = q := by
  have hp := (at0_mem h0).1
  have hq := (at0_mem (e ▸ h0)).1
  rcases Nat.lt_trichotomy p q with c | c | c
  · exact (nodup_at h.nodup c hq e h0).elim
  · exact c
  · exact (nodup_at h.nodup c hp e.symm (e ▸ h0)).elim
omit [DecidableEq α] in
theorem Part.free {n : Nat} (h : Part hs T S n) (hn : n < S.length) : ∃ p, p < S.length ∧ at0 S p = 0 := free_of_taken (by rw [h.cnt]; exact hn)

/-- The text of each number is found. -/
theorem Part.seat {n : Nat} (h : Part hs T S n) (hT : T.Nodup) {k : Nat} (hk : k < n) : ∃ p, seatO hs T S (T[k]'(by have := h.le; omega)) = some p ∧ at0 S p = (k : Int) + 1 := by
  have hkT : k < T.length := by have := h.le; omega
  obtain ⟨i, hi, h1, h2⟩ := h.sits k hk
  refine ⟨_, seatO_iff.2 ⟨i, hi, rfl, ?_, fun j hj => ?_⟩, h1⟩
  · simp [stp, h1, hkT]
  · have h0 := h2 j hj
    have hne : prb (hs T[k]) S.length j ≠ prb (hs T[k]) S.length i := fun e => by have := prb_inj (by omega) hi e; omega
    have hx := at0_num h.num (prb (hs T[k]) S.length j)
    simp only [stp, Bool.or_eq_false_iff, decide_eq_false_iff_not]
    refine ⟨h0, fun e => ?_⟩
    obtain ⟨h3, h4⟩ := List.getElem?_eq_some_iff.1 e
    have := (List.getElem_inj hT).1 h4
    exact hne (h.one (by rw [h1]; omega) h0)

/-- The first of a text's places that is free. -/
def Fst (hs : α → Nat) (S : List Int) (s : α) (p : Nat) : Prop := ∃ i, i < S.length ∧ p = prb (hs s) S.length i ∧ at0 S p = 0 ∧ ∀ j, j < i → at0 S (prb (hs s) S.length j) ≠ 0
theorem at0_set {p q : Nat} {v : Int} (hp : p < S.length) : at0 (S.set p v) q = if q = p then v else at0 S q := by
  unfold at0
  rw [List.getD_eq_getElem?_getD, List.getD_eq_getElem?_getD, List.getElem?_set]
  by_cases c : q = p
  · subst c; simp [hp]
  · rw [if_neg c, if_neg (fun e => c e.symm)]
theorem taken_set {p : Nat} {v : Int} (hp : p < S.length) (h0 : at0 S p = 0) (hv : v ≠ 0) : taken (S.set p v) = taken S + 1 := by
  unfold taken
  rw [List.countP_set hp]
  rw [at0_lt hp] at h0
  simp [h0, hv]
omit [DecidableEq α] in
theorem Part.add {n p : Nat} (h : Part hs T S n) (hn : n < T.length) (hf : Fst hs S T[n] p) : Part hs T (S.set p ((n : Int) + 1)) (n + 1) := by
  obtain ⟨i, hi, rfl, h0, hj⟩ := hf
  have hp := prb_lt (m := S.length) (by omega) (hs T[n]) i
  refine ⟨hn, fun x hx => ?_, ?_, fun k hk => ?_⟩
  · rcases List.mem_or_eq_of_mem_set hx with hx | rfl
    · have := h.num x hx; omega
    · omega
  · rw [taken_set hp h0 (by omega), h.cnt]
  · simp only [List.length_set]
    by_cases c : k = n
    · subst c
      refine ⟨i, hi, by rw [at0_set hp, if_pos rfl], fun j hji => ?_⟩
      rw [at0_set hp, if_neg (fun e => by have := prb_inj (by omega) hi e; omega)]
      exact hj j hji
    · obtain ⟨i', hi', h1, h2⟩ := h.sits k (by omega)
      have hne : ∀ q, at0 S q ≠ 0 → at0 (S.set (prb (hs T[n]) S.length i) ((n : Int) + 1)) q = at0 S q := fun q hq => by
        rw [at0_set hp, if_neg]
        rintro rfl
        exact hq h0
      exact ⟨i', hi', by rw [hne _ (by rw [h1]; omega), h1], fun j hji => by rw [hne _ (h2 j hji)]; exact h2 j hji⟩
omit [DecidableEq α] in
theorem Part.more {n : Nat} (h : Part hs T S n) (s : List α) : Part hs (T ++ s) S n := by
  refine ⟨by have := h.le; simp; omega, h.num, h.cnt, fun k hk => ?_⟩
  have := h.le
  rw [List.getElem_append_left (by omega)]
  exact h.sits k hk
omit [DecidableEq α] in
theorem Part.none (hs : α → Nat) (T : List α) {S : List Int} (h : ∀ x ∈ S, x = 0) : Part hs T S 0 :=
  ⟨by omega, fun x hx => by rw [h x hx]; simp, by unfold taken; rw [List.countP_eq_zero]; intro x hx; simp [h x hx], fun k hk => by omega⟩
/-- A text that has no number yet: its search ends at the first free place. -/
theorem seat_new {n p : Nat} {s : α} (h : Part hs T S n) (hs' : ∀ k (hk : k < n), T[k]'(by have := h.le; omega) ≠ s) (hp : seatO hs T S s = some p) : Fst hs S s p := by
  obtain ⟨i, hi, rfl, h1, h2⟩ := seatO_iff.1 hp
  have hx := at0_num h.num (prb (hs s) S.length i)
  refine ⟨i, hi, rfl, ?_, fun j hj => ?_⟩
  · simp only [stp, Bool.or_eq_true, decide_eq_true_eq] at h1
    rcases h1 with h1 | h1
    · exact h1
    · obtain ⟨h3, h4⟩ := List.getElem?_eq_some_iff.1 h1
      by_cases c : at0 S (prb (hs s) S.length i) = 0
      · exact c
      · exact (hs' _ (by omega) h4).elim
  · have := h2 j hj
    simp only [stp, Bool.or_eq_false_iff, decide_eq_false_iff_not] at this
    exact this.1

/-- A text's place. -/
def pos (T : List α) (s : α) : Nat := T.idxOf s
theorem pos_lt {s : α} (h : s ∈ T) : pos T s < T.length := List.idxOf_lt_length_iff.2 h
theorem pos_get {s : α} (h : s ∈ T) : T[pos T s]'(pos_lt h) = s := List.getElem_idxOf _
/-! ### Which tables may be -/
/-- As many slots as there may be. -/
def Szd (T : List α) (S : List Int) : Prop := T.length ≤ 1024 ∧ 8 ≤ S.length ∧ S.length &&& (S.length - 1) = 0 ∧ 2 * T.length ≤ S.length
/-- As many slots are taken as there are texts, by their numbers alone. -/
def Fld (T : List α) (S : List Int) : Prop := (∀ x ∈ S, 0 ≤ x ∧ x ≤ (T.length : Int)) ∧ taken S = T.length
/-- Each text is found by its number. -/
def Fnd (hs : α → Nat) (T : List α) (S : List Int) : Prop := ∀ n (h : n < T.length), ∃ p, seatO hs T S T[n] = some p ∧ at0 S p = (n : Int) + 1
structure Good (hs : α → Nat) (T : List α) (S : List Int) : Prop where
  sz : Szd T S
  fl : Fld T S
  fo : Fnd hs T S
omit [DecidableEq α] in
theorem Szd.free (h : Szd T S) (hf : Fld T S) : ∃ p, p < S.length ∧ at0 S p = 0 := free_of_taken (by rw [hf.2]; obtain ⟨_, _, _, _⟩ := h; omega)
theorem Good.nodup (h : Good hs T S) : T.Nodup := by
  unfold List.Nodup
  rw [List.pairwise_iff_getElem]
  intro i j hi hj hij e
  obtain ⟨p, h1, h2⟩ := h.fo i hi
  obtain ⟨q, h3, h4⟩ := h.fo j hj
  rw [e, h3] at h1
  injection h1 with h1
  subst h1
  omega
theorem Good.part (h : Good hs T S) : Part hs T S T.length := by
  refine ⟨Nat.le_refl _, h.fl.1, h.fl.2, fun k hk => ?_⟩
  obtain ⟨p, h1, h2⟩ := h.fo k hk
  obtain ⟨i, hi, rfl, _, h3⟩ := seatO_iff.1 h1
  refine ⟨i, hi, h2, fun j hj => ?_⟩
  have := h3 j hj
  simp only [stp, Bool.or_eq_false_iff, decide_eq_false_iff_not] at this
  exact this.1
theorem Good.of_part (hz : Szd T S) (h : Part hs T S T.length) (hT : T.Nodup) : Good hs T S := ⟨hz, ⟨h.num, h.cnt⟩, fun _ hn => h.seat hT hn⟩
theorem Good.free (h : Good hs T S) : ∃ p, p < S.length ∧ at0 S p = 0 := h.sz.free h.fl
/-- What is found of a text that the table has. -/
theorem Good.has (h : Good hs T S) {s : α} {p : Nat} (hp : seatO hs T S s = some p) (hm : s ∈ T) : at0 S p = (pos T s : Int) + 1 := by
  have hl := List.idxOf_lt_length_iff.2 hm
  obtain ⟨q, h1, h2⟩ := h.fo _ hl
  rw [List.getElem_idxOf] at h1
  rw [hp] at h1
  injection h1 with h1
  subst h1
  exact h2
theorem Good.hasnt (h : Good hs T S) {s : α} {p : Nat} (hp : seatO hs T S s = some p) (hm : s ∉ T) : Fst hs S s p :=
  seat_new h.part (fun _ _ e => hm (e ▸ List.getElem_mem _)) hp

/-! ### Powers of two -/
theorem pow_and {n : Nat} (h : ∃ k, n = 2 ^ k) : n &&& (n - 1) = 0 := by
  obtain ⟨k, rfl⟩ := h
  rw [Nat.and_two_pow_sub_one_eq_mod, Nat.mod_self]
theorem and_pow : ∀ (n : Nat), 0 < n → n &&& (n - 1) = 0 → ∃ k, n = 2 ^ k := by
  intro n
  induction n using Nat.strongRecOn with
  | _ n ih =>
    intro hn h
    rcases Nat.mod_two_eq_zero_or_one n with c | c
    · have hm : n / 2 &&& (n / 2 - 1) = 0 := by
        have := congrArg (· / 2) h
        simp only [Nat.and_div_two] at this
        rw [show (n - 1) / 2 = n / 2 - 1 by omega] at this
        simpa using this
      obtain ⟨k, hk⟩ := ih (n / 2) (by omega) (by omega) hm
      exact ⟨k + 1, by rw [Nat.pow_succ]; omega⟩
    · by_cases c1 : n = 1
      · exact ⟨0, by simpa using c1⟩
      · exfalso
        have h2 := congrArg (· / 2) h
        simp only [Nat.and_div_two] at h2
        rw [show (n - 1) / 2 = n / 2 by omega, Nat.and_self] at h2
        simp at h2
        omega
omit [DecidableEq α] in
theorem Szd.twice {T : List α} {S S' : List Int} (h : Szd T S) (hl : S'.length = 2 * S.length) (T' : List α) (h1 : T'.length ≤ 1024) (h2 : T'.length ≤ S.length) : Szd T' S' := by
  obtain ⟨_, h8, hp, _⟩ := h
  obtain ⟨k, hk⟩ := and_pow _ (by omega) hp
  exact ⟨h1, by omega, pow_and ⟨k + 1, by rw [hl, hk, Nat.pow_succ]; omega⟩, by omega⟩

/-! ### What is put -/
/-- What one more text does to texts and numbers; none: there is no room. -/
def stepL (x : Option (List α × List Int)) (s : α) : Option (List α × List Int) :=
  match x with
  | none => none
  | some (T, ns) => if s ∈ T then some (T, ns ++ [(pos T s : Int)]) else if T.length = 1024 then none else some (T ++ [s], ns ++ [(T.length : Int)])
def allL (T : List α) (l : List α) : Option (List α × List Int) := l.foldl stepL (some (T, []))
theorem stepL_some (T : List α) (ns : List Int) (s : α) : stepL (some (T, ns)) s = if s ∈ T then some (T, ns ++ [(pos T s : Int)]) else if T.length = 1024 then none else some (T ++ [s], ns ++ [(T.length : Int)]) := rfl
theorem foldL_none (l : List α) : l.foldl stepL none = none := by
  induction l with
  | nil => rfl
  | cons s l ih => exact ih
theorem allL_snoc (T l : List α) (s : α) : allL T (l ++ [s]) = stepL (allL T l) s := by simp [allL]
theorem allL_take_succ {T l : List α} {k : Nat} (hk : k < l.length) : allL T (l.take (k + 1)) = stepL (allL T (l.take k)) l[k] := by
  rw [List.take_succ_eq_append_getElem hk, allL_snoc]
theorem allL_none {T l : List α} {k : Nat} (h : allL T (l.take k) = none) : allL T l = none := by
  have : l = l.take k ++ l.drop k := (List.take_append_drop k l).symm
  rw [this]
  unfold allL at *
  rw [List.foldl_append, h, foldL_none]
theorem allL_len {T l T' : List α} {ns : List Int} (h : allL T l = some (T', ns)) : ns.length = l.length := by
  have key : ∀ (l : List α) (T : List α) (m : List Int) (T' : List α) (ns : List Int), l.foldl stepL (some (T, m)) = some (T', ns) → ns.length = m.length + l.length := by
    intro l
    induction l with
    | nil => intro T m T' ns h; simp at h; simp [h.2]
    | cons s l ih =>
      intro T m T' ns h
      rw [List.foldl_cons, stepL_some] at h
      split at h
      · have := ih _ _ _ _ h; simp at this ⊢; omega
      · split at h
        · rw [foldL_none] at h; cases h
        · have := ih _ _ _ _ h; simp at this ⊢; omega
  have := key l T [] T' ns h
  simpa using this
end
end Go.Proofs.Kit

