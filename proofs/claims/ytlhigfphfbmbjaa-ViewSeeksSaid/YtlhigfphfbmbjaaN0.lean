/- Pairs of numbers, in order: plain facts. No program is named here. -/
import Derived.Test.YtlhigfphfbmbjaaSeg
namespace Go.Proofs.Kit
open Go.RowKit

abbrev Pr := Int × Int
def lt2 (x y : Pr) : Prop := x.1 < y.1 ∨ (x.1 = y.1 ∧ x.2 < y.2)
instance (x y : Pr) : Decidable (lt2 x y) := by unfold lt2; infer_instance
def cmp1 (a b : Int) : Int := if a < b then -1 else if a > b then 1 else 0
def cf2 (x y : Pr) : Int := if x.1 = y.1 then cmp1 x.2 y.2 else cmp1 x.1 y.1
theorem cf2_neg (x y : Pr) : cf2 x y < 0 ↔ lt2 x y := by
  unfold cf2 cmp1 lt2; repeat' split
  all_goals omega
theorem cf2_pos (x y : Pr) : 0 < cf2 x y ↔ lt2 y x := by
  unfold cf2 cmp1 lt2; repeat' split
  all_goals omega
theorem cf2_bd (x y : Pr) : -1 ≤ cf2 x y ∧ cf2 x y ≤ 1 := by
  unfold cf2 cmp1; repeat' split
  all_goals omega
theorem lt2_irrefl (x : Pr) : ¬ lt2 x x := by unfold lt2; omega
theorem lt2_trans {x y z : Pr} (h : lt2 x y) (k : lt2 y z) : lt2 x z := by unfold lt2 at *; omega
theorem lt2_asymm {x y : Pr} (h : lt2 x y) : ¬ lt2 y x := by unfold lt2 at *; omega
theorem pr_eq {x y : Pr} (h1 : x.1 = y.1) (h2 : x.2 = y.2) : x = y := Prod.ext h1 h2
theorem lt2_tri (x y : Pr) : lt2 x y ∨ x = y ∨ lt2 y x := by
  by_cases h : x.1 = y.1
  · by_cases k : x.2 = y.2
    · exact .inr (.inl (pr_eq h k))
    · unfold lt2; omega
  · unfold lt2; omega
theorem cf2_zero (x y : Pr) : cf2 x y = 0 ↔ x = y := by
  constructor
  · intro h
    rcases lt2_tri x y with k | k | k
    · have := (cf2_neg x y).2 k; omega
    · exact k
    · have := (cf2_pos x y).2 k; omega
  · rintro rfl
    unfold cf2 cmp1; simp
theorem not_lt2 {x y : Pr} (h : ¬ lt2 x y) : x = y ∨ lt2 y x := by
  rcases lt2_tri x y with k | k | k
  · exact (h k).elim
  · exact .inl k
  · exact .inr k

/-- A run: pairs in order, each once. -/
def Run (l : List Pr) : Prop := l.Pairwise lt2
instance (l : List Pr) : Decidable (Run l) := by unfold Run; infer_instance
theorem Run.nil : Run [] := List.Pairwise.nil
theorem Run.tail {x : Pr} {l : List Pr} (h : Run (x :: l)) : Run l := (List.pairwise_cons.1 h).2
theorem Run.head {x : Pr} {l : List Pr} (h : Run (x :: l)) : ∀ y ∈ l, lt2 x y := (List.pairwise_cons.1 h).1
theorem Run.sub {l m : List Pr} (h : Run l) (s : m.Sublist l) : Run m := List.Pairwise.sublist s h
theorem Run.nodup {l : List Pr} (h : Run l) : l.Nodup := List.Pairwise.imp (fun {a b} (hab : lt2 a b) (e : a = b) => lt2_irrefl b (e ▸ hab)) h
theorem Run.at {l : List Pr} (h : Run l) {i j : Nat} (hi : i < l.length) (hj : j < l.length) (hij : i < j) : lt2 l[i] l[j] := List.pairwise_iff_getElem.1 h i j hi hj hij
theorem run_snoc {l : List Pr} {p : Pr} (h : Run l) (hp : ∀ x ∈ l, lt2 x p) : Run (l ++ [p]) := by
  unfold Run
  rw [List.pairwise_append]
  exact ⟨h, by simp, fun x hx y hy => by simp at hy; subst hy; exact hp x hx⟩
theorem run_app {l m : List Pr} (h : Run l) (k : Run m) (hp : ∀ x ∈ l, ∀ y ∈ m, lt2 x y) : Run (l ++ m) := by
  unfold Run
  rw [List.pairwise_append]
  exact ⟨h, k, hp⟩
theorem run_take_succ {l : List Pr} {k : Nat} (hk : k < l.length) (h1 : 1 ≤ k) (h : Run (l.take k)) (hl : lt2 (l[k - 1]'(by omega)) l[k]) : Run (l.take (k + 1)) := by
  rw [List.take_succ_eq_append_getElem hk]
  refine run_snoc h fun x hx => ?_
  obtain ⟨i, hi, rfl⟩ := List.getElem_of_mem hx
  rw [List.length_take] at hi
  rw [List.getElem_take]
  by_cases e : i = k - 1
  · subst e; exact hl
  · have := h.at (i := i) (j := k - 1) (by rw [List.length_take]; omega) (by rw [List.length_take]; omega) (by omega)
    rw [List.getElem_take, List.getElem_take] at this
    exact lt2_trans this hl
theorem run_ext : ∀ {a b : List Pr}, Run a → Run b → (∀ p, p ∈ a ↔ p ∈ b) → a = b
  | [], [], _, _, _ => rfl
  | [], y :: b, _, _, h => by have := (h y).2 (by simp); simp at this
  | x :: a, [], _, _, h => by have := (h x).1 (by simp); simp at this
  | x :: a, y :: b, ha, hb, h => by
    have hxy : x = y := by
      rcases List.mem_cons.1 ((h x).1 (by simp)) with e | e
      · exact e
      · rcases List.mem_cons.1 ((h y).2 (by simp)) with e' | e'
        · exact e'.symm
        · exact (lt2_asymm (hb.head x e) (ha.head y e')).elim
    subst hxy
    have : a = b := run_ext ha.tail hb.tail fun p => by
      constructor
      · intro hp
        rcases List.mem_cons.1 ((h p).1 (by simp [hp])) with e | e
        · subst e; exact (lt2_irrefl _ (ha.head _ hp)).elim
        · exact e
      · intro hp
        rcases List.mem_cons.1 ((h p).2 (by simp [hp])) with e | e
        · subst e; exact (lt2_irrefl _ (hb.head _ hp)).elim
        · exact e
    rw [this]

/-! ### Two runs as one -/
/-- The pairs of two runs in order, each once, with its side: 0 of the first alone, 1 of both, 2 of the second alone. -/
def tog : List Pr → List Pr → List (Pr × Int)
  | [], [] => []
  | [], y :: b => (y, 2) :: tog [] b
  | x :: a, [] => (x, 0) :: tog a []
  | x :: a, y :: b => if x = y then (x, 1) :: tog a b else if lt2 x y then (x, 0) :: tog a (y :: b) else (y, 2) :: tog (x :: a) b
termination_by a b => a.length + b.length
theorem tog_nil_left (b : List Pr) : tog [] b = b.map fun y => (y, 2) := by
  induction b with
  | nil => simp [tog]
  | cons y b ih => rw [tog, ih]; simp
theorem tog_nil_right (a : List Pr) : tog a [] = a.map fun x => (x, 0) := by
  induction a with
  | nil => simp [tog]
  | cons x a ih => rw [tog, ih]; simp
theorem tog_mem : ∀ (a b : List Pr), Run a → Run b → ∀ (p : Pr) (s : Int), (p, s) ∈ tog a b ↔ (s = 0 ∧ p ∈ a ∧ p ∉ b) ∨ (s = 1 ∧ p ∈ a ∧ p ∈ b) ∨ (s = 2 ∧ p ∉ a ∧ p ∈ b)
  | [], [], _, _, p, s => by simp [tog]
  | [], y :: b, _, _, p, s => by
    rw [tog_nil_left]
    constructor
    · intro h
      obtain ⟨q, hq, e⟩ := List.mem_map.1 h
      injection e with e1 e2
      subst e1 e2
      exact .inr (.inr ⟨rfl, by simp, hq⟩)
    · rintro (⟨_, h, _⟩ | ⟨_, h, _⟩ | ⟨rfl, _, h⟩)
      · simp at h
      · simp at h
      · exact List.mem_map.2 ⟨p, h, rfl⟩
  | x :: a, [], _, _, p, s => by
    rw [tog_nil_right]
    constructor
    · intro h
      obtain ⟨q, hq, e⟩ := List.mem_map.1 h
      injection e with e1 e2
      subst e1 e2
      exact .inl ⟨rfl, hq, by simp⟩
    · rintro (⟨rfl, h, _⟩ | ⟨_, _, h⟩ | ⟨_, _, h⟩)
      · exact List.mem_map.2 ⟨p, h, rfl⟩
      · simp at h
      · simp at h
  | x :: a, y :: b, ha, hb, p, s => by
    rw [tog]
    by_cases hxy : x = y
    · subst hxy
      rw [if_pos rfl, List.mem_cons, tog_mem a b ha.tail hb.tail p s]
      have hxa : x ∉ a := fun h => lt2_irrefl _ (ha.head _ h)
      have hxb : x ∉ b := fun h => lt2_irrefl _ (hb.head _ h)
      by_cases hp : p = x
      · subst hp; simp [hxa, hxb]
      · simp [hp]
    · rw [if_neg hxy]
      by_cases hlt : lt2 x y
      · rw [if_pos hlt, List.mem_cons, tog_mem a (y :: b) ha.tail hb p s]
        have hxa : x ∉ a := fun h => lt2_irrefl _ (ha.head _ h)
        have hxb : x ∉ b := fun h => lt2_asymm hlt (hb.head _ h)
        by_cases hp : p = x
        · subst hp; simp [hxa, hxb, hxy]
        · simp [hp]
      · rw [if_neg hlt, List.mem_cons, tog_mem (x :: a) b ha hb.tail p s]
        have hyx : lt2 y x := (not_lt2 hlt).resolve_left hxy
        have hyb : y ∉ b := fun h => lt2_irrefl _ (hb.head _ h)
        have hya : y ∉ a := fun h => lt2_asymm hyx (ha.head _ h)
        by_cases hp : p = y
        · subst hp; simp [hya, hyb, Ne.symm hxy]
        · simp [hp]
termination_by a b => a.length + b.length
theorem tog_memF (a b : List Pr) (ha : Run a) (hb : Run b) (p : Pr) : p ∈ (tog a b).map (·.1) ↔ p ∈ a ∨ p ∈ b := by
  constructor
  · intro h
    obtain ⟨⟨q, s⟩, hq, rfl⟩ := List.mem_map.1 h
    rcases (tog_mem a b ha hb q s).1 hq with h | h | h
    · exact .inl h.2.1
    · exact .inl h.2.1
    · exact .inr h.2.2
  · intro h
    refine List.mem_map.2 ?_
    by_cases h1 : p ∈ a
    · by_cases h2 : p ∈ b
      · exact ⟨(p, 1), (tog_mem a b ha hb p 1).2 (.inr (.inl ⟨rfl, h1, h2⟩)), rfl⟩
      · exact ⟨(p, 0), (tog_mem a b ha hb p 0).2 (.inl ⟨rfl, h1, h2⟩), rfl⟩
    · have h2 : p ∈ b := h.resolve_left h1
      exact ⟨(p, 2), (tog_mem a b ha hb p 2).2 (.inr (.inr ⟨rfl, h1, h2⟩)), rfl⟩
theorem tog_run : ∀ (a b : List Pr), Run a → Run b → Run ((tog a b).map (·.1))
  | [], [], _, _ => by simp [tog, Run]
  | [], y :: b, _, hb => by rw [tog_nil_left, List.map_map]; simpa [Function.comp_def] using hb
  | x :: a, [], ha, _ => by rw [tog_nil_right, List.map_map]; simpa [Function.comp_def] using ha
  | x :: a, y :: b, ha, hb => by
    rw [tog]
    by_cases hxy : x = y
    · subst hxy
      rw [if_pos rfl, List.map_cons]
      refine List.pairwise_cons.2 ⟨fun q hq => ?_, tog_run a b ha.tail hb.tail⟩
      rcases (tog_memF a b ha.tail hb.tail q).1 hq with h | h
      · exact ha.head q h
      · exact hb.head q h
    · rw [if_neg hxy]
      by_cases hlt : lt2 x y
      · rw [if_pos hlt, List.map_cons]
        refine List.pairwise_cons.2 ⟨fun q hq => ?_, tog_run a (y :: b) ha.tail hb⟩
        rcases (tog_memF a (y :: b) ha.tail hb q).1 hq with h | h
        · exact ha.head q h
        · rcases List.mem_cons.1 h with rfl | h
          · exact hlt
          · exact lt2_trans hlt (hb.head q h)
      · have hyx : lt2 y x := (not_lt2 hlt).resolve_left hxy
        rw [if_neg hlt, List.map_cons]
        refine List.pairwise_cons.2 ⟨fun q hq => ?_, tog_run (x :: a) b ha hb.tail⟩
        rcases (tog_memF (x :: a) b ha hb.tail q).1 hq with h | h
        · rcases List.mem_cons.1 h with rfl | h
          · exact hyx
          · exact lt2_trans hyx (ha.head q h)
        · exact hb.head q h
termination_by a b => a.length + b.length
/-- Which sides are kept. -/
def keepF (k0 k1 k2 : Bool) (s : Int) : Bool := if s = 0 then k0 else if s = 1 then k1 else k2
def keepP (k0 k1 k2 : Bool) (l : List (Pr × Int)) : List Pr := (l.filter fun q => keepF k0 k1 k2 q.2).map (·.1)
def comb (k0 k1 k2 : Bool) (a b : List Pr) : List Pr := keepP k0 k1 k2 (tog a b)
theorem keepP_snoc (k0 k1 k2 : Bool) (l : List (Pr × Int)) (x : Pr × Int) : keepP k0 k1 k2 (l ++ [x]) = if keepF k0 k1 k2 x.2 then keepP k0 k1 k2 l ++ [x.1] else keepP k0 k1 k2 l := by
  unfold keepP
  rw [List.filter_append, List.map_append]
  by_cases h : keepF k0 k1 k2 x.2 = true <;> simp [h]
theorem keepP_len (k0 k1 k2 : Bool) (l : List (Pr × Int)) : (keepP k0 k1 k2 l).length ≤ l.length := by
  unfold keepP; rw [List.length_map]; exact List.length_filter_le _ _
theorem comb_run {a b : List Pr} (ha : Run a) (hb : Run b) (k0 k1 k2 : Bool) : Run (comb k0 k1 k2 a b) := (tog_run a b ha hb).sub (List.filter_sublist.map _)
theorem comb_mem {a b : List Pr} (ha : Run a) (hb : Run b) (k0 k1 k2 : Bool) (p : Pr) : p ∈ comb k0 k1 k2 a b ↔ (k0 = true ∧ p ∈ a ∧ p ∉ b) ∨ (k1 = true ∧ p ∈ a ∧ p ∈ b) ∨ (k2 = true ∧ p ∉ a ∧ p ∈ b) := by
  unfold comb keepP
  constructor
  · intro h
    obtain ⟨⟨q, s⟩, hq, rfl⟩ := List.mem_map.1 h
    obtain ⟨hq, hk⟩ := List.mem_filter.1 hq
    rcases (tog_mem a b ha hb q s).1 hq with ⟨rfl, h'⟩ | ⟨rfl, h'⟩ | ⟨rfl, h'⟩
    · exact .inl ⟨by simpa [keepF] using hk, h'⟩
    · exact .inr (.inl ⟨by simpa [keepF] using hk, h'⟩)
    · exact .inr (.inr ⟨by simpa [keepF] using hk, h'⟩)
  · intro h
    refine List.mem_map.2 ?_
    rcases h with ⟨hk, h⟩ | ⟨hk, h⟩ | ⟨hk, h⟩
    · exact ⟨(p, 0), List.mem_filter.2 ⟨(tog_mem a b ha hb p 0).2 (.inl ⟨rfl, h⟩), by simpa [keepF] using hk⟩, rfl⟩
    · exact ⟨(p, 1), List.mem_filter.2 ⟨(tog_mem a b ha hb p 1).2 (.inr (.inl ⟨rfl, h⟩)), by simpa [keepF] using hk⟩, rfl⟩
    · exact ⟨(p, 2), List.mem_filter.2 ⟨(tog_mem a b ha hb p 2).2 (.inr (.inr ⟨rfl, h⟩)), by simpa [keepF] using hk⟩, rfl⟩
theorem tog_len : ∀ (a b : List Pr), (tog a b).length ≤ a.length + b.length
  | [], [] => by simp [tog]
  | [], y :: b => by rw [tog_nil_left]; simp
  | x :: a, [] => by rw [tog_nil_right]; simp
  | x :: a, y :: b => by
    rw [tog]
    split
    · have := tog_len a b; simp; omega
    · split
      · have := tog_len a (y :: b); simp at this ⊢; omega
      · have := tog_len (x :: a) b; simp at this ⊢; omega
termination_by a b => a.length + b.length
/-- As many as both have, those that both have counted once. -/
theorem comb_count : ∀ (a b : List Pr), (comb true true true a b).length + (comb false true false a b).length = a.length + b.length
  | [], [] => by simp [comb, keepP, tog]
  | [], y :: b => by
    have h1 : b.filter (fun _ => true) = b := List.filter_eq_self.2 (by simp)
    have h2 : b.filter (fun _ => false) = [] := List.filter_eq_nil_iff.2 (by simp)
    simp [comb, keepP, tog_nil_left, keepF, List.filter_map, Function.comp_def, h1, h2]
  | x :: a, [] => by
    have h1 : a.filter (fun _ => true) = a := List.filter_eq_self.2 (by simp)
    have h2 : a.filter (fun _ => false) = [] := List.filter_eq_nil_iff.2 (by simp)
    simp [comb, keepP, tog_nil_right, keepF, List.filter_map, Function.comp_def, h1, h2]
  | x :: a, y :: b => by
    unfold comb
    rw [tog]
    split
    · have := comb_count a b; simp [comb, keepP, keepF] at this ⊢; omega
    · split
      · have := comb_count a (y :: b); simp [comb, keepP, keepF] at this ⊢; omega
      · have := comb_count (x :: a) b; simp [comb, keepP, keepF] at this ⊢; omega
termination_by a b => a.length + b.length
end Go.Proofs.Kit

