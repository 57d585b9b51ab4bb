/- Merges: plain facts: two rows as one, all pairs of two tiers, what the first of them come to. No program is named here. -/
import Derived.Test.YtlhigfphfbmbjaaW0
namespace Go.Proofs.Kit
open Go.RowKit
theorem says2 (t u : Tr) (p : Pr) : says [t, u] p = if say1 u p = 0 then say1 t p else say1 u p := says_append [t] [u] p
theorem good2 {t u : Tr} : goodT [t, u] ↔ oneT t ∧ oneT u := by
  unfold goodT
  simp
/-- Two rows as one. -/
def mrg (a b : List Pr) : List Pr := (tog a b).map (·.1)
theorem mrg_nil_left (b : List Pr) : mrg [] b = b := by unfold mrg; rw [tog_nil_left, List.map_map]; exact List.map_id _
theorem mrg_nil_right (a : List Pr) : mrg a [] = a := by unfold mrg; rw [tog_nil_right, List.map_map]; exact List.map_id _
theorem mrg_lt {x y : Pr} (a b : List Pr) (h : cf2 x y < 0) : mrg (x :: a) (y :: b) = x :: mrg a (y :: b) := by
  have hl := (cf2_neg x y).1 h
  have hne : x ≠ y := fun e => by subst e; exact lt2_irrefl _ hl
  unfold mrg
  rw [tog, if_neg hne, if_pos hl]
  rfl
theorem mrg_eq (x : Pr) (a b : List Pr) : mrg (x :: a) (x :: b) = x :: mrg a b := by
  unfold mrg
  rw [tog, if_pos rfl]
  rfl
theorem mrg_gt {x y : Pr} (a b : List Pr) (h : 0 < cf2 x y) : mrg (x :: a) (y :: b) = y :: mrg (x :: a) b := by
  have hl := (cf2_pos x y).1 h
  have hne : x ≠ y := fun e => by subst e; exact lt2_irrefl _ hl
  unfold mrg
  rw [tog, if_neg hne, if_neg (lt2_asymm hl)]
  rfl
theorem mrg_run {a b : List Pr} (ha : Run a) (hb : Run b) : Run (mrg a b) := tog_run a b ha hb
theorem mrg_mem {a b : List Pr} (ha : Run a) (hb : Run b) (p : Pr) : p ∈ mrg a b ↔ p ∈ a ∨ p ∈ b := tog_memF a b ha hb p
theorem mrg_len (a b : List Pr) : (mrg a b).length ≤ a.length + b.length := by unfold mrg; rw [List.length_map]; exact tog_len a b
/-- Some rows as one. -/
def mrgs (L : List (List Pr)) : List Pr := L.foldl mrg []
theorem mrgs_next {L : List (List Pr)} {k : Nat} (hk : k < L.length) : mrgs (L.take (k + 1)) = mrg (mrgs (L.take k)) L[k] := by
  rw [List.take_succ_eq_append_getElem hk, mrgs, List.foldl_append]
  rfl
theorem foldl_mrg_len (m : Nat) : ∀ (L : List (List Pr)) (a : List Pr), (∀ r ∈ L, r.length ≤ m) → (L.foldl mrg a).length ≤ a.length + L.length * m
  | [], a, _ => by simp
  | r :: L, a, h => by
    have h1 := foldl_mrg_len m L (mrg a r) (fun x hx => h x (by simp [hx]))
    have h2 := mrg_len a r
    have h3 := h r (by simp)
    simp only [List.foldl_cons, List.length_cons, Nat.add_mul]
    omega
theorem mrgs_len {m : Nat} {L : List (List Pr)} (h : ∀ r ∈ L, r.length ≤ m) : (mrgs L).length ≤ L.length * m := by
  have := foldl_mrg_len m L [] h
  simpa [mrgs] using this
theorem foldl_mrg_run : ∀ (L : List (List Pr)) (a : List Pr), Run a → (∀ r ∈ L, Run r) → Run (L.foldl mrg a) ∧ ∀ p, p ∈ L.foldl mrg a ↔ p ∈ a ∨ ∃ r ∈ L, p ∈ r
  | [], a, ha, _ => ⟨ha, by simp⟩
  | r :: L, a, ha, h => by
    have hr := h r (by simp)
    obtain ⟨h1, h2⟩ := foldl_mrg_run L (mrg a r) (mrg_run ha hr) (fun x hx => h x (by simp [hx]))
    refine ⟨h1, fun p => ?_⟩
    rw [List.foldl_cons, h2 p, mrg_mem ha hr]
    simp only [List.mem_cons, exists_eq_or_imp, or_assoc]
/-- The four rows of two tiers. -/
def rows4 (t u : Tr) : List (List Pr) := [t.1, t.2, u.1, u.2]
/-- All pairs of two tiers. -/
def allP (t u : Tr) : List Pr := mrgs (rows4 t u)
theorem allP_len {m : Nat} {t u : Tr} (h : t.1.length ≤ m ∧ t.2.length ≤ m ∧ u.1.length ≤ m ∧ u.2.length ≤ m) : (allP t u).length ≤ 4 * m := by
  refine mrgs_len (L := rows4 t u) fun r hr => ?_
  simp only [rows4, List.mem_cons, List.not_mem_nil, or_false] at hr
  rcases hr with rfl | rfl | rfl | rfl <;> omega
theorem allP_uni {t u : Tr} (ht : oneT t) (hu : oneT u) : allP t u = uni [t, u] ∧ Run (allP t u) := by
  have h := foldl_mrg_run (rows4 t u) [] Run.nil (fun r hr => by
    simp only [rows4, List.mem_cons, List.not_mem_nil, or_false] at hr
    rcases hr with rfl | rfl | rfl | rfl
    · exact ht.1.1.1
    · exact ht.1.2.1
    · exact hu.1.1.1
    · exact hu.1.2.1)
  refine ⟨run_ext h.1 (uni_run _) fun p => ?_, h.1⟩
  rw [uni_mem]
  show p ∈ (rows4 t u).foldl mrg [] ↔ _
  rw [h.2 p]
  simp only [rows4, List.not_mem_nil, false_or, List.mem_cons, exists_eq_or_imp, List.not_mem_nil, or_false, or_assoc, exists_eq_left]
/-- What both say of a pair: whether it is there. -/
def sayB (t u : Tr) (p : Pr) : Bool := decide (p ∈ u.1) || (!decide (p ∈ u.2) && decide (p ∈ t.1))
theorem sayB_is (t u : Tr) (p : Pr) : sayB t u p = decide (says [t, u] p = 1) := by
  rw [says2]
  unfold sayB say1
  by_cases h1 : p ∈ u.1
  · simp [h1]
  · by_cases h2 : p ∈ u.2
    · simp [h1, h2]
    · by_cases h3 : p ∈ t.1
      · simp [h1, h2, h3]
      · by_cases h4 : p ∈ t.2 <;> simp [h1, h2, h3, h4]
/-- What these pairs come to. -/
def toT (o : Bool) (t u : Tr) (l : List Pr) : Tr := (l.filter (sayB t u), if o then [] else l.filter fun p => !sayB t u p)
/-- What the first pairs of two tiers come to. -/
def outT (o : Bool) (t u : Tr) (k : Nat) : Tr := toT o t u ((allP t u).take k)
theorem toT_snoc (o : Bool) (t u : Tr) (l : List Pr) (p : Pr) : toT o t u (l ++ [p]) = if sayB t u p then ((toT o t u l).1 ++ [p], (toT o t u l).2) else if o then toT o t u l else ((toT o t u l).1, (toT o t u l).2 ++ [p]) := by
  unfold toT
  cases h : sayB t u p <;> cases o <;> simp [h]
theorem toT_len (o : Bool) (t u : Tr) (l : List Pr) : (toT o t u l).1.length ≤ l.length ∧ (toT o t u l).2.length ≤ l.length := by
  refine ⟨List.length_filter_le _ _, ?_⟩
  unfold toT
  cases o
  · exact List.length_filter_le _ _
  · simp
theorem outT_len (o : Bool) (t u : Tr) (k : Nat) : (outT o t u k).1.length ≤ (allP t u).length ∧ (outT o t u k).2.length ≤ (allP t u).length := by
  have h := toT_len o t u ((allP t u).take k)
  have h2 : ((allP t u).take k).length ≤ (allP t u).length := by simp; omega
  exact ⟨Nat.le_trans h.1 h2, Nat.le_trans h.2 h2⟩
theorem toT_both (t u : Tr) : ∀ l : List Pr, (toT false t u l).1.length + (toT false t u l).2.length = l.length
  | [] => rfl
  | p :: l => by
    have h := toT_both t u l
    simp only [toT, Bool.false_eq_true, if_false] at h ⊢
    cases hs : sayB t u p
    · simp [hs]; omega
    · simp [hs]; omega
theorem outT_zero (o : Bool) (t u : Tr) : outT o t u 0 = ([], []) := by
  unfold outT toT
  cases o <;> simp
theorem outT_all {t u : Tr} (ht : oneT t) (hu : oneT u) (o : Bool) {k : Nat} (hk : (allP t u).length ≤ k) : outT o t u k = joinT o [t, u] := by
  have he := (allP_uni ht hu).1
  unfold outT joinT those toT
  rw [List.take_of_length_le hk, he]
  have h2 : (uni [t, u]).filter (fun p => !sayB t u p) = (uni [t, u]).filter fun p => decide (says [t, u] p = 2) := by
    refine List.filter_congr fun p hp => ?_
    rw [sayB_is]
    have h0 : says [t, u] p ≠ 0 := fun c => by
      obtain ⟨x, hx, hq⟩ := (uni_mem [t, u] p).1 hp
      have := (says_none [t, u] p).1 c x hx
      rcases hq with q | q
      · exact this.1 q
      · exact this.2 q
    rcases says_cases [t, u] p with h | h | h
    · exact (h0 h).elim
    · rw [h]; rfl
    · rw [h]; rfl
  have h1 : (uni [t, u]).filter (sayB t u) = (uni [t, u]).filter fun p => decide (says [t, u] p = 1) := List.filter_congr fun p _ => sayB_is t u p
  rw [h1, h2]
/-- What has been done is the beginning of what comes. -/
theorem outT_more (o : Bool) (t u : Tr) {j k : Nat} (h : j ≤ k) : ∃ a d, (outT o t u k).1 = (outT o t u j).1 ++ a ∧ (outT o t u k).2 = (outT o t u j).2 ++ d := by
  have e : (allP t u).take k = (allP t u).take j ++ ((allP t u).drop j).take (k - j) := by
    have := List.take_add (l := allP t u) (i := j) (j := k - j)
    rwa [show j + (k - j) = k by omega] at this
  unfold outT toT
  rw [e]
  refine ⟨(((allP t u).drop j).take (k - j)).filter (sayB t u), if o then [] else (((allP t u).drop j).take (k - j)).filter fun p => !sayB t u p, ?_, ?_⟩
  · simp only [List.filter_append]
  · cases o <;> simp [List.filter_append]
end Go.Proofs.Kit

