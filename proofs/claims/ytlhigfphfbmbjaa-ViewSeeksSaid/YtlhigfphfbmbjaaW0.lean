/- Tiers: plain facts: what they say of pairs, what they come to, some as one. No program is named here. -/
import Derived.Test.YtlhigfphfbmbjaaN10
import Derived.Test.YtlhigfphfbmbjaaW1
namespace Go.Proofs.Kit
open Go.RowKit
/-- The pairs' numbers are words. -/
def Wt (t : Tr) : Prop := (∀ p ∈ t.1, Wp p) ∧ ∀ p ∈ t.2, Wp p
def Wl (L : List Tr) : Prop := ∀ t ∈ L, Wt t
/-- Whether a tier may be. -/
def oneT (t : Tr) : Prop := (okP t.1 ∧ okP t.2) ∧ ∀ p ∈ t.1, p ∉ t.2
instance (t : Tr) : Decidable (oneT t) := by unfold oneT okP; infer_instance
def goodT (L : List Tr) : Prop := (∀ t ∈ L, oneT t) ∧ L.length ≤ 24
instance (L : List Tr) : Decidable (goodT L) := by unfold goodT; infer_instance
def ckT (L : List Tr) : Int := if goodT L then 0 else 210
/-- The rows are not longer than this. -/
def SmT (m : Nat) (L : List Tr) : Prop := ∀ t ∈ L, t.1.length ≤ m ∧ t.2.length ≤ m
theorem SmT.mono {m n : Nat} {L : List Tr} (h : SmT m L) (k : m ≤ n) : SmT n L := fun t ht => ⟨Nat.le_trans (h t ht).1 k, Nat.le_trans (h t ht).2 k⟩
/-- What tiers say of a pair, the newest of them first. -/
def sayR : List Tr → Pr → Int
  | [], _ => 0
  | t :: r, p => if p ∈ t.1 then 1 else if p ∈ t.2 then 2 else sayR r p
/-- .. the newest of them last. -/
def says (L : List Tr) (p : Pr) : Int := sayR L.reverse p
def say1 (t : Tr) (p : Pr) : Int := if p ∈ t.1 then 1 else if p ∈ t.2 then 2 else 0
theorem sayR_append (r s : List Tr) (p : Pr) : sayR (r ++ s) p = if sayR r p = 0 then sayR s p else sayR r p := by
  induction r with
  | nil => simp [sayR]
  | cons t r ih =>
    simp only [List.cons_append, sayR, ih]
    split
    · simp
    · split
      · simp
      · rfl
theorem sayR_one (t : Tr) (p : Pr) : sayR [t] p = say1 t p := rfl
theorem says_one (t : Tr) (p : Pr) : says [t] p = say1 t p := rfl
theorem says_append (L M : List Tr) (p : Pr) : says (L ++ M) p = if says M p = 0 then says L p else says M p := by
  unfold says
  rw [List.reverse_append, sayR_append]
theorem sayR_cases (r : List Tr) (p : Pr) : sayR r p = 0 ∨ sayR r p = 1 ∨ sayR r p = 2 := by
  induction r with
  | nil => simp [sayR]
  | cons t r ih =>
    simp only [sayR]
    split
    · simp
    · split
      · simp
      · exact ih
theorem says_cases (L : List Tr) (p : Pr) : says L p = 0 ∨ says L p = 1 ∨ says L p = 2 := sayR_cases _ _
theorem sayR_none (r : List Tr) (p : Pr) : sayR r p = 0 ↔ ∀ t ∈ r, p ∉ t.1 ∧ p ∉ t.2 := by
  induction r with
  | nil => simp [sayR]
  | cons t r ih =>
    simp only [sayR, List.mem_cons, forall_eq_or_imp]
    by_cases h1 : p ∈ t.1
    · simp [h1]
    · by_cases h2 : p ∈ t.2
      · simp [h1, h2]
      · simp only [h1, h2, if_false, not_false_eq_true, and_self, true_and]
        exact ih
theorem says_none (L : List Tr) (p : Pr) : says L p = 0 ↔ ∀ t ∈ L, p ∉ t.1 ∧ p ∉ t.2 := by
  unfold says
  rw [sayR_none]
  simp
/-- All pairs of which they say something. -/
def uni (L : List Tr) : List Pr := L.foldl (fun a t => ofP (ofP (a ++ t.1) ++ t.2)) []
theorem uni_snoc (L : List Tr) (t : Tr) : uni (L ++ [t]) = ofP (ofP (uni L ++ t.1) ++ t.2) := by
  unfold uni
  rw [List.foldl_append]
  rfl
theorem uni_take {L : List Tr} {k : Nat} (hk : k < L.length) : uni (L.take (k + 1)) = ofP (ofP (uni (L.take k) ++ L[k].1) ++ L[k].2) := by
  rw [List.take_succ_eq_append_getElem hk, uni_snoc]
theorem foldl_uni : ∀ (L : List Tr) (m : List Pr), Run m → Run (L.foldl (fun a t => ofP (ofP (a ++ t.1) ++ t.2)) m) ∧ ∀ p, p ∈ L.foldl (fun a t => ofP (ofP (a ++ t.1) ++ t.2)) m ↔ p ∈ m ∨ ∃ t ∈ L, p ∈ t.1 ∨ p ∈ t.2
  | [], m, hm => ⟨hm, by simp⟩
  | t :: L, m, hm => by
    obtain ⟨h1, h2⟩ := foldl_uni L (ofP (ofP (m ++ t.1) ++ t.2)) (ofP_run _)
    refine ⟨h1, fun p => ?_⟩
    rw [List.foldl_cons, h2 p, ofP_mem, List.mem_append, ofP_mem, List.mem_append]
    simp only [List.mem_cons, exists_eq_or_imp, or_assoc]
theorem uni_run (L : List Tr) : Run (uni L) := (foldl_uni L [] Run.nil).1
theorem uni_mem (L : List Tr) (p : Pr) : p ∈ uni L ↔ ∃ t ∈ L, p ∈ t.1 ∨ p ∈ t.2 := by
  have := (foldl_uni L [] Run.nil).2 p
  unfold uni
  simpa using this
theorem foldl_uni_len (m : Nat) : ∀ (L : List Tr) (a : List Pr), SmT m L → (L.foldl (fun a t => ofP (ofP (a ++ t.1) ++ t.2)) a).length ≤ a.length + L.length * (2 * m)
  | [], a, _ => by simp
  | t :: L, a, h => by
    have h1 := foldl_uni_len m L (ofP (ofP (a ++ t.1) ++ t.2)) (fun x hx => h x (by simp [hx]))
    have h2 := ofP_len (ofP (a ++ t.1) ++ t.2)
    have h3 := ofP_len (a ++ t.1)
    have h4 := h t (by simp)
    simp only [List.length_append] at h2 h3
    simp only [List.foldl_cons, List.length_cons, Nat.add_mul]
    omega
theorem uni_len {m : Nat} {L : List Tr} (h : SmT m L) : (uni L).length ≤ L.length * (2 * m) := by
  have := foldl_uni_len m L [] h
  simpa [uni] using this
/-- All pairs of which they say just that. -/
def those (L : List Tr) (k : Int) : List Pr := (uni L).filter fun p => decide (says L p = k)
theorem those_run (L : List Tr) (k : Int) : Run (those L k) := (uni_run L).sub List.filter_sublist
theorem those_mem {L : List Tr} {k : Int} (hk : k ≠ 0) (p : Pr) : p ∈ those L k ↔ says L p = k := by
  unfold those
  rw [List.mem_filter, decide_eq_true_eq, uni_mem]
  refine ⟨fun h => h.2, fun h => ⟨?_, h⟩⟩
  by_cases c : ∃ t ∈ L, p ∈ t.1 ∨ p ∈ t.2
  · exact c
  · have : says L p = 0 := (says_none L p).2 fun t ht => ⟨fun q => c ⟨t, ht, .inl q⟩, fun q => c ⟨t, ht, .inr q⟩⟩
    omega
theorem those_of {L : List Tr} {k : Int} (hk : k ≠ 0) {r : List Pr} (hr : Run r) (hm : ∀ p, p ∈ r ↔ says L p = k) : r = those L k := run_ext hr (those_run L k) fun p => by rw [hm, those_mem hk]
theorem those_len {m : Nat} {L : List Tr} (h : SmT m L) (k : Int) : (those L k).length ≤ L.length * (2 * m) := Nat.le_trans (List.length_filter_le _ _) (uni_len h)
theorem those_w {L : List Tr} (h : Wl L) (k : Int) : ∀ p ∈ those L k, Wp p := by
  intro p hp
  obtain ⟨t, ht, q⟩ := (uni_mem L p).1 (List.mem_filter.1 hp).1
  rcases q with q | q
  · exact (h t ht).1 p q
  · exact (h t ht).2 p q
/-- Some tiers as one. -/
def joinT (o : Bool) (L : List Tr) : Tr := (those L 1, if o then [] else those L 2)
theorem joinT_w {L : List Tr} (h : Wl L) (o : Bool) : Wt (joinT o L) := ⟨those_w h 1, by
  unfold joinT
  cases o
  · exact those_w h 2
  · simp⟩
theorem joinT_len {m : Nat} {L : List Tr} (h : SmT m L) (o : Bool) : (joinT o L).1.length ≤ L.length * (2 * m) ∧ (joinT o L).2.length ≤ L.length * (2 * m) := ⟨those_len h 1, by
  unfold joinT
  cases o
  · exact those_len h 2
  · simp⟩
theorem joinT_one {m : Nat} {L : List Tr} (h : SmT m L) (hm : L.length * (2 * m) ≤ 1048576) (o : Bool) : oneT (joinT o L) := by
  have hl := joinT_len h o
  refine ⟨⟨⟨those_run L 1, by omega⟩, ⟨?_, by omega⟩⟩, fun p hp hq => ?_⟩
  · unfold joinT
    cases o
    · exact those_run L 2
    · exact Run.nil
  · have h1 := (those_mem (by decide) p).1 hp
    unfold joinT at hq
    cases o
    · have h2 := (those_mem (by decide) p).1 hq
      omega
    · simp at hq
theorem say1_join (L : List Tr) (p : Pr) : say1 (joinT false L) p = says L p := by
  unfold say1 joinT
  simp only [Bool.false_eq_true, if_false, those_mem (show (1 : Int) ≠ 0 by decide), those_mem (show (2 : Int) ≠ 0 by decide)]
  rcases says_cases L p with h | h | h <;> simp [h]
theorem say1_old (L : List Tr) (p : Pr) : say1 (joinT true L) p = if says L p = 1 then 1 else 0 := by
  unfold say1 joinT
  simp only [if_true, those_mem (show (1 : Int) ≠ 0 by decide), List.not_mem_nil, if_false]
/-- What they come to. -/
def cont (L : List Tr) : List Pr := if goodT L then those L 1 else []
theorem ckT_yes {L : List Tr} (h : goodT L) : ckT L = 0 := if_pos h
theorem ckT_no {L : List Tr} (h : ¬ goodT L) : ckT L = 210 := if_neg h
end Go.Proofs.Kit

