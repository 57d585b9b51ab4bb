/- run.Firsts, Seconds, Turn, Of. -/
import Derived.Test.YtlhigfphfbmbjaaN9
namespace Go.Proofs.Kit
open Go.RowKit
/-- A row in order with a pair more, if it has it not. -/
def withP (l : List Pr) (p : Pr) : List Pr := l.filter (fun x => decide (lt2 x p)) ++ p :: l.filter (fun x => decide (lt2 p x))
/-- The run of pairs. -/
def ofP (l : List Pr) : List Pr := l.foldl withP []
theorem withP_run {l : List Pr} (h : Run l) (p : Pr) : Run (withP l p) := by
  unfold withP Run
  rw [List.pairwise_append, List.pairwise_cons]
  refine ⟨h.sub List.filter_sublist, ⟨fun y hy => by simpa using (List.mem_filter.1 hy).2, h.sub List.filter_sublist⟩, fun x hx y hy => ?_⟩
  have hx' : lt2 x p := by simpa using (List.mem_filter.1 hx).2
  rcases List.mem_cons.1 hy with rfl | hy
  · exact hx'
  · exact lt2_trans hx' (by simpa using (List.mem_filter.1 hy).2)
theorem withP_mem (l : List Pr) (p q : Pr) : q ∈ withP l p ↔ q ∈ l ∨ q = p := by
  unfold withP
  simp only [List.mem_append, List.mem_cons, List.mem_filter, decide_eq_true_eq]
  constructor
  · rintro (h | h | h)
    · exact .inl h.1
    · exact .inr h
    · exact .inl h.1
  · rintro (h | h)
    · rcases lt2_tri q p with k | k | k
      · exact .inl ⟨h, k⟩
      · exact .inr (.inl k)
      · exact .inr (.inr ⟨h, k⟩)
    · exact .inr (.inl h)
theorem foldl_withP : ∀ (l m : List Pr), Run m → Run (l.foldl withP m) ∧ ∀ q, q ∈ l.foldl withP m ↔ q ∈ m ∨ q ∈ l
  | [], m, h => ⟨h, by simp⟩
  | p :: t, m, h => by
    obtain ⟨h1, h2⟩ := foldl_withP t (withP m p) (withP_run h p)
    refine ⟨h1, fun q => ?_⟩
    rw [List.foldl_cons, h2, withP_mem, List.mem_cons, or_assoc]
theorem ofP_run (l : List Pr) : Run (ofP l) := (foldl_withP l [] Run.nil).1
theorem ofP_mem (l : List Pr) (q : Pr) : q ∈ ofP l ↔ q ∈ l := by unfold ofP; simpa using (foldl_withP l [] Run.nil).2 q
theorem ofP_of {l m : List Pr} (h : Run m) (hm : ∀ q, q ∈ m ↔ q ∈ l) : m = ofP l := run_ext h (ofP_run l) fun q => by rw [hm, ofP_mem]
theorem ofP_self {l : List Pr} (h : Run l) : ofP l = l := (ofP_of h fun _ => Iff.rfl).symm
theorem withP_len (l : List Pr) (p : Pr) : (withP l p).length ≤ l.length + 1 := by
  unfold withP
  induction l with
  | nil => simp
  | cons x t ih =>
    simp only [List.length_append, List.length_cons, List.filter_cons] at ih ⊢
    by_cases h1 : lt2 x p
    · simp only [h1, lt2_asymm h1, decide_true, decide_false, if_true]
      simp; omega
    · by_cases h2 : lt2 p x <;> simp [h1, h2] <;> omega
theorem foldl_withP_len : ∀ (l m : List Pr), (l.foldl withP m).length ≤ m.length + l.length
  | [], m => by simp
  | p :: t, m => by
    have := foldl_withP_len t (withP m p)
    have := withP_len m p
    simp; omega
theorem ofP_len (l : List Pr) : (ofP l).length ≤ l.length := by unfold ofP; simpa using foldl_withP_len l []
theorem asc_dd : ∀ (l : List Pr), l.Pairwise (fun x y => ¬ lt2 y x) → Run (dd l)
  | [], _ => by simp [dd, Run]
  | [x], _ => by simp [dd, Run]
  | x :: y :: t, h => by
    have h1 := (List.pairwise_cons.1 h).1
    have h2 := (List.pairwise_cons.1 h).2
    have ih := asc_dd (y :: t) h2
    rw [dd]
    by_cases e : x = y
    · rw [if_pos e]; exact ih
    · rw [if_neg e]
      have hxy : lt2 x y := by
        rcases lt2_tri x y with k | k | k
        · exact k
        · exact (e k).elim
        · exact (h1 y (by simp) k).elim
      refine List.pairwise_cons.2 ⟨fun z hz => ?_, ih⟩
      rcases List.mem_cons.1 ((dd_mem _ _).1 hz) with rfl | hz
      · exact hxy
      · rcases not_lt2 ((List.pairwise_cons.1 h2).1 z hz) with k | k
        · exact k ▸ hxy
        · exact lt2_trans hxy k
theorem asc_nodup {l : List Pr} (h : l.Pairwise (fun x y => ¬ lt2 y x)) (hn : l.Nodup) : Run l :=
  (h.and hn).imp fun {a b} hab => by
    rcases lt2_tri a b with k | k | k
    · exact k
    · exact (hab.2 k).elim
    · exact (hab.1 k).elim
theorem ofP_perm {l l' : List Pr} (h : l'.Perm l) (ha : l'.Pairwise (fun x y => ¬ lt2 y x)) : dd l' = ofP l := ofP_of (asc_dd l' ha) fun q => by rw [dd_mem]; exact h.mem_iff
def swapP (x : Pr) : Pr := (x.2, x.1)
theorem swapP_inj {x y : Pr} (h : swapP x = swapP y) : x = y := by unfold swapP at h; injection h with h1 h2; exact Prod.ext h2 h1
theorem turn_perm {l l' : List Pr} (hr : Run l) (h : l'.Perm (l.map swapP)) (ha : l'.Pairwise (fun x y => ¬ lt2 y x)) : l' = ofP (l.map swapP) := by
  refine ofP_of (asc_nodup ha ?_) fun q => h.mem_iff
  rw [h.nodup_iff]
  exact (List.pairwise_map.2 (hr.nodup.imp fun {a b} (hab : a ≠ b) e => hab (swapP_inj e)))
/-- What each call answers, if the row is a run; else nothing. -/
def okP (l : List Pr) : Prop := Run l ∧ l.length ≤ 1048576
instance (l : List Pr) : Decidable (okP l) := by unfold okP; infer_instance
def firstsP (l : List Pr) : List Int := if okP l then dd (l.map (·.1)) else []
def secondsP (l : List Pr) (a : Int) : List Int := if okP l then (l.filter fun x => decide (x.1 = a)).map (·.2) else []
def turnP (l : List Pr) : List Pr := if okP l then ofP (l.map swapP) else []
def Nn (l : List Pr) : Prop := ∀ x ∈ l, 0 ≤ x.2
/-- The pairs with a first number, as a part. -/
theorem part_firsts {l : List Pr} (hr : Run l) (hn : Nn l) {a : Int} {t : Nat} (ht : t ≤ l.length) (hp : plc l (a, 0) ≤ t) (h1 : ∀ k (h : k < l.length), plc l (a, 0) ≤ k → k < t → l[k].1 = a) (h2 : ∀ (h : t < l.length), l[t].1 ≠ a) :
    (l.drop (plc l (a, 0))).take (t - plc l (a, 0)) = l.filter fun x => decide (x.1 = a) := by
  obtain ⟨p, hpe⟩ : ∃ p, p = plc l (a, 0) := ⟨_, rfl⟩
  have e1 : ∀ k (h : k < l.length), k < p → l[k].1 < a := fun k h hk => by
    have := (plc_lt hr h).1 (hpe ▸ hk)
    have h0 := hn _ (List.getElem_mem h)
    unfold lt2 at this
    simp only at this
    omega
  have e2 : ∀ k (h : k < l.length), t ≤ k → a < l[k].1 := fun k h hk => by
    have ht' : t < l.length := by omega
    have hb : ¬ lt2 l[t] (a, 0) := fun q => by have := (plc_lt hr ht').2 q; omega
    have hne := h2 ht'
    have hh : a < l[t].1 := by
      unfold lt2 at hb
      simp only at hb
      omega
    by_cases e : t = k
    · subst e; exact hh
    · have := hr.at ht' h (by omega)
      unfold lt2 at this
      omega
  rw [← hpe] at hp h1 ⊢
  have hs : l = l.take p ++ ((l.drop p).take (t - p) ++ l.drop t) := by
    conv => lhs; rw [← List.take_append_drop p l, ← List.take_append_drop (t - p) (l.drop p)]
    rw [List.drop_drop, show p + (t - p) = t by omega]
  conv => rhs; rw [hs]
  rw [List.filter_append, List.filter_append]
  have f1 : (l.take p).filter (fun x => decide (x.1 = a)) = [] := List.filter_eq_nil_iff.2 fun x hx => by
    obtain ⟨k, hk, rfl⟩ := List.getElem_of_mem hx
    rw [List.length_take] at hk
    rw [List.getElem_take]
    have := e1 k (by omega) (by omega)
    simp; omega
  have f3 : (l.drop t).filter (fun x => decide (x.1 = a)) = [] := List.filter_eq_nil_iff.2 fun x hx => by
    obtain ⟨k, hk, rfl⟩ := List.getElem_of_mem hx
    rw [List.length_drop] at hk
    rw [List.getElem_drop]
    have := e2 (t + k) (by omega) (by omega)
    simp; omega
  have f2 : ((l.drop p).take (t - p)).filter (fun x => decide (x.1 = a)) = (l.drop p).take (t - p) := List.filter_eq_self.2 fun x hx => by
    obtain ⟨k, hk, rfl⟩ := List.getElem_of_mem hx
    rw [List.length_take, List.length_drop] at hk
    rw [List.getElem_take, List.getElem_drop]
    simpa using h1 (p + k) (by omega) (by omega) (by omega)
  rw [f1, f2, f3]
  simp
end Go.Proofs.Kit
namespace Go.Proofs.Ytlhigfphfbmbjaa
open Go.RowKit Go.Proofs.Kit
end Go.Proofs.Ytlhigfphfbmbjaa

