/- Tiers: plain facts of the statements that ask no reference. No program is named here. -/
import Derived.Test.YtcapmhmlipmciaaW18
namespace Go.Proofs.Kit
open Go.RowKit
theorem ownL_s (L : List Tr) : SmT 16 (ownL L) := by
  intro t ht
  obtain ⟨u, _, rfl⟩ := List.mem_map.1 ht
  simp [few16]
  omega
theorem ownL_w {L : List Tr} (h : Wl L) : Wl (ownL L) := by
  intro t ht
  obtain ⟨u, hu, rfl⟩ := List.mem_map.1 ht
  have := h u (List.mem_of_mem_take hu)
  exact ⟨fun p hp => this.1 p (List.mem_of_mem_take hp), fun p hp => this.2 p (List.mem_of_mem_take hp)⟩
theorem say1_cases (t : Tr) (p : Pr) : say1 t p = 0 ∨ say1 t p = 1 ∨ say1 t p = 2 := says_cases [t] p
theorem says_two (t u : Tr) (p : Pr) : says [t, u] p = if say1 u p = 0 then say1 t p else say1 u p := says_append [t] [u] p
theorem those_ext {L M : List Tr} {k : Int} (hk : k ≠ 0) (h : ∀ p, says L p = k ↔ says M p = k) : those L k = those M k :=
  those_of hk (those_run L k) fun p => by rw [those_mem hk, h]
/-- What is squashed says that what is there is there. -/
theorem sqL_says (L : List Tr) {p q : Nat} (hpq : p < q) (x : Pr) : says (sqL L p q) x = 1 ↔ says L x = 1 := by
  have e : L = L.take p ++ ((L.drop p).take (q - p) ++ L.drop q) := by
    have h1 : L.drop q = (L.drop p).drop (q - p) := by rw [List.drop_drop]; congr 1; omega
    rw [h1, List.take_append_drop, List.take_append_drop]
  obtain ⟨A, hA⟩ : ∃ A, A = L.take p := ⟨_, rfl⟩
  obtain ⟨M, hM⟩ : ∃ M, M = (L.drop p).take (q - p) := ⟨_, rfl⟩
  obtain ⟨C, hC⟩ : ∃ C, C = L.drop q := ⟨_, rfl⟩
  have hs : sqL L p q = A ++ [joinT (decide (p = 0)) M] ++ C := by rw [sqL, hA, hM, hC]
  rw [← hA, ← hM, ← hC] at e
  rw [hs, e, says_append, says_append, says_append, says_append, says_one]
  by_cases h0 : p = 0
  · have hA0 : A = [] := by rw [hA, h0]; rfl
    subst hA0
    rw [decide_eq_true h0, say1_old]
    have hn : says [] x = 0 := rfl
    rw [hn]
    rcases says_cases C x with c | c | c <;> rcases says_cases M x with m | m | m <;> simp [c, m]
  · rw [decide_eq_false h0, say1_join]
    rcases says_cases C x with c | c | c <;> rcases says_cases M x with m | m | m <;> simp [c, m]
theorem sqL_len {L : List Tr} {p q : Nat} (hpq : p < q) (hq : q ≤ L.length) : (sqL L p q).length = L.length - (q - p) + 1 := by
  simp [sqL]
  omega
theorem sqL_mem {L : List Tr} {p q : Nat} {t : Tr} (h : t ∈ sqL L p q) : t ∈ L ∨ t = joinT (decide (p = 0)) ((L.drop p).take (q - p)) := by
  unfold sqL at h
  rcases List.mem_append.1 h with h | h
  · rcases List.mem_append.1 h with h | h
    · exact .inl (List.mem_of_mem_take h)
    · simp at h; exact .inr h
  · exact .inl (List.mem_of_mem_drop h)
theorem sub_s {m p q : Nat} {L : List Tr} (h : SmT m L) : SmT m ((L.drop p).take (q - p)) := fun t ht => h t (List.mem_of_mem_drop (List.mem_of_mem_take ht))
theorem sqL_s {L : List Tr} {p q : Nat} (h : SmT 16 L) (hl : L.length ≤ 24) : SmT 800 (sqL L p q) := by
  intro t ht
  rcases sqL_mem ht with h1 | rfl
  · have := h t h1; omega
  · have h2 := joinT_len (sub_s (p := p) (q := q) h) (decide (p = 0))
    have h3 : ((L.drop p).take (q - p)).length ≤ 24 := by simp; omega
    omega
theorem sqL_w {L : List Tr} {p q : Nat} (h : Wl L) : Wl (sqL L p q) := by
  intro t ht
  rcases sqL_mem ht with h1 | rfl
  · exact h t h1
  · exact joinT_w (fun u hu => h u (List.mem_of_mem_drop (List.mem_of_mem_take hu))) _
theorem sqL_good {L : List Tr} {p q : Nat} (hg : goodT L) (h : SmT 16 L) (hpq : p < q) (hq : q ≤ L.length) : goodT (sqL L p q) := by
  refine ⟨fun t ht => ?_, by rw [sqL_len hpq hq]; have := hg.2; omega⟩
  rcases sqL_mem ht with h1 | rfl
  · exact hg.1 t h1
  · have h3 : ((L.drop p).take (q - p)).length ≤ 24 := by have := hg.2; simp; omega
    exact joinT_one (sub_s h) (by omega) _
theorem cont_good {L : List Tr} (h : goodT L) : cont L = those L 1 := if_pos h
theorem cont_run (L : List Tr) : Run (cont L) := by
  unfold cont
  split
  · exact those_run L 1
  · exact Run.nil
theorem cont_len {m : Nat} {L : List Tr} (h : SmT m L) : (cont L).length ≤ L.length * (2 * m) := by
  unfold cont
  split
  · exact those_len h 1
  · simp
theorem sqL_cont {L : List Tr} {p q : Nat} (hg : goodT L) (h : SmT 16 L) (hpq : p < q) (hq : q ≤ L.length) : cont (sqL L p q) = cont L := by
  rw [cont_good hg, cont_good (sqL_good hg h hpq hq)]
  exact those_ext (by decide) (sqL_says L hpq)
/-- Least. -/
theorem least_facts {L : List Tr} (hg : goodT L) (h : SmT 16 L) (hw : Wl L) : goodT (leastL L) ∧ leastL (leastL L) = leastL L ∧ cont (leastL L) = cont L ∧ Wl (leastL L) ∧ SmT 800 (leastL L) := by
  have hj : those [joinT true L] 1 = those L 1 := those_ext (by decide) fun p => by
    rw [says_one, say1_old]
    split <;> simp_all
  have hl : L.length * (2 * 16) ≤ 768 := by have := hg.2; omega
  have hone : oneT (joinT true L) := joinT_one h (by omega) true
  have hgj : goodT [joinT true L] := ⟨fun t ht => by simp at ht; rw [ht]; exact hone, by simp⟩
  by_cases c : those L 1 = []
  · have e : leastL L = [] := by rw [leastL, if_neg]; exact fun k => k.2 c
    have hn : goodT ([] : List Tr) := ⟨by simp, by simp⟩
    have hc : those ([] : List Tr) 1 = [] := rfl
    rw [e, cont_good hn, cont_good hg, hc, c]
    refine ⟨hn, ?_, rfl, by intro t ht; simp at ht, by intro t ht; simp at ht⟩
    rw [leastL, if_neg]
    exact fun k => k.2 hc
  · have e : leastL L = [joinT true L] := by rw [leastL, if_pos ⟨hg, c⟩]
    rw [e, cont_good hgj, cont_good hg, hj]
    refine ⟨hgj, ?_, rfl, ?_, ?_⟩
    · rw [leastL, if_pos ⟨hgj, by rw [hj]; exact c⟩]
      unfold joinT
      simp only [if_true]
      have : those [(those L 1, ([] : List Pr))] 1 = those L 1 := hj
      rw [this]
    · intro t ht
      simp at ht
      rw [ht]
      exact joinT_w hw true
    · intro t ht
      simp at ht
      rw [ht]
      have := joinT_len h true
      omega
/-- What is pushed. -/
theorem push_cases (L : List Tr) (a d : List Pr) : (pushE L a d ≠ 0 ∧ pushL L a d = []) ∨ (pushE L a d = 0 ∧ pushL L a d = L ++ [(a, d)] ∧ goodT L ∧ okP a ∧ okP d ∧ (∀ p ∈ a, p ∉ d) ∧ L.length < 24) := by
  by_cases h : pushE L a d = 0
  · refine .inr ⟨h, by rw [pushL, if_pos h], ?_⟩
    unfold pushE at h
    split at h
    · rename_i hg
      split at h
      · rename_i hok
        split at h
        · rename_i hap
          split at h
          · cases h
          · rename_i h24
            exact ⟨hg, hok.1, hok.2, hap, by have := hg.2; omega⟩
        · cases h
      · cases h
    · cases h
  · exact .inl ⟨h, by rw [pushL, if_neg h]⟩
theorem push_good {L : List Tr} {a d : List Pr} (hg : goodT L) (ha : okP a) (hd : okP d) (hap : ∀ p ∈ a, p ∉ d) (hl : L.length < 24) : goodT (L ++ [(a, d)]) := by
  refine ⟨fun t ht => ?_, by simp; omega⟩
  rcases List.mem_append.1 ht with ht | ht
  · exact hg.1 t ht
  · simp at ht
    rw [ht]
    exact ⟨⟨ha, hd⟩, hap⟩
/-- Three as one. -/
theorem three_same (o : Bool) (a b c : Tr) : joinT o [joinT o [a, b], c] = joinT o [a, joinT false [b, c]] := by
  have h1 : those [joinT o [a, b], c] 1 = those [a, joinT false [b, c]] 1 := those_ext (by decide) fun p => by
    rw [says_two, says_two, say1_join, says_two]
    cases o
    · rw [say1_join, says_two]
      rcases say1_cases a p with x | x | x <;> rcases say1_cases b p with y | y | y <;> rcases say1_cases c p with z | z | z <;> simp [x, y, z]
    · rw [say1_old, says_two]
      rcases say1_cases a p with x | x | x <;> rcases say1_cases b p with y | y | y <;> rcases say1_cases c p with z | z | z <;> simp [x, y, z]
  cases o
  · have h2 : those [joinT false [a, b], c] 2 = those [a, joinT false [b, c]] 2 := those_ext (by decide) fun p => by
      rw [says_two, says_two, say1_join, says_two, say1_join, says_two]
      rcases say1_cases a p with x | x | x <;> rcases say1_cases b p with y | y | y <;> rcases say1_cases c p with z | z | z <;> simp [x, y, z]
    have e : ∀ L, joinT false L = (those L 1, those L 2) := fun L => by unfold joinT; simp
    rw [e [joinT false [a, b], c], e [a, joinT false [b, c]], h1, h2]
  · have e : ∀ L, joinT true L = (those L 1, []) := fun L => by unfold joinT; simp
    rw [e [joinT true [a, b], c], e [a, joinT false [b, c]], h1]
theorem good_two {t u : Tr} (ht : oneT t) (hu : oneT u) : goodT [t, u] := by
  refine ⟨fun x hx => ?_, by simp⟩
  simp at hx
  rcases hx with rfl | rfl
  · exact ht
  · exact hu
end Go.Proofs.Kit
namespace Go.Proofs.Ytcapmhmlipmciaa
open Go.RowKit Go.Proofs.Kit
theorem push_cont {L : List Tr} {a d : List Pr} (hg : goodT L) (hs : SmT 16 L) (ha : okP a) (hd : okP d) (hap : ∀ p ∈ a, p ∉ d) (hl : L.length < 24) :
    cont (L ++ [(a, d)]) = cmb true true true (cmb true false false (cont L) d) a ∧ ck2 (cont L) d = 0 ∧ ck2 (cmb true false false (cont L) d) a = 0 ∧ (cmb true false false (cont L) d).length ≤ 768 := by
  have hcl := cont_len hs
  have hoc : okP (cont L) := ⟨cont_run L, by omega⟩
  have hm : cmb true false false (cont L) d = comb true false false (cont L) d := by unfold cmb; rw [if_pos ⟨hoc, hd⟩]
  have hml : (cmb true false false (cont L) d).length ≤ 768 := by
    have h3 : comb true false false (cont L) d = (cont L).filter (fun p => decide (p ∉ d)) := run_ext (comb_run hoc.1 hd.1 _ _ _) (hoc.1.sub List.filter_sublist) fun p => by
      rw [comb_mem hoc.1 hd.1, List.mem_filter]
      simp
    have h4 := List.length_filter_le (fun p => decide (p ∉ d)) (cont L)
    rw [← h3] at h4
    have := hg.2
    rw [hm]
    omega
  have hom : okP (cmb true false false (cont L) d) := ⟨by rw [hm]; exact comb_run hoc.1 hd.1 _ _ _, by omega⟩
  refine ⟨?_, if_pos ⟨hoc, hd⟩, if_pos ⟨hom, ha⟩, hml⟩
  rw [cont_good (push_good hg ha hd hap hl)]
  symm
  have hu : cmb true true true (cmb true false false (cont L) d) a = comb true true true (cmb true false false (cont L) d) a := by
    generalize cmb true false false (cont L) d = m at hom
    unfold cmb
    rw [if_pos ⟨hom, ha⟩]
  rw [hu]
  refine those_of (by decide) (comb_run hom.1 ha.1 _ _ _) fun p => ?_
  rw [comb_mem hom.1 ha.1, hm, comb_mem hoc.1 hd.1, cont_good hg, says_append, says_one]
  simp only [those_mem (show (1 : Int) ≠ 0 by decide)]
  unfold say1
  by_cases h1 : p ∈ a
  · have h2 := hap p h1
    simp [h1, h2]
    rcases says_cases L p with c | c | c <;> simp [c]
  · by_cases h2 : p ∈ d
    · simp [h1, h2]
    · simp [h1, h2]
end Go.Proofs.Ytcapmhmlipmciaa

