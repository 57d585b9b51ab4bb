/- slices.Equal of pairs and of numbers; slices.Clone of pairs; few; run.copied. -/
import Derived.Test.YtlhigfphfbmbjaaN2
namespace Go.Proofs.Ytlhigfphfbmbjaa
open Go.RowKit Go.Proofs.Kit

set_option maxRecDepth 100000 in
set_option maxHeartbeats 1000000 in
theorem equalP_lens (o1 o2 : Option Addr) (n1 n2 c1 c2 : Nat) (hne : n1 ≠ n2) (w : World) :
    Calls Try.prog 28 #[.slice o1 n1 c1, .slice o2 n2 c2] w fun e w' => e = .returned (.bool false) ∧ w' = w := by
  have h1 : ((n1 : Int) != (n2 : Int)) = true := by simp; omega
  clear hne
  go_enter Try.func28, Try.ntmps28
  go_wp2
  go_ret
  exact ⟨rfl, rfl⟩
set_option maxRecDepth 100000 in
set_option maxHeartbeats 1000000 in
theorem equalP_none (o1 o2 : Option Addr) (c1 c2 : Nat) (w : World) :
    Calls Try.prog 28 #[.slice o1 0 c1, .slice o2 0 c2] w fun e w' => e = .returned (.bool true) ∧ w' = w := by
  go_enter Try.func28, Try.ntmps28
  go_wp2
  go_loop [5, 13] (fun _ i => i = .int .i64 0) (fun _ _ => 0)
  case atStart => rfl
  case round =>
    subst hrel
    go_wp2
    go_ret
    exact ⟨rfl, rfl⟩
set_option maxRecDepth 100000 in
set_option maxHeartbeats 2000000 in
theorem equalP_some (b1 f1 b2 f2 n c1 c2 : Nat) (l1 l2 : List Pr) (w : World) (hn : n ≤ 4611686018427387903) (e1 : l1.length = n) (e2 : l2.length = n)
    (b1' : b1 < w.heap.size) (b2' : b2 < w.heap.size) (hc1 : PCells w b1 f1 l1) (hc2 : PCells w b2 f2 l2) :
    Calls Try.prog 28 #[.slice (some ⟨b1, f1, none⟩) n c1, .slice (some ⟨b2, f2, none⟩) n c2] w fun e w' => e = .returned (.bool (decide (l1 = l2))) ∧ Gr w w' := by
  have H1 := Lib.hid hc1; clear hc1
  have H2 := Lib.hid hc2; clear hc2
  have E1 := Lib.hid e1; clear e1
  have E2 := Lib.hid e2; clear e2
  go_enter Try.func28, Try.ntmps28
  go_wp2
  go_loopw [5, 13] (fun _ i wr => ∃ k : Nat, k ≤ n ∧ i = .int .i64 k ∧ Hid (l1.take k = l2.take k) ∧ Gr w wr) (fun _ i _ => n - (intOf i).toNat)
  case atStart => exact ⟨0, Nat.zero_le _, rfl, Lib.hid (by simp), Gr.refl _⟩
  case round =>
    obtain ⟨k, hk, rfl, hp, hB⟩ := hrel
    by_cases hlt : k < n
    · have k1 : k < l1.length := by have := E1.out; omega
      have k2 : k < l2.length := by have := E2.out; omega
      obtain ⟨d1, d2⟩ := (H1.out.below hB.below b1') k k1
      obtain ⟨d3, d4⟩ := (H2.out.below hB.below b2') k k2
      obtain ⟨x, hx⟩ : ∃ x, x = l1[k] := ⟨_, rfl⟩
      obtain ⟨y, hy⟩ : ∃ y, y = l2[k] := ⟨_, rfl⟩
      rw [← hx] at d1 d2
      rw [← hy] at d3 d4
      have HX := Lib.hid hx; clear hx
      have HY := Lib.hid hy; clear hy
      obtain ⟨x1, x2⟩ := x
      obtain ⟨y1, y2⟩ := y
      simp only at d1 d2 d3 d4
      by_cases h1 : x1 = y1
      · by_cases h2 : x2 = y2
        · have t1 : (x1 == y1) = true := by simpa using h1
          have t2 : (x2 == y2) = true := by simpa using h2
          have t3 : (x1 != y1) = false := by simpa using h1
          have t4 : (x2 != y2) = false := by simpa using h2
          have Q1 := Lib.hid h1
          have Q2 := Lib.hid h2
          clear h1 h2
          go_wp2
          go_quiet (fail)
          go_wp2
          go_roundw
          case rel =>
            refine ⟨k + 1, by omega, by go_num, Lib.hid ?_, hB.trans (Gr.drewN _ _)⟩
            rw [List.take_succ_eq_append_getElem k1, List.take_succ_eq_append_getElem k2, hp.out, ← HX.out, ← HY.out, Q1.out, Q2.out]
          case measure => simp [intOf]; omega
        · have t1 : (x1 == y1) = true := by simpa using h1
          have t2 : (x2 == y2) = false := by simpa using h2
          have t3 : (x1 != y1) = false := by simpa using h1
          have t4 : (x2 != y2) = true := by simpa using h2
          have hq : decide (l1 = l2) = false := by
            simp only [decide_eq_false_iff_not]
            intro e
            have a := HX.out
            have b := HY.out
            subst e
            have := a.trans b.symm
            injection this with _ e2
            exact h2 e2
          have HQ := Lib.hid hq
          clear h1 h2 hq
          go_wp2
          go_quiet (fail)
          go_wp2
          go_ret
          rw [HQ.out]
          exact ⟨rfl, hB.trans (Gr.drewN _ _)⟩
      · have t1 : (x1 == y1) = false := by simpa using h1
        have t3 : (x1 != y1) = true := by simpa using h1
        have hq : decide (l1 = l2) = false := by
          simp only [decide_eq_false_iff_not]
          intro e
          have a := HX.out
          have b := HY.out
          subst e
          have := a.trans b.symm
          injection this with e1 _
          exact h1 e1
        have HQ := Lib.hid hq
        clear h1 hq
        go_wp2
        go_quiet (fail)
        go_wp2
        go_ret
        rw [HQ.out]
        exact ⟨rfl, hB.trans (Gr.drewN _ _)⟩
    · have hq : decide (l1 = l2) = true := by
        simp only [decide_eq_true_eq]
        have := hp.out
        rwa [List.take_of_length_le (by have := E1.out; omega), List.take_of_length_le (by have := E2.out; omega)] at this
      have HQ := Lib.hid hq
      clear hq
      go_wp2
      go_ret
      rw [HQ.out]
      exact ⟨rfl, hB⟩
theorem equalP_seg (v1 v2 : Value) (l1 l2 : List Pr) (w : World) (h1 : SegP w v1 l1) (h2 : SegP w v2 l2) :
    Calls Try.prog 28 #[v1, v2] w fun e w' => e = .returned (.bool (decide (l1 = l2))) ∧ Gr w w' := by
  have hl1 := h1.1
  obtain ⟨o1, c1, rfl, hc1, hm1, a1⟩ := h1.shape
  obtain ⟨o2, c2, rfl, hc2, hm2, a2⟩ := h2.shape
  by_cases hl : l1.length = l2.length
  · rcases a1 with rfl | ⟨b1, f1, rfl, q1, a1⟩
    · obtain rfl : l2 = [] := List.length_eq_zero_iff.1 hl.symm
      exact (equalP_none o1 o2 c1 c2 w).mono fun e w' ⟨he, hw⟩ => ⟨by simpa using he, hw ▸ Gr.refl _⟩
    · rcases a2 with rfl | ⟨b2, f2, rfl, q2, a2⟩
      · obtain rfl : l1 = [] := List.length_eq_zero_iff.1 hl
        exact (equalP_none _ o2 c1 c2 w).mono fun e w' ⟨he, hw⟩ => ⟨by simpa using he, hw ▸ Gr.refl _⟩
      · rw [← hl]
        exact equalP_some b1 f1 b2 f2 l1.length c1 c2 l1 l2 w hl1 rfl hl.symm q1 q2 a1 a2
  · refine (equalP_lens o1 o2 _ _ c1 c2 hl w).mono fun e w' ⟨he, hw⟩ => ⟨?_, hw ▸ Gr.refl _⟩
    have : l1 ≠ l2 := fun e => hl (by rw [e])
    simpa [this] using he

/-- An argument that is a slice of pairs: its cells. -/
def ArgP (w : World) (o : Option Addr) (c : Nat) (l : List Pr) : Prop := (o = none ∧ l = [] ∧ c = 0) ∨ ∃ a, o = some a ∧ ∀ i (h : i < l.length), w.cell? (a.add (i * 2)) = some (.int .u64 l[i].1) ∧ w.cell? (a.add (i * 2 + 1)) = some (.int .u64 l[i].2)
theorem ArgP.later {w w' : World} {o : Option Addr} {c : Nat} {l : List Pr} (h : ArgP w o c l) (hb : Below w.heap.size w w') : ArgP w' o c l := by
  rcases h with h | ⟨a, rfl, h⟩
  · exact .inl h
  · exact .inr ⟨a, rfl, fun i hi => ⟨(hb.cell (World.block_lt_of_cell? _ _ (h i hi).1)).trans (h i hi).1, (hb.cell (World.block_lt_of_cell? _ _ (h i hi).2)).trans (h i hi).2⟩⟩
theorem ArgP.take {w : World} {o : Option Addr} {c : Nat} {l : List Pr} (h : ArgP w o c l) (n : Nat) : ArgP w o c (l.take n) := by
  rcases h with ⟨h1, h2, h3⟩ | ⟨a, rfl, h⟩
  · exact .inl ⟨h1, by rw [h2]; simp, h3⟩
  · refine .inr ⟨a, rfl, fun i hi => ?_⟩
    rw [List.getElem_take]
    exact h i (by simp at hi; omega)
theorem ArgP.of_seg {w : World} {o : Option Addr} {n c : Nat} {l : List Pr} (h : SegP w (.slice o n c) l) : ArgP w o c l ∧ l.length = n := by
  rcases h.2 with ⟨h1, rfl⟩ | ⟨b, off, cap, h1, h2, h3, h4, h5⟩
  · injection h1 with e1 e2 e3
    exact ⟨.inl ⟨e1, rfl, e3⟩, by simp [e2]⟩
  · injection h1 with e1 e2 e3
    exact ⟨.inr ⟨_, e1, fun i hi => by rw [Addr.add_lit, Addr.add_lit, ← Nat.add_assoc]; exact h5 i hi⟩, e2.symm⟩

theorem infoP : ∃ i, Try.prog.info? 53 = some i ∧ i.zero = some (.agg #[.int .u64 0, .int .u64 0]) ∧ i.size = 2 ∧ i.bytes = 16 := info_parts (by kernel_rfl)
set_option maxHeartbeats 2000000 in
set_option maxRecDepth 100000 in
theorem cloneP_some (a : Addr) (n c : Nat) (l : List Pr) (w : World) (hl : l.length = n) (h12 : n ≤ 100000)
    (hc : ∀ i (h : i < l.length), w.cell? (a.add (i * 2)) = some (.int .u64 l[i].1) ∧ w.cell? (a.add (i * 2 + 1)) = some (.int .u64 l[i].2)) :
    Calls Try.prog 47 #[.slice (some a) n c] w fun e w' => ∃ v', e = .returned v' ∧ OwnP 53 w.heap.size w' v' l ∧ Below w.heap.size w w' := by
  obtain ⟨i0, hi, hz0, hz1, hz2⟩ := infoP
  have q38 : ∀ (w : World) (a : Option Addr) (n c n' c' : Nat), (binOp .eql 22 (.slice a n c) (.slice none n' c')).run Try.prog w = .ok (.bool a.isNone) w := fun w a n c n' c' => Lib.run_eql_slice_nil w _ _ a n c n' c' Try.underlying22
  have u38 : ∀ w, Sem.run Try.prog (underlying 22) w = .ok (TypeDesc.slice 53) w := run_underlying Try.underlying22
  have A := Lib.hid hc
  have HL := Lib.hid hl
  clear hc hl
  go_enter Try.func47, Try.ntmps47
  go_wp2_with (at_builtin; refine wpList_append_own _ rfl _ _ 22 rfl w.heap.size 53 i0 (.agg #[.int .u64 0, .int .u64 0]) 2 16 Try.underlying22 hi hz0 hz1 hz2 rfl (by decide) _ _ _ rfl (World.ownsRow_made w #[] 0 (Nat.le_refl _) (Nat.zero_le _) rfl) a n c (flat l) rfl ?qc1 ?qc2 (flat_one l) ?qc4 ?qc5 ?qc6 ?_)
  case qc1 => rw [flat_length, HL.out]
  case qc2 =>
    intro j u hj
    have hjn : j < l.length * 2 := by have := (List.getElem?_eq_some_iff.1 hj).1; rwa [flat_length] at this
    have hk : j / 2 < l.length := by omega
    refine Lib.cell?_alloc_some _ ?_
    rcases Nat.mod_two_eq_zero_or_one j with h | h
    · have e : j = j / 2 * 2 := by omega
      rw [e] at hj ⊢
      rw [(A.out _ hk).1, ← hj, (flat_get l _ hk).1]
    · have e : j = j / 2 * 2 + 1 := by omega
      rw [e] at hj ⊢
      rw [(A.out _ hk).2, ← hj, (flat_get l _ hk).2]
  case qc4 => unfold maxLen; omega
  case qc5 => omega
  case qc6 => simp
  intro v' w1 hown hgrow hnil
  go_wp2
  go_ret
  refine ⟨v', rfl, ?_, ((Below.refl _ w).alloc (Nat.le_refl _) _).grown hgrow (by simp) (by intro k hk; simp [Value.ownBlock] at hk; omega)⟩
  have e := HL.out
  refine ⟨by omega, ?_⟩
  rw [e]
  simpa using hown
set_option maxRecDepth 100000 in
set_option maxHeartbeats 1000000 in
theorem cloneP_nil (w : World) :
    Calls Try.prog 47 #[.slice none 0 0] w fun e w' => ∃ v', e = .returned v' ∧ OwnP 53 w.heap.size w' v' [] ∧ Below w.heap.size w w' := by
  have q38 : ∀ (w : World) (a : Option Addr) (n c n' c' : Nat), (binOp .eql 22 (.slice a n c) (.slice none n' c')).run Try.prog w = .ok (.bool a.isNone) w := fun w a n c n' c' => Lib.run_eql_slice_nil w _ _ a n c n' c' Try.underlying22
  go_enter Try.func47, Try.ntmps47
  go_wp2
  go_ret
  exact ⟨_, rfl, OwnP.nil _ _ _, Below.refl _ _⟩
theorem cloneP_any (o : Option Addr) (n c : Nat) (l : List Pr) (w : World) (hl : l.length = n) (h12 : n ≤ 100000) (h : ArgP w o c l) :
    Calls Try.prog 47 #[.slice o n c] w fun e w' => ∃ v', e = .returned v' ∧ OwnP 53 w.heap.size w' v' l ∧ Below w.heap.size w w' := by
  rcases h with ⟨rfl, rfl, rfl⟩ | ⟨a, rfl, h⟩
  · subst hl; exact cloneP_nil w
  · exact cloneP_some a n c l w hl h12 h

end Go.Proofs.Ytlhigfphfbmbjaa

