/- slices.Clone of numbers and branches; few and own of stage 7's laws. -/
import Derived.Test.YtjfnhjmdgfkgnaaU3
namespace Go.Proofs.Kit
open Go.RowKit
/-- An argument that is a slice of integers: its cells. -/
def ArgI (k : IntKind) (w : World) (o : Option Addr) (c : Nat) (l : List Int) : Prop := (o = none ∧ l = [] ∧ c = 0) ∨ ∃ a, o = some a ∧ ∀ i (h : i < l.length), w.cell? (a.add i) = some (.int k l[i])
theorem ArgI.later {k : IntKind} {w w' : World} {o : Option Addr} {c : Nat} {l : List Int} (h : ArgI k w o c l) (hb : Below w.heap.size w w') : ArgI k w' o c l := by
  rcases h with h | ⟨a, rfl, h⟩
  · exact .inl h
  · refine .inr ⟨a, rfl, fun i hi => ?_⟩
    have := h i hi
    exact (hb.cell (World.block_lt_of_cell? _ _ this)).trans this
theorem ArgI.take {k : IntKind} {w : World} {o : Option Addr} {c : Nat} {l : List Int} (h : ArgI k w o c l) (n : Nat) : ArgI k w o c (l.take n) := by
  rcases h with ⟨h1, h2, h3⟩ | ⟨a, rfl, h⟩
  · exact .inl ⟨h1, by rw [h2]; simp, h3⟩
  · refine .inr ⟨a, rfl, fun i hi => ?_⟩
    rw [List.getElem_take]
    exact h i (by simp at hi; omega)

/-- An argument that is a slice of branches: its cells. -/
def ArgR (w : World) (o : Option Addr) (c : Nat) (l : List Br) : Prop := (o = none ∧ l = [] ∧ c = 0) ∨ ∃ a, o = some a ∧ ∀ i (h : i < l.length), w.cell? (a.add (i * 3)) = some (.int .u64 l[i].1) ∧ w.cell? (a.add (i * 3 + 1)) = some (.int .i64 l[i].2.1) ∧ w.cell? (a.add (i * 3 + 2)) = some (.int .i64 l[i].2.2)
theorem ArgR.later {w w' : World} {o : Option Addr} {c : Nat} {l : List Br} (h : ArgR w o c l) (hb : Below w.heap.size w w') : ArgR w' o c l := by
  rcases h with h | ⟨a, rfl, h⟩
  · exact .inl h
  · exact .inr ⟨a, rfl, fun i hi => ⟨(hb.cell (World.block_lt_of_cell? _ _ (h i hi).1)).trans (h i hi).1, (hb.cell (World.block_lt_of_cell? _ _ (h i hi).2.1)).trans (h i hi).2.1, (hb.cell (World.block_lt_of_cell? _ _ (h i hi).2.2)).trans (h i hi).2.2⟩⟩
theorem ArgR.take {w : World} {o : Option Addr} {c : Nat} {l : List Br} (h : ArgR w o c l) (n : Nat) : ArgR w o c (l.take n) := by
  rcases h with ⟨h1, h2, h3⟩ | ⟨a, rfl, h⟩
  · exact .inl ⟨h1, by rw [h2]; simp, h3⟩
  · refine .inr ⟨a, rfl, fun i hi => ?_⟩
    rw [List.getElem_take]
    exact h i (by simp at hi; omega)
theorem ArgI.of_seg {k : IntKind} {w : World} {o : Option Addr} {n c : Nat} {l : List Int} (h : Seg k w (.slice o n c) l) : ArgI k w o c l ∧ l.length = n := by
  rcases h.2 with ⟨h1, rfl⟩ | ⟨b, off, cap, h1, h2, h3, h4, h5⟩
  · injection h1 with e1 e2 e3
    exact ⟨.inl ⟨e1, rfl, e3⟩, by simp [e2]⟩
  · injection h1 with e1 e2 e3
    exact ⟨.inr ⟨_, e1, fun i hi => by rw [Addr.add_lit]; exact h5 i hi⟩, e2.symm⟩
end Go.Proofs.Kit
namespace Go.Proofs.Ytjfnhjmdgfkgnaa
open Go.RowKit Go.Proofs.Kit
set_option maxRecDepth 100000 in
set_option maxHeartbeats 1000000 in
theorem cloneu_some (a : Addr) (n c : Nat) (l : List Int) (w : World) (hl : l.length = n) (h12 : n ≤ 100000)
    (hc : ∀ i (h : i < l.length), w.cell? (a.add i) = some (.int .u64 l[i])) :
    Calls Try.prog 54 #[.slice (some a) n c] w fun e w' => ∃ v', e = .returned v' ∧ Owns .u64 32 w.heap.size w' v' l ∧ Below w.heap.size w w' := by
  obtain ⟨i0, hi, hz0, hz1, hz2⟩ := infou
  have q38 : ∀ (w : World) (a : Option Addr) (n c n' c' : Nat), (binOp .eql 23 (.slice a n c) (.slice none n' c')).run Try.prog w = .ok (.bool a.isNone) w := fun w a n c n' c' => Lib.run_eql_slice_nil w _ _ a n c n' c' Try.underlying23
  have u38 : ∀ w, Sem.run Try.prog (underlying 23) w = .ok (TypeDesc.slice 32) w := run_underlying Try.underlying23
  have A := Lib.hid hc
  have HL := Lib.hid hl
  clear hc hl
  go_enter Try.func54, Try.ntmps54
  go_wp2_with (at_builtin; refine wpList_append_own _ rfl _ _ 23 rfl w.heap.size 32 i0 (.int .u64 0) 1 8 Try.underlying23 hi hz0 hz1 hz2 rfl (by decide) _ _ _ rfl (World.ownsRow_made w #[] 0 (Nat.le_refl _) (Nat.zero_le _) rfl) a n c (l.map (Value.int .u64)) rfl ?qc1 ?qc2 (ints_oneCell _ _) ?qc4 ?qc5 ?qc6 ?_)
  case qc1 => rw [List.length_map, HL.out, Nat.mul_one]
  case qc2 =>
    intro j u hj
    have hjn : j < l.length := by have := (List.getElem?_eq_some_iff.1 hj).1; simpa using this
    refine Lib.cell?_alloc_some _ ?_
    rw [A.out j hjn, ← hj]
    simp [hjn]
  case qc4 => unfold maxLen; omega
  case qc5 => omega
  case qc6 => simp
  intro v' w1 hown hgrow hnil
  go_wp2
  go_ret
  refine ⟨v', rfl, ?_, ((Below.refl _ w).alloc (Nat.le_refl _) _).grown hgrow (by simp) (by intro k hk; simp [Value.ownBlock] at hk; omega)⟩
  have e := HL.out
  unfold Owns
  rw [e]
  simpa using hown
set_option maxRecDepth 100000 in
set_option maxHeartbeats 1000000 in
theorem cloneu_nil (w : World) :
    Calls Try.prog 54 #[.slice none 0 0] w fun e w' => ∃ v', e = .returned v' ∧ Owns .u64 32 w.heap.size w' v' [] ∧ Below w.heap.size w w' := by
  have q38 : ∀ (w : World) (a : Option Addr) (n c n' c' : Nat), (binOp .eql 23 (.slice a n c) (.slice none n' c')).run Try.prog w = .ok (.bool a.isNone) w := fun w a n c n' c' => Lib.run_eql_slice_nil w _ _ a n c n' c' Try.underlying23
  go_enter Try.func54, Try.ntmps54
  go_wp2
  go_ret
  exact ⟨_, rfl, Owns.nil _ _ _ _, Below.refl _ _⟩
theorem cloneu_any (o : Option Addr) (n c : Nat) (l : List Int) (w : World) (hl : l.length = n) (h12 : n ≤ 100000) (h : ArgI .u64 w o c l) :
    Calls Try.prog 54 #[.slice o n c] w fun e w' => ∃ v', e = .returned v' ∧ Owns .u64 32 w.heap.size w' v' l ∧ Below w.heap.size w w' := by
  rcases h with ⟨rfl, rfl, rfl⟩ | ⟨a, rfl, h⟩
  · subst hl; exact cloneu_nil w
  · exact cloneu_some a n c l w hl h12 h

set_option maxHeartbeats 2000000 in
set_option maxRecDepth 100000 in
theorem cloneR_some (a : Addr) (n c : Nat) (l : List Br) (w : World) (hl : l.length = n) (h12 : n ≤ 100000)
    (hc : ∀ i (h : i < l.length), w.cell? (a.add (i * 3)) = some (.int .u64 l[i].1) ∧ w.cell? (a.add (i * 3 + 1)) = some (.int .i64 l[i].2.1) ∧ w.cell? (a.add (i * 3 + 2)) = some (.int .i64 l[i].2.2)) :
    Calls Try.prog 53 #[.slice (some a) n c] w fun e w' => ∃ v', e = .returned v' ∧ OwnR 68 w.heap.size w' v' l ∧ Below w.heap.size w w' := by
  obtain ⟨i0, hi, hz0, hz1, hz2⟩ := infoB
  have q38 : ∀ (w : World) (a : Option Addr) (n c n' c' : Nat), (binOp .eql 22 (.slice a n c) (.slice none n' c')).run Try.prog w = .ok (.bool a.isNone) w := fun w a n c n' c' => Lib.run_eql_slice_nil w _ _ a n c n' c' Try.underlying22
  have u38 : ∀ w, Sem.run Try.prog (underlying 22) w = .ok (TypeDesc.slice 68) w := run_underlying Try.underlying22
  have A := Lib.hid hc
  have HL := Lib.hid hl
  clear hc hl
  go_enter Try.func53, Try.ntmps53
  go_wp2_with (at_builtin; refine wpList_append_own _ rfl _ _ 22 rfl w.heap.size 68 i0 (.agg #[.int .u64 0, .int .i64 0, .int .i64 0]) 3 24 Try.underlying22 hi hz0 hz1 hz2 rfl (by decide) _ _ _ rfl (World.ownsRow_made w #[] 0 (Nat.le_refl _) (Nat.zero_le _) rfl) a n c (flat3 l) rfl ?qc1 ?qc2 (flat3_one l) ?qc4 ?qc5 ?qc6 ?_)
  case qc1 => rw [flat3_length, HL.out]
  case qc2 =>
    intro j u hj
    have hjn : j < l.length * 3 := by have := (List.getElem?_eq_some_iff.1 hj).1; rwa [flat3_length] at this
    have hk : j / 3 < l.length := by omega
    refine Lib.cell?_alloc_some _ ?_
    have h : j = j / 3 * 3 ∨ j = j / 3 * 3 + 1 ∨ j = j / 3 * 3 + 2 := by omega
    rcases h with e | e | e
    · rw [e] at hj ⊢
      rw [(A.out _ hk).1, ← hj, (flat3_get l _ hk).1]
    · rw [e] at hj ⊢
      rw [(A.out _ hk).2.1, ← hj, (flat3_get l _ hk).2.1]
    · rw [e] at hj ⊢
      rw [(A.out _ hk).2.2, ← hj, (flat3_get l _ hk).2.2]
  case qc4 => unfold maxLen; omega
  case qc5 => omega
  case qc6 => simp
  intro v' w1 hown hgrow hnil
  go_wp2
  go_ret
  refine ⟨v', rfl, ?_, ((Below.refl _ w).alloc (Nat.le_refl _) _).grown hgrow (by simp) (by intro k hk; simp [Value.ownBlock] at hk; omega)⟩
  have e := HL.out
  refine ⟨by omega, ?_⟩
  rw [e]
  simpa using hown
set_option maxRecDepth 100000 in
set_option maxHeartbeats 1000000 in
theorem cloneR_nil (w : World) :
    Calls Try.prog 53 #[.slice none 0 0] w fun e w' => ∃ v', e = .returned v' ∧ OwnR 68 w.heap.size w' v' [] ∧ Below w.heap.size w w' := by
  have q38 : ∀ (w : World) (a : Option Addr) (n c n' c' : Nat), (binOp .eql 22 (.slice a n c) (.slice none n' c')).run Try.prog w = .ok (.bool a.isNone) w := fun w a n c n' c' => Lib.run_eql_slice_nil w _ _ a n c n' c' Try.underlying22
  go_enter Try.func53, Try.ntmps53
  go_wp2
  go_ret
  exact ⟨_, rfl, OwnR.nil _ _ _, Below.refl _ _⟩
theorem cloneR_any (o : Option Addr) (n c : Nat) (l : List Br) (w : World) (hl : l.length = n) (h12 : n ≤ 100000) (h : ArgR w o c l) :
    Calls Try.prog 53 #[.slice o n c] w fun e w' => ∃ v', e = .returned v' ∧ OwnR 68 w.heap.size w' v' l ∧ Below w.heap.size w w' := by
  rcases h with ⟨rfl, rfl, rfl⟩ | ⟨a, rfl, h⟩
  · subst hl; exact cloneR_nil w
  · exact cloneR_some a n c l w hl h12 h

set_option maxRecDepth 100000 in
set_option maxHeartbeats 1000000 in
theorem few7_any (o : Option Addr) (n c : Nat) (l : List Pr) (w : World) (hl : l.length = n) (hc : n ≤ c) (hm : c ≤ 9223372036854775807) (h : ArgP w o c l) :
    Calls Try.prog 28 #[.slice o n c] w fun e w' => ∃ v', e = .returned v' ∧ OwnP 83 w.heap.size w' v' (l.take 40) ∧ Below w.heap.size w w' := by
  have HL := Lib.hid hl; clear hl
  have HA := Lib.hid h; clear h
  by_cases h3 : n ≤ 40
  · go_enter Try.func28, Try.ntmps28
    go_wp2_with fail
    refine (cloneP_any o n c (l.take 40) _ (by have := HL.out; simp; omega) (by omega) (HA.out.take 40)).mono ?_
    rintro e w' ⟨v', rfl, ho, hb⟩
    go_wp2
    go_ret
    exact ⟨v', rfl, ho, hb⟩
  · go_enter Try.func28, Try.ntmps28
    go_wp2_with fail
    refine (cloneP_any o 40 c (l.take 40) _ (by have := HL.out; simp; omega) (by omega) (HA.out.take 40)).mono ?_
    rintro e w' ⟨v', rfl, ho, hb⟩
    go_wp2
    go_ret
    exact ⟨v', rfl, ho, hb⟩
end Go.Proofs.Ytjfnhjmdgfkgnaa

