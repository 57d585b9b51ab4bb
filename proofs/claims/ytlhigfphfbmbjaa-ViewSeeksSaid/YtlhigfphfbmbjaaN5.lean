/- slices.Compact of pairs, and of numbers. -/
import Derived.Test.YtlhigfphfbmbjaaN4
namespace Go.Proofs.Kit
open Go.RowKit
section
variable {α : Type} [DecidableEq α]
/-- Of equal neighbours the first one alone. -/
def dd : List α → List α
  | [] => []
  | [x] => [x]
  | x :: y :: t => if x = y then dd (y :: t) else x :: dd (y :: t)
theorem dd_snoc : ∀ (l : List α) (x y : α), dd (l ++ [x] ++ [y]) = if x = y then dd (l ++ [x]) else dd (l ++ [x]) ++ [y]
  | [], x, y => by by_cases h : x = y <;> simp [dd, h]
  | [a], x, y => by
    have := dd_snoc [] x y
    simp only [List.nil_append, List.cons_append] at this ⊢
    by_cases h : a = x
    · simp only [dd, h, if_true] at this ⊢; exact this
    · simp only [dd, h, if_false]
      simp only [dd] at this
      rw [this]
      split <;> simp
  | a :: b :: t, x, y => by
    have := dd_snoc (b :: t) x y
    simp only [List.cons_append] at this ⊢
    rw [dd, dd, this]
    by_cases h : a = b <;> by_cases k : x = y <;> simp [h, k]
theorem dd_take_succ {l : List α} {k : Nat} (h1 : 1 ≤ k) (hk : k < l.length) : dd (l.take (k + 1)) = if l[k - 1]'(by omega) = l[k] then dd (l.take k) else dd (l.take k) ++ [l[k]] := by
  obtain ⟨j, rfl⟩ : ∃ j, k = j + 1 := ⟨k - 1, by omega⟩
  rw [List.take_succ_eq_append_getElem hk, List.take_succ_eq_append_getElem (show j < l.length by omega), dd_snoc]
  simp
theorem dd_len : ∀ l : List α, (dd l).length ≤ l.length
  | [] => by simp [dd]
  | [x] => by simp [dd]
  | x :: y :: t => by
    have := dd_len (y :: t)
    rw [dd]
    split <;> simp at this ⊢ <;> omega
theorem dd_mem : ∀ (l : List α) (x : α), x ∈ dd l ↔ x ∈ l
  | [], x => by simp [dd]
  | [y], x => by simp [dd]
  | y :: z :: t, x => by
    have := dd_mem (z :: t) x
    rw [dd]
    by_cases h : y = z
    · rw [if_pos h, this, h]; simp
    · rw [if_neg h, List.mem_cons, this]; simp
theorem dd_small {l : List α} (h : l.length < 2) : dd l = l := by
  match l, h with
  | [], _ => rfl
  | [x], _ => rfl
omit [DecidableEq α] in
theorem take_set_succ {l : List α} {k : Nat} (hk : k < l.length) (x : α) : (l.set k x).take (k + 1) = l.take k ++ [x] := by
  rw [List.take_succ_eq_append_getElem (by simpa using hk), List.take_set, List.set_eq_of_length_le (by simp; omega)]
  simp
omit [DecidableEq α] in
theorem drop_set_lt {l : List α} {k j : Nat} (h : k < j) (x : α) : (l.set k x).drop j = l.drop j := by
  rw [List.drop_set, if_pos h]
omit [DecidableEq α] in
theorem getElem_of_drop {l m : List α} {j i : Nat} (h : l.drop j = m.drop j) (hi : j ≤ i) (h1 : i < l.length) (h2 : i < m.length) : l[i] = m[i] := by
  have e : (l.drop j)[i - j]? = (m.drop j)[i - j]? := by rw [h]
  simp only [List.getElem?_drop, show j + (i - j) = i by omega, List.getElem?_eq_getElem h1, List.getElem?_eq_getElem h2] at e
  exact Option.some.inj e
end
theorem OwnP.facts {t : TypeId} {B : Nat} {w : World} {l : List Pr} {g n cap : Nat} (h : OwnP t B w (.slice (some ⟨g, 0, none⟩) n cap) l) : PCells w g 0 l ∧ (∀ j, w.frozen? ⟨g, j, none⟩ = false) ∧ g < w.heap.size ∧ B ≤ g ∧ l.length = n := by
  rcases h.2.2 with ⟨h1, _⟩ | ⟨g', cap', cur, h1, hg, hb, _, _, _, h4⟩
  · cases h1
  · injection h1 with h1 h2 h3
    injection h1 with h1
    injection h1 with h1 _ _
    subst h1
    have hb' : Blk w g cur t := hb
    refine ⟨fun i hi => ?_, fun j => hb'.frozen j, hb'.lt, hg, h2.symm⟩
    have hf := flat_get l i hi
    rw [← h4] at hf
    rw [List.getElem?_take_of_lt (by omega), List.getElem?_take_of_lt (by omega)] at hf
    rw [hb'.cell, hb'.cell, Nat.zero_add]
    simpa using hf
theorem OwnP.store {t : TypeId} {B : Nat} {w : World} {l : List Pr} {g n cap i : Nat} (h : OwnP t B w (.slice (some ⟨g, 0, none⟩) n cap) l) (hi : i < l.length) (x1 x2 : Int) : OwnP t B ((w.setCell ⟨g, i * 2, none⟩ (.int .u64 x1)).setCell ⟨g, i * 2 + 1, none⟩ (.int .u64 x2)) (.slice (some ⟨g, 0, none⟩) n cap) (l.set i (x1, x2)) := by
  obtain ⟨g', cap', e, _, _, _, _, _, _, h'⟩ := h.set hi (x1, x2)
  injection e with e1 e2 e3
  injection e1 with e1
  injection e1 with e1 _ _
  subst e1
  exact h'
theorem zeroCells_P (n : Nat) : (Builtin.zeroCells #[.int .u64 0, .int .u64 0] n).toList = flat (zeros n) := by
  rw [flat_zeros]
  apply List.ext_getElem
  · simp [Builtin.zeroCells]
  · intro i h1 h2
    simp [Builtin.zeroCells]
    rcases Nat.mod_two_eq_zero_or_one i with e | e <;> simp [e]
theorem zeroCells_I (k : IntKind) (n : Nat) : (Builtin.zeroCells #[.int k 0] n).toList = List.replicate n (.int k 0) := by
  apply List.ext_getElem
  · simp [Builtin.zeroCells]
  · intro i h1 h2
    simp [Builtin.zeroCells, Nat.mod_one]
/-- clear(s[k:]) of a row of the call's own; what is ahead of k is kept. -/
theorem wpList_clear_tailP {P : Program} {w : World} {ops : Array Oper} {rest : List Oper} {o : Oper} {a : Act} {Q : Exit → Act → World → Prop} (hgd : o.guard = none) (s : Operand) (t : TypeId)
    (ho : o.op = .call { callee := .builtin .clear, args := #[s], argTypes := #[t] }) (e : TypeId) (hu : P.underlying t = some (.slice e)) (hz : ∀ w, (zeroValue e).run P w = .ok (.agg #[.int .u64 0, .int .u64 0]) w)
    (B g cap : Nat) (l : List Pr) (k : Nat) (hk : k < l.length) (hown : OwnP e B w (.slice (some ⟨g, 0, none⟩) l.length cap) l) (len' c' : Nat) (hs : a.eval s = .slice (some ⟨g, k * 2, none⟩) len' c') (hlen' : len' = l.length - k)
    (h : ∀ w', OwnP e B w' (.slice (some ⟨g, 0, none⟩) k cap) (l.take k) → Below B w w' → wpList P ops Q rest (a.put o.dst (.tuple #[])) w') : wpList P ops Q (o :: rest) a w := by
  refine wpList_plain hgd fun K hK => ?_
  subst hlen'
  have hl48 := hown.1
  obtain ⟨g', cap', cur, hv, h1, h2, h3, hg, hb, h4⟩ := hown.blk (by omega)
  injection hv with hv _ hc
  injection hv with hv
  injection hv with hv _ _
  subst hv hc
  have hst := run_storeCells_at P g (k * 2) e (flat (zeros (l.length - k))) 0 cur w hb (by rw [flat_length]; simp [zeros]; omega) (flat_one _)
  simp only [Nat.add_zero] at hst
  have hne : l.length - k ≠ 0 := by omega
  obtain ⟨m, hm⟩ : ∃ m, l.length - k = m + 1 := ⟨l.length - k - 1, by omega⟩
  have hrun : (Builtin.clear_ #[t] o.type #[.slice (some ⟨g, k * 2, none⟩) (l.length - k) c']).run P w = .ok (.tuple #[]) (w.setRow g (cur.toList.take (k * 2) ++ flat (zeros (l.length - k)) ++ cur.toList.drop (k * 2 + (flat (zeros (l.length - k))).length)).toArray) := by
    rw [hm] at hst ⊢
    have hzc := zeroCells_P (m + 1)
    simp [Builtin.clear_, run_underlying hu, hz, Value.cells, hzc, hst]
  unfold Oper.wp
  simp [execOp, ho, resolve, invoke, builtin, hs, hrun, Result.andThen]
  refine hK _ _ (h _ ?_ (below_setRow (Below.refl _ _) hg _))
  have e1 : (l.take k).length = k := by simp; omega
  have hcl : cur.toList.length = cap * 2 := by simpa using h3
  have := OwnP.of_blk (t := e) (l := l.take k) (cap := cap) hg (blk_setRow hb (cur.toList.take (k * 2) ++ flat (zeros (l.length - k)) ++ cur.toList.drop (k * 2 + (flat (zeros (l.length - k))).length)).toArray) (by omega) h2 (by omega) (by
    simp [flat_length, zeros]; omega) (by
    rw [e1, flat_take, ← h4, List.take_take]
    simp only [List.append_assoc]
    rw [List.take_append_of_le_length (by simp; omega), List.take_take]
    congr 1
    omega)
  rw [e1] at this
  simpa using this
theorem wpList_clear_tailI {P : Program} {w : World} {ops : Array Oper} {rest : List Oper} {o : Oper} {a : Act} {Q : Exit → Act → World → Prop} (hgd : o.guard = none) (s : Operand) (t : TypeId)
    (ho : o.op = .call { callee := .builtin .clear, args := #[s], argTypes := #[t] }) (e : TypeId) (ik : IntKind) (hu : P.underlying t = some (.slice e)) (hz : ∀ w, (zeroValue e).run P w = .ok (.int ik 0) w)
    (B g cap : Nat) (l : List Int) (k : Nat) (hk : k < l.length) (hown : Owns ik e B w (.slice (some ⟨g, 0, none⟩) l.length cap) l) (len' c' : Nat) (hs : a.eval s = .slice (some ⟨g, k, none⟩) len' c') (hlen' : len' = l.length - k)
    (h : ∀ w', Owns ik e B w' (.slice (some ⟨g, 0, none⟩) k cap) (l.take k) → Below B w w' → wpList P ops Q rest (a.put o.dst (.tuple #[])) w') : wpList P ops Q (o :: rest) a w := by
  refine wpList_plain hgd fun K hK => ?_
  subst hlen'
  have hl63 := hown.len
  rcases hown.2 with ⟨hv, _⟩ | ⟨g', cap', cur, hv, hg, hb, h1, h2, h3, h4⟩
  · cases hv
  injection hv with hv _ hc
  injection hv with hv
  injection hv with hv _ _
  subst hv hc
  have hst := run_storeCells_at P g k e (List.replicate (l.length - k) (Value.int ik 0)) 0 cur w hb (by simp; omega) (by intro v hv; rw [List.eq_of_mem_replicate hv]; rfl)
  simp only [Nat.add_zero] at hst
  obtain ⟨m, hm⟩ : ∃ m, l.length - k = m + 1 := ⟨l.length - k - 1, by omega⟩
  have hrun : (Builtin.clear_ #[t] o.type #[.slice (some ⟨g, k, none⟩) (l.length - k) c']).run P w = .ok (.tuple #[]) (w.setRow g (cur.toList.take k ++ List.replicate (l.length - k) (Value.int ik 0) ++ cur.toList.drop (k + (List.replicate (l.length - k) (Value.int ik 0)).length)).toArray) := by
    rw [hm] at hst ⊢
    have hzc := zeroCells_I ik (m + 1)
    simp only [Builtin.clear_]
    simp [run_underlying hu, hz, Value.cells, hzc, hst]
  unfold Oper.wp
  simp [execOp, ho, resolve, invoke, builtin, hs, hrun, Result.andThen]
  refine hK _ _ (h _ ?_ (below_setRow (Below.refl _ _) hg _))
  have e1 : (l.take k).length = k := by simp; omega
  refine ⟨by simp, .inr ⟨g, cap, _, by rw [e1], hg, blk_setRow (t := e) hb _, by omega, h2, by simp at h3 ⊢; omega, ?_⟩⟩
  rw [Nat.mul_one] at h4 ⊢
  rw [e1, List.map_take, ← h4, List.take_take]
  rw [List.take_append_of_le_length (by simp; omega), List.take_take]
  congr 1
  omega
end Go.Proofs.Kit
namespace Go.Proofs.Ytlhigfphfbmbjaa
open Go.RowKit Go.Proofs.Kit

theorem zeroP (w : World) : (zeroValue 53).run Try.prog w = .ok (.agg #[.int .u64 0, .int .u64 0]) w := by kernel_rfl
end Go.Proofs.Ytlhigfphfbmbjaa

