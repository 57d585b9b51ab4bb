/- slices.Clone and slices.SortFunc at two-word numbers, twelve of them or fewer. -/
import Derived.Test.YtfknocgmobddmaaSf
import Derived.Test.YtfknocgmobddmaaShelf
import Derived.Test.YtfknocgmobddmaaT7
import Derived.OwnWalk
namespace Go.Proofs.Ytfknocgmobddmaa
open Go.RowKit Go.Proofs.Kit Go.Shelf Go.Lib

def encW (x : Int × Int) : List Value := [.int .u64 x.1, .int .u64 x.2]
def flat : List (Int × Int) → List Value
  | [] => []
  | p :: t => .int .u64 p.1 :: .int .u64 p.2 :: flat t
theorem flat_length : ∀ l : List (Int × Int), (flat l).length = l.length * 2
  | [] => rfl
  | _ :: t => by simp [flat, flat_length t]; omega
theorem flat_get : ∀ (l : List (Int × Int)) (k : Nat) (h : k < l.length), (flat l)[k * 2]? = some (.int .u64 l[k].1) ∧ (flat l)[k * 2 + 1]? = some (.int .u64 l[k].2)
  | _ :: _, 0, _ => ⟨rfl, rfl⟩
  | p :: t, k + 1, h => by
    have := flat_get t k (by simpa using h)
    simpa [flat, Nat.add_mul] using this
theorem flat_one : ∀ (l : List (Int × Int)) (u : Value), u ∈ flat l → u.oneCell' = true
  | p :: t, u, h => by
    simp only [flat, List.mem_cons] at h
    rcases h with rfl | rfl | h
    · rfl
    · rfl
    · exact flat_one t u h

/-- A slice of these numbers that lies in a block of its own, not below B. -/
def OwnW (B : Nat) (w : World) (v : Value) (l : List (Int × Int)) : Prop :=
  (v = .slice none 0 0 ∧ l = []) ∨ ∃ g cap cur, v = .slice (some ⟨g, 0, none⟩) l.length cap ∧ B ≤ g ∧ Blk w g cur 26 ∧
    ∀ k (h : k < l.length), cur[k * 2]? = some (.int .u64 l[k].1) ∧ cur[k * 2 + 1]? = some (.int .u64 l[k].2)

theorem info26 : ∃ i, Try.prog.info? 26 = some i ∧ i.zero = some (.agg #[.int .u64 0, .int .u64 0]) ∧ i.size = 2 ∧ i.bytes = 16 := info_parts (by kernel_rfl)

set_option maxHeartbeats 2000000 in
set_option maxRecDepth 100000 in
theorem clone_some (a : Addr) (n c : Nat) (l : List (Int × Int)) (w : World) (hl : l.length = n) (h12 : n ≤ 12)
    (hc : ∀ k (h : k < l.length), w.cell? (a.add (k * 2)) = some (.int .u64 l[k].1) ∧ w.cell? (a.add (k * 2 + 1)) = some (.int .u64 l[k].2)) :
    Calls Try.prog 30 #[.slice (some a) n c] w fun e w' => ∃ v', e = .returned v' ∧ OwnW w.heap.size w' v' l ∧ Below w.heap.size w w' := by
  obtain ⟨i0, hi, hz0, hz1, hz2⟩ := info26
  have q38 : ∀ (w : World) (a : Option Addr) (n c n' c' : Nat), (binOp .eql 38 (.slice a n c) (.slice none n' c')).run Try.prog w = .ok (.bool a.isNone) w := fun w a n c n' c' => Lib.run_eql_slice_nil w _ _ a n c n' c' Try.underlying38
  have u38 : ∀ w, Sem.run Try.prog (underlying 38) w = .ok (TypeDesc.slice 26) w := run_underlying Try.underlying38
  have A := Lib.hid hc
  have HL := Lib.hid hl
  clear hc hl
  go_enter Try.func30, Try.ntmps30
  go_wp2_with (at_builtin; refine wpList_append_own _ rfl _ _ 38 rfl w.heap.size 26 i0 (.agg #[.int .u64 0, .int .u64 0]) 2 16 Try.underlying38 hi hz0 hz1 hz2 rfl (by decide) _ _ _ rfl (World.ownsRow_made w #[] 0 (Nat.le_refl _) (Nat.zero_le _) rfl) a n c (flat l) rfl ?qc1 ?qc2 (flat_one l) ?qc4 ?qc5 ?qc6 ?_)
  case qc1 => rw [flat_length, HL.out]
  case qc2 =>
    intro j u hj
    have hjn : j < l.length * 2 := by have := (List.getElem?_eq_some_iff.1 hj).1; rwa [flat_length] at this
    have hk : j / 2 < l.length := by omega
    refine Lib.cell?_alloc_some _ ?_
    rcases Nat.mod_two_eq_zero_or_one j with h | h
    · have e : j = j / 2 * 2 := by omega
      rw [e] at hj ⊢
      rw [(A.out _ hk).1, ← hj, (flat_get l _ hk).1]
    · have e : j = j / 2 * 2 + 1 := by omega
      rw [e] at hj ⊢
      rw [(A.out _ hk).2, ← hj, (flat_get l _ hk).2]
  case qc4 => unfold maxLen; omega
  case qc5 => omega
  case qc6 => simp
  intro v' w1 hown hgrow hnil
  go_wp2
  go_ret
  refine ⟨v', rfl, ?_, ((Below.refl _ w).alloc (Nat.le_refl _) _).grown hgrow (by simp) (by intro k hk; simp [Value.ownBlock] at hk; omega)⟩
  obtain ⟨_, h | ⟨g, cap, cur, rfl, hg, hb, _, _, _, ht⟩⟩ := hown
  · exact .inl ⟨h.1, List.length_eq_zero_iff.1 (by rw [HL.out]; have := h.2; omega)⟩
  · refine .inr ⟨g, cap, cur, by rw [HL.out], hg, hb, fun k hk => ?_⟩
    have hn : k < n := by have := HL.out; omega
    have hf := flat_get l k hk
    have ht' : cur.toList.take (n * 2) = flat l := by simpa using ht
    rw [← ht'] at hf
    rw [List.getElem?_take_of_lt (by omega), List.getElem?_take_of_lt (by omega)] at hf
    simpa using hf

set_option maxHeartbeats 1000000 in
theorem clone_nil (w : World) :
    Calls Try.prog 30 #[.slice none 0 0] w fun e w' => ∃ v', e = .returned v' ∧ OwnW w.heap.size w' v' [] ∧ Below w.heap.size w w' := by
  have q38 : ∀ (w : World) (a : Option Addr) (n c n' c' : Nat), (binOp .eql 38 (.slice a n c) (.slice none n' c')).run Try.prog w = .ok (.bool a.isNone) w := fun w a n c n' c' => Lib.run_eql_slice_nil w _ _ a n c n' c' Try.underlying38
  go_enter Try.func30, Try.ntmps30
  go_wp2
  go_ret
  exact ⟨_, rfl, .inl ⟨rfl, rfl⟩, Below.refl _ _⟩

/-! ### The sort -/
def cfW (x y : Int × Int) : Int := if x.1 = y.1 then ord x.2 y.2 else ord x.1 y.1
set_option maxHeartbeats 1000000 in
theorem compare_lays (x y : Int × Int) (W : World) : Calls Try.prog 15 #[.agg #[.int .u64 x.1, .int .u64 x.2], .agg #[.int .u64 y.1, .int .u64 y.2]] W fun e w' => e = .returned (.int .i64 (cfW x y)) ∧ ∃ q os', w' = Sort.grow (W.drewN q) os' := by
  obtain ⟨a, b⟩ := x
  obtain ⟨c, d⟩ := y
  unfold cfW
  simp only
  by_cases h : a = c
  · subst h
    rw [if_pos rfl]
    go_enter Try.func15, Try.ntmps15
    go_wp2_with (go_at_call 38; refine (cmp64_any b d _).mono ?_; rintro e w' ⟨rfl, rfl⟩)
    go_ret
    exact ⟨rfl, 0, _, by rw [Sort.alloc_eq_grow, Sort.alloc_eq_grow, Sort.grow_grow]; rfl⟩
  · rw [if_neg h]
    have h1 : (a != c) = true := by simpa using h
    go_enter Try.func15, Try.ntmps15
    go_wp2_with (go_at_call 38; refine (cmp64_any a c _).mono ?_; rintro e w' ⟨rfl, rfl⟩)
    go_ret
    exact ⟨rfl, 0, _, by rw [Sort.alloc_eq_grow, Sort.alloc_eq_grow, Sort.grow_grow]; rfl⟩
theorem swoW : Sort.SWO (ltOf cfW) where
  irrefl x := by simp [ltOf, cfW, ord]
  trans x y z h1 h2 := by
    simp only [ltOf, decide_eq_true_eq] at *
    unfold cfW ord at *
    repeat' split at h1
    all_goals repeat' split at h2
    all_goals repeat' split
    all_goals omega
  ntrans x y z h1 h2 := by
    simp only [ltOf, decide_eq_false_iff_not] at *
    unfold cfW ord at *
    repeat' split at h1
    all_goals repeat' split at h2
    all_goals repeat' split
    all_goals omega
theorem len_any (n : Nat) (W : World) (h : n ≤ 12) : Calls Try.prog 52 #[.int .u64 n] W fun e w' => (∃ l : Int, e = .returned (.int .i64 l)) ∧ w' = W :=
  (Try.bits_Len n W (by omega) (by omega)).mono fun _ _ ⟨he, hw⟩ => ⟨⟨_, he⟩, hw⟩
theorem holds_blk {w : World} {g : Nat} {cur : Array Value} {l : List (Int × Int)} (hb : Blk w g cur 26) (h : ∀ k (h : k < l.length), cur[k * 2]? = some (.int .u64 l[k].1) ∧ cur[k * 2 + 1]? = some (.int .u64 l[k].2)) :
    Sort.HoldsK encW 2 w g 0 l.toArray := by
  intro j hj
  rw [Sort.size_flatK] at hj
  have hk : j / 2 < l.length := by simp at hj; omega
  refine ⟨?_, hb.frozen _⟩
  rw [hb.cell, Sort.get_flatK _ _ _ _ hj]
  have hd : l.toArray[j / 2]! = l[j / 2] := by simp [hk]
  rw [hd, Nat.zero_add]
  rcases Nat.mod_two_eq_zero_or_one j with h0 | h0
  · have e := (h _ hk).1
    rw [show j / 2 * 2 = j by omega] at e
    rw [e, h0]; rfl
  · have e := (h _ hk).2
    rw [show j / 2 * 2 + 1 = j by omega] at e
    rw [e, h0]; rfl
end Go.Proofs.Ytfknocgmobddmaa
