/- slices.Equal and slices.Clone over texts and integers. -/
import Derived.Test.YtmghbejbdkoehaaProg
import Derived.Test.YtmghbejbdkoehaaMb
import Derived.Outline
namespace Go.Proofs.Ytmghbejbdkoehaa
open Go.RowKit Go.Proofs.Kit

theorem mixed : Try.prog.follows .mixedOrders = true := by kernel_rfl

set_option maxRecDepth 100000 in
set_option maxHeartbeats 1000000 in
theorem equals_lens (o1 o2 : Option Addr) (n1 n2 c1 c2 : Nat) (hne : n1 ≠ n2) (w : World) :
    Calls Try.prog 22 #[.slice o1 n1 c1, .slice o2 n2 c2] w fun e w' => e = .returned (.bool false) ∧ w' = w := by
  have h1 : ((n1 : Int) != (n2 : Int)) = true := by simp; omega
  clear hne
  go_enter Try.func22, Try.ntmps22
  go_wp2
  go_ret
  exact ⟨rfl, rfl⟩
set_option maxRecDepth 100000 in
set_option maxHeartbeats 1000000 in
theorem equals_none (o1 o2 : Option Addr) (c1 c2 : Nat) (w : World) :
    Calls Try.prog 22 #[.slice o1 0 c1, .slice o2 0 c2] w fun e w' => e = .returned (.bool true) ∧ w' = w := by
  go_enter Try.func22, Try.ntmps22
  go_wp2
  go_loop [5, 13] (fun _ i => i = .int .i64 0) (fun _ _ => 0)
  case atStart => rfl
  case round =>
    subst hrel
    go_wp2
    go_ret
    exact ⟨rfl, rfl⟩
set_option maxRecDepth 100000 in
set_option maxHeartbeats 1000000 in
theorem equals_some (b1 f1 b2 f2 n c1 c2 : Nat) (l1 l2 : List ByteArray) (w : World) (hn : n ≤ 9223372036854775807) (e1 : l1.length = n) (e2 : l2.length = n)
    (hc1 : ∀ i (h : i < l1.length), w.cell? ⟨b1, f1 + i, none⟩ = some (Value.string l1[i])) (hc2 : ∀ i (h : i < l2.length), w.cell? ⟨b2, f2 + i, none⟩ = some (Value.string l2[i])) :
    Calls Try.prog 22 #[.slice (some ⟨b1, f1, none⟩) n c1, .slice (some ⟨b2, f2, none⟩) n c2] w fun e w' => e = .returned (.bool (decide (l1 = l2))) ∧ Dr w w' := by
  have H1 := Lib.hid hc1; clear hc1
  have H2 := Lib.hid hc2; clear hc2
  have E1 := Lib.hid e1; clear e1
  have E2 := Lib.hid e2; clear e2
  go_enter Try.func22, Try.ntmps22
  go_wp2
  go_loopw [5, 13] (fun _ i wr => ∃ k : Nat, k ≤ n ∧ i = .int .i64 k ∧ Hid (l1.take k = l2.take k) ∧ Dr w wr) (fun _ i _ => n - (intOf i).toNat)
  case atStart => exact ⟨0, Nat.zero_le _, rfl, Lib.hid (by simp), Dr.refl _⟩
  case round =>
    obtain ⟨k, hk, rfl, hp, hB⟩ := hrel
    by_cases hlt : k < n
    · have k1 : k < l1.length := by have := E1.out; omega
      have k2 : k < l2.length := by have := E2.out; omega
      have d1 : wr.cell? ⟨b1, f1 + k, none⟩ = some (Value.string l1[k]) := (hB.cell ⟨b1, f1 + k, none⟩).trans (H1.out k k1)
      have d2 : wr.cell? ⟨b2, f2 + k, none⟩ = some (Value.string l2[k]) := (hB.cell ⟨b2, f2 + k, none⟩).trans (H2.out k k2)
      obtain ⟨x, hx⟩ : ∃ x, x = l1[k] := ⟨_, rfl⟩
      obtain ⟨y, hy⟩ : ∃ y, y = l2[k] := ⟨_, rfl⟩
      rw [← hx] at d1
      rw [← hy] at d2
      have HX := Lib.hid hx; clear hx
      have HY := Lib.hid hy; clear hy
      by_cases hxy : x = y
      · have ht := eq_s hxy
        have HXY := Lib.hid hxy; clear hxy
        go_wp2
        go_quiet (fail)
        go_wp2
        go_roundw
        case rel =>
          refine ⟨k + 1, by omega, by go_num, Lib.hid ?_, ?_⟩
          · rw [List.take_succ_eq_append_getElem k1, List.take_succ_eq_append_getElem k2, hp.out, ← HX.out, ← HY.out, HXY.out]
          · exact hB.trans (Dr.drewN _ _)
        case measure => simp [intOf]; omega
      · have ht := ne_s hxy
        have HXY := Lib.hid hxy; clear hxy
        go_wp2
        go_quiet (fail)
        go_wp2
        go_ret
        refine ⟨?_, ?_⟩
        · have : l1 ≠ l2 := by
            intro e
            have a := HX.out
            have b := HY.out
            subst e
            exact HXY.out (a.trans b.symm)
          simp [this]
        · exact hB.trans (Dr.drewN _ _)
    · go_wp2
      go_ret
      have : l1 = l2 := by
        have := hp.out
        rwa [List.take_of_length_le (by have := E1.out; omega), List.take_of_length_le (by have := E2.out; omega)] at this
      exact ⟨by simp [this], hB⟩
theorem equals_sl (v1 v2 : Value) (l1 l2 : List ByteArray) (w : World) (h1 : Sl w v1 (l1.map Value.string)) (h2 : Sl w v2 (l2.map Value.string)) :
    Calls Try.prog 22 #[v1, v2] w fun e w' => e = .returned (.bool (decide (l1 = l2))) ∧ Dr w w' := by
  obtain ⟨o1, c1, rfl, hc1, hm1, a1⟩ := h1.mshape
  obtain ⟨o2, c2, rfl, hc2, hm2, a2⟩ := h2.mshape
  by_cases hl : l1.length = l2.length
  · rcases a1 with rfl | ⟨b1, f1, rfl, q1, a1⟩
    · obtain rfl : l2 = [] := List.length_eq_zero_iff.1 hl.symm
      exact (equals_none o1 o2 c1 c2 w).mono fun e w' ⟨he, hw⟩ => ⟨by simpa using he, hw ▸ Dr.refl _⟩
    · rcases a2 with rfl | ⟨b2, f2, rfl, q2, a2⟩
      · obtain rfl : l1 = [] := List.length_eq_zero_iff.1 hl
        exact (equals_none _ o2 c1 c2 w).mono fun e w' ⟨he, hw⟩ => ⟨by simpa using he, hw ▸ Dr.refl _⟩
      · rw [← hl]
        exact equals_some b1 f1 b2 f2 l1.length c1 c2 l1 l2 w (by simpa using h1.1) rfl hl.symm a1 a2
  · refine (equals_lens o1 o2 _ _ c1 c2 hl w).mono fun e w' ⟨he, hw⟩ => ⟨?_, hw ▸ Dr.refl _⟩
    have : l1 ≠ l2 := fun e => hl (by rw [e])
    simpa [this] using he
set_option maxRecDepth 100000 in
set_option maxHeartbeats 1000000 in
theorem equali_lens (o1 o2 : Option Addr) (n1 n2 c1 c2 : Nat) (hne : n1 ≠ n2) (w : World) :
    Calls Try.prog 47 #[.slice o1 n1 c1, .slice o2 n2 c2] w fun e w' => e = .returned (.bool false) ∧ w' = w := by
  have h1 : ((n1 : Int) != (n2 : Int)) = true := by simp; omega
  clear hne
  go_enter Try.func47, Try.ntmps47
  go_wp2
  go_ret
  exact ⟨rfl, rfl⟩
set_option maxRecDepth 100000 in
set_option maxHeartbeats 1000000 in
theorem equali_none (o1 o2 : Option Addr) (c1 c2 : Nat) (w : World) :
    Calls Try.prog 47 #[.slice o1 0 c1, .slice o2 0 c2] w fun e w' => e = .returned (.bool true) ∧ w' = w := by
  go_enter Try.func47, Try.ntmps47
  go_wp2
  go_loop [5, 13] (fun _ i => i = .int .i64 0) (fun _ _ => 0)
  case atStart => rfl
  case round =>
    subst hrel
    go_wp2
    go_ret
    exact ⟨rfl, rfl⟩
set_option maxRecDepth 100000 in
set_option maxHeartbeats 1000000 in
theorem equali_some (b1 f1 b2 f2 n c1 c2 : Nat) (l1 l2 : List Int) (w : World) (hn : n ≤ 9223372036854775807) (e1 : l1.length = n) (e2 : l2.length = n)
    (hc1 : ∀ i (h : i < l1.length), w.cell? ⟨b1, f1 + i, none⟩ = some ((Value.int .i64) l1[i])) (hc2 : ∀ i (h : i < l2.length), w.cell? ⟨b2, f2 + i, none⟩ = some ((Value.int .i64) l2[i])) :
    Calls Try.prog 47 #[.slice (some ⟨b1, f1, none⟩) n c1, .slice (some ⟨b2, f2, none⟩) n c2] w fun e w' => e = .returned (.bool (decide (l1 = l2))) ∧ Dr w w' := by
  have H1 := Lib.hid hc1; clear hc1
  have H2 := Lib.hid hc2; clear hc2
  have E1 := Lib.hid e1; clear e1
  have E2 := Lib.hid e2; clear e2
  go_enter Try.func47, Try.ntmps47
  go_wp2
  go_loopw [5, 13] (fun _ i wr => ∃ k : Nat, k ≤ n ∧ i = .int .i64 k ∧ Hid (l1.take k = l2.take k) ∧ Dr w wr) (fun _ i _ => n - (intOf i).toNat)
  case atStart => exact ⟨0, Nat.zero_le _, rfl, Lib.hid (by simp), Dr.refl _⟩
  case round =>
    obtain ⟨k, hk, rfl, hp, hB⟩ := hrel
    by_cases hlt : k < n
    · have k1 : k < l1.length := by have := E1.out; omega
      have k2 : k < l2.length := by have := E2.out; omega
      have d1 : wr.cell? ⟨b1, f1 + k, none⟩ = some ((Value.int .i64) l1[k]) := (hB.cell ⟨b1, f1 + k, none⟩).trans (H1.out k k1)
      have d2 : wr.cell? ⟨b2, f2 + k, none⟩ = some ((Value.int .i64) l2[k]) := (hB.cell ⟨b2, f2 + k, none⟩).trans (H2.out k k2)
      obtain ⟨x, hx⟩ : ∃ x, x = l1[k] := ⟨_, rfl⟩
      obtain ⟨y, hy⟩ : ∃ y, y = l2[k] := ⟨_, rfl⟩
      rw [← hx] at d1
      rw [← hy] at d2
      have HX := Lib.hid hx; clear hx
      have HY := Lib.hid hy; clear hy
      by_cases hxy : x = y
      · have ht := eq_i hxy
        have HXY := Lib.hid hxy; clear hxy
        go_wp2
        go_quiet (fail)
        go_wp2
        go_roundw
        case rel =>
          refine ⟨k + 1, by omega, by go_num, Lib.hid ?_, ?_⟩
          · rw [List.take_succ_eq_append_getElem k1, List.take_succ_eq_append_getElem k2, hp.out, ← HX.out, ← HY.out, HXY.out]
          · exact hB.trans (Dr.drewN _ _)
        case measure => simp [intOf]; omega
      · have ht := ne_i hxy
        have HXY := Lib.hid hxy; clear hxy
        go_wp2
        go_quiet (fail)
        go_wp2
        go_ret
        refine ⟨?_, ?_⟩
        · have : l1 ≠ l2 := by
            intro e
            have a := HX.out
            have b := HY.out
            subst e
            exact HXY.out (a.trans b.symm)
          simp [this]
        · exact hB.trans (Dr.drewN _ _)
    · go_wp2
      go_ret
      have : l1 = l2 := by
        have := hp.out
        rwa [List.take_of_length_le (by have := E1.out; omega), List.take_of_length_le (by have := E2.out; omega)] at this
      exact ⟨by simp [this], hB⟩
theorem equali_sl (v1 v2 : Value) (l1 l2 : List Int) (w : World) (h1 : Sl w v1 (l1.map (Value.int .i64))) (h2 : Sl w v2 (l2.map (Value.int .i64))) :
    Calls Try.prog 47 #[v1, v2] w fun e w' => e = .returned (.bool (decide (l1 = l2))) ∧ Dr w w' := by
  obtain ⟨o1, c1, rfl, hc1, hm1, a1⟩ := h1.mshape
  obtain ⟨o2, c2, rfl, hc2, hm2, a2⟩ := h2.mshape
  by_cases hl : l1.length = l2.length
  · rcases a1 with rfl | ⟨b1, f1, rfl, q1, a1⟩
    · obtain rfl : l2 = [] := List.length_eq_zero_iff.1 hl.symm
      exact (equali_none o1 o2 c1 c2 w).mono fun e w' ⟨he, hw⟩ => ⟨by simpa using he, hw ▸ Dr.refl _⟩
    · rcases a2 with rfl | ⟨b2, f2, rfl, q2, a2⟩
      · obtain rfl : l1 = [] := List.length_eq_zero_iff.1 hl
        exact (equali_none _ o2 c1 c2 w).mono fun e w' ⟨he, hw⟩ => ⟨by simpa using he, hw ▸ Dr.refl _⟩
      · rw [← hl]
        exact equali_some b1 f1 b2 f2 l1.length c1 c2 l1 l2 w (by simpa using h1.1) rfl hl.symm a1 a2
  · refine (equali_lens o1 o2 _ _ c1 c2 hl w).mono fun e w' ⟨he, hw⟩ => ⟨?_, hw ▸ Dr.refl _⟩
    have : l1 ≠ l2 := fun e => hl (by rw [e])
    simpa [this] using he

/-- An argument that is a slice of values of one cell. -/
def ArgV (w : World) (o : Option Addr) (c : Nat) (l : List Value) : Prop := (o = none ∧ l = [] ∧ c = 0) ∨ ∃ a, o = some a ∧ ∀ i (h : i < l.length), w.cell? (a.add i) = some l[i]
theorem ArgV.later {w w' : World} {o : Option Addr} {c : Nat} {l : List Value} (h : ArgV w o c l) (hb : Below w.heap.size w w') : ArgV w' o c l := by
  rcases h with h | ⟨a, rfl, h⟩
  · exact .inl h
  · refine .inr ⟨a, rfl, fun i hi => ?_⟩
    have := h i hi
    exact (hb.cell (World.block_lt_of_cell? _ _ this)).trans this

theorem infos : ∃ i, Try.prog.info? 9 = some i ∧ i.zero = some (.string ⟨#[]⟩) ∧ i.size = 1 ∧ i.bytes = 16 := info_parts (by kernel_rfl)
set_option maxRecDepth 100000 in
set_option maxHeartbeats 1000000 in
theorem clones_some (a : Addr) (n c : Nat) (l : List Value) (w : World) (hl : l.length = n) (h12 : n ≤ 100000) (h1 : ∀ y ∈ l, y.oneCell' = true)
    (hc : ∀ i (h : i < l.length), w.cell? (a.add i) = some l[i]) :
    Calls Try.prog 37 #[.slice (some a) n c] w fun e w' => ∃ v', e = .returned v' ∧ Ow 9 w.heap.size w' v' l ∧ Below w.heap.size w w' := by
  obtain ⟨i0, hi, hz0, hz1, hz2⟩ := infos
  have q38 : ∀ (w : World) (a : Option Addr) (n c n' c' : Nat), (binOp .eql 22 (.slice a n c) (.slice none n' c')).run Try.prog w = .ok (.bool a.isNone) w := fun w a n c n' c' => Lib.run_eql_slice_nil w _ _ a n c n' c' Try.underlying22
  have u38 : ∀ w, Sem.run Try.prog (underlying 22) w = .ok (TypeDesc.slice 9) w := run_underlying Try.underlying22
  have A := Lib.hid hc
  have HL := Lib.hid hl
  have H1 := Lib.hid h1
  clear hc hl h1
  go_enter Try.func37, Try.ntmps37
  go_wp2_with (at_builtin; refine wpList_append_own _ rfl _ _ 22 rfl w.heap.size 9 i0 (.string ⟨#[]⟩) 1 16 Try.underlying22 hi hz0 hz1 hz2 rfl (by decide) _ _ _ rfl (World.ownsRow_made w #[] 0 (Nat.le_refl _) (Nat.zero_le _) rfl) a n c l rfl ?qc1 ?qc2 H1.out ?qc4 ?qc5 ?qc6 ?_)
  case qc1 => rw [HL.out, Nat.mul_one]
  case qc2 =>
    intro j u hj
    have hjn : j < l.length := (List.getElem?_eq_some_iff.1 hj).1
    refine Lib.cell?_alloc_some _ ?_
    rw [A.out j hjn, ← hj]
    simp [hjn]
  case qc4 => unfold maxLen; omega
  case qc5 => omega
  case qc6 => simp
  intro v' w1 hown hgrow hnil
  go_wp2
  go_ret
  refine ⟨v', rfl, ?_, ((Below.refl _ w).alloc (Nat.le_refl _) _).grown hgrow (by simp) (by intro k hk; simp [Value.ownBlock] at hk; omega)⟩
  have e := HL.out
  unfold Ow
  rw [e]
  simpa using hown
set_option maxRecDepth 100000 in
set_option maxHeartbeats 1000000 in
theorem clones_nil (w : World) :
    Calls Try.prog 37 #[.slice none 0 0] w fun e w' => ∃ v', e = .returned v' ∧ Ow 9 w.heap.size w' v' [] ∧ Below w.heap.size w w' := by
  have q38 : ∀ (w : World) (a : Option Addr) (n c n' c' : Nat), (binOp .eql 22 (.slice a n c) (.slice none n' c')).run Try.prog w = .ok (.bool a.isNone) w := fun w a n c n' c' => Lib.run_eql_slice_nil w _ _ a n c n' c' Try.underlying22
  go_enter Try.func37, Try.ntmps37
  go_wp2
  go_ret
  exact ⟨_, rfl, Ow.nil _ _ _, Below.refl _ _⟩
theorem clones_any (o : Option Addr) (n c : Nat) (l : List Value) (w : World) (hl : l.length = n) (h12 : n ≤ 100000) (h1 : ∀ y ∈ l, y.oneCell' = true) (h : ArgV w o c l) :
    Calls Try.prog 37 #[.slice o n c] w fun e w' => ∃ v', e = .returned v' ∧ Ow 9 w.heap.size w' v' l ∧ Below w.heap.size w w' := by
  rcases h with ⟨rfl, rfl, rfl⟩ | ⟨a, rfl, h⟩
  · subst hl; exact clones_nil w
  · exact clones_some a n c l w hl h12 h1 h
theorem infoi : ∃ i, Try.prog.info? 3 = some i ∧ i.zero = some (.int .i64 0) ∧ i.size = 1 ∧ i.bytes = 8 := info_parts (by kernel_rfl)
set_option maxRecDepth 100000 in
set_option maxHeartbeats 1000000 in
theorem clonei_some (a : Addr) (n c : Nat) (l : List Value) (w : World) (hl : l.length = n) (h12 : n ≤ 100000) (h1 : ∀ y ∈ l, y.oneCell' = true)
    (hc : ∀ i (h : i < l.length), w.cell? (a.add i) = some l[i]) :
    Calls Try.prog 38 #[.slice (some a) n c] w fun e w' => ∃ v', e = .returned v' ∧ Ow 3 w.heap.size w' v' l ∧ Below w.heap.size w w' := by
  obtain ⟨i0, hi, hz0, hz1, hz2⟩ := infoi
  have q38 : ∀ (w : World) (a : Option Addr) (n c n' c' : Nat), (binOp .eql 23 (.slice a n c) (.slice none n' c')).run Try.prog w = .ok (.bool a.isNone) w := fun w a n c n' c' => Lib.run_eql_slice_nil w _ _ a n c n' c' Try.underlying23
  have u38 : ∀ w, Sem.run Try.prog (underlying 23) w = .ok (TypeDesc.slice 3) w := run_underlying Try.underlying23
  have A := Lib.hid hc
  have HL := Lib.hid hl
  have H1 := Lib.hid h1
  clear hc hl h1
  go_enter Try.func38, Try.ntmps38
  go_wp2_with (at_builtin; refine wpList_append_own _ rfl _ _ 23 rfl w.heap.size 3 i0 (.int .i64 0) 1 8 Try.underlying23 hi hz0 hz1 hz2 rfl (by decide) _ _ _ rfl (World.ownsRow_made w #[] 0 (Nat.le_refl _) (Nat.zero_le _) rfl) a n c l rfl ?qc1 ?qc2 H1.out ?qc4 ?qc5 ?qc6 ?_)
  case qc1 => rw [HL.out, Nat.mul_one]
  case qc2 =>
    intro j u hj
    have hjn : j < l.length := (List.getElem?_eq_some_iff.1 hj).1
    refine Lib.cell?_alloc_some _ ?_
    rw [A.out j hjn, ← hj]
    simp [hjn]
  case qc4 => unfold maxLen; omega
  case qc5 => omega
  case qc6 => simp
  intro v' w1 hown hgrow hnil
  go_wp2
  go_ret
  refine ⟨v', rfl, ?_, ((Below.refl _ w).alloc (Nat.le_refl _) _).grown hgrow (by simp) (by intro k hk; simp [Value.ownBlock] at hk; omega)⟩
  have e := HL.out
  unfold Ow
  rw [e]
  simpa using hown
set_option maxRecDepth 100000 in
set_option maxHeartbeats 1000000 in
theorem clonei_nil (w : World) :
    Calls Try.prog 38 #[.slice none 0 0] w fun e w' => ∃ v', e = .returned v' ∧ Ow 3 w.heap.size w' v' [] ∧ Below w.heap.size w w' := by
  have q38 : ∀ (w : World) (a : Option Addr) (n c n' c' : Nat), (binOp .eql 23 (.slice a n c) (.slice none n' c')).run Try.prog w = .ok (.bool a.isNone) w := fun w a n c n' c' => Lib.run_eql_slice_nil w _ _ a n c n' c' Try.underlying23
  go_enter Try.func38, Try.ntmps38
  go_wp2
  go_ret
  exact ⟨_, rfl, Ow.nil _ _ _, Below.refl _ _⟩
theorem clonei_any (o : Option Addr) (n c : Nat) (l : List Value) (w : World) (hl : l.length = n) (h12 : n ≤ 100000) (h1 : ∀ y ∈ l, y.oneCell' = true) (h : ArgV w o c l) :
    Calls Try.prog 38 #[.slice o n c] w fun e w' => ∃ v', e = .returned v' ∧ Ow 3 w.heap.size w' v' l ∧ Below w.heap.size w w' := by
  rcases h with ⟨rfl, rfl, rfl⟩ | ⟨a, rfl, h⟩
  · subst hl; exact clonei_nil w
  · exact clonei_some a n c l w hl h12 h1 h
end Go.Proofs.Ytmghbejbdkoehaa

