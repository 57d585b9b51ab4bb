/- The document's own answers: Number, Text and Row of the reference. -/
import Derived.Test.YtdjcdhkdmgkdfaaE1
namespace Go.Proofs.Ytdjcdhkdmgkdfaa
open Go.RowKit Go.Proofs.Kit Go.Shelf

set_option maxRecDepth 100000 in
set_option maxHeartbeats 1000000 in
theorem rnumber_any (N : Nat) (hN : N < 18446744073709551616) (w : World) :
    Calls Try.prog 11 #[.int .u64 (N : Int)] w fun e w' => ∃ v', e = .returned v' ∧ Owns .u8 5 w.heap.size w' v' (sept N) ∧ Below w.heap.size w w' := by
  obtain ⟨i0, hi, hz0, hz1, hz2⟩ := infob
  go_enter Try.func11, Try.ntmps11
  go_wp2
  go_loopw [0, 3] (fun d s wr => ∃ (R : Nat) (pre : List Int), d = .int .u64 (R : Int) ∧ R ≤ N ∧ pre.length ≤ 10 ∧ Owns .u8 5 w.heap.size wr s pre ∧ Below w.heap.size w wr ∧ Hid (pre ++ sept R = sept N)) (fun d _ _ => (intOf d).toNat)
  case atStart => exact ⟨N, [], rfl, Nat.le_refl _, by simp, Owns.nil _ _ _ _, Below.refl _ _, Lib.hid (by simp)⟩
  case round =>
    obtain ⟨R, pre, rfl, hR, hpl, hO, hB, hpre⟩ := hrel
    by_cases hlt : R < 128
    · go_wp2_with (at_builtin; refine wpList_append_own _ rfl _ _ 28 rfl w.heap.size 5 i0 (.int .u8 0) 1 1 Try.underlying28 hi hz0 hz1 hz2 rfl (by decide) _ _ _ rfl (World.ownsRow.alloc hO _) ⟨wr.heap.size, 0, none⟩ 1 1 [.int .u8 (R : Int)] rfl rfl ?qa1 ?qa2 ?qa3 ?qa4 ?qa5 ?_)
      case qa1 => exact cell_one_new _ _ _
      case qa2 => simp [Value.oneCell']
      case qa3 => unfold maxLen; omega
      case qa4 => omega
      case qa5 => have := hB.size; simp; omega
      intro v' w1 hown hgrow _
      have hO1 : Owns .u8 5 w.heap.size w1 v' (sept N) := by
        rw [← hpre.out, sept_last hlt]
        unfold Owns
        rw [List.length_append, List.map_append]
        exact hown
      have hB1 : Below w.heap.size w w1 := (hB.alloc hB.size _).grown hgrow (by have := hB.size; simp; omega) (fun k hk => (World.ownsRow.lt hO k hk).1)
      go_wp2
      go_ret
      exact ⟨v', rfl, hO1, hB1⟩
    · have hlen : pre.length ≤ 9 := by
        have h1 := sept_ten hN
        rw [← hpre.out, List.length_append] at h1
        have h2 := sept_pos R
        omega
      go_wp2_with (at_builtin; refine wpList_append_own _ rfl _ _ 28 rfl w.heap.size 5 i0 (.int .u8 0) 1 1 Try.underlying28 hi hz0 hz1 hz2 rfl (by decide) _ _ _ rfl (World.ownsRow.alloc hO _) ⟨wr.heap.size, 0, none⟩ 1 1 [.int .u8 ((R : Int) % 128 + 128)] rfl rfl ?qb1 ?qb2 ?qb3 ?qb4 ?qb5 ?_)
      case qb1 => exact cell_one_new _ _ _
      case qb2 => simp [Value.oneCell']
      case qb3 => unfold maxLen; omega
      case qb4 => omega
      case qb5 => have := hB.size; simp; omega
      intro v' w1 hown hgrow _
      have hO1 : Owns .u8 5 w.heap.size w1 v' (pre ++ [(R : Int) % 128 + 128]) := by
        unfold Owns
        rw [List.length_append, List.map_append]
        exact hown
      have hB1 : Below w.heap.size w w1 := (hB.alloc hB.size _).grown hgrow (by have := hB.size; simp; omega) (fun k hk => (World.ownsRow.lt hO k hk).1)
      clear hown hgrow
      go_wp2
      go_roundw
      case rel =>
        refine ⟨R / 128, pre ++ [(R : Int) % 128 + 128], by go_num, by omega, by simp; omega, hO1, hB1, Lib.hid ?_⟩
        rw [← hpre.out, sept_more (n := R) (by omega), List.append_assoc, List.singleton_append]
        congr 2
      case measure => simp [intOf]; omega

set_option maxHeartbeats 1000000 in
theorem rtext_any (s : ByteArray) (hs : s.size ≤ 5000) (w : World) :
    Calls Try.prog 13 #[.string s] w fun e w' => ∃ v', e = .returned v' ∧ Owns .u8 5 w.heap.size w' v' (bytesText (strB s)) ∧ Below w.heap.size w w' := by
  obtain ⟨i0, hi, hz0, hz1, hz2⟩ := infob
  go_enter Try.func13, Try.ntmps13
  go_wp2_with fail
  refine (rnumber_any s.size (by omega) _).mono ?_
  rintro e w' ⟨v', rfl, ho, hb⟩
  have hl := sept_ten (n := s.size) (by omega)
  go_wp2_with (at_builtin; refine Lib.wpList_append_own_string _ rfl _ _ 28 9 rfl w.heap.size 5 i0 Try.underlying28 Try.underlying9 hi hz0 hz1 hz2 _ _ _ rfl ho s rfl ?qc1 ?qc2 ?qc3 ?_)
  case qc1 => unfold maxLen; omega
  case qc2 => omega
  case qc3 => exact hb.size
  intro v2 w2 hown hgrow _
  go_wp2
  go_ret
  refine ⟨v2, rfl, ?_, hb.grown hgrow hb.size (fun k hk => (ho.lt k hk).1)⟩
  unfold bytesText Owns
  rw [strB_len, List.length_append, strB_len, List.map_append, ← strB_cells]
  exact hown

set_option maxHeartbeats 1000000 in
theorem rrow_none (o : Option Addr) (c : Nat) (w : World) :
    Calls Try.prog 16 #[.slice o 0 c] w fun e w' => ∃ v', e = .returned v' ∧ Owns .u8 5 w.heap.size w' v' (bytesRow []) ∧ Below w.heap.size w w' := by
  go_enter Try.func16, Try.ntmps16
  go_wp2_with fail
  refine (rnumber_any 0 (by decide) _).mono ?_
  rintro e w' ⟨v', rfl, ho, hb⟩
  go_wp2
  go_loop [3, 5, 12] (fun s _ i => i = .int .i64 0 ∧ s = v') (fun _ _ _ => 0)
  case atStart => exact ⟨rfl, rfl⟩
  case round =>
    obtain ⟨rfl, rfl⟩ := hrel
    go_wp2
    go_ret
    exact ⟨_, rfl, by simpa [bytesRow, rowB] using ho, hb⟩
set_option maxHeartbeats 1000000 in
theorem rrow_some (b f n c : Nat) (l : List Int) (w : World) (hn : l.length = n) (q : b < w.heap.size) (ha : ∀ i (h : i < l.length), w.cell? ⟨b, f + i, none⟩ = some (.int .u64 l[i])) (hb : ∀ x ∈ l, 0 ≤ x ∧ x < 18446744073709551616) (h6 : n ≤ 1000000) :
    Calls Try.prog 16 #[.slice (some ⟨b, f, none⟩) n c] w fun e w' => ∃ v', e = .returned v' ∧ Owns .u8 5 w.heap.size w' v' (bytesRow l) ∧ Below w.heap.size w w' := by
  obtain ⟨i0, hi, hz0, hz1, hz2⟩ := infob
  have HN := Lib.hid hn
  have HA := Lib.hid ha
  have HB := Lib.hid hb
  clear hn ha hb
  go_enter Try.func16, Try.ntmps16
  go_wp2_with fail
  refine (rnumber_any n (by omega) _).mono ?_
  rintro e w' ⟨v', rfl, ho, hb⟩
  have hsz : w.heap.size ≤ w'.heap.size := hb.size
  go_wp2
  go_loopw [3, 5, 12] (fun s _ i wr => ∃ k : Nat, k ≤ n ∧ i = .int .i64 k ∧ Owns .u8 5 w.heap.size wr s (sept n ++ rowB (l.take k)) ∧ Below w.heap.size w wr) (fun _ _ i _ => n - (intOf i).toNat)
  case atStart => exact ⟨0, Nat.zero_le _, rfl, by simpa [rowB] using ho, hb⟩
  case round =>
    obtain ⟨k, hk, rfl, hO, hB⟩ := hrel
    by_cases hlt : k < n
    · have hkl : k < l.length := by have := HN.out; omega
      have d := (hB.cell (p := ⟨b, f + k, none⟩) q).trans (HA.out k hkl)
      have hx := HB.out _ (List.getElem_mem hkl)
      obtain ⟨x, hx'⟩ : ∃ x : Nat, x = l[k].toNat := ⟨_, rfl⟩
      have hxi : l[k] = (x : Int) := by omega
      have hlen : (sept n ++ rowB (l.take k)).length ≤ 1000000000 := by
        have h1 := rowB_len (l.take k) (fun y hy => HB.out y (List.mem_of_mem_take hy))
        have h2 := sept_ten (n := n) (by omega)
        simp at h1 ⊢
        omega
      rw [hxi] at d hx
      have HX : Hid (rowB (l.take (k + 1)) = rowB (l.take k) ++ sept x) := Lib.hid (by rw [List.take_succ_eq_append_getElem hkl, rowB_snoc, ← hx'])
      have hx64 : x < 18446744073709551616 := by omega
      have hx10 := sept_ten hx64
      obtain ⟨m, hm⟩ : ∃ m, m = sept n ++ rowB (l.take k) := ⟨_, rfl⟩
      rw [← hm] at hO hlen
      have HM := Lib.hid hm
      clear hx' hxi hx hm
      go_wp2_with fail
      refine (rnumber_any x hx64 _).mono ?_
      rintro e w2 ⟨v2, rfl, ho2, hb2⟩
      have hO2 := hO.later hb2
      have hB2 := hB.trans (hb2.mono hB.size)
      go_wp2_with (at_builtin; refine wpList_append_seg rfl _ _ 28 rfl .u8 w.heap.size 5 i0 (.int .u8 0) 1 Try.underlying28 hi hz0 hz1 hz2 rfl _ _ rfl hO2 _ (sept x) rfl ho2.seg ?qe1 ?qe2 ?qe3 ?_)
      case qe1 => omega
      case qe2 => omega
      case qe3 => exact hB2.size
      intro v3 w3 hO3 hb3
      go_wp2
      go_roundw
      case rel => exact ⟨k + 1, by omega, by go_num, by rw [HX.out, ← List.append_assoc, ← HM.out]; exact hO3, hB2.trans hb3⟩
      case measure => simp [intOf]; omega
    · go_wp2
      go_ret
      refine ⟨_, rfl, ?_, hB⟩
      have e2 := HN.out
      unfold bytesRow
      rwa [List.take_of_length_le (by omega), ← e2] at hO
theorem rrow_any (v : Value) (l : List Int) (w : World) (hs : Seg .u64 w v l) (hb : ∀ x ∈ l, 0 ≤ x ∧ x < 18446744073709551616) (h6 : l.length ≤ 1000000) :
    Calls Try.prog 16 #[v] w fun e w' => ∃ v', e = .returned v' ∧ Owns .u8 5 w.heap.size w' v' (bytesRow l) ∧ Below w.heap.size w w' := by
  obtain ⟨o, c, rfl, hc, hm, rfl | ⟨b, f, rfl, q, a⟩⟩ := hs.shape
  · exact rrow_none o c w
  · exact rrow_some b f _ c l w rfl q a hb h6
end Go.Proofs.Ytdjcdhkdmgkdfaa
