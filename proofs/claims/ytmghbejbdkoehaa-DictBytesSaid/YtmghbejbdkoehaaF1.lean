/- The document's own answers: Number, Text and Row of the reference. -/
import Derived.Test.YtmghbejbdkoehaaMo
namespace Go.Proofs.Ytmghbejbdkoehaa
open Go.RowKit Go.Proofs.Kit Go.Shelf

set_option maxRecDepth 100000 in
set_option maxHeartbeats 1000000 in
theorem rnumber_any (N : Nat) (hN : N < 18446744073709551616) (w : World) :
    Calls Try.prog 56 #[.int .u64 (N : Int)] w fun e w' => ∃ v', e = .returned v' ∧ Owns .u8 5 w.heap.size w' v' (sept N) ∧ Below w.heap.size w w' := by
  obtain ⟨i0, hi, hz0, hz1, hz2⟩ := infob
  go_enter Try.func56, Try.ntmps56
  go_wp2
  go_loopw [0, 3] (fun d s wr => ∃ (R : Nat) (pre : List Int), d = .int .u64 (R : Int) ∧ R ≤ N ∧ pre.length ≤ 10 ∧ Owns .u8 5 w.heap.size wr s pre ∧ Below w.heap.size w wr ∧ Hid (pre ++ sept R = sept N)) (fun d _ _ => (intOf d).toNat)
  case atStart => exact ⟨N, [], rfl, Nat.le_refl _, by simp, Owns.nil _ _ _ _, Below.refl _ _, Lib.hid (by simp)⟩
  case round =>
    obtain ⟨R, pre, rfl, hR, hpl, hO, hB, hpre⟩ := hrel
    by_cases hlt : R < 128
    · go_wp2_with (at_builtin; refine wpList_append_own _ rfl _ _ 59 rfl w.heap.size 5 i0 (.int .u8 0) 1 1 Try.underlying59 hi hz0 hz1 hz2 rfl (by decide) _ _ _ rfl (World.ownsRow.alloc hO _) ⟨wr.heap.size, 0, none⟩ 1 1 [.int .u8 (R : Int)] rfl rfl ?qa1 ?qa2 ?qa3 ?qa4 ?qa5 ?_)
      case qa1 => exact cell_one_new _ _ _
      case qa2 => simp [Value.oneCell']
      case qa3 => unfold maxLen; omega
      case qa4 => omega
      case qa5 => have := hB.size; simp; omega
      intro v' w1 hown hgrow _
      have hO1 : Owns .u8 5 w.heap.size w1 v' (sept N) := by
        rw [← hpre.out, sept_last hlt]
        unfold Owns
        rw [List.length_append, List.map_append]
        exact hown
      have hB1 : Below w.heap.size w w1 := (hB.alloc hB.size _).grown hgrow (by have := hB.size; simp; omega) (fun k hk => (World.ownsRow.lt hO k hk).1)
      go_wp2
      go_ret
      exact ⟨v', rfl, hO1, hB1⟩
    · have hlen : pre.length ≤ 9 := by
        have h1 := sept_ten hN
        rw [← hpre.out, List.length_append] at h1
        have h2 := sept_pos R
        omega
      go_wp2_with (at_builtin; refine wpList_append_own _ rfl _ _ 59 rfl w.heap.size 5 i0 (.int .u8 0) 1 1 Try.underlying59 hi hz0 hz1 hz2 rfl (by decide) _ _ _ rfl (World.ownsRow.alloc hO _) ⟨wr.heap.size, 0, none⟩ 1 1 [.int .u8 ((R : Int) % 128 + 128)] rfl rfl ?qb1 ?qb2 ?qb3 ?qb4 ?qb5 ?_)
      case qb1 => exact cell_one_new _ _ _
      case qb2 => simp [Value.oneCell']
      case qb3 => unfold maxLen; omega
      case qb4 => omega
      case qb5 => have := hB.size; simp; omega
      intro v' w1 hown hgrow _
      have hO1 : Owns .u8 5 w.heap.size w1 v' (pre ++ [(R : Int) % 128 + 128]) := by
        unfold Owns
        rw [List.length_append, List.map_append]
        exact hown
      have hB1 : Below w.heap.size w w1 := (hB.alloc hB.size _).grown hgrow (by have := hB.size; simp; omega) (fun k hk => (World.ownsRow.lt hO k hk).1)
      clear hown hgrow
      go_wp2
      go_roundw
      case rel =>
        refine ⟨R / 128, pre ++ [(R : Int) % 128 + 128], by go_num, by omega, by simp; omega, hO1, hB1, Lib.hid ?_⟩
        rw [← hpre.out, sept_more (n := R) (by omega), List.append_assoc, List.singleton_append]
        congr 2
      case measure => simp [intOf]; omega

set_option maxRecDepth 100000 in
set_option maxHeartbeats 1000000 in
theorem rtext_any (s : ByteArray) (hs : s.size ≤ 5000) (w : World) :
    Calls Try.prog 57 #[.string s] w fun e w' => ∃ v', e = .returned v' ∧ Owns .u8 5 w.heap.size w' v' (bytesText (strB s)) ∧ Below w.heap.size w w' := by
  obtain ⟨i0, hi, hz0, hz1, hz2⟩ := infob
  go_enter Try.func57, Try.ntmps57
  go_wp2_with fail
  refine (rnumber_any s.size (by omega) _).mono ?_
  rintro e w' ⟨v', rfl, ho, hb⟩
  have hl := sept_ten (n := s.size) (by omega)
  go_wp2_with (at_builtin; refine Lib.wpList_append_own_string _ rfl _ _ 59 9 rfl w.heap.size 5 i0 Try.underlying59 Try.underlying9 hi hz0 hz1 hz2 _ _ _ rfl ho s rfl ?qc1 ?qc2 ?qc3 ?_)
  case qc1 => unfold maxLen; omega
  case qc2 => omega
  case qc3 => exact hb.size
  intro v2 w2 hown hgrow _
  go_wp2
  go_ret
  refine ⟨v2, rfl, ?_, hb.grown hgrow hb.size (fun k hk => (ho.lt k hk).1)⟩
  unfold bytesText Owns
  rw [strB_len, List.length_append, strB_len, List.map_append, ← strB_cells]
  exact hown

end Go.Proofs.Ytmghbejbdkoehaa

