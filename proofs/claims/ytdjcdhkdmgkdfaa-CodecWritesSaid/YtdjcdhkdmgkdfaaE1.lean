/- slices.Grow of nil, and slices.Concat of three. -/
import Derived.Test.YtdjcdhkdmgkdfaaC3
import Derived.Test.YtdjcdhkdmgkdfaaSegB
import Derived.Lib.AppendZeros
namespace Go.Proofs.Ytdjcdhkdmgkdfaa
open Go.RowKit Go.Proofs.Kit Go.Shelf

set_option maxHeartbeats 1000000 in
theorem grow_zero (w : World) : Calls Try.prog 28 #[.slice none 0 0, .int .i64 0] w fun e w' => e = .returned (.slice none 0 0) ∧ w' = w := by
  go_enter Try.func28, Try.ntmps28
  go_wp2
  go_ret
  exact ⟨rfl, rfl⟩
set_option maxHeartbeats 1000000 in
theorem grow_some (n : Nat) (hn : 0 < n) (hm : n ≤ 1000000000) (w : World) : Calls Try.prog 28 #[.slice none 0 0, .int .i64 (n : Int)] w fun e w' => (∃ v', e = .returned v' ∧ Owns .u8 5 w.heap.size w' v' []) ∧ Below w.heap.size w w' := by
  obtain ⟨i0, hi, hz0, hz1, hz2⟩ := infob
  have hrz := fun ty => Lib.run_append_nil_zeros (P := Try.prog) w 28 3 ty 5 i0 (.int .u8 0) .i64 .i64 Try.underlying28 Try.underlying3 hi hz0 n hn (by omega) (by omega) (by rw [hz2]; omega)
  have hge := grownCap_ge w n 0 5
  have hle := grownCap_le_maxLen w n 0 5 (by unfold maxLen; omega)
  obtain ⟨G, hG⟩ : ∃ G, G = grownCap w n 0 5 := ⟨_, rfl⟩
  rw [← hG] at hrz hge hle
  have hG63 : G ≤ 9223372036854775807 := by unfold maxLen at hle; omega
  obtain ⟨cs, hcs⟩ : ∃ cs, cs = Builtin.zeroCells (Value.int .u8 0).cells n ++ Builtin.zeroCells (Value.int .u8 0).cells (G - n) := ⟨_, rfl⟩
  have hsz : cs.size = G := by
    rw [hcs, Array.size_append, size_zeroCells, size_zeroCells]
    have : (Value.int .u8 0).cells.size = 1 := rfl
    rw [this]
    omega
  rw [← hcs] at hrz
  have HRZ := Lib.hid hrz
  have HSZ := Lib.hid hsz
  clear hrz hsz hcs hG
  go_enter Try.func28, Try.ntmps28
  go_wp2_with (at_builtin; refine Lib.wpList_append_run _ rfl _ _ _ _ rfl _ _ rfl rfl _ _ (HRZ.out _) ?_)
  go_ret
  refine ⟨⟨_, rfl, ?_⟩, ((Below.refl _ w).drew).alloc (Nat.le_refl _) _⟩
  refine ⟨by simp, .inr ⟨w.heap.size, G, cs, rfl, Nat.le_refl _, heap_alloc_new w.drew _, by simp, by unfold maxLen; omega, by have := HSZ.out; omega, by simp⟩⟩
theorem grow_any (n : Nat) (hm : n ≤ 1000000000) (w : World) : Calls Try.prog 28 #[.slice none 0 0, .int .i64 (n : Int)] w fun e w' => (∃ v', e = .returned v' ∧ Owns .u8 5 w.heap.size w' v' []) ∧ Below w.heap.size w w' := by
  by_cases h : n = 0
  · subst h
    exact (grow_zero w).mono fun e w' ⟨he, hw⟩ => ⟨⟨_, he, Owns.nil _ _ _ _⟩, hw ▸ Below.refl _ _⟩
  · exact grow_some n (by omega) hm w

def pre3 (a b c : Nat) : Nat → Nat
  | 0 => 0
  | 1 => a
  | 2 => a + b
  | _ => a + b + c
def acc3 (a b c : List Int) : Nat → List Int
  | 0 => []
  | 1 => a
  | 2 => a ++ b
  | _ => a ++ b ++ c
set_option maxHeartbeats 2000000 in
theorem concat3 (sb : Nat) (v1 v2 v3 : Value) (l1 l2 l3 : List Int) (w : World) (hb : Blk w sb #[v1, v2, v3] 28) (s1 : Seg .u8 w v1 l1) (s2 : Seg .u8 w v2 l2) (s3 : Seg .u8 w v3 l3)
    (h1 : l1.length ≤ 1000000) (h2 : l2.length ≤ 1000000) (h3 : l3.length ≤ 1000000) :
    Calls Try.prog 19 #[.slice (some ⟨sb, 0, none⟩) 3 3] w fun e w' => ∃ v', e = .returned v' ∧ Owns .u8 5 w.heap.size w' v' (l1 ++ l2 ++ l3) ∧ Below w.heap.size w w' := by
  obtain ⟨i0, hi, hz0, hz1, hz2⟩ := infob
  have hlt := hb.lt
  have HBK := Lib.hid hb
  obtain ⟨o1, c1, rfl, _, _, _⟩ := s1.shape
  obtain ⟨o2, c2, rfl, _, _, _⟩ := s2.shape
  obtain ⟨o3, c3, rfl, _, _, _⟩ := s3.shape
  obtain ⟨n1, hn1⟩ : ∃ n, n = l1.length := ⟨_, rfl⟩
  obtain ⟨n2, hn2⟩ : ∃ n, n = l2.length := ⟨_, rfl⟩
  obtain ⟨n3, hn3⟩ : ∃ n, n = l3.length := ⟨_, rfl⟩
  rw [← hn1] at h1 s1 HBK
  rw [← hn2] at h2 s2 HBK
  rw [← hn3] at h3 s3 HBK
  have S1 := Lib.hid s1
  have S2 := Lib.hid s2
  have S3 := Lib.hid s3
  have N1 := Lib.hid hn1
  have N2 := Lib.hid hn2
  have N3 := Lib.hid hn3
  clear s1 s2 s3 hn1 hn2 hn3 hb
  have d0 := HBK.out.cell 0
  have d1 := HBK.out.cell 1
  have d2 := HBK.out.cell 2
  simp only [List.getElem?_toArray, List.getElem?_cons_zero, List.getElem?_cons_succ] at d0 d1 d2
  go_enter Try.func19, Try.ntmps19
  go_wp2
  go_loop [3, 5, 11] (fun s _ i => ∃ k : Nat, k ≤ 3 ∧ i = .int .i64 (k : Int) ∧ s = .int .i64 ((pre3 n1 n2 n3 k : Nat) : Int)) (fun _ _ i => 3 - (intOf i).toNat)
  case atStart => exact ⟨0, by omega, rfl, rfl⟩
  case round =>
    obtain ⟨k, hk, rfl, rfl⟩ := hrel
    have hk4 : k = 0 ∨ k = 1 ∨ k = 2 ∨ k = 3 := by omega
    rcases hk4 with rfl | rfl | rfl | rfl
    · simp only [pre3]
      go_wp2
      go_round
      case rel => exact ⟨1, by omega, rfl, by simp⟩
      case measure => simp [intOf]
    · simp only [pre3]
      go_wp2
      go_round
      case rel => exact ⟨2, by omega, rfl, by simp⟩
      case measure => simp [intOf]
    · simp only [pre3]
      go_wp2
      go_round
      case rel => exact ⟨3, by omega, rfl, by simp⟩
      case measure => simp [intOf]
    · simp only [pre3]
      go_wp2_with fail
      refine (grow_any (n1 + n2 + n3) (by omega) _).mono ?_
      rintro e w1 ⟨⟨v', rfl, ho⟩, hb1⟩
      clear d0 d1 d2
      go_wp2
      go_loopw [6, 8, 27] (fun s _ i wr => ∃ k : Nat, k ≤ 3 ∧ i = .int .i64 (k : Int) ∧ Owns .u8 5 w.heap.size wr s (acc3 l1 l2 l3 k) ∧ Below w.heap.size w wr) (fun _ _ i _ => 3 - (intOf i).toNat)
      case atStart => exact ⟨0, by omega, rfl, ho, hb1⟩
      case round =>
        obtain ⟨k, hk, rfl, hO, hB⟩ := hrel
        have hbk := HBK.out.below hB hlt
        have d0 := hbk.cell 0
        have d1 := hbk.cell 1
        have d2 := hbk.cell 2
        simp only [List.getElem?_toArray, List.getElem?_cons_zero, List.getElem?_cons_succ] at d0 d1 d2
        have T1 := S1.out.later hB
        have T2 := S2.out.later hB
        have T3 := S3.out.later hB
        have hk4 : k = 0 ∨ k = 1 ∨ k = 2 ∨ k = 3 := by omega
        rcases hk4 with rfl | rfl | rfl | rfl
        · go_wp2_with (at_builtin; refine wpList_append_seg rfl _ _ 28 rfl .u8 w.heap.size 5 i0 (.int .u8 0) 1 Try.underlying28 hi hz0 hz1 hz2 rfl _ _ rfl hO _ l1 rfl T1 ?qa0 ?qb0 ?qc0 ?_)
          case qa0 => have := N1.out; have := N2.out; have := N3.out; simp [acc3]; try omega
          case qb0 => have := N1.out; have := N2.out; have := N3.out; simp [acc3]; try omega
          case qc0 => exact hB.size
          intro v2 w2 hO2 hb2
          go_wp2
          go_roundw
          case rel => exact ⟨1, by omega, rfl, by simpa [acc3] using hO2, hB.trans hb2⟩
          case measure => simp [intOf]
        · go_wp2_with (at_builtin; refine wpList_append_seg rfl _ _ 28 rfl .u8 w.heap.size 5 i0 (.int .u8 0) 1 Try.underlying28 hi hz0 hz1 hz2 rfl _ _ rfl hO _ l2 rfl T2 ?qa1 ?qb1 ?qc1 ?_)
          case qa1 => have := N1.out; have := N2.out; have := N3.out; simp [acc3]; try omega
          case qb1 => have := N1.out; have := N2.out; have := N3.out; simp [acc3]; try omega
          case qc1 => exact hB.size
          intro v2 w2 hO2 hb2
          go_wp2
          go_roundw
          case rel => exact ⟨2, by omega, rfl, by simpa [acc3] using hO2, hB.trans hb2⟩
          case measure => simp [intOf]
        · go_wp2_with (at_builtin; refine wpList_append_seg rfl _ _ 28 rfl .u8 w.heap.size 5 i0 (.int .u8 0) 1 Try.underlying28 hi hz0 hz1 hz2 rfl _ _ rfl hO _ l3 rfl T3 ?qa2 ?qb2 ?qc2 ?_)
          case qa2 => have := N1.out; have := N2.out; have := N3.out; simp [acc3]; try omega
          case qb2 => have := N1.out; have := N2.out; have := N3.out; simp [acc3]; try omega
          case qc2 => exact hB.size
          intro v2 w2 hO2 hb2
          go_wp2
          go_roundw
          case rel => exact ⟨3, by omega, rfl, by simpa [acc3] using hO2, hB.trans hb2⟩
          case measure => simp [intOf]
        · go_wp2
          go_ret
          exact ⟨_, rfl, hO, hB⟩
end Go.Proofs.Ytdjcdhkdmgkdfaa
