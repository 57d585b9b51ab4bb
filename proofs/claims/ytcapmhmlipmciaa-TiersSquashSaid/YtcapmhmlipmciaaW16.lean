/- slices.Grow of nil, slices.Concat of three, for tiers. -/
import Derived.Test.YtcapmhmlipmciaaW15
import Derived.Lib.AppendZeros
namespace Go.Proofs.Kit
open Go.RowKit
def pre3 (a b c : Nat) : Nat → Nat
  | 0 => 0
  | 1 => a
  | 2 => a + b
  | _ => a + b + c
def acc3 {α : Type} (a b c : List α) : Nat → List α
  | 0 => []
  | 1 => a
  | 2 => a ++ b
  | _ => a ++ b ++ c
end Go.Proofs.Kit
namespace Go.Proofs.Ytcapmhmlipmciaa
open Go.RowKit Go.Proofs.Kit Go.Shelf
set_option maxRecDepth 100000 in
set_option maxHeartbeats 1000000 in
theorem growT_zero (w : World) : Calls Try.prog 63 #[.slice none 0 0, .int .i64 0] w fun e w' => e = .returned (.slice none 0 0) ∧ w' = w := by
  go_enter Try.func63, Try.ntmps63
  go_wp2
  go_ret
  exact ⟨rfl, rfl⟩
set_option maxRecDepth 100000 in
set_option maxHeartbeats 1000000 in
theorem growT_some (n : Nat) (hn : 0 < n) (hm : n ≤ 1000000) (w : World) : Calls Try.prog 63 #[.slice none 0 0, .int .i64 (n : Int)] w fun e w' => (∃ v', e = .returned v' ∧ OwnE tiE 38 w.heap.size w' v' []) ∧ Below w.heap.size w w' := by
  obtain ⟨i0, hi, hz0, hz1, hz2⟩ := infoT
  have hrz := fun ty => Lib.run_append_nil_zeros (P := Try.prog) w 22 3 ty 38 i0 (.agg #[.slice none 0 0, .slice none 0 0]) .i64 .i64 Try.underlying22 Try.underlying3 hi hz0 n hn (by omega) (by omega) (by rw [hz2]; omega)
  have hge := grownCap_ge w n 0 38
  have hle := grownCap_le_maxLen w n 0 38 (by unfold maxLen; omega)
  obtain ⟨G, hG⟩ : ∃ G, G = grownCap w n 0 38 := ⟨_, rfl⟩
  rw [← hG] at hrz hge hle
  have hG63 : G ≤ 9223372036854775807 := by unfold maxLen at hle; omega
  obtain ⟨cs, hcs⟩ : ∃ cs, cs = Builtin.zeroCells (Value.agg #[.slice none 0 0, .slice none 0 0]).cells n ++ Builtin.zeroCells (Value.agg #[.slice none 0 0, .slice none 0 0]).cells (G - n) := ⟨_, rfl⟩
  have hsz : cs.size = G * 2 := by
    rw [hcs, Array.size_append, size_zeroCells, size_zeroCells]
    have : (Value.agg #[.slice none 0 0, .slice none 0 0]).cells.size = 2 := rfl
    rw [this]
    omega
  rw [← hcs] at hrz
  have HRZ := Lib.hid hrz
  have HSZ := Lib.hid hsz
  clear hrz hsz hcs hG
  go_enter Try.func63, Try.ntmps63
  go_wp2_with (at_builtin; refine Lib.wpList_append_run _ rfl _ _ _ _ rfl _ _ rfl rfl _ _ (HRZ.out _) ?_)
  go_ret
  refine ⟨⟨_, rfl, ?_⟩, ((Below.refl _ w).drew).alloc (Nat.le_refl _) _⟩
  refine ⟨by simp, by simp [flatE], .inr ⟨w.heap.size, G, cs, rfl, Nat.le_refl _, heap_alloc_new w.drew _, by simp, by unfold maxLen; omega, HSZ.out, by simp [flatE]⟩⟩
theorem growT_any (n : Nat) (hm : n ≤ 1000000) (w : World) : Calls Try.prog 63 #[.slice none 0 0, .int .i64 (n : Int)] w fun e w' => (∃ v', e = .returned v' ∧ OwnE tiE 38 w.heap.size w' v' []) ∧ Below w.heap.size w w' := by
  by_cases h : n = 0
  · subst h
    exact (growT_zero w).mono fun e w' ⟨he, hw⟩ => ⟨⟨_, he, OwnE.nil _ _ _ _⟩, hw ▸ Below.refl _ _⟩
  · exact growT_some n (by omega) hm w
set_option maxRecDepth 100000 in
set_option maxHeartbeats 4000000 in
theorem concatT3 (sb : Nat) (v1 v2 v3 : Value) (l1 l2 l3 : List Ti) (w : World) (hb : Blk w sb #[v1, v2, v3] 22) (q1 : SegE tiE w v1 l1) (q2 : SegE tiE w v2 l2) (q3 : SegE tiE w v3 l3)
    (h1 : l1.length ≤ 1000) (h2 : l2.length ≤ 1000) (h3 : l3.length ≤ 1000) :
    Calls Try.prog 50 #[.slice (some ⟨sb, 0, none⟩) 3 3] w fun e w' => ∃ v', e = .returned v' ∧ OwnE tiE 38 w.heap.size w' v' (l1 ++ l2 ++ l3) ∧ Below w.heap.size w w' := by
  obtain ⟨i0, hi, hz0, hz1, hz2⟩ := infoT
  have hlt := hb.lt
  have HBK := Lib.hid hb
  obtain ⟨o1, c1, rfl, _, _, _⟩ := q1.shape
  obtain ⟨o2, c2, rfl, _, _, _⟩ := q2.shape
  obtain ⟨o3, c3, rfl, _, _, _⟩ := q3.shape
  obtain ⟨n1, hn1⟩ : ∃ n, n = l1.length := ⟨_, rfl⟩
  obtain ⟨n2, hn2⟩ : ∃ n, n = l2.length := ⟨_, rfl⟩
  obtain ⟨n3, hn3⟩ : ∃ n, n = l3.length := ⟨_, rfl⟩
  rw [← hn1] at h1 q1 HBK
  rw [← hn2] at h2 q2 HBK
  rw [← hn3] at h3 q3 HBK
  have S1 := Lib.hid q1
  have S2 := Lib.hid q2
  have S3 := Lib.hid q3
  have N1 := Lib.hid hn1
  have N2 := Lib.hid hn2
  have N3 := Lib.hid hn3
  clear hn1 hn2 hn3 hb q1 q2 q3
  have d0 := HBK.out.cell 0
  have d1 := HBK.out.cell 1
  have d2 := HBK.out.cell 2
  simp only [List.getElem?_toArray, List.getElem?_cons_zero, List.getElem?_cons_succ] at d0 d1 d2
  go_enter Try.func50, Try.ntmps50
  go_wp2
  go_loop [3, 5, 11] (fun s _ i => ∃ k : Nat, k ≤ 3 ∧ i = .int .i64 (k : Int) ∧ s = .int .i64 ((pre3 n1 n2 n3 k : Nat) : Int)) (fun _ _ i => 3 - (intOf i).toNat)
  case atStart => exact ⟨0, by omega, rfl, rfl⟩
  case round =>
    obtain ⟨k, hk, rfl, rfl⟩ := hrel
    have hk4 : k = 0 ∨ k = 1 ∨ k = 2 ∨ k = 3 := by omega
    rcases hk4 with rfl | rfl | rfl | rfl
    · simp only [pre3]
      go_wp2
      go_round
      case rel => exact ⟨1, by omega, rfl, by simp⟩
      case measure => simp [intOf]
    · simp only [pre3]
      go_wp2
      go_round
      case rel => exact ⟨2, by omega, rfl, by simp⟩
      case measure => simp [intOf]
    · simp only [pre3]
      go_wp2
      go_round
      case rel => exact ⟨3, by omega, rfl, by simp⟩
      case measure => simp [intOf]
    · simp only [pre3]
      go_wp2_with fail
      refine (growT_any (n1 + n2 + n3) (by omega) _).mono ?_
      rintro e w1 ⟨⟨v', rfl, ho⟩, hb1⟩
      clear d0 d1 d2
      go_wp2
      go_loopw [6, 8, 27] (fun s _ i wr => ∃ k : Nat, k ≤ 3 ∧ i = .int .i64 (k : Int) ∧ OwnE tiE 38 w.heap.size wr s (acc3 l1 l2 l3 k) ∧ Below w.heap.size w wr) (fun _ _ i _ => 3 - (intOf i).toNat)
      case atStart => exact ⟨0, by omega, rfl, ho, hb1⟩
      case round =>
        obtain ⟨k, hk, rfl, hO, hB⟩ := hrel
        have hbk := HBK.out.below hB hlt
        have d0 := hbk.cell 0
        have d1 := hbk.cell 1
        have d2 := hbk.cell 2
        simp only [List.getElem?_toArray, List.getElem?_cons_zero, List.getElem?_cons_succ] at d0 d1 d2
        have T1 := S1.out.later hB
        have T2 := S2.out.later hB
        have T3 := S3.out.later hB
        have hk4 : k = 0 ∨ k = 1 ∨ k = 2 ∨ k = 3 := by omega
        rcases hk4 with rfl | rfl | rfl | rfl
        · go_wp2_with (at_builtin; refine wpList_append_segE (E := tiE) rfl _ _ 22 rfl w.heap.size 38 i0 (.agg #[.slice none 0 0, .slice none 0 0]) 48 Try.underlying22 hi hz0 hz1 hz2 rfl _ _ rfl hO _ l1 rfl T1 ?qa1 ?qa2 ?qa3 ?_)
          case qa1 => have := N1.out; have := N2.out; have := N3.out; simp [acc3, tiE]; omega
          case qa2 => have := N1.out; have := N2.out; have := N3.out; simp [acc3]; omega
          case qa3 => exact hB.size
          intro v2 w2 hO2 hb2 _
          go_wp2
          go_roundw
          case rel => exact ⟨1, by omega, rfl, by simpa [acc3] using hO2, hB.trans hb2⟩
          case measure => simp [intOf]
        · go_wp2_with (at_builtin; refine wpList_append_segE (E := tiE) rfl _ _ 22 rfl w.heap.size 38 i0 (.agg #[.slice none 0 0, .slice none 0 0]) 48 Try.underlying22 hi hz0 hz1 hz2 rfl _ _ rfl hO _ l2 rfl T2 ?qb1 ?qb2 ?qb3 ?_)
          case qb1 => have := N1.out; have := N2.out; have := N3.out; simp [acc3, tiE]; omega
          case qb2 => have := N1.out; have := N2.out; have := N3.out; simp [acc3]; omega
          case qb3 => exact hB.size
          intro v2 w2 hO2 hb2 _
          go_wp2
          go_roundw
          case rel => exact ⟨2, by omega, rfl, by simpa [acc3] using hO2, hB.trans hb2⟩
          case measure => simp [intOf]
        · go_wp2_with (at_builtin; refine wpList_append_segE (E := tiE) rfl _ _ 22 rfl w.heap.size 38 i0 (.agg #[.slice none 0 0, .slice none 0 0]) 48 Try.underlying22 hi hz0 hz1 hz2 rfl _ _ rfl hO _ l3 rfl T3 ?qc1 ?qc2 ?qc3 ?_)
          case qc1 => have := N1.out; have := N2.out; have := N3.out; simp [acc3, tiE]; omega
          case qc2 => have := N1.out; have := N2.out; have := N3.out; simp [acc3]; omega
          case qc3 => exact hB.size
          intro v2 w2 hO2 hb2 _
          go_wp2
          go_roundw
          case rel => exact ⟨3, by omega, rfl, by simpa [acc3] using hO2, hB.trans hb2⟩
          case measure => simp [intOf]
        · go_wp2
          go_ret
          exact ⟨_, rfl, hO, hB⟩
end Go.Proofs.Ytcapmhmlipmciaa

