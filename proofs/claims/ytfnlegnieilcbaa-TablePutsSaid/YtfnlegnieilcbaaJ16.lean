/- slices.Grow of nil, and slices.Concat of two, for integers; what is put by parts. -/
import Derived.Test.YtfnlegnieilcbaaJ15
import Derived.Lib.AppendZeros
namespace Go.Proofs.Kit
section
variable {α : Type} [DecidableEq α]
theorem foldL_acc (b : List α) : ∀ (T : List α) (m : List Int), b.foldl stepL (some (T, m)) = (b.foldl stepL (some (T, []))).map (fun x => (x.1, m ++ x.2)) := by
  induction b with
  | nil => intro T m; simp
  | cons s b ih =>
    intro T m
    rw [List.foldl_cons, List.foldl_cons, stepL_some, stepL_some]
    split
    · rw [ih, ih T ([] ++ _)]
      simp [Option.map_map, Function.comp_def]
    · split
      · rw [foldL_none]; rfl
      · rw [ih, ih (T ++ [s]) ([] ++ _)]
        simp [Option.map_map, Function.comp_def]
/-- All by parts. -/
theorem allL_append {T T1 : List α} {n1 : List Int} (a b : List α) (h : allL T a = some (T1, n1)) : allL T (a ++ b) = (allL T1 b).map (fun x => (x.1, n1 ++ x.2)) := by
  unfold allL at *
  rw [List.foldl_append, h, foldL_acc]
theorem allL_fits (l : List α) : ∀ (T : List α), T.length + l.length ≤ 1024 → ∃ T' ns, allL T l = some (T', ns) ∧ T'.length ≤ T.length + l.length := by
  induction l with
  | nil => intro T _; exact ⟨T, [], rfl, by simp⟩
  | cons s l ih =>
    intro T h
    simp only [List.length_cons] at h
    have e : allL T (s :: l) = l.foldl stepL (stepL (some (T, [])) s) := rfl
    rw [e, stepL_some]
    split
    · obtain ⟨T', ns, h1, h2⟩ := ih T (by omega)
      refine ⟨T', _, by rw [foldL_acc]; show Option.map _ (allL T l) = _; rw [h1]; rfl, by simp; omega⟩
    · rw [if_neg (by omega)]
      obtain ⟨T', ns, h1, h2⟩ := ih (T ++ [s]) (by simp; omega)
      refine ⟨T', _, by rw [foldL_acc]; show Option.map _ (allL (T ++ [s]) l) = _; rw [h1]; rfl, by simp at h2 ⊢; omega⟩
end
end Go.Proofs.Kit
namespace Go.Proofs.Ytfnlegnieilcbaa
open Go.RowKit Go.Proofs.Kit Go.Shelf

set_option maxHeartbeats 1000000 in
theorem grow_zero (w : World) : Calls Try.prog 40 #[.slice none 0 0, .int .i64 0] w fun e w' => e = .returned (.slice none 0 0) ∧ w' = w := by
  go_enter Try.func40, Try.ntmps40
  go_wp2
  go_ret
  exact ⟨rfl, rfl⟩
set_option maxHeartbeats 1000000 in
theorem grow_some (n : Nat) (hn : 0 < n) (hm : n ≤ 1000000000) (w : World) : Calls Try.prog 40 #[.slice none 0 0, .int .i64 (n : Int)] w fun e w' => (∃ v', e = .returned v' ∧ Owns .i64 3 w.heap.size w' v' []) ∧ Below w.heap.size w w' := by
  obtain ⟨i0, hi, hz0, hz1, hz2⟩ := infoi
  have hrz := fun ty => Lib.run_append_nil_zeros (P := Try.prog) w 23 3 ty 3 i0 (.int .i64 0) .i64 .i64 Try.underlying23 Try.underlying3 hi hz0 n hn (by omega) (by omega) (by rw [hz2]; omega)
  have hge := grownCap_ge w n 0 3
  have hle := grownCap_le_maxLen w n 0 3 (by unfold maxLen; omega)
  obtain ⟨G, hG⟩ : ∃ G, G = grownCap w n 0 3 := ⟨_, rfl⟩
  rw [← hG] at hrz hge hle
  have hG63 : G ≤ 9223372036854775807 := by unfold maxLen at hle; omega
  obtain ⟨cs, hcs⟩ : ∃ cs, cs = Builtin.zeroCells (Value.int .i64 0).cells n ++ Builtin.zeroCells (Value.int .i64 0).cells (G - n) := ⟨_, rfl⟩
  have hsz : cs.size = G := by
    rw [hcs, Array.size_append, size_zeroCells, size_zeroCells]
    have : (Value.int .i64 0).cells.size = 1 := rfl
    rw [this]
    omega
  rw [← hcs] at hrz
  have HRZ := Lib.hid hrz
  have HSZ := Lib.hid hsz
  clear hrz hsz hcs hG
  go_enter Try.func40, Try.ntmps40
  go_wp2_with (at_builtin; refine Lib.wpList_append_run _ rfl _ _ _ _ rfl _ _ rfl rfl _ _ (HRZ.out _) ?_)
  go_ret
  refine ⟨⟨_, rfl, ?_⟩, ((Below.refl _ w).drew).alloc (Nat.le_refl _) _⟩
  refine ⟨by simp, .inr ⟨w.heap.size, G, cs, rfl, Nat.le_refl _, heap_alloc_new w.drew _, by simp, by unfold maxLen; omega, by have := HSZ.out; omega, by simp⟩⟩
theorem grow_any (n : Nat) (hm : n ≤ 1000000000) (w : World) : Calls Try.prog 40 #[.slice none 0 0, .int .i64 (n : Int)] w fun e w' => (∃ v', e = .returned v' ∧ Owns .i64 3 w.heap.size w' v' []) ∧ Below w.heap.size w w' := by
  by_cases h : n = 0
  · subst h
    exact (grow_zero w).mono fun e w' ⟨he, hw⟩ => ⟨⟨_, he, Owns.nil _ _ _ _⟩, hw ▸ Below.refl _ _⟩
  · exact grow_some n (by omega) hm w


def pre2 (a b : Nat) : Nat → Nat
  | 0 => 0
  | 1 => a
  | _ => a + b
def acc2 (a b : List Int) : Nat → List Int
  | 0 => []
  | 1 => a
  | _ => a ++ b
set_option maxHeartbeats 2000000 in
theorem concat2 (sb : Nat) (v1 v2 : Value) (l1 l2 : List Int) (w : World) (hb : Blk w sb #[v1, v2] 23) (q1 : Sl w v1 (l1.map (Value.int .i64))) (q2 : Sl w v2 (l2.map (Value.int .i64)))
    (h1 : l1.length ≤ 1000000) (h2 : l2.length ≤ 1000000) :
    Calls Try.prog 26 #[.slice (some ⟨sb, 0, none⟩) 2 2] w fun e w' => ∃ v', e = .returned v' ∧ Ow 3 w.heap.size w' v' ((l1 ++ l2).map (Value.int .i64)) ∧ Below w.heap.size w w' := by
  obtain ⟨i0, hi, hz0, hz1, hz2⟩ := infoi
  have hlt := hb.lt
  have HBK := Lib.hid hb
  have s1 := q1.seg
  have s2 := q2.seg
  obtain ⟨o1, c1, rfl, _, _, _⟩ := s1.shape
  obtain ⟨o2, c2, rfl, _, _, _⟩ := s2.shape
  obtain ⟨n1, hn1⟩ : ∃ n, n = l1.length := ⟨_, rfl⟩
  obtain ⟨n2, hn2⟩ : ∃ n, n = l2.length := ⟨_, rfl⟩
  rw [← hn1] at h1 s1 HBK
  rw [← hn2] at h2 s2 HBK
  have S1 := Lib.hid s1
  have S2 := Lib.hid s2
  have N1 := Lib.hid hn1
  have N2 := Lib.hid hn2
  clear s1 s2 hn1 hn2 hb q1 q2
  have d0 := HBK.out.cell 0
  have d1 := HBK.out.cell 1
  simp only [List.getElem?_toArray, List.getElem?_cons_zero, List.getElem?_cons_succ] at d0 d1
  go_enter Try.func26, Try.ntmps26
  go_wp2
  go_loop [3, 5, 11] (fun s _ i => ∃ k : Nat, k ≤ 2 ∧ i = .int .i64 (k : Int) ∧ s = .int .i64 ((pre2 n1 n2 k : Nat) : Int)) (fun _ _ i => 2 - (intOf i).toNat)
  case atStart => exact ⟨0, by omega, rfl, rfl⟩
  case round =>
    obtain ⟨k, hk, rfl, rfl⟩ := hrel
    have hk4 : k = 0 ∨ k = 1 ∨ k = 2 := by omega
    rcases hk4 with rfl | rfl | rfl
    · simp only [pre2]
      go_wp2
      go_round
      case rel => exact ⟨1, by omega, rfl, by simp⟩
      case measure => simp [intOf]
    · simp only [pre2]
      go_wp2
      go_round
      case rel => exact ⟨2, by omega, rfl, by simp⟩
      case measure => simp [intOf]
    · simp only [pre2]
      go_wp2_with fail
      refine (grow_any (n1 + n2) (by omega) _).mono ?_
      rintro e w1 ⟨⟨v', rfl, ho⟩, hb1⟩
      clear d0 d1
      go_wp2
      go_loopw [6, 8, 27] (fun s _ i wr => ∃ k : Nat, k ≤ 2 ∧ i = .int .i64 (k : Int) ∧ Owns .i64 3 w.heap.size wr s (acc2 l1 l2 k) ∧ Below w.heap.size w wr) (fun _ _ i _ => 2 - (intOf i).toNat)
      case atStart => exact ⟨0, by omega, rfl, ho, hb1⟩
      case round =>
        obtain ⟨k, hk, rfl, hO, hB⟩ := hrel
        have hbk := HBK.out.below hB hlt
        have d0 := hbk.cell 0
        have d1 := hbk.cell 1
        simp only [List.getElem?_toArray, List.getElem?_cons_zero, List.getElem?_cons_succ] at d0 d1
        have T1 := S1.out.later hB
        have T2 := S2.out.later hB
        have hk4 : k = 0 ∨ k = 1 ∨ k = 2 := by omega
        rcases hk4 with rfl | rfl | rfl
        · go_wp2_with (at_builtin; refine wpList_append_seg rfl _ _ 23 rfl .i64 w.heap.size 3 i0 (.int .i64 0) 8 Try.underlying23 hi hz0 hz1 hz2 rfl _ _ rfl hO _ l1 rfl T1 ?qa0 ?qb0 ?qc0 ?_)
          case qa0 => have := N1.out; have := N2.out; simp [acc2]; try omega
          case qb0 => have := N1.out; have := N2.out; simp [acc2]; try omega
          case qc0 => exact hB.size
          intro v2 w2 hO2 hb2
          go_wp2
          go_roundw
          case rel => exact ⟨1, by omega, rfl, by simpa [acc2] using hO2, hB.trans hb2⟩
          case measure => simp [intOf]
        · go_wp2_with (at_builtin; refine wpList_append_seg rfl _ _ 23 rfl .i64 w.heap.size 3 i0 (.int .i64 0) 8 Try.underlying23 hi hz0 hz1 hz2 rfl _ _ rfl hO _ l2 rfl T2 ?qa1 ?qb1 ?qc1 ?_)
          case qa1 => have := N1.out; have := N2.out; simp [acc2]; try omega
          case qb1 => have := N1.out; have := N2.out; simp [acc2]; try omega
          case qc1 => exact hB.size
          intro v2 w2 hO2 hb2
          go_wp2
          go_roundw
          case rel => exact ⟨2, by omega, rfl, by simpa [acc2] using hO2, hB.trans hb2⟩
          case measure => simp [intOf]
        · go_wp2
          go_ret
          exact ⟨_, rfl, Owns.ow hO, hB⟩
end Go.Proofs.Ytfnlegnieilcbaa
