/- cmp.Less at numbers; insertion. -/
import Derived.Test.YtbcloahekffjdaaProg
import Derived.Test.YtbcloahekffjdaaH14
import Derived.Deep.QuietTactic
import Derived.BigQuiet
namespace Go.Proofs.Ytbcloahekffjdaa
open Go.RowKit Go.Proofs.Kit
theorem nan_any (x : Int) (w : World) : Calls Try.prog 56 #[.int .u64 x] w fun e w' => e = .returned (.bool false) ∧ w' = w := by
  have hx : (x != x) = false := by simp
  go_enter Try.func56, Try.ntmps56
  go_wp2
  go_ret
  exact ⟨rfl, rfl⟩
theorem less_any (x y : Int) (w : World) : Calls Try.prog 53 #[.int .u64 x, .int .u64 y] w fun e w' => e = .returned (.bool (decide (x < y))) ∧ w' = w := by
  go_enter Try.func53, Try.ntmps53
  go_wp2_with (go_at_call 56; refine (nan_any _ _).mono ?_; rintro e w' ⟨rfl, rfl⟩)
  go_ret
  exact ⟨rfl, rfl⟩
theorem less_from {w : World} {nq m : Nat} (x y : Int) : Calls Try.prog 53 #[.int .u64 x, .int .u64 y] (w.drewN (nq + m)) fun e w' => e = .returned (.bool (decide (x < y))) ∧ ∃ k, w' = w.drewN (nq + k) :=
  (less_any x y _).mono fun _ _ ⟨h1, h2⟩ => ⟨h1, m, h2⟩
abbrev SRt (B g n cap : Nat) (w0 : World) (d : Array Int) (w : World) : Prop := SR 27 B g n cap w0 d w
set_option maxHeartbeats 2000000 in
theorem ins_any (B g n cap a b : Nat) (d : Array Int) (w0 w : World) (h : SRt B g n cap w0 d w) (hab : a ≤ b) (hb : b ≤ n) (hn : n ≤ 1000000) :
    Calls Try.prog 47 #[.slice (some ⟨g, 0, none⟩) n cap, .int .i64 a, .int .i64 b] w fun e w' => e = .returned (.tuple #[]) ∧ SRt B g n cap w0 (Sort.insertionSort ltI d a b) w' := by
  have H := Lib.hid h
  clear h
  go_enter Try.func47, Try.ntmps47
  go_wp2
  go_loopw [6, 7] (fun i _ wr => ∃ (k : Nat) (dk : Array Int), a < k ∧ k ≤ max b (a + 1) ∧ i = .int .i64 (k : Int) ∧ Hid (SRt B g n cap w0 dk wr) ∧ Hid (Sort.insOuter ltI a b k dk = Sort.insertionSort ltI d a b)) (fun i _ _ => b - (intOf i).toNat)
  case atStart => exact ⟨a + 1, d, by omega, by omega, by go_num, H, Lib.hid rfl⟩
  case round =>
    obtain ⟨k, dk, hk, hkb, rfl, HK, HE⟩ := hrel
    clear H
    by_cases hkn : k < b
    · go_wp2
      go_loopw [7] (fun i wq => ∃ (j : Nat) (dj : Array Int), a ≤ j ∧ j ≤ k ∧ i = .int .i64 (j : Int) ∧ Hid (SRt B g n cap w0 dj wq) ∧ Hid (Sort.insInner ltI a j dj = Sort.insInner ltI a k dk)) (fun i _ => (intOf i).toNat)
      case atStart => exact ⟨k, dk, by omega, by omega, rfl, HK, Lib.hid rfl⟩
      case round =>
        obtain ⟨j, dj, haj, hjk, rfl, HJ, HI⟩ := hrel
        clear HK
        by_cases hja : a < j
        · obtain ⟨q, rfl⟩ : ∃ q, j = q + 1 := ⟨j - 1, by omega⟩
          have hja' : decide ((a : Int) < (q : Int) + 1) = true := by rw [decide_eq_true_eq]; omega
          have hja2 : decide (a < q + 1) = true := by rw [decide_eq_true_eq]; omega
          have d1 := HJ.out.cell (i := q + 1) (by omega)
          have d2 := HJ.out.cell (i := q) (by omega)
          have f1 := HJ.out.frozen (i := q + 1) (by omega)
          have f2 := HJ.out.frozen (i := q) (by omega)
          have hg := HJ.out.lt
          obtain ⟨x, hx⟩ : ∃ x, x = dj[q + 1]! := ⟨_, rfl⟩
          obtain ⟨y, hy⟩ : ∃ y, y = dj[q]! := ⟨_, rfl⟩
          rw [← hx] at d1
          rw [← hy] at d2
          have HX := Lib.hid hx
          have HY := Lib.hid hy
          clear hx hy
          by_cases hl : x < y
          · have hd : decide (x < y) = true := by rw [decide_eq_true_eq]; exact hl
            go_wp2
            go_quiet (first | (go_at_call 53; refine Calls.quiet_of_same (less_any _ _ _)))
            go_wp2
            go_region
            all_goals
              go_wp2
              go_roundw
              case rel => exact ⟨q, Sort.swp dj (q + 1) q, by omega, by omega, rfl, Lib.hid (by have := (HJ.out.drewN (nq + 1)).swp (i := q + 1) (j := q) (by omega) (by omega); rwa [← HX.out, ← HY.out] at this), Lib.hid (by rw [← HI.out, ins_go (by omega) (by rw [← HX.out, ← HY.out]; exact hl)])⟩
              case measure => first | (simp [intOf]; done) | (simp [intOf]; omega)
          · have hd : decide (x < y) = false := by rw [decide_eq_false_iff_not]; exact hl
            go_wp2
            go_quiet (first | (go_at_call 53; refine Calls.quiet_of_same (less_any _ _ _)))
            go_wp2
            go_roundw
            case rel => exact ⟨k + 1, dj, by omega, by omega, by go_num, Lib.hid (HJ.out.drewN nq), Lib.hid (by rw [← HE.out, insO_go hkn, ← HI.out, ins_stop (by rw [← HX.out, ← HY.out]; omega)])⟩
            case measure => first | (simp [intOf]; done) | (simp [intOf]; omega)
        · have hja' : decide ((a : Int) < (j : Int)) = false := by rw [decide_eq_false_iff_not]; omega
          have hja2 : decide (a < j) = false := by rw [decide_eq_false_iff_not]; omega
          go_wp2
          go_quiet (first | (go_at_call 53; refine Calls.quiet_of_same (less_any _ _ _)))
          go_wp2
          go_roundw
          case rel => exact ⟨k + 1, dj, by omega, by omega, by go_num, Lib.hid (HJ.out.drewN nq), Lib.hid (by rw [← HE.out, insO_go hkn, ← HI.out, ins_end hja])⟩
          case measure => first | (simp [intOf]; done) | (simp [intOf]; omega)
    · go_wp2
      go_end0
      exact ⟨rfl, by rw [← HE.out, insO_end hkn]; exact HK.out⟩
end Go.Proofs.Ytbcloahekffjdaa
