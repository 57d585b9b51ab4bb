/- A heap: sifting down, sorting by it. -/
import Derived.Test.YtbcloahekffjdaaH15
namespace Go.Proofs.Ytbcloahekffjdaa
open Go.RowKit Go.Proofs.Kit
set_option maxHeartbeats 4000000 in
theorem sift_any (B g n cap lo hi F : Nat) (d : Array Int) (w0 w : World) (h : SRt B g n cap w0 d w) (hlo : lo ≤ hi) (hb : F + hi ≤ n) (hn : n ≤ 1000000) :
    Calls Try.prog 58 #[.slice (some ⟨g, 0, none⟩) n cap, .int .i64 lo, .int .i64 hi, .int .i64 F] w fun e w' => e = .returned (.tuple #[]) ∧ SRt B g n cap w0 (Sort.siftDown ltI hi F lo d) w' := by
  have H := Lib.hid h
  clear h
  go_enter Try.func58, Try.ntmps58
  go_wp2
  go_loopw [8, 9] (fun r _ wr => ∃ (root : Nat) (dk : Array Int), root ≤ hi ∧ r = .int .i64 (root : Int) ∧ Hid (SRt B g n cap w0 dk wr) ∧ Hid (Sort.siftDown ltI hi F root dk = Sort.siftDown ltI hi F lo d)) (fun r _ _ => hi - (intOf r).toNat)
  case atStart => exact ⟨lo, d, hlo, rfl, H, Lib.hid rfl⟩
  case round =>
    obtain ⟨r, dk, hr, rfl, HK, HE⟩ := hrel
    clear H
    by_cases h0 : hi ≤ 2 * r + 1
    · go_wp2
      go_end0
      exact ⟨rfl, by rw [← HE.out, sd_end h0]; exact HK.out⟩
    · have hg := HK.out.lt
      have dr := HK.out.cell (i := F + r) (by omega)
      have d1 := HK.out.cell (i := F + (2 * r + 1)) (by omega)
      have fr := HK.out.frozen (i := F + r) (by omega)
      have f1 := HK.out.frozen (i := F + (2 * r + 1)) (by omega)
      obtain ⟨x, hx⟩ : ∃ x, x = dk[F + r]! := ⟨_, rfl⟩
      obtain ⟨y, hy⟩ : ∃ y, y = dk[F + (2 * r + 1)]! := ⟨_, rfl⟩
      rw [← hx] at dr
      rw [← hy] at d1
      have HX := Lib.hid hx
      have HY := Lib.hid hy
      clear hx hy
      have hw1 : IntKind.i64.wrap (2 * (r : Int) + 1 + 1) = 2 * (r : Int) + 1 + 1 := by rw [IntKind.wrap_i64]; omega
      have hw2 : IntKind.i64.wrap ((F : Int) + (2 * (r : Int) + 1)) = (F : Int) + (2 * (r : Int) + 1) := by rw [IntKind.wrap_i64]; omega
      have hw3 : IntKind.i64.wrap ((F : Int) + (2 * (r : Int) + 1) + 1) = (F : Int) + (2 * (r : Int) + 1) + 1 := by rw [IntKind.wrap_i64]; omega
      have hw4 : IntKind.i64.wrap ((F : Int) + (r : Int)) = (F : Int) + (r : Int) := by rw [IntKind.wrap_i64]; omega
      have hw5 : IntKind.i64.wrap ((F : Int) + (2 * (r : Int) + 1 + 1)) = (F : Int) + (2 * (r : Int) + 1 + 1) := by rw [IntKind.wrap_i64]; omega
      have p1 : (0 : Int) ≤ (F : Int) + (2 * (r : Int) + 1) := by omega
      have p2 : (F : Int) + (2 * (r : Int) + 1) < (n : Int) := by omega
      have p3 : ((F : Int) + (2 * (r : Int) + 1)).toNat = F + (2 * r + 1) := by omega
      have h0' : decide ((hi : Int) ≤ 2 * (r : Int) + 1) = false := by rw [decide_eq_false_iff_not]; omega
      have p7 : (0 : Int) ≤ (F : Int) + (r : Int) := by omega
      have p8 : (F : Int) + (r : Int) < (n : Int) := by omega
      have p9 : ((F : Int) + (r : Int)).toNat = F + r := by omega
      by_cases h1 : 2 * r + 2 < hi
      · have h1' : decide (2 * (r : Int) + 1 + 1 < (hi : Int)) = true := by rw [decide_eq_true_eq]; omega
        have p4 : (0 : Int) ≤ (F : Int) + (2 * (r : Int) + 1) + 1 := by omega
        have p5 : (F : Int) + (2 * (r : Int) + 1) + 1 < (n : Int) := by omega
        have p6 : ((F : Int) + (2 * (r : Int) + 1) + 1).toNat = F + (2 * r + 2) := by omega
        have q4 : (0 : Int) ≤ (F : Int) + (2 * (r : Int) + 1 + 1) := by omega
        have q5 : (F : Int) + (2 * (r : Int) + 1 + 1) < (n : Int) := by omega
        have q6 : ((F : Int) + (2 * (r : Int) + 1 + 1)).toNat = F + (2 * r + 2) := by omega
        have d2 := HK.out.cell (i := F + (2 * r + 2)) (by omega)
        have f2 := HK.out.frozen (i := F + (2 * r + 2)) (by omega)
        obtain ⟨z, hz⟩ : ∃ z, z = dk[F + (2 * r + 2)]! := ⟨_, rfl⟩
        rw [← hz] at d2
        have HZ := Lib.hid hz
        clear hz
        by_cases hl : y < z
        · have hd : decide (y < z) = true := by rw [decide_eq_true_eq]; exact hl
          by_cases hr2 : x < z
          · have hd2 : decide (x < z) = true := by rw [decide_eq_true_eq]; exact hr2
            go_wp2
            go_quiet (first | (go_at_call 53; refine Calls.quiet_of_same (less_any _ _ _)) | (go_at_call 53; refine less_from _ _))
            go_wp2
            go_quiet (first | (go_at_call 53; refine Calls.quiet_of_same (less_any _ _ _)) | (go_at_call 53; refine less_from _ _))
            go_wp2
            go_region
            all_goals
              go_wp2
              go_roundw
              case rel => exact ⟨2 * r + 2, Sort.swp dk (F + r) (F + (2 * r + 2)), by omega, by go_num, Lib.hid (HK.out.swpN (i := F + r) (j := F + (2 * r + 2)) (by omega) (by omega) HX.out HZ.out _), Lib.hid (by rw [← HE.out, sd_right (d := dk) (root := r) h1 (by rw [← HY.out, ← HZ.out]; omega) (by rw [← HX.out, ← HZ.out]; omega)])⟩
              case measure => first | (simp [intOf]; done) | (simp [intOf]; omega)
          · have hd2 : decide (x < z) = false := by rw [decide_eq_false_iff_not]; exact hr2
            go_wp2
            go_quiet (first | (go_at_call 53; refine Calls.quiet_of_same (less_any _ _ _)) | (go_at_call 53; refine less_from _ _))
            go_wp2
            go_quiet (first | (go_at_call 53; refine Calls.quiet_of_same (less_any _ _ _)) | (go_at_call 53; refine less_from _ _))
            go_wp2
            exact bodyPost_ret (v := .tuple #[]) (by simp [results, Try.results58, go_sem]) rfl ⟨rfl, by rw [← HE.out, sd_right_stop (d := dk) (root := r) h1 (by rw [← HY.out, ← HZ.out]; omega) (by rw [← HX.out, ← HZ.out]; omega)]; exact (HK.out.drewN _).drewN _⟩
        · have hd : decide (y < z) = false := by rw [decide_eq_false_iff_not]; exact hl
          by_cases hr2 : x < y
          · have hd2 : decide (x < y) = true := by rw [decide_eq_true_eq]; exact hr2
            go_wp2
            go_quiet (first | (go_at_call 53; refine Calls.quiet_of_same (less_any _ _ _)) | (go_at_call 53; refine less_from _ _))
            go_wp2
            go_quiet (first | (go_at_call 53; refine Calls.quiet_of_same (less_any _ _ _)) | (go_at_call 53; refine less_from _ _))
            go_wp2
            go_region
            all_goals
              go_wp2
              go_roundw
              case rel => exact ⟨2 * r + 1, Sort.swp dk (F + r) (F + (2 * r + 1)), by omega, by go_num, Lib.hid (HK.out.swpN (i := F + r) (j := F + (2 * r + 1)) (by omega) (by omega) HX.out HY.out _), Lib.hid (by rw [← HE.out, sd_left (d := dk) (root := r) (by omega) (fun e => by have := e.2; rw [← HY.out, ← HZ.out] at this; omega) (by rw [← HX.out, ← HY.out]; omega)])⟩
              case measure => first | (simp [intOf]; done) | (simp [intOf]; omega)
          · have hd2 : decide (x < y) = false := by rw [decide_eq_false_iff_not]; exact hr2
            go_wp2
            go_quiet (first | (go_at_call 53; refine Calls.quiet_of_same (less_any _ _ _)) | (go_at_call 53; refine less_from _ _))
            go_wp2
            go_quiet (first | (go_at_call 53; refine Calls.quiet_of_same (less_any _ _ _)) | (go_at_call 53; refine less_from _ _))
            go_wp2
            exact bodyPost_ret (v := .tuple #[]) (by simp [results, Try.results58, go_sem]) rfl ⟨rfl, by rw [← HE.out, sd_left_stop (d := dk) (root := r) (by omega) (fun e => by have := e.2; rw [← HY.out, ← HZ.out] at this; omega) (by rw [← HX.out, ← HY.out]; omega)]; exact (HK.out.drewN _).drewN _⟩
      · have h1' : decide (2 * (r : Int) + 1 + 1 < (hi : Int)) = false := by rw [decide_eq_false_iff_not]; omega
        by_cases hr2 : x < y
        · have hd2 : decide (x < y) = true := by rw [decide_eq_true_eq]; exact hr2
          go_wp2
          go_quiet (first | (go_at_call 53; refine Calls.quiet_of_same (less_any _ _ _)) | (go_at_call 53; refine less_from _ _))
          go_wp2
          go_quiet (first | (go_at_call 53; refine Calls.quiet_of_same (less_any _ _ _)) | (go_at_call 53; refine less_from _ _))
          go_wp2
          go_region
          all_goals
            go_wp2
            go_roundw
            case rel => exact ⟨2 * r + 1, Sort.swp dk (F + r) (F + (2 * r + 1)), by omega, by go_num, Lib.hid (HK.out.swpN (i := F + r) (j := F + (2 * r + 1)) (by omega) (by omega) HX.out HY.out _), Lib.hid (by rw [← HE.out, sd_left (d := dk) (root := r) (by omega) (fun e => h1 e.1) (by rw [← HX.out, ← HY.out]; omega)])⟩
            case measure => first | (simp [intOf]; done) | (simp [intOf]; omega)
        · have hd2 : decide (x < y) = false := by rw [decide_eq_false_iff_not]; exact hr2
          go_wp2
          go_quiet (first | (go_at_call 53; refine Calls.quiet_of_same (less_any _ _ _)) | (go_at_call 53; refine less_from _ _))
          go_wp2
          go_quiet (first | (go_at_call 53; refine Calls.quiet_of_same (less_any _ _ _)) | (go_at_call 53; refine less_from _ _))
          go_wp2
          exact bodyPost_ret (v := .tuple #[]) (by simp [results, Try.results58, go_sem]) rfl ⟨rfl, by rw [← HE.out, sd_left_stop (d := dk) (root := r) (by omega) (fun e => h1 e.1) (by rw [← HX.out, ← HY.out]; omega)]; exact (HK.out.drewN _).drewN _⟩
end Go.Proofs.Ytbcloahekffjdaa
