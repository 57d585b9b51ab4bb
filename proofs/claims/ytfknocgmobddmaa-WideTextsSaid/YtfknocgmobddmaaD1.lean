import Derived.Test.YtfknocgmobddmaaBits
import Derived.Test.YtfknocgmobddmaaD0
import Derived.Test.YtfknocgmobddmaaShelf
import Derived.Deep.QuietTactic
import Derived.BigQuiet
import Derived.Deep.CutBlock
import Derived.Deep.DeepCutAuto
namespace Go.Proofs.Ytfknocgmobddmaa
open Go.RowKit Go.Proofs.Kit

theorem lz64 (y s : Nat) (hy : y < 18446744073709551616) (hs : 64 - Lib.bitLen y = s) (hl : Lib.bitLen y ≤ 64) (w : World) :
    Calls Try.prog 71 #[.int .u64 y] w fun e w' => e = .returned (.int .i64 s) ∧ w = w' := by
  refine (Try.bits_LeadingZeros64 y w (by omega) (by omega)).mono ?_
  rintro e w' ⟨rfl, rfl⟩
  refine ⟨?_, rfl⟩
  congr 2
  simp only [Int.toNat_natCast]
  omega

set_option maxHeartbeats 400000 in
theorem div64_low (lo y : Nat) (hlo : lo < 18446744073709551616) (hy : y < 18446744073709551616) (h : 0 < y) (w : World) :
    Calls Try.prog 58 #[.int .u64 0, .int .u64 lo, .int .u64 y] w fun e w' => e = .returned (.tuple #[.int .u64 ((lo / y : Nat) : Int), .int .u64 ((lo % y : Nat) : Int)]) ∧ ∃ n, w' = w.drewN n := by
  have h1 : ((y : Int) == 0) = false := by simp; omega
  have h2 : decide ((y : Int) ≤ 0) = false := by simp; omega
  have h5 : decide (y = 0) = false := by simp; omega
  have h3 : (1 : Int) ≤ (y : Int) := by omega
  have hq : (lo : Int) / (y : Int) = ((lo / y : Nat) : Int) := by simp
  have hr : (lo : Int) % (y : Int) = ((lo % y : Nat) : Int) := by simp
  have l1 : lo / y ≤ lo := Nat.div_le_self _ _
  have l2 : lo % y < y := Nat.mod_lt _ h
  generalize lo / y = d at *
  generalize lo % y = m at *
  have k1 : IntKind.u64.wrap (d : Int) = d := by rw [wrapU]; omega
  have k2 : IntKind.u64.wrap (m : Int) = m := by rw [wrapU]; omega
  go_enter Try.func58, Try.ntmps58
  go_wp2
  go_quiet (fail)
  go_wp2
  go_ret2
  refine ⟨?_, _, rfl⟩
  simp
  first | exact hr | exact hq

set_option maxRecDepth 100000 in
set_option maxHeartbeats 1000000 in
theorem div64_walk (hi lo y s Y p q u L a b T v T0 r : Nat) (hhi : 0 < hi) (hlt : hi < y) (_hlo : lo < 18446744073709551616) (hy : y < 18446744073709551616) (hs : s < 64) (hbl : 64 - Lib.bitLen y = s) (hl : Lib.bitLen y ≤ 64)
    (eY : IntKind.u64.wrap ((y : Int) * 2 ^ s) = (Y : Int)) (eY1 : (Y : Int) / 4294967296 = (p : Int)) (eY0 : bits .and .u64 (Y : Int) 4294967295 = (q : Int))
    (eU : bits .or .u64 (IntKind.u64.wrap ((hi : Int) * 2 ^ s)) ((lo : Int) / 2 ^ (64 - s)) = (u : Int))
    (eL : IntKind.u64.wrap ((lo : Int) * 2 ^ s) = (L : Int)) (eL1 : (L : Int) / 4294967296 = (a : Int)) (eL0 : bits .and .u64 (L : Int) 4294967295 = (b : Int))
    (hp0 : 2147483648 ≤ p) (hp1 : p < 4294967296) (hq1 : q < 4294967296) (hY : Y = p * 4294967296 + q) (hu : u < Y) (ha : a < 4294967296) (hb : b < 4294967296)
    (hT : T = (u * 4294967296 + a) / Y) (hv : v = (u * 4294967296 + a) % Y) (hT0 : T0 = (v * 4294967296 + b) / Y) (hr : r = (v * 4294967296 + b) % Y) (w : World) :
    Calls Try.prog 58 #[.int .u64 hi, .int .u64 lo, .int .u64 y] w fun e w' => e = .returned (.tuple #[.int .u64 ((T : Int) * 4294967296 + (T0 : Int)), .int .u64 ((r : Int) / 2 ^ s)]) ∧ w = w' := by
  have h1 : ((y : Int) == 0) = false := by simp; omega
  have h2 : decide ((y : Int) ≤ (hi : Int)) = false := by simp; omega
  have h4 : ((hi : Int) == 0) = false := by simp; omega
  have h3 : (1 : Int) ≤ (p : Int) := by omega
  have HBL := Lib.hid hbl; clear hbl
  have tr := Trial.start (hY ▸ hT) (hY ▸ hu) hp0 hp1 hq1 ha
  have hvlt : v < Y := by rw [hv]; exact Nat.mod_lt _ (by omega)
  have tr0 := Trial.start (hY ▸ hT0) (hY ▸ hvlt) hp0 hp1 hq1 hb
  have hnT : Y * T + v = u * 4294967296 + a := by rw [hT, hv]; exact Nat.div_add_mod _ _
  have hnT0 : Y * T0 + r = v * 4294967296 + b := by rw [hT0, hr]; exact Nat.div_add_mod _ _
  have hrlt : r < Y := by rw [hr]; exact Nat.mod_lt _ (by omega)
  have d2 := Nat.div_add_mod u p
  have d2' := Nat.div_add_mod v p
  have d3 := Nat.mod_lt u (show 0 < p by omega)
  have d3' := Nat.mod_lt v (show 0 < p by omega)
  have d4 := tr.small
  have d4' := tr0.small
  have eq0 : (u : Int) / (p : Int) = ((u / p : Nat) : Int) := by simp
  have eq0' : (v : Int) / (p : Int) = ((v / p : Nat) : Int) := by simp
  clear hT hv hT0 hr
  have hulim : u < 18446744073709551616 := by omega
  have hvlim : v < 18446744073709551616 := by omega
  generalize u / p = Q at *
  generalize u % p = R at *
  generalize v / p = Q' at *
  generalize v % p = R' at *
  have eq1 : IntKind.u64.wrap ((Q : Int)) = (Q : Int) := by rw [wrapU]; omega
  have eq1' : IntKind.u64.wrap ((Q' : Int)) = (Q' : Int) := by rw [wrapU]; omega
  obtain ⟨m, hm⟩ : ∃ m, m = p * Q := ⟨_, rfl⟩
  obtain ⟨m', hm'⟩ : ∃ m, m = p * Q' := ⟨_, rfl⟩
  obtain ⟨t, ht⟩ : ∃ t, t = Y * T := ⟨_, rfl⟩
  obtain ⟨t', ht'⟩ : ∃ t, t = Y * T0 := ⟨_, rfl⟩
  rw [← hm] at d2
  rw [← hm'] at d2'
  rw [← ht] at hnT
  rw [← ht'] at hnT0
  have eq2 : IntKind.u64.wrap ((Q : Int) * (p : Int)) = (m : Int) := by rw [wrapU, ← Int.natCast_mul, Nat.mul_comm Q p, ← hm]; omega
  have eq2' : IntKind.u64.wrap ((Q' : Int) * (p : Int)) = (m' : Int) := by rw [wrapU, ← Int.natCast_mul, Nat.mul_comm Q' p, ← hm']; omega
  have eq3 : IntKind.u64.wrap ((u : Int) - (m : Int)) = (R : Int) := by rw [wrapU]; omega
  have eq3' : IntKind.u64.wrap ((v : Int) - (m' : Int)) = (R' : Int) := by rw [wrapU]; omega
  obtain ⟨x1, hx1⟩ := wrapNat ((u : Int) * 4294967296)
  obtain ⟨x2, hx2⟩ := wrapNat ((x1 : Int) + (a : Int))
  obtain ⟨x3, hx3⟩ := wrapNat ((T : Int) * (Y : Int))
  have eq4 : IntKind.u64.wrap ((x2 : Int) - (x3 : Int)) = (v : Int) := wrapSub hx1 hx2 (by rw [hx3, ht, Nat.mul_comm Y T, Int.natCast_mul]) hnT hvlim
  obtain ⟨z1, hz1⟩ := wrapNat ((v : Int) * 4294967296)
  obtain ⟨z2, hz2⟩ := wrapNat ((z1 : Int) + (b : Int))
  obtain ⟨z3, hz3⟩ := wrapNat ((T0 : Int) * (Y : Int))
  have eq5 : IntKind.u64.wrap ((z2 : Int) - (z3 : Int)) = (r : Int) := wrapSub hz1 hz2 (by rw [hz3, ht', Nat.mul_comm Y T0, Int.natCast_mul]) hnT0 (by omega)
  have ex1 := hx1.symm; have ex2 := hx2.symm; have ex3 := hx3.symm
  have ez1 := hz1.symm; have ez2 := hz2.symm; have ez3 := hz3.symm
  have hTB := tr.ltB
  have hT0B := tr0.ltB
  clear hx1 hx2 hx3 hz1 hz2 hz3 d2 d2' hm hm' ht ht' hnT hnT0 hY hu hvlt hrlt
  go_enter Try.func58, Try.ntmps58
  go_upto_block 0 with (go_at_call 71; refine (lz64 y s hy HBL.out hl _).mono ?_; rintro e w' ⟨rfl, rfl⟩)
  go_cut [15] (fun s15 wx => s15 = .int .u64 (T : Int) ∧ w = wx)
  case first =>
    go_wp2_with fail
    go_loop [15, 16] (fun c r => ∃ Qk Rk : Nat, c = .int .u64 Qk ∧ r = .int .u64 Rk ∧ Rk < 4294967296 ∧ Trial p q u a T Qk Rk) (fun c _ => (intOf c).toNat)
    case atStart => exact ⟨Q, R, rfl, rfl, by omega, tr⟩
    case round =>
      clear tr tr0
      obtain ⟨Qk, Rk, rfl, rfl, hRk, tk⟩ := hrel
      have hsm := tk.small
      have hup := tk.up
      obtain ⟨M, hM⟩ : ∃ M, M = Qk * q := ⟨_, rfl⟩
      have hMf := tk.fits
      rw [← hM] at hMf
      have eM : IntKind.u64.wrap ((Qk : Int) * (q : Int)) = (M : Int) := by rw [wrapU, ← Int.natCast_mul, ← hM]; omega
      have HM := Lib.hid hM; clear hM
      by_cases hg : T < Qk
      · have hnx := tk.next hg
        have hcase : (decide (4294967296 ≤ (Qk : Int)) = true) ∨ (decide (4294967296 ≤ (Qk : Int)) = false ∧ decide (4294967296 * (Rk : Int) + (a : Int) < (M : Int)) = true) := by
          by_cases hc : 4294967296 ≤ Qk
          · exact .inl (by simp; omega)
          · refine .inr ⟨by simp; omega, ?_⟩
            have : ¬ Qk * q ≤ 4294967296 * Rk + a := fun hle => by have := tk.done hle; omega
            rw [← HM.out] at this
            simp; omega
        have HNX := Lib.hid hnx; clear hnx
        by_cases hbr : 4294967296 ≤ Rk + p
        · have hfin : Qk - 1 = T := HNX.out.stop (by omega) hbr
          have HF := Lib.hid hfin; clear hfin
          have gb : decide (4294967296 ≤ (Rk : Int) + (p : Int)) = true := by simp; omega
          rcases hcase with g1 | ⟨g1, g2⟩
          all_goals
            go_wp2_with fail
            go_meet
            exact ⟨congrArg (Value.int .u64) (by have := HF.out; omega), rfl⟩
        · have gb : decide (4294967296 ≤ (Rk : Int) + (p : Int)) = false := by simp; omega
          rcases hcase with g1 | ⟨g1, g2⟩
          all_goals
            go_wp2_with fail
            go_round
            case rel => exact ⟨Qk - 1, Rk + p, congrArg (Value.int .u64) (by omega), by go_num, by omega, HNX.out⟩
            case measure => simp [intOf]; omega
      · obtain rfl : Qk = T := by omega
        have hle : M ≤ 4294967296 * Rk + a := by
          rw [HM.out]; exact (trial_iff tk.split (by omega)).2 (by rw [← tk.isT]; exact Nat.le_refl _)
        have g1 : decide (4294967296 ≤ (Qk : Int)) = false := by simp; omega
        have g2 : decide (4294967296 * (Rk : Int) + (a : Int) < (M : Int)) = false := by simp; omega
        go_wp2_with fail
        go_meet
        exact ⟨rfl, rfl⟩
  case rest =>
    obtain ⟨rfl, rfl⟩ := hcut
    clear tr
    go_upto_block 2 with fail
    go_cut [18] (fun s18 wx => s18 = .int .u64 (T0 : Int) ∧ w = wx)
    case first =>
      go_wp2_with fail
      go_loop [18, 16] (fun c r => ∃ Qk Rk : Nat, c = .int .u64 Qk ∧ r = .int .u64 Rk ∧ Rk < 4294967296 ∧ Trial p q v b T0 Qk Rk) (fun c _ => (intOf c).toNat)
      case atStart => exact ⟨Q', R', rfl, rfl, by omega, tr0⟩
      case round =>
        clear tr0
        obtain ⟨Qk, Rk, rfl, rfl, hRk, tk⟩ := hrel
        have hsm := tk.small
        have hup := tk.up
        obtain ⟨M, hM⟩ : ∃ M, M = Qk * q := ⟨_, rfl⟩
        have hMf := tk.fits
        rw [← hM] at hMf
        have eM : IntKind.u64.wrap ((Qk : Int) * (q : Int)) = (M : Int) := by rw [wrapU, ← Int.natCast_mul, ← hM]; omega
        have HM := Lib.hid hM; clear hM
        by_cases hg : T0 < Qk
        · have hnx := tk.next hg
          have hcase : (decide (4294967296 ≤ (Qk : Int)) = true) ∨ (decide (4294967296 ≤ (Qk : Int)) = false ∧ decide (4294967296 * (Rk : Int) + (b : Int) < (M : Int)) = true) := by
            by_cases hc : 4294967296 ≤ Qk
            · exact .inl (by simp; omega)
            · refine .inr ⟨by simp; omega, ?_⟩
              have : ¬ Qk * q ≤ 4294967296 * Rk + b := fun hle => by have := tk.done hle; omega
              rw [← HM.out] at this
              simp; omega
          have HNX := Lib.hid hnx; clear hnx
          by_cases hbr : 4294967296 ≤ Rk + p
          · have hfin : Qk - 1 = T0 := HNX.out.stop (by omega) hbr
            have HF := Lib.hid hfin; clear hfin
            have gb : decide (4294967296 ≤ (Rk : Int) + (p : Int)) = true := by simp; omega
            rcases hcase with g1 | ⟨g1, g2⟩
            all_goals
              go_wp2_with fail
              go_meet
              exact ⟨congrArg (Value.int .u64) (by have := HF.out; omega), rfl⟩
          · have gb : decide (4294967296 ≤ (Rk : Int) + (p : Int)) = false := by simp; omega
            rcases hcase with g1 | ⟨g1, g2⟩
            all_goals
              go_wp2_with fail
              go_round
              case rel => exact ⟨Qk - 1, Rk + p, congrArg (Value.int .u64) (by omega), by go_num, by omega, HNX.out⟩
              case measure => simp [intOf]; omega
        · obtain rfl : Qk = T0 := by omega
          have hle : M ≤ 4294967296 * Rk + b := by
            rw [HM.out]; exact (trial_iff tk.split (by omega)).2 (by rw [← tk.isT]; exact Nat.le_refl _)
          have g1 : decide (4294967296 ≤ (Qk : Int)) = false := by simp; omega
          have g2 : decide (4294967296 * (Rk : Int) + (b : Int) < (M : Int)) = false := by simp; omega
          go_wp2_with fail
          go_meet
          exact ⟨rfl, rfl⟩
    case rest =>
      obtain ⟨rfl, rfl⟩ := hcut
      clear tr0
      go_wp2
      go_ret2
      exact ⟨rfl, rfl⟩
end Go.Proofs.Ytfknocgmobddmaa
