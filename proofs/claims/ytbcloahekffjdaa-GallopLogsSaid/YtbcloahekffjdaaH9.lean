/- The walks of GallopHalves and GallopLogs. -/
import Derived.Test.YtbcloahekffjdaaH8
namespace Go.Proofs.Ytbcloahekffjdaa
open Go.RowKit Go.Proofs.Kit

set_option maxHeartbeats 2000000 in
theorem halves_true (n : Int) (h0 : -9223372036854775808 ≤ n) (h1 : n ≤ 9223372036854775807) (w : World) :
    Calls Try.prog 9 #[.int .i64 n] w fun e w' => e = .returned (.bool true) ∧ Below w.heap.size w w' := by
  by_cases hp : n < 1
  · have e0 : n.toNat = 0 := by omega
    have e1 : Nat.log2 n.toNat = 0 := by rw [e0]; decide
    have E1 := Lib.hid e1
    clear e0 e1
    go_enter Try.func9, Try.ntmps9
    go_wp2_with fail
    refine (wakes4_true _).mono ?_
    rintro e w1 ⟨rfl, B1⟩
    go_wp2_with fail
    refine (gLog_any n h0 h1 _).mono ?_
    rw [E1.out]
    rintro e w2 ⟨rfl, rfl⟩
    go_wp2
    go_ret
    exact ⟨rfl, B1⟩
  · obtain ⟨N, rfl⟩ : ∃ N : Nat, n = N := ⟨n.toNat, by omega⟩
    have hN : 1 ≤ N := by omega
    have hk := log2_lt63 (m := N) (by omega)
    have l1 := Nat.log2_self_le (n := N) (by omega)
    have l2 := Nat.lt_log2_self (n := N)
    have l3 : Nat.log2 ((N : Int) / 2).toNat = Nat.log2 N - 1 := by
      rw [show ((N : Int) / 2).toNat = N / 2 by omega]
      by_cases c : 1 < N
      · rw [log2_half c]; omega
      · rw [log2_small (m := N) (by omega), log2_small (m := N / 2) (by omega)]
    obtain ⟨k, hk'⟩ : ∃ k, k = Nat.log2 N := ⟨_, rfl⟩
    have e1 : Nat.log2 (N : Int).toNat = k := by rw [hk', Int.toNat_natCast]
    rw [← hk'] at hk l1 l2 l3
    have E1 := Lib.hid e1
    have E3 := Lib.hid l3
    have L1 := Lib.hid l1
    have L2 := Lib.hid l2
    clear hk' e1 l3 l1 l2 h0
    go_enter Try.func9, Try.ntmps9
    go_wp2_with fail
    refine (wakes4_true _).mono ?_
    rintro e w1 ⟨rfl, B1⟩
    go_wp2_with fail
    refine (gLog_any N (by omega) h1 _).mono ?_
    rw [E1.out]
    rintro e w2 ⟨rfl, rfl⟩
    have g1 : decide (N < 1) = false := by simp; omega
    have hpw : (2 : Int) ^ k = ((2 ^ k : Nat) : Int) := by simp
    have g2 : decide (wrap64 ((2 : Int) ^ k) ≤ (N : Int)) = true := by
      have h := L1.out
      rw [hpw, decide_eq_true_eq]
      obtain ⟨P, hP⟩ : ∃ P, P = 2 ^ k := ⟨_, rfl⟩
      rw [← hP] at h ⊢
      unfold wrap64
      omega
    have g3 : ((N : Int) / (2 : Int) ^ k == 1) = true := by
      have a := L1.out
      have b := L2.out
      rw [Nat.pow_succ] at b
      have hp := Nat.two_pow_pos k
      rw [hpw, beq_iff_eq]
      have : N / 2 ^ k = 1 := Nat.div_eq_of_lt_le (by omega) (by omega)
      rw [← Int.natCast_ediv, this]
      rfl
    clear hpw
    go_wp2_with fail
    refine (gLog_any ((N : Int) / 2) (by omega) (by omega) _).mono ?_
    rw [E3.out]
    rintro e w3 ⟨rfl, rfl⟩
    go_wp2
    go_ret
    have e : ((((k - 1 : Nat) : Int)) == max ((k : Int) - 1) 0) = true := by rw [beq_iff_eq]; omega
    rw [e]
    exact ⟨rfl, B1⟩

set_option maxHeartbeats 2000000 in
theorem logs_true (o : Option Addr) (n c : Nat) (l : List Int) (w : World) (hl : l.length = n) (hc : n ≤ c) (hm : c ≤ 9223372036854775807) (h : ArgI .i64 w o c l) (hr : ∀ x ∈ l, -9223372036854775808 ≤ x ∧ x ≤ 9223372036854775807) :
    Calls Try.prog 5 #[.slice o n c] w fun e w' => e = .returned (.bool true) ∧ Below w.heap.size w w' := by
  have HL := Lib.hid hl
  have HA := Lib.hid h
  have HR := Lib.hid hr
  clear hl h hr
  go_enter Try.func5, Try.ntmps5
  go_wp2_with fail
  refine (wakes4_true _).mono ?_
  rintro e w1 ⟨rfl, B1⟩
  have HB1 := Lib.hid B1
  clear B1
  go_wp2
  go_loop [3, 4, 9] (fun _ _ i => ∃ k : Nat, k ≤ n ∧ i = .int .i64 (k : Int)) (fun _ _ i => n - (intOf i).toNat)
  case atStart => exact ⟨0, Nat.zero_le _, rfl⟩
  case round =>
    obtain ⟨k, hk, rfl⟩ := hrel
    by_cases hlt : k < n
    · have hk1 : k < l.length := by have := HL.out; omega
      obtain ⟨a, rfl, hcells⟩ := HA.out.resolve_left (fun e => by rw [e.2.1] at hk1; simp at hk1)
      have d0 := hcells k hk1
      have d1 : w1.cell? (a.add k) = some (.int .i64 l[k]) := (HB1.out.cell (World.block_lt_of_cell? _ _ d0)).trans d0
      have hx := HR.out _ (List.getElem_mem hk1)
      obtain ⟨x, hxx⟩ : ∃ x, x = l[k] := ⟨_, rfl⟩
      rw [← hxx] at d1 hx
      have HX := Lib.hid hx
      clear hxx d0 hcells hx
      by_cases h20 : k < 20
      · have g20 : decide (k < 20) = true := by simpa using h20
        go_wp2_with fail
        refine (gLog_any x HX.out.1 HX.out.2 _).mono ?_
        obtain ⟨y, hy⟩ : ∃ y, y = Nat.log2 x.toNat := ⟨_, rfl⟩
        rw [← hy]
        have HY := Lib.hid hy
        clear hy
        rintro e w2 ⟨rfl, rfl⟩
        go_wp2_with fail
        refine (eLog_any x HX.out.2 HX.out.1 _).mono ?_
        rw [← HY.out]
        rintro e w2 ⟨rfl, rfl⟩
        go_wp2
        go_round
        case rel => exact ⟨k + 1, by omega, by go_num⟩
        case measure => simp [intOf]; omega
      · have g20 : decide (k < 20) = false := by simpa using h20
        go_wp2
        go_round
        case rel => exact ⟨k + 1, by omega, by go_num⟩
        case measure => simp [intOf]; omega
    · go_wp2
      go_ret
      exact ⟨rfl, HB1.out⟩
end Go.Proofs.Ytbcloahekffjdaa
