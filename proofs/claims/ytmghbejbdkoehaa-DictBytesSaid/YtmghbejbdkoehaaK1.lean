/- May: what a kind allows its names. -/
import Derived.Test.YtmghbejbdkoehaaMb
import Derived.Test.YtmghbejbdkoehaaJ3
namespace Go.Proofs.Ytmghbejbdkoehaa
open Go.RowKit Go.Proofs.Kit Go.Shelf

set_option maxRecDepth 100000 in
set_option maxHeartbeats 1000000 in
theorem inKey_any (r : Nat) (w : World) : Calls Try.prog 67 #[.int .i32 (r : Int)] w fun e w' => e = .returned (.bool (keyN r)) ∧ w' = w := by
  by_cases h1 : 97 ≤ r
  · have g1 : decide ((97 : Int) ≤ (r : Int)) = true := by simp; omega
    have g3 : decide ((48 : Int) ≤ (r : Int)) = true := by simp; omega
    have g4 : decide ((r : Int) ≤ 57) = false := by simp; omega
    have g5 : ((r : Int) == 95) = false := by simp; omega
    by_cases h2 : r ≤ 122
    · have g2 : decide ((r : Int) ≤ 122) = true := by simp; omega
      have hr : keyN r = true := by simp [keyN]; omega
      rw [hr]
      clear h1 h2 hr
      go_enter Try.func67, Try.ntmps67
      go_wp2
      go_ret
      exact ⟨rfl, rfl⟩
    · have g2 : decide ((r : Int) ≤ 122) = false := by simp; omega
      have hr : keyN r = false := by simp [keyN]; omega
      rw [hr]
      clear h1 h2 hr
      go_enter Try.func67, Try.ntmps67
      go_wp2
      go_ret
      exact ⟨rfl, rfl⟩
  · have g1 : decide ((97 : Int) ≤ (r : Int)) = false := by simp; omega
    by_cases h3 : 48 ≤ r
    · have g3 : decide ((48 : Int) ≤ (r : Int)) = true := by simp; omega
      by_cases h4 : r ≤ 57
      · have g4 : decide ((r : Int) ≤ 57) = true := by simp; omega
        have hr : keyN r = true := by simp [keyN]; omega
        rw [hr]
        clear h1 h3 h4 hr
        go_enter Try.func67, Try.ntmps67
        go_wp2
        go_ret
        exact ⟨rfl, rfl⟩
      · have g4 : decide ((r : Int) ≤ 57) = false := by simp; omega
        have hr : keyN r = ((r : Int) == 95) := by rw [Bool.eq_iff_iff]; simp [keyN]; omega
        rw [hr]
        clear h1 h3 h4 hr
        go_enter Try.func67, Try.ntmps67
        go_wp2
        go_ret
        exact ⟨rfl, rfl⟩
    · have g3 : decide ((48 : Int) ≤ (r : Int)) = false := by simp; omega
      have hr : keyN r = ((r : Int) == 95) := by rw [Bool.eq_iff_iff]; simp [keyN]; omega
      rw [hr]
      clear h1 h3 hr
      go_enter Try.func67, Try.ntmps67
      go_wp2
      go_ret
      exact ⟨rfl, rfl⟩

set_option maxRecDepth 100000 in
set_option maxHeartbeats 1000000 in
theorem inValue_any (r : Nat) (w : World) : Calls Try.prog 68 #[.int .i32 (r : Int)] w fun e w' => e = .returned (.bool (valN r)) ∧ w' = w := by
  by_cases h1 : 32 ≤ r
  · have g1 : decide ((32 : Int) ≤ (r : Int)) = true := by simp; omega
    by_cases h2 : r ≤ 126
    · have g2 : decide ((r : Int) ≤ 126) = true := by simp; omega
      by_cases h3 : r = 34
      · have g3 : ((r : Int) != 34) = false := by simp; omega
        have hr : valN r = false := by simp [valN]; omega
        rw [hr]
        clear h1 h2 h3 hr
        go_enter Try.func68, Try.ntmps68
        go_wp2
        go_ret
        exact ⟨rfl, rfl⟩
      · have g3 : ((r : Int) != 34) = true := by simp; omega
        have hr : valN r = ((r : Int) != 92) := by rw [Bool.eq_iff_iff]; simp [valN]; omega
        rw [hr]
        clear h1 h2 h3 hr
        go_enter Try.func68, Try.ntmps68
        go_wp2
        go_ret
        exact ⟨rfl, rfl⟩
    · have g2 : decide ((r : Int) ≤ 126) = false := by simp; omega
      have hr : valN r = false := by simp [valN]; omega
      rw [hr]
      clear h1 h2 hr
      go_enter Try.func68, Try.ntmps68
      go_wp2
      go_ret
      exact ⟨rfl, rfl⟩
  · have g1 : decide ((32 : Int) ≤ (r : Int)) = false := by simp; omega
    have hr : valN r = false := by simp [valN]; omega
    rw [hr]
    clear h1 hr
    go_enter Try.func68, Try.ntmps68
    go_wp2
    go_ret
    exact ⟨rfl, rfl⟩

set_option maxRecDepth 100000 in
set_option maxHeartbeats 2000000 in
theorem allowk_any (s : ByteArray) (hs : s.size ≤ 9223372036854775807) (w : World) :
    Calls Try.prog 45 #[.agg #[.int .i64 1, .int .i64 32, .func (.func 67) #[] #[]], .string s] w fun e w' => e = .returned (.bool (decide (1 ≤ s.size) && decide (s.size ≤ 32) && allB false s)) ∧ Below w.heap.size w w' := by
  obtain ⟨q, hq⟩ : ∃ q, q = s.size := ⟨_, rfl⟩
  have hB : ∀ o k, Below w.heap.size w ((w.alloc o).iter s k) := fun o k => ((Below.refl _ w).alloc (Nat.le_refl _) _).alloc (by simp) _
  have hB0 : ∀ o, Below w.heap.size w (w.alloc o) := fun o => (Below.refl _ w).alloc (Nat.le_refl _) _
  have HB := Lib.hid hB
  have HB0 := Lib.hid hB0
  clear hB hB0
  by_cases h1 : q < 1
  · have g1 : decide ((q : Int) < 1) = true := by simp; omega
    have hr : (decide (1 ≤ s.size) && decide (s.size ≤ 32) && allB false s) = false := by simp; omega
    rw [hr]
    rw [hq] at g1
    clear h1 hr hq
    go_enter Try.func45, Try.ntmps45
    go_wp2
    go_ret
    exact ⟨rfl, HB0.out _⟩
  · have g1 : decide ((q : Int) < 1) = false := decide_eq_false (by omega)
    by_cases h2 : 32 < q
    · have g2 : decide ((32 : Int) < (q : Int)) = true := by simp; omega
      have hr : (decide (1 ≤ s.size) && decide (s.size ≤ 32) && allB false s) = false := by simp; omega
      rw [hr]
      rw [hq] at g1 g2
      clear h1 h2 hr hq
      go_enter Try.func45, Try.ntmps45
      go_wp2
      go_ret
      exact ⟨rfl, HB0.out _⟩
    · have g2 : decide ((32 : Int) < (q : Int)) = false := by simp; omega
      have hr : (decide (1 ≤ s.size) && decide (s.size ≤ 32) && allB false s) = allB false s := by
        have a1 : decide (s.size ≤ 32) = true := decide_eq_true (by omega)
        have a2 : decide (1 ≤ s.size) = true := decide_eq_true (by omega)
        rw [a1, a2, Bool.true_and, Bool.true_and]
      rw [hr]
      rw [hq] at g1 g2
      clear h1 h2 hr
      go_enter Try.func45, Try.ntmps45
      go_wp2
      obtain ⟨W, hW⟩ : ∃ W, W = w.alloc (.cells #[.int .i64 1, .int .i64 32, .func (.func 67) #[] #[]] 84) := ⟨_, rfl⟩
      have bx : Blk W w.heap.size #[.int .i64 1, .int .i64 32, .func (.func 67) #[] #[]] 84 := by rw [hW]; exact Blk.new _ _ _
      have hWs : W.heap.size = w.heap.size + 1 := by rw [hW]; simp
      have HW : Hid (∀ k, Below w.heap.size w (W.iter s k)) := Lib.hid (by rw [hW]; exact HB.out _)
      rw [← hW]
      clear hW g1 g2
      have HBX : Hid (∀ k, (W.iter s k).cell? ⟨w.heap.size, 2, none⟩ = some (.func (.func 67) #[] #[])) := Lib.hid fun k => (bx.alloc _).cell 2
      clear bx
      go_loopw [6] (fun _ wr => ∃ pos : Nat, wr = W.iter s pos ∧ pos ≤ s.size ∧ Hid (((s.data.toList.take pos).all fun b => okN false b.toNat) = true)) (fun _ wr => s.size - wr.iterPos W.heap.size)
      case atStart => exact ⟨0, rfl, Nat.zero_le _, Lib.hid rfl⟩
      case round =>
        obtain ⟨pos, rfl, hle, HA⟩ := hrel
        by_cases hlt : pos < s.size
        · obtain ⟨c, hc⟩ : ∃ c, c = s[pos] := ⟨_, rfl⟩
          by_cases hasc : c.toNat < 128
          · have hnx : ∀ ty, (Instr.next (.pointer (some ⟨w.heap.size + 1, 0, none⟩)) true ty).run Try.prog (W.iter s pos) = .ok (.tuple #[.bool true, .int .i64 pos, .int .i32 (c.toNat : Int)]) (W.iter s (pos + 1)) := fun ty => by rw [← hWs, run_next_ascii W s pos ty hlt (by rw [← hc]; exact hasc), hc]
            have HC := Lib.hid hc; clear hc
            have c1 := HBX.out (pos + 1)
            by_cases hd : okN false c.toNat = true
            · go_wp2_with fail
              refine (inKey_any c.toNat _).mono ?_
              rintro e w' ⟨rfl, rfl⟩
              have hk : keyN c.toNat = true := hd
              rw [hk]
              go_wp2
              go_roundw
              case rel => exact ⟨pos + 1, rfl, by omega, Lib.hid (by rw [allB_take false s pos hlt, HA.out, ← HC.out, hd]; rfl)⟩
              case measure => simp; omega
            · have hk : keyN c.toNat = false := by simpa [okN] using hd
              have hfin : allB false s = false := allB_false hlt (by rw [← HC.out]; simpa using hd)
              have HF := Lib.hid hfin
              clear hd hfin
              go_wp2_with fail
              refine (inKey_any c.toNat _).mono ?_
              rintro e w' ⟨rfl, rfl⟩
              rw [hk]
              go_wp2
              go_ret
              exact ⟨by rw [HF.out]; rfl, HW.out _⟩
          · obtain ⟨r, hr⟩ : ∃ r, r = (Utf8.decode s pos).1 := ⟨_, rfl⟩
            have hr1 : 128 ≤ r := by rw [hr]; exact (decode_high s pos hlt (by rw [← hc]; omega)).1
            have hfin : allB false s = false := allB_false hlt (by rw [← hc]; exact okN_high _ (by omega))
            have hk : keyN r = false := okN_high false hr1
            have HF := Lib.hid hfin
            have hnx : ∀ ty, (Instr.next (.pointer (some ⟨w.heap.size + 1, 0, none⟩)) true ty).run Try.prog (W.iter s pos) = .ok (.tuple #[.bool true, .int .i64 pos, .int .i32 (r : Int)]) (W.iter s (pos + (Utf8.decode s pos).2)) := fun ty => by rw [← hWs, run_next_any W s pos ty hlt, hr]
            have HR := Lib.hid hr; clear hr
            have HC := Lib.hid hc; clear hc
            have c1 := HBX.out (pos + (Utf8.decode s pos).2)
            clear hfin hr1 hasc
            go_wp2_with fail
            refine (inKey_any r _).mono ?_
            rintro e w' ⟨rfl, rfl⟩
            rw [hk]
            go_wp2
            go_ret
            exact ⟨by rw [HF.out]; rfl, HW.out _⟩
        · have hnx : ∀ ty, (Instr.next (.pointer (some ⟨w.heap.size + 1, 0, none⟩)) true ty).run Try.prog (W.iter s pos) = .ok (.tuple #[.bool false]) (W.iter s pos) := fun ty => by rw [← hWs]; exact run_next_end W s pos ty hlt
          have hfin : allB false s = true := by have := HA.out; rw [List.take_of_length_le (by simp; omega)] at this; exact this
          have HF := Lib.hid hfin
          clear hfin
          go_wp2
          go_ret
          exact ⟨by rw [HF.out]; rfl, HW.out _⟩
set_option maxRecDepth 100000 in
set_option maxHeartbeats 2000000 in
theorem allowv_any (s : ByteArray) (hs : s.size ≤ 9223372036854775807) (w : World) :
    Calls Try.prog 45 #[.agg #[.int .i64 0, .int .i64 40, .func (.func 68) #[] #[]], .string s] w fun e w' => e = .returned (.bool (decide (0 ≤ s.size) && decide (s.size ≤ 40) && allB true s)) ∧ Below w.heap.size w w' := by
  obtain ⟨q, hq⟩ : ∃ q, q = s.size := ⟨_, rfl⟩
  have hB : ∀ o k, Below w.heap.size w ((w.alloc o).iter s k) := fun o k => ((Below.refl _ w).alloc (Nat.le_refl _) _).alloc (by simp) _
  have hB0 : ∀ o, Below w.heap.size w (w.alloc o) := fun o => (Below.refl _ w).alloc (Nat.le_refl _) _
  have HB := Lib.hid hB
  have HB0 := Lib.hid hB0
  clear hB hB0
  by_cases h1 : q < 0
  · have g1 : decide ((q : Int) < 0) = true := by simp; omega
    have hr : (decide (0 ≤ s.size) && decide (s.size ≤ 40) && allB true s) = false := by simp; omega
    rw [hr]
    rw [hq] at g1
    clear h1 hr hq
    go_enter Try.func45, Try.ntmps45
    go_wp2
    go_ret
    exact ⟨rfl, HB0.out _⟩
  · have g1 : decide ((q : Int) < 0) = false := decide_eq_false (by omega)
    by_cases h2 : 40 < q
    · have g2 : decide ((40 : Int) < (q : Int)) = true := by simp; omega
      have hr : (decide (0 ≤ s.size) && decide (s.size ≤ 40) && allB true s) = false := by simp; omega
      rw [hr]
      rw [hq] at g1 g2
      clear h1 h2 hr hq
      go_enter Try.func45, Try.ntmps45
      go_wp2
      go_ret
      exact ⟨rfl, HB0.out _⟩
    · have g2 : decide ((40 : Int) < (q : Int)) = false := by simp; omega
      have hr : (decide (0 ≤ s.size) && decide (s.size ≤ 40) && allB true s) = allB true s := by
        have a1 : decide (s.size ≤ 40) = true := decide_eq_true (by omega)
        have a2 : decide (0 ≤ s.size) = true := decide_eq_true (by omega)
        rw [a1, a2, Bool.true_and, Bool.true_and]
      rw [hr]
      rw [hq] at g1 g2
      clear h1 h2 hr
      go_enter Try.func45, Try.ntmps45
      go_wp2
      obtain ⟨W, hW⟩ : ∃ W, W = w.alloc (.cells #[.int .i64 0, .int .i64 40, .func (.func 68) #[] #[]] 84) := ⟨_, rfl⟩
      have bx : Blk W w.heap.size #[.int .i64 0, .int .i64 40, .func (.func 68) #[] #[]] 84 := by rw [hW]; exact Blk.new _ _ _
      have hWs : W.heap.size = w.heap.size + 1 := by rw [hW]; simp
      have HW : Hid (∀ k, Below w.heap.size w (W.iter s k)) := Lib.hid (by rw [hW]; exact HB.out _)
      rw [← hW]
      clear hW g1 g2
      have HBX : Hid (∀ k, (W.iter s k).cell? ⟨w.heap.size, 2, none⟩ = some (.func (.func 68) #[] #[])) := Lib.hid fun k => (bx.alloc _).cell 2
      clear bx
      go_loopw [6] (fun _ wr => ∃ pos : Nat, wr = W.iter s pos ∧ pos ≤ s.size ∧ Hid (((s.data.toList.take pos).all fun b => okN true b.toNat) = true)) (fun _ wr => s.size - wr.iterPos W.heap.size)
      case atStart => exact ⟨0, rfl, Nat.zero_le _, Lib.hid rfl⟩
      case round =>
        obtain ⟨pos, rfl, hle, HA⟩ := hrel
        by_cases hlt : pos < s.size
        · obtain ⟨c, hc⟩ : ∃ c, c = s[pos] := ⟨_, rfl⟩
          by_cases hasc : c.toNat < 128
          · have hnx : ∀ ty, (Instr.next (.pointer (some ⟨w.heap.size + 1, 0, none⟩)) true ty).run Try.prog (W.iter s pos) = .ok (.tuple #[.bool true, .int .i64 pos, .int .i32 (c.toNat : Int)]) (W.iter s (pos + 1)) := fun ty => by rw [← hWs, run_next_ascii W s pos ty hlt (by rw [← hc]; exact hasc), hc]
            have HC := Lib.hid hc; clear hc
            have c1 := HBX.out (pos + 1)
            by_cases hd : okN true c.toNat = true
            · go_wp2_with fail
              refine (inValue_any c.toNat _).mono ?_
              rintro e w' ⟨rfl, rfl⟩
              have hk : valN c.toNat = true := hd
              rw [hk]
              go_wp2
              go_roundw
              case rel => exact ⟨pos + 1, rfl, by omega, Lib.hid (by rw [allB_take true s pos hlt, HA.out, ← HC.out, hd]; rfl)⟩
              case measure => simp; omega
            · have hk : valN c.toNat = false := by simpa [okN] using hd
              have hfin : allB true s = false := allB_false hlt (by rw [← HC.out]; simpa using hd)
              have HF := Lib.hid hfin
              clear hd hfin
              go_wp2_with fail
              refine (inValue_any c.toNat _).mono ?_
              rintro e w' ⟨rfl, rfl⟩
              rw [hk]
              go_wp2
              go_ret
              exact ⟨by rw [HF.out]; rfl, HW.out _⟩
          · obtain ⟨r, hr⟩ : ∃ r, r = (Utf8.decode s pos).1 := ⟨_, rfl⟩
            have hr1 : 128 ≤ r := by rw [hr]; exact (decode_high s pos hlt (by rw [← hc]; omega)).1
            have hfin : allB true s = false := allB_false hlt (by rw [← hc]; exact okN_high _ (by omega))
            have hk : valN r = false := okN_high true hr1
            have HF := Lib.hid hfin
            have hnx : ∀ ty, (Instr.next (.pointer (some ⟨w.heap.size + 1, 0, none⟩)) true ty).run Try.prog (W.iter s pos) = .ok (.tuple #[.bool true, .int .i64 pos, .int .i32 (r : Int)]) (W.iter s (pos + (Utf8.decode s pos).2)) := fun ty => by rw [← hWs, run_next_any W s pos ty hlt, hr]
            have HR := Lib.hid hr; clear hr
            have HC := Lib.hid hc; clear hc
            have c1 := HBX.out (pos + (Utf8.decode s pos).2)
            clear hfin hr1 hasc
            go_wp2_with fail
            refine (inValue_any r _).mono ?_
            rintro e w' ⟨rfl, rfl⟩
            rw [hk]
            go_wp2
            go_ret
            exact ⟨by rw [HF.out]; rfl, HW.out _⟩
        · have hnx : ∀ ty, (Instr.next (.pointer (some ⟨w.heap.size + 1, 0, none⟩)) true ty).run Try.prog (W.iter s pos) = .ok (.tuple #[.bool false]) (W.iter s pos) := fun ty => by rw [← hWs]; exact run_next_end W s pos ty hlt
          have hfin : allB true s = true := by have := HA.out; rw [List.take_of_length_le (by simp; omega)] at this; exact this
          have HF := Lib.hid hfin
          clear hfin
          go_wp2
          go_ret
          exact ⟨by rw [HF.out]; rfl, HW.out _⟩
set_option maxRecDepth 100000 in
set_option maxHeartbeats 1000000 in
theorem isKind_any (k : Int) (w : World) : Calls Try.prog 43 #[.int .i64 k] w fun e w' => e = .returned (.bool (decide (0 ≤ k) && decide (k < 5))) ∧ w' = w := by
  by_cases h : 0 ≤ k
  · have g : decide ((0 : Int) ≤ k) = true := by simpa using h
    go_enter Try.func43, Try.ntmps43
    go_wp2
    go_ret
    rw [g]
    exact ⟨by simp, rfl⟩
  · have g : decide ((0 : Int) ≤ k) = false := by simpa using h
    go_enter Try.func43, Try.ntmps43
    go_wp2
    go_ret
    exact ⟨rfl, rfl⟩
theorem infoRule : ∃ i, Try.prog.info? 84 = some i ∧ i.size = 3 := by
  have h : (Try.prog.info? 84).map (·.size) = some 3 := by kernel_rfl
  cases hi : Try.prog.info? 84 with
  | none => rw [hi] at h; cases h
  | some i => exact ⟨i, rfl, by rw [hi] at h; simpa using h⟩
/-- A kind's rule out of all. -/
theorem index_rules (cs : Array Value) (k : Nat) (hk : k < 5) (w : World) : (Instr.index 85 (.agg cs) (.int .i64 (k : Int))).run Try.prog w = .ok (.agg (cs.extract (k * 3) (k * 3 + 3))) w := by
  obtain ⟨i, hi, hs⟩ := infoRule
  exact run_index_struct cs k w Try.underlying85 Try.underlying84 hi hs hk
/-- What kinds allow, as it lies. -/
def rulesV : Value := .agg #[.int .i64 1, .int .i64 32, .func (.func 67) #[] #[], .int .i64 1, .int .i64 32, .func (.func 67) #[] #[], .int .i64 1, .int .i64 32, .func (.func 67) #[] #[], .int .i64 1, .int .i64 32, .func (.func 67) #[] #[], .int .i64 0, .int .i64 40, .func (.func 68) #[] #[]]
set_option maxRecDepth 100000 in
set_option maxHeartbeats 2000000 in
theorem rules_any (w : World) : Calls Try.prog 44 #[] w fun e w' => e = .returned rulesV ∧ Below w.heap.size w w' := by
  go_enter Try.func44, Try.ntmps44
  go_wp2
  exact bodyPost_ret (v := rulesV) (by simp [results, Try.results44, go_sem, rulesV]) rfl ⟨rfl, ((Below.refl _ w).alloc (Nat.le_refl _) _).alloc (by simp) _⟩
theorem rules_key (k : Nat) (hk : k < 4) (w : World) : (Instr.index 85 rulesV (.int .i64 (k : Int))).run Try.prog w = .ok (.agg #[.int .i64 1, .int .i64 32, .func (.func 67) #[] #[]]) w := by
  rw [rulesV, index_rules _ _ (by omega)]
  obtain rfl | rfl | rfl | rfl : k = 0 ∨ k = 1 ∨ k = 2 ∨ k = 3 := by omega
  all_goals rfl
theorem rules_value (w : World) : (Instr.index 85 rulesV (.int .i64 4)).run Try.prog w = .ok (.agg #[.int .i64 0, .int .i64 40, .func (.func 68) #[] #[]]) w := by
  rw [rulesV]
  exact index_rules _ 4 (by decide) w
set_option maxRecDepth 100000 in
set_option maxHeartbeats 2000000 in
theorem may_any (k : Int) (s : ByteArray) (hs : s.size ≤ 9223372036854775807) (w : World) : Calls Try.prog 17 #[.int .i64 k, .string s] w fun e w' => e = .returned (.bool (mayB k s)) ∧ Below w.heap.size w w' := by
  by_cases h : 0 ≤ k ∧ k < 5
  · have hd : (decide (0 ≤ k) && decide (k < 5)) = true := by simpa using h
    by_cases h4 : k = 4
    · have hm : mayB k s = (decide (0 ≤ s.size) && decide (s.size ≤ 40) && allB true s) := by rw [h4]; simp [mayB]
      rw [hm]
      subst h4
      have hx := rules_value
      clear hm h
      go_enter Try.func17, Try.ntmps17
      go_wp2_with fail
      refine (isKind_any _ _).mono ?_
      rintro e w' ⟨rfl, rfl⟩
      rw [hd]
      go_wp2_with fail
      refine (rules_any _).mono ?_
      rintro e w' ⟨rfl, hb⟩
      go_wp2_with fail
      refine (allowv_any s hs _).mono ?_
      rintro e w'' ⟨rfl, hb'⟩
      go_wp2
      go_ret
      exact ⟨rfl, hb.trans (hb'.mono hb.size)⟩
    · obtain ⟨n, rfl⟩ := Int.eq_ofNat_of_zero_le h.1
      have hm : mayB (n : Int) s = (decide (1 ≤ s.size) && decide (s.size ≤ 32) && allB false s) := by
        have h0 : decide ((0 : Int) ≤ (n : Int)) = true := decide_eq_true (by omega)
        have h1 : decide ((n : Int) < 4) = true := decide_eq_true (by omega)
        have h2 : decide ((n : Int) = 4) = false := decide_eq_false h4
        rw [mayB, h0, h1, h2]
        simp
      rw [hm]
      have hx := rules_key n (by omega)
      clear hm h h4
      go_enter Try.func17, Try.ntmps17
      go_wp2_with fail
      refine (isKind_any _ _).mono ?_
      rintro e w' ⟨rfl, rfl⟩
      rw [hd]
      go_wp2_with fail
      refine (rules_any _).mono ?_
      rintro e w' ⟨rfl, hb⟩
      go_wp2_with fail
      refine (allowk_any s hs _).mono ?_
      rintro e w'' ⟨rfl, hb'⟩
      go_wp2
      go_ret
      exact ⟨rfl, hb.trans (hb'.mono hb.size)⟩
  · have hm : mayB k s = false := by
      cases hc : mayB k s
      · rfl
      · exact (h (mayB_kind hc)).elim
    have hd : (decide (0 ≤ k) && decide (k < 5)) = false := by simpa using h
    go_enter Try.func17, Try.ntmps17
    go_wp2_with fail
    refine (isKind_any _ _).mono ?_
    rintro e w' ⟨rfl, rfl⟩
    rw [hd]
    go_wp2
    go_ret
    exact ⟨by rw [hm]; rfl, Below.refl _ _⟩
end Go.Proofs.Ytmghbejbdkoehaa

