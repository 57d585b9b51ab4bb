import Derived.Test.YtfknocgmobddmaaT6
import Derived.Test.YtfknocgmobddmaaD2
namespace Go.Proofs.Ytfknocgmobddmaa
open Go.RowKit Go.Proofs.Kit Go.Shelf

theorem div64_any (h l y : Int) (hh : Wd h) (hl : Wd l) (hy : Wd y) (hlt : h < y) (w : World) :
    Calls Try.prog 58 #[.int .u64 h, .int .u64 l, .int .u64 y] w fun e w' => e = .returned (.tuple #[.int .u64 (num (h, l) / y), .int .u64 (num (h, l) % y)]) ∧ ∃ n, w' = w.drewN n := by
  obtain ⟨h, rfl⟩ := Int.eq_ofNat_of_zero_le hh.1
  obtain ⟨l, rfl⟩ := Int.eq_ofNat_of_zero_le hl.1
  obtain ⟨y, rfl⟩ := Int.eq_ofNat_of_zero_le hy.1
  refine (div64_nat h l y (by omega) (by have := hl.2; omega) (by have := hy.2; omega) w).mono ?_
  rintro e w' ⟨rfl, hw⟩
  refine ⟨?_, hw⟩
  simp [num]

theorem quo_hi {a b y : Int} (ha : Wd a) (hb : Wd b) (hy : 0 < y) : hiW (num (a, b) / y) = a / y ∧ loW (num (a, b) / y) = num (a % y, b) / y ∧ num (a, b) % y = num (a % y, b) % y := by
  obtain ⟨a0, a1⟩ := ha
  obtain ⟨b0, b1⟩ := hb
  have e := Int.mul_ediv_add_emod a y
  have e2 : num (a, b) = num (a % y, b) + y * (a / y * 18446744073709551616) := by
    unfold num; simp only
    rw [← Int.mul_assoc]
    omega
  have m0 := Int.emod_nonneg a (by omega : y ≠ 0)
  have m1 := Int.emod_lt_of_pos a hy
  have hlt : num (a % y, b) / y < 18446744073709551616 := by
    rw [Int.ediv_lt_iff_lt_mul hy]; unfold num; simp only
    have : (a % y + 1) * 18446744073709551616 ≤ y * 18446744073709551616 := Int.mul_le_mul_of_nonneg_right (by omega) (by decide)
    omega
  have hge : 0 ≤ num (a % y, b) / y := Int.ediv_nonneg (by unfold num; simp only; omega) (by omega)
  have e3 : num (a, b) / y = num (a % y, b) / y + a / y * 18446744073709551616 := by
    rw [e2, Int.add_mul_ediv_left _ _ (by omega)]
  refine ⟨?_, ?_, ?_⟩
  · rw [e3]; unfold hiW; omega
  · rw [e3]; unfold loW; omega
  · rw [e2, Int.add_mul_emod_self_left]

set_option maxHeartbeats 400000 in
theorem divide_any (a b y : Int) (ha : Wd a) (hb : Wd b) (hy : Wd y) (h0 : 0 < y) (w : World) :
    Calls Try.prog 41 #[WV a b, .int .u64 y] w fun e w' => e = .returned (.tuple #[WV (hiW (num (a, b) / y)) (loW (num (a, b) / y)), .int .u64 (num (a, b) % y)]) ∧ Below w.heap.size w w' := by
  obtain ⟨q1, q2, q3⟩ := quo_hi ha hb h0
  have Q1 := Lib.hid q1; clear q1
  have Q2 := Lib.hid q2; clear q2
  have Q3 := Lib.hid q3; clear q3
  have hm : Wd (a % y) := ⟨Int.emod_nonneg _ (by omega), by have := Int.emod_lt_of_pos a h0; have := hy.2; omega⟩
  have hml : a % y < y := Int.emod_lt_of_pos a h0
  have h1 : (1 : Int) ≤ y := by omega
  have h2 : (y == 0) = false := by simp; omega
  have a0 := ha.1
  have a1 := ha.2
  have k1 : IntKind.u64.wrap (a % y) = a % y := by rw [wrapU]; have := hm.1; have := hm.2; omega
  have kd : a / y ≤ a := Int.ediv_le_self _ ha.1
  have kd0 : 0 ≤ a / y := Int.ediv_nonneg ha.1 (by omega)
  have k2 : IntKind.u64.wrap (a / y) = a / y := by rw [wrapU]; omega
  go_enter Try.func41, Try.ntmps41
  go_wp2_with fail
  go_quiet ((go_at_call 58; exact Calls.quiet_of (div64_any _ _ _ hm hb hy hml _)))
  go_wp2
  refine bodyPost_ret (v := .tuple #[WV (hiW (num (a, b) / y)) (loW (num (a, b) / y)), .int .u64 (num (a, b) % y)]) ?_ rfl ⟨rfl, ?_⟩
  · rw [Q1.out, Q2.out, Q3.out]; simp [results, Try.results41, go_sem]
  · exact ((below_drewN (below2 w _ _) _).setCell (by simp) _).setCell (by simp) _

set_option maxHeartbeats 400000 in
theorem div_zero (a b : Int) (w : World) :
    Calls Try.prog 21 #[WV a b, .int .u64 0] w fun e w' => e = .returned (.tuple #[WV 0 0, .int .u64 0, .int .i64 2]) ∧ Below w.heap.size w w' := by
  go_enter Try.func21, Try.ntmps21
  go_wp2_with fail
  refine bodyPost_ret (v := .tuple #[WV 0 0, .int .u64 0, .int .i64 2]) (by simp [results, Try.results21, go_sem]) rfl ⟨rfl, below2 w _ _⟩

set_option maxHeartbeats 400000 in
theorem div_any (a b y : Int) (ha : Wd a) (hb : Wd b) (hy : Wd y) (h0 : 0 < y) (w : World) :
    Calls Try.prog 21 #[WV a b, .int .u64 y] w fun e w' => e = .returned (.tuple #[WV (hiW (num (a, b) / y)) (loW (num (a, b) / y)), .int .u64 (num (a, b) % y), .int .i64 0]) ∧ Below w.heap.size w w' := by
  have h2 : (y == 0) = false := by simp; omega
  go_enter Try.func21, Try.ntmps21
  go_wp2_with fail
  refine (divide_any a b y ha hb hy h0 _).mono ?_
  rintro e w' ⟨rfl, hbl⟩
  have b0 : Blk w' (w.heap.size + 1) #[.int .u64 0, .int .u64 0] 26 := Blk.later (blk_at _ _ _ (by simp)) hbl
  have hB : Below w.heap.size w w' := (below2 w _ _).trans (hbl.mono (by simp; omega))
  have hlt := b0.lt
  have r0 := b0.cell 0
  have r1 := b0.cell 1
  have f0 := b0.frozen 0
  have f1 := b0.frozen 1
  simp only [List.getElem?_toArray, List.getElem?_cons_zero, List.getElem?_cons_succ] at r0 r1
  obtain ⟨Q, hQ⟩ : ∃ Q, Q = num (a, b) / y := ⟨_, rfl⟩
  obtain ⟨R, hR⟩ : ∃ R, R = num (a, b) % y := ⟨_, rfl⟩
  rw [← hQ, ← hR]
  have HQ := Lib.hid hQ; clear hQ
  have HR := Lib.hid hR; clear hR
  go_wp2_with fail
  have B3 := ((b0.set 0 (.int .u64 (hiW Q))).set 1 (.int .u64 (loW Q))).alloc (.cells #[.int .u64 (hiW Q), .int .u64 (loW Q)] 26)
  have C0 := B3.cell 0
  have C1 := B3.cell 1
  simp at C0 C1
  exact bodyPost_ret (v := .tuple #[WV (hiW Q) (loW Q), .int .u64 R, .int .i64 0]) (by simp [results, Try.results21, go_sem, C0, C1]) rfl ⟨by rw [← HQ.out, ← HR.out], ((hB.setCell (by simp) _).setCell (by simp) _).alloc (by simp; omega) _⟩

/-- Are two numbers, word by word, the same? -/
def sameW (x y z t : Int) : Bool := decide (x = z) && decide (y = t)
theorem neq_wide (x y z t : Int) (w : World) : (binOp .neq 26 (.agg #[.int .u64 x, .int .u64 y]) (.agg #[.int .u64 z, .int .u64 t])).run Try.prog w = .ok (.bool (!sameW x y z t)) w := by
  unfold sameW
  by_cases h1 : x = z <;> by_cases h2 : y = t <;> simp [go_sem, h1, h2]
theorem eql_wide (x y z t : Int) (w : World) : (binOp .eql 26 (.agg #[.int .u64 x, .int .u64 y]) (.agg #[.int .u64 z, .int .u64 t])).run Try.prog w = .ok (.bool (sameW x y z t)) w := by
  unfold sameW
  by_cases h1 : x = z <;> by_cases h2 : y = t <;> simp [go_sem, h1, h2]
theorem sameW_num {a b : Int} (_ha : 0 ≤ a) (_hb : 0 ≤ b) : sameW (hiW a) (loW a) (hiW b) (loW b) = decide (a = b) := by
  unfold sameW
  by_cases h : a = b
  · subst h; simp
  · have : ¬ (hiW a = hiW b ∧ loW a = loW b) := fun ⟨h1, h2⟩ => h (by rw [← num_hl a, ← num_hl b, h1, h2])
    rw [decide_eq_false h, ← Bool.decide_and, decide_eq_false this]

/-- How two numbers stand. -/
def ord (x y : Int) : Int := if x < y then -1 else if y < x then 1 else 0

set_option maxHeartbeats 400000 in
theorem cmp64_any (x y : Int) (w : World) :
    Calls Try.prog 38 #[.int .u64 x, .int .u64 y] w fun e w' => e = .returned (.int .i64 (ord x y)) ∧ w = w' := by
  rcases Int.lt_trichotomy x y with h | h | h
  · have e : ord x y = -1 := by unfold ord; rw [if_pos h]
    rw [e]
    go_enter Try.func38, Try.ntmps38
    go_wp2
    go_ret
    exact ⟨rfl, rfl⟩
  · subst h
    have e : ord x x = 0 := by unfold ord; rw [if_neg (by omega), if_neg (by omega)]
    rw [e]
    go_enter Try.func38, Try.ntmps38
    go_wp2
    go_ret
    exact ⟨rfl, rfl⟩
  · have e : ord x y = 1 := by unfold ord; rw [if_neg (by omega), if_pos h]
    rw [e]
    have h1 : decide (x < y) = false := by simp; omega
    go_enter Try.func38, Try.ntmps38
    go_wp2
    go_ret
    exact ⟨rfl, rfl⟩

theorem ord_num {a b c d : Int} (hb : Wd b) (hd : Wd d) : ord (num (a, b)) (num (c, d)) = if a = c then ord b d else ord a c := by
  obtain ⟨_, _⟩ := hb; obtain ⟨_, _⟩ := hd
  unfold ord num; simp only
  split <;> split <;> (repeat' split) <;> omega

set_option maxHeartbeats 400000 in
theorem compare_any (a b c d : Int) (hb : Wd b) (hd : Wd d) (w : World) :
    Calls Try.prog 15 #[WV a b, WV c d] w fun e w' => e = .returned (.int .i64 (ord (num (a, b)) (num (c, d)))) ∧ Below w.heap.size w w' := by
  have ho := ord_num (a := a) (c := c) hb hd
  by_cases h : a = c
  · subst h
    rw [if_pos rfl] at ho
    rw [ho]
    clear ho
    go_enter Try.func15, Try.ntmps15
    go_wp2_with (go_at_call 38; refine (cmp64_any b d _).mono ?_; rintro e w' ⟨rfl, rfl⟩)
    go_ret
    exact ⟨rfl, below2 w _ _⟩
  · rw [if_neg h] at ho
    rw [ho]
    clear ho
    have h1 : (a != c) = true := by simpa using h
    go_enter Try.func15, Try.ntmps15
    go_wp2_with (go_at_call 38; refine (cmp64_any a c _).mono ?_; rintro e w' ⟨rfl, rfl⟩)
    go_ret
    exact ⟨rfl, below2 w _ _⟩
end Go.Proofs.Ytfknocgmobddmaa
