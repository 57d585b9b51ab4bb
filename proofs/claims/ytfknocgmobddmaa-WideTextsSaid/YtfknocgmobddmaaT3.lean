import Derived.Test.YtfknocgmobddmaaT2
import Derived.Deep.RegionHeld3
import Derived.Laws.Bits64b
import Derived.Lib.Mul64
namespace Go.Proofs.Ytfknocgmobddmaa
open Go.RowKit Go.Proofs.Kit

set_option maxHeartbeats 1000000 in
theorem mul64_nat (x y : Nat) (hx : x < 18446744073709551616) (hy : y < 18446744073709551616) (w : World) :
    Calls Try.prog 55 #[.int .u64 x, .int .u64 y] w fun e w' => e = .returned (.tuple #[.int .u64 ((x * y / 18446744073709551616 : Nat) : Int), .int .u64 ((x * y % 18446744073709551616 : Nat) : Int)]) ∧ w' = w := by
  obtain ⟨bd, bt, bw, hhi⟩ := Lib.mul64_hi x y hx hy
  have ba := Lib.half_mul_le (a := x / 4294967296) (b := y / 4294967296) (by omega) (by omega)
  have bb := Lib.half_mul_le (a := x / 4294967296) (b := y % 4294967296) (by omega) (by omega)
  have bc := Lib.half_mul_le (a := x % 4294967296) (b := y / 4294967296) (by omega) (by omega)
  have ba' : x / 4294967296 * (y / 4294967296) < 18446744073709551616 := by omega
  have bb' : x / 4294967296 * (y % 4294967296) < 18446744073709551616 := by omega
  have bc' : x % 4294967296 * (y / 4294967296) < 18446744073709551616 := by omega
  have bh1 : x / 4294967296 * (y / 4294967296) + (x / 4294967296 * (y % 4294967296) + x % 4294967296 * (y % 4294967296) / 4294967296) / 4294967296 < 18446744073709551616 := by omega
  have bh : x / 4294967296 * (y / 4294967296) + (x / 4294967296 * (y % 4294967296) + x % 4294967296 * (y % 4294967296) / 4294967296) / 4294967296 + ((x / 4294967296 * (y % 4294967296) + x % 4294967296 * (y % 4294967296) / 4294967296) % 4294967296 + x % 4294967296 * (y / 4294967296)) / 4294967296 < 18446744073709551616 := by omega
  go_enter Try.func55, Try.ntmps55
  go_wp2
  simp only [Mul64.maskN x hx, Mul64.maskN y hy, Mul64.divN, Mul64.mulN, Mul64.addN, Mul64.wrapN _ bd, Mul64.wrapN _ bb', Mul64.wrapN _ bt, Mul64.maskN _ bt, Mul64.wrapN _ bc', Mul64.wrapN _ bw, Mul64.wrapN _ ba', Mul64.wrapN _ bh1, Mul64.wrapN _ bh, Mul64.wrapM (x * y)]
  rw [hhi]
  go_ret2
  exact ⟨rfl, rfl⟩

theorem mul64_any (x y : Int) (hx : Wd x) (hy : Wd y) (w : World) :
    Calls Try.prog 55 #[.int .u64 x, .int .u64 y] w fun e w' => e = .returned (.tuple #[.int .u64 (hiW (x * y)), .int .u64 (loW (x * y))]) ∧ w = w' := by
  obtain ⟨x, rfl⟩ := Int.eq_ofNat_of_zero_le hx.1
  obtain ⟨y, rfl⟩ := Int.eq_ofNat_of_zero_le hy.1
  refine (mul64_nat x y (by have := hx.2; omega) (by have := hy.2; omega) w).mono ?_
  rintro e w' ⟨rfl, rfl⟩
  refine ⟨?_, rfl⟩
  simp [hiW, loW]

theorem mul_pos {x y : Int} (hx : Wd x) (hy : Wd y) : 0 ≤ x * y ∧ x * y ≤ 340282366920938463426481119284349108225 := by
  refine ⟨Int.mul_nonneg hx.1 hy.1, ?_⟩
  have h1 : x * y ≤ 18446744073709551615 * 18446744073709551615 := Int.mul_le_mul (by have := hx.2; omega) (by have := hy.2; omega) hy.1 (by omega)
  omega

/-- 2^64 times a number -/
def up (n : Int) : Int := n * 18446744073709551616
theorem hiW_up (n : Int) : hiW (up n) = n := by unfold hiW up; omega
theorem loW_up (n : Int) : loW (up n) = 0 := by unfold loW up; omega
theorem up_big {n : Int} : up n < Big ↔ n < 18446744073709551616 := by unfold up Big; omega

set_option maxHeartbeats 400000 in
theorem raised_any (a b : Int) (ha : Wd a) (hb : Wd b) (w : World) :
    Calls Try.prog 56 #[.int .u64 a, .int .u64 b] w fun e w' => Reck (up (a * b) < Big) (up (a * b)) e ∧ Below w.heap.size w w' := by
  have hm := mul_pos ha hb
  by_cases h : up (a * b) < Big
  · have h0 : hiW (a * b) = 0 := by have := up_big.1 h; unfold hiW; omega
    have h1 : loW (a * b) = a * b := by have := up_big.1 h; unfold loW; omega
    have hne : (hiW (a * b) != 0) = false := by rw [h0]; rfl
    have H1 := Lib.hid h1
    clear hm h0 h1
    go_enter Try.func56, Try.ntmps56
    go_wp2_with (go_at_call 55; refine (mul64_any a b ha hb _).mono ?_; rintro e w' ⟨rfl, rfl⟩)
    refine bodyPost_ret (v := WV (hiW (up (a * b))) (loW (up (a * b)))) ?_ rfl ⟨Reck.ok h, ?_⟩
    · rw [hiW_up, loW_up]; simp [results, Try.results56, go_sem]; exact H1.out
    · exact (Below.refl _ _).alloc (Nat.le_refl _) _
  · have h0 : hiW (a * b) ≠ 0 := by have := mt up_big.2 h; unfold hiW; omega
    have hne : (hiW (a * b) != 0) = true := by simpa using h0
    clear hm h0
    go_enter Try.func56, Try.ntmps56
    go_wp2_with (go_at_call 55; refine (mul64_any a b ha hb _).mono ?_; rintro e w' ⟨rfl, rfl⟩)
    exact bodyPost_panic rfl ⟨Reck.no (by omega), (Below.refl _ _).alloc (Nat.le_refl _) _⟩

theorem prod_split (a b c d : Int) (h : a = 0 ∨ c = 0) : num (a, b) * num (c, d) = b * d + (up (a * d) + up (b * c)) := by
  unfold num up
  simp only
  have e : (a * 18446744073709551616 + b) * (c * 18446744073709551616 + d) = b * d + (a * d * 18446744073709551616 + b * c * 18446744073709551616) + a * c * 340282366920938463463374607431768211456 := by
    simp only [Int.add_mul, Int.mul_add]
    have e1 : a * 18446744073709551616 * (c * 18446744073709551616) = a * c * 340282366920938463463374607431768211456 := by
      rw [Int.mul_assoc, Int.mul_left_comm 18446744073709551616 c, ← Int.mul_assoc]; rfl
    have e2 : a * 18446744073709551616 * d = a * d * 18446744073709551616 := by rw [Int.mul_assoc, Int.mul_comm 18446744073709551616 d, ← Int.mul_assoc]
    have e3 : b * (c * 18446744073709551616) = b * c * 18446744073709551616 := by rw [Int.mul_assoc]
    rw [e1, e2, e3]; omega
  have z : a * c = 0 := by rcases h with rfl | rfl <;> simp
  rw [e, z]; omega
theorem prod_great {a b c d : Int} (ha : Wd a) (hb : Wd b) (hc : Wd c) (hd : Wd d) (h1 : a ≠ 0) (h2 : c ≠ 0) : ¬ num (a, b) * num (c, d) < Big := by
  obtain ⟨_, _⟩ := ha; obtain ⟨_, _⟩ := hb; obtain ⟨_, _⟩ := hc; obtain ⟨_, _⟩ := hd
  have e1 : 18446744073709551616 ≤ num (a, b) := by unfold num; simp only; omega
  have e2 : 18446744073709551616 ≤ num (c, d) := by unfold num; simp only; omega
  have := Int.mul_le_mul e1 e2 (by decide) (by omega)
  unfold Big; omega

set_option maxHeartbeats 1000000 in
theorem product_great (a b c d : Int) (ha : Wd a) (hb : Wd b) (hc : Wd c) (hd : Wd d) (w : World) (h1 : a ≠ 0) (h2 : c ≠ 0) :
    Calls Try.prog 37 #[WV a b, WV c d] w fun e w' => Reck (num (a, b) * num (c, d) < Big) (num (a, b) * num (c, d)) e ∧ Below w.heap.size w w' := by
  have hr := prod_great ha hb hc hd h1 h2
  have HR := Lib.hid hr
  have n1 : (a != 0) = true := by simpa using h1
  have n2 : (c != 0) = true := by simpa using h2
  clear hr h1 h2
  go_enter Try.func37, Try.ntmps37
  go_wp2_with fail
  exact bodyPost_panic rfl ⟨Reck.no (by have := HR.out; omega), (((Below.refl _ _).alloc (Nat.le_refl _) _).alloc (by simp) _).alloc (by simp; omega) _⟩

theorem raised_ok (a b : Int) (ha : Wd a) (hb : Wd b) (h : up (a * b) < Big) (w : World) :
    Calls Try.prog 56 #[.int .u64 a, .int .u64 b] w fun e w' => e = .returned (WV (a * b) 0) ∧ Below w.heap.size w w' :=
  (raised_any a b ha hb w).mono fun _ _ ⟨hr, hb⟩ => ⟨by rw [hr.1 h, hiW_up, loW_up], hb⟩
theorem raised_no (a b : Int) (ha : Wd a) (hb : Wd b) (h : ¬ up (a * b) < Big) (w : World) :
    Calls Try.prog 56 #[.int .u64 a, .int .u64 b] w fun e w' => e = ovf ∧ Below w.heap.size w w' :=
  (raised_any a b ha hb w).mono fun _ _ ⟨hr, hb⟩ => ⟨hr.2 h, hb⟩

/-- What stands while product's last statement is done: its two numbers, its result's place. -/
def PS (w : World) (a b c d : Int) (w' : World) : Prop :=
  Blk w' w.heap.size #[.int .u64 a, .int .u64 b] 26 ∧ Blk w' (w.heap.size + 1) #[.int .u64 c, .int .u64 d] 26 ∧ (∃ x y : Int, Blk w' (w.heap.size + 1 + 1) #[.int .u64 x, .int .u64 y] 26) ∧ Below w.heap.size w w'
theorem PS.cells {w w' : World} {a b c d : Int} (h : PS w a b c d w') : w'.cell? ⟨w.heap.size, 0, none⟩ = some (.int .u64 a) ∧ w'.cell? ⟨w.heap.size, 1, none⟩ = some (.int .u64 b) ∧ w'.cell? ⟨w.heap.size + 1, 0, none⟩ = some (.int .u64 c) ∧ w'.cell? ⟨w.heap.size + 1, 1, none⟩ = some (.int .u64 d) ∧ PS w a b c d w' :=
  ⟨h.1.cell 0, h.1.cell 1, h.2.1.cell 0, h.2.1.cell 1, h⟩
theorem PS.drew {w w' : World} {a b c d : Int} (h : PS w a b c d w') : PS w a b c d w'.drew := ⟨h.1, h.2.1, h.2.2.1, h.2.2.2.drew⟩
theorem PS.later {w w' w'' : World} {a b c d : Int} (h : PS w a b c d w') (hb : Below w'.heap.size w' w'') : PS w a b c d w'' :=
  ⟨h.1.later hb, h.2.1.later hb, h.2.2.1.elim fun x ⟨y, h3⟩ => ⟨x, y, h3.later hb⟩, h.2.2.2.trans (hb.mono h.2.2.2.size)⟩
theorem PS.alloc {w w' : World} {a b c d : Int} (h : PS w a b c d w') (o : Obj) : PS w a b c d (w'.alloc o) :=
  ⟨h.1.alloc o, h.2.1.alloc o, h.2.2.1.elim fun x ⟨y, h3⟩ => ⟨x, y, h3.alloc o⟩, h.2.2.2.alloc h.2.2.2.size o⟩
theorem PS.set {w w' : World} {a b c d : Int} (h : PS w a b c d w') (x y : Int) : PS w a b c d ((w'.setCell ⟨w.heap.size + 1 + 1, 0, none⟩ (.int .u64 x)).setCell ⟨w.heap.size + 1 + 1, 1, none⟩ (.int .u64 y)) := by
  obtain ⟨h1, h2, ⟨x0, y0, h3⟩, h4⟩ := h
  exact ⟨(h1.other (by simp; omega) _).other (by simp; omega) _, (h2.other (by simp) _).other (by simp) _, ⟨x, y, (h3.set 0 _).set 1 _⟩, (h4.setCell (by simp; omega) _).setCell (by simp; omega) _⟩
theorem PS.start (w : World) (a b c d : Int) : PS w a b c d (((w.alloc (.cells #[.int .u64 a, .int .u64 b] 26)).alloc (.cells #[.int .u64 c, .int .u64 d] 26)).alloc (.cells #[.int .u64 0, .int .u64 0] 26)) := by
  refine ⟨((Blk.new _ _ _).alloc _).alloc _, ?_, ?_, ?_⟩
  · have := (Blk.new (w.alloc (.cells #[.int .u64 a, .int .u64 b] 26)) #[.int .u64 c, .int .u64 d] 26).alloc (.cells #[.int .u64 0, .int .u64 0] 26)
    simpa using this
  · have := Blk.new ((w.alloc (.cells #[.int .u64 a, .int .u64 b] 26)).alloc (.cells #[.int .u64 c, .int .u64 d] 26)) #[.int .u64 0, .int .u64 0] 26
    exact ⟨0, 0, by simpa using this⟩
  · exact (((Below.refl _ _).alloc (Nat.le_refl _) _).alloc (by simp) _).alloc (by simp; omega) _

set_option maxHeartbeats 1000000 in
theorem product_first (a b c d : Int) (ha : Wd a) (hb : Wd b) (hc : Wd c) (hd : Wd d) (w : World) (h1 : (a != 0) = false ∨ ((a != 0) = true ∧ (c != 0) = false)) (hx : ¬ up (a * d) < Big) :
    Calls Try.prog 37 #[WV a b, WV c d] w fun e w' => Reck (num (a, b) * num (c, d) < Big) (num (a, b) * num (c, d)) e ∧ Below w.heap.size w w' := by
  have hnn : ¬ num (a, b) * num (c, d) < Big := by
    rw [prod_split a b c d (by rcases h1 with h1 | ⟨_, h1⟩ <;> simp at h1 <;> simp [h1])]
    have := (mul_pos hb hd).1; have := (mul_pos ha hd).1; have := (mul_pos hb hc).1
    unfold up at *; omega
  have HN := Lib.hid hnn; clear hnn
  have HX := Lib.hid hx; clear hx
  rcases h1 with h1 | ⟨h1, h2⟩
  all_goals
    go_enter Try.func37, Try.ntmps37
    go_wp2_with (go_at_call 55; refine (mul64_any b d hb hd _).mono ?_; rintro e w' ⟨rfl, rfl⟩)
    refine wp_region_held_drew (S := fun w' => w'.cell? ⟨w.heap.size, 0, none⟩ = some (.int .u64 a) ∧ w'.cell? ⟨w.heap.size, 1, none⟩ = some (.int .u64 b) ∧ w'.cell? ⟨w.heap.size + 1, 0, none⟩ = some (.int .u64 c) ∧ w'.cell? ⟨w.heap.size + 1, 1, none⟩ = some (.int .u64 d) ∧ PS w a b c d w') (by kernel_rfl) (PS.start w a b c d).drew.cells (fun hHeld => ?_)
    refine wpAnyH_take (i := 0) (v := ?_) rfl (by kernel_rfl) (by kernel_rfl) (by kernel_rfl) (fun _ _ _ h => h) (Or.inl ⟨by rfl, ?_⟩) hHeld ?_
    rotate_left
    · intro w1 hSw; (try dsimp only at hSw); go_simp; with_reducible rfl
    simp only [Act.put, List.getElem_toArray, List.getElem_cons_zero, List.setIfInBounds_toArray, List.set_cons_zero, List.set_cons_succ]
    refine wpAnyH_take (i := 1) (v := ?_) rfl (by kernel_rfl) (by kernel_rfl) (by kernel_rfl) (fun _ _ _ h => h) (Or.inl ⟨by rfl, ?_⟩) hHeld ?_
    rotate_left
    · intro w1 hSw; (try dsimp only at hSw); go_simp; with_reducible rfl
    simp only [Act.put, List.getElem_toArray, List.getElem_cons_zero, List.getElem_cons_succ, List.setIfInBounds_toArray, List.set_cons_zero, List.set_cons_succ]
    refine wpAnyH_take (i := 2) (v := ?_) rfl (by kernel_rfl) (by kernel_rfl) (by kernel_rfl) (fun _ _ _ h => h) (Or.inl ⟨by rfl, ?_⟩) hHeld ?_
    rotate_left
    · intro w1 hSw; (try dsimp only at hSw); go_simp; with_reducible rfl
    simp only [Act.put, List.getElem_toArray, List.getElem_cons_zero, List.getElem_cons_succ, List.setIfInBounds_toArray, List.set_cons_zero, List.set_cons_succ]
    refine wpAnyH_take (i := 3) (v := ?_) rfl (by kernel_rfl) (by kernel_rfl) (by kernel_rfl) (fun _ _ _ h => h) (Or.inl ⟨by rfl, ?_⟩) hHeld ?_
    rotate_left
    · intro w1 hSw; (try dsimp only at hSw); go_simp; with_reducible rfl
    simp only [Act.put, List.getElem_toArray, List.getElem_cons_zero, List.getElem_cons_succ, List.setIfInBounds_toArray, List.set_cons_zero, List.set_cons_succ]
    refine wpAnyH_take (i := 4) (v := ?_) rfl (by kernel_rfl) (by kernel_rfl) (by kernel_rfl) (fun _ _ _ h => h) (Or.inl ⟨by rfl, ?_⟩) hHeld ?_
    rotate_left
    · intro w1 hSw; (try dsimp only at hSw); go_simp; with_reducible rfl
    simp only [Act.put, List.getElem_toArray, List.getElem_cons_zero, List.getElem_cons_succ, List.setIfInBounds_toArray, List.set_cons_zero, List.set_cons_succ]
    refine wpAnyH_take (i := 5) (v := ?_) rfl (by kernel_rfl) (by kernel_rfl) (by kernel_rfl) (fun _ _ _ h => h) (Or.inl ⟨by rfl, ?_⟩) hHeld ?_
    rotate_left
    · intro w1 hSw; (try dsimp only at hSw); go_simp; with_reducible rfl
    simp only [Act.put, List.getElem_toArray, List.getElem_cons_zero, List.getElem_cons_succ, List.setIfInBounds_toArray, List.set_cons_zero, List.set_cons_succ]
    refine wpAnyH_take (i := 6) (v := ?_) rfl (by kernel_rfl) (by kernel_rfl) (by kernel_rfl) (fun _ _ _ h => h) (Or.inl ⟨by rfl, ?_⟩) hHeld ?_
    rotate_left
    · intro w1 hSw; (try dsimp only at hSw); go_simp; with_reducible rfl
    simp only [Act.put, List.getElem_toArray, List.getElem_cons_zero, List.getElem_cons_succ, List.setIfInBounds_toArray, List.set_cons_zero, List.set_cons_succ]
    refine wpAnyH_take (i := 8) (v := ?_) rfl (by kernel_rfl) (by kernel_rfl) (by kernel_rfl) (fun _ _ _ h => h) (Or.inl ⟨by rfl, ?_⟩) hHeld ?_
    rotate_left
    · intro w1 hSw; (try dsimp only at hSw); go_simp; with_reducible rfl
    simp only [Act.put, List.getElem_toArray, List.getElem_cons_zero, List.getElem_cons_succ, List.setIfInBounds_toArray, List.set_cons_zero, List.set_cons_succ]
    refine wpAnyH_take (i := 9) (v := ?_) rfl (by kernel_rfl) (by kernel_rfl) (by kernel_rfl) (fun _ _ _ h => h) (Or.inl ⟨by rfl, ?_⟩) hHeld ?_
    rotate_left
    · intro w1 hSw; (try dsimp only at hSw); go_simp; with_reducible rfl
    simp only [Act.put, List.getElem_toArray, List.getElem_cons_zero, List.getElem_cons_succ, List.setIfInBounds_toArray, List.set_cons_zero, List.set_cons_succ]
    refine wpAnyH_take (i := 10) (v := ?_) rfl (by kernel_rfl) (by kernel_rfl) (by kernel_rfl) (fun _ _ _ h => h) (Or.inl ⟨by rfl, ?_⟩) hHeld ?_
    rotate_left
    · intro w1 hSw; (try dsimp only at hSw); go_simp; with_reducible rfl
    simp only [Act.put, List.getElem_toArray, List.getElem_cons_zero, List.getElem_cons_succ, List.setIfInBounds_toArray, List.set_cons_zero, List.set_cons_succ]
    refine wpAnyH_take (i := 11) (v := ?_) rfl (by kernel_rfl) (by kernel_rfl) (by kernel_rfl) (fun _ _ _ h => h) (Or.inl ⟨by rfl, ?_⟩) hHeld ?_
    rotate_left
    · intro w1 hSw; (try dsimp only at hSw); go_simp; with_reducible rfl
    simp only [Act.put, List.getElem_toArray, List.getElem_cons_zero, List.getElem_cons_succ, List.setIfInBounds_toArray, List.set_cons_zero, List.set_cons_succ]
    refine wpAnyH_ready (rs := [7]) (by kernel_rfl) (by simp) ?_
    refine AllReadyH.cons rfl (fun K hK => ?_) AllReadyH.nil
    go_simp
    refine (raised_no a d ha hd (by have := HX.out; omega) _).mono ?_
    rintro e w' ⟨rfl, hbl⟩
    obtain ⟨_, _, _, _, hps⟩ := hHeld
    exact bodyPost_panic rfl ⟨Reck.no (by have := HN.out; omega), (hps.later hbl).2.2.2⟩

set_option maxHeartbeats 1000000 in
theorem product_second (a b c d : Int) (ha : Wd a) (hb : Wd b) (hc : Wd c) (hd : Wd d) (w : World) (h1 : (a != 0) = false ∨ ((a != 0) = true ∧ (c != 0) = false)) (hx : up (a * d) < Big) (hy : ¬ up (b * c) < Big) :
    Calls Try.prog 37 #[WV a b, WV c d] w fun e w' => Reck (num (a, b) * num (c, d) < Big) (num (a, b) * num (c, d)) e ∧ Below w.heap.size w w' := by
  have hnn : ¬ num (a, b) * num (c, d) < Big := by
    rw [prod_split a b c d (by rcases h1 with h1 | ⟨_, h1⟩ <;> simp at h1 <;> simp [h1])]
    have := (mul_pos hb hd).1; have := (mul_pos ha hd).1; have := (mul_pos hb hc).1
    unfold up at *; omega
  have HN := Lib.hid hnn; clear hnn
  have HX := Lib.hid hx; clear hx
  have HY := Lib.hid hy; clear hy
  rcases h1 with h1 | ⟨h1, h2⟩
  all_goals
    go_enter Try.func37, Try.ntmps37
    go_wp2_with (go_at_call 55; refine (mul64_any b d hb hd _).mono ?_; rintro e w' ⟨rfl, rfl⟩)
    refine wp_region_held_drew (S := fun w' => w'.cell? ⟨w.heap.size, 0, none⟩ = some (.int .u64 a) ∧ w'.cell? ⟨w.heap.size, 1, none⟩ = some (.int .u64 b) ∧ w'.cell? ⟨w.heap.size + 1, 0, none⟩ = some (.int .u64 c) ∧ w'.cell? ⟨w.heap.size + 1, 1, none⟩ = some (.int .u64 d) ∧ PS w a b c d w') (by kernel_rfl) (PS.start w a b c d).drew.cells (fun hHeld => ?_)
    refine wpAnyH_take (i := 0) (v := ?_) rfl (by kernel_rfl) (by kernel_rfl) (by kernel_rfl) (fun _ _ _ h => h) (Or.inl ⟨by rfl, ?_⟩) hHeld ?_
    rotate_left
    · intro w1 hSw; (try dsimp only at hSw); go_simp; with_reducible rfl
    simp only [Act.put, List.getElem_toArray, List.getElem_cons_zero, List.setIfInBounds_toArray, List.set_cons_zero, List.set_cons_succ]
    refine wpAnyH_take (i := 1) (v := ?_) rfl (by kernel_rfl) (by kernel_rfl) (by kernel_rfl) (fun _ _ _ h => h) (Or.inl ⟨by rfl, ?_⟩) hHeld ?_
    rotate_left
    · intro w1 hSw; (try dsimp only at hSw); go_simp; with_reducible rfl
    simp only [Act.put, List.getElem_toArray, List.getElem_cons_zero, List.getElem_cons_succ, List.setIfInBounds_toArray, List.set_cons_zero, List.set_cons_succ]
    refine wpAnyH_take (i := 2) (v := ?_) rfl (by kernel_rfl) (by kernel_rfl) (by kernel_rfl) (fun _ _ _ h => h) (Or.inl ⟨by rfl, ?_⟩) hHeld ?_
    rotate_left
    · intro w1 hSw; (try dsimp only at hSw); go_simp; with_reducible rfl
    simp only [Act.put, List.getElem_toArray, List.getElem_cons_zero, List.getElem_cons_succ, List.setIfInBounds_toArray, List.set_cons_zero, List.set_cons_succ]
    refine wpAnyH_take (i := 3) (v := ?_) rfl (by kernel_rfl) (by kernel_rfl) (by kernel_rfl) (fun _ _ _ h => h) (Or.inl ⟨by rfl, ?_⟩) hHeld ?_
    rotate_left
    · intro w1 hSw; (try dsimp only at hSw); go_simp; with_reducible rfl
    simp only [Act.put, List.getElem_toArray, List.getElem_cons_zero, List.getElem_cons_succ, List.setIfInBounds_toArray, List.set_cons_zero, List.set_cons_succ]
    refine wpAnyH_take (i := 4) (v := ?_) rfl (by kernel_rfl) (by kernel_rfl) (by kernel_rfl) (fun _ _ _ h => h) (Or.inl ⟨by rfl, ?_⟩) hHeld ?_
    rotate_left
    · intro w1 hSw; (try dsimp only at hSw); go_simp; with_reducible rfl
    simp only [Act.put, List.getElem_toArray, List.getElem_cons_zero, List.getElem_cons_succ, List.setIfInBounds_toArray, List.set_cons_zero, List.set_cons_succ]
    refine wpAnyH_take (i := 5) (v := ?_) rfl (by kernel_rfl) (by kernel_rfl) (by kernel_rfl) (fun _ _ _ h => h) (Or.inl ⟨by rfl, ?_⟩) hHeld ?_
    rotate_left
    · intro w1 hSw; (try dsimp only at hSw); go_simp; with_reducible rfl
    simp only [Act.put, List.getElem_toArray, List.getElem_cons_zero, List.getElem_cons_succ, List.setIfInBounds_toArray, List.set_cons_zero, List.set_cons_succ]
    refine wpAnyH_take (i := 6) (v := ?_) rfl (by kernel_rfl) (by kernel_rfl) (by kernel_rfl) (fun _ _ _ h => h) (Or.inl ⟨by rfl, ?_⟩) hHeld ?_
    rotate_left
    · intro w1 hSw; (try dsimp only at hSw); go_simp; with_reducible rfl
    simp only [Act.put, List.getElem_toArray, List.getElem_cons_zero, List.getElem_cons_succ, List.setIfInBounds_toArray, List.set_cons_zero, List.set_cons_succ]
    refine wpAnyH_take (i := 8) (v := ?_) rfl (by kernel_rfl) (by kernel_rfl) (by kernel_rfl) (fun _ _ _ h => h) (Or.inl ⟨by rfl, ?_⟩) hHeld ?_
    rotate_left
    · intro w1 hSw; (try dsimp only at hSw); go_simp; with_reducible rfl
    simp only [Act.put, List.getElem_toArray, List.getElem_cons_zero, List.getElem_cons_succ, List.setIfInBounds_toArray, List.set_cons_zero, List.set_cons_succ]
    refine wpAnyH_take (i := 9) (v := ?_) rfl (by kernel_rfl) (by kernel_rfl) (by kernel_rfl) (fun _ _ _ h => h) (Or.inl ⟨by rfl, ?_⟩) hHeld ?_
    rotate_left
    · intro w1 hSw; (try dsimp only at hSw); go_simp; with_reducible rfl
    simp only [Act.put, List.getElem_toArray, List.getElem_cons_zero, List.getElem_cons_succ, List.setIfInBounds_toArray, List.set_cons_zero, List.set_cons_succ]
    refine wpAnyH_take (i := 10) (v := ?_) rfl (by kernel_rfl) (by kernel_rfl) (by kernel_rfl) (fun _ _ _ h => h) (Or.inl ⟨by rfl, ?_⟩) hHeld ?_
    rotate_left
    · intro w1 hSw; (try dsimp only at hSw); go_simp; with_reducible rfl
    simp only [Act.put, List.getElem_toArray, List.getElem_cons_zero, List.getElem_cons_succ, List.setIfInBounds_toArray, List.set_cons_zero, List.set_cons_succ]
    refine wpAnyH_take (i := 11) (v := ?_) rfl (by kernel_rfl) (by kernel_rfl) (by kernel_rfl) (fun _ _ _ h => h) (Or.inl ⟨by rfl, ?_⟩) hHeld ?_
    rotate_left
    · intro w1 hSw; (try dsimp only at hSw); go_simp; with_reducible rfl
    simp only [Act.put, List.getElem_toArray, List.getElem_cons_zero, List.getElem_cons_succ, List.setIfInBounds_toArray, List.set_cons_zero, List.set_cons_succ]
    refine wpAnyH_ready (rs := [7]) (by kernel_rfl) (by simp) ?_
    refine AllReadyH.cons rfl (fun K hK => ?_) AllReadyH.nil
    go_simp
    refine (raised_ok a d ha hd HX.out _).mono ?_
    rintro e w' ⟨rfl, hbl⟩
    obtain ⟨_, _, _, _, hps⟩ := hHeld
    refine hK.out _ _ (hps.later hbl).cells (fun hHeld => ?_)
    clear hK K
    refine wpAnyH_ready (rs := [12]) (by kernel_rfl) (by simp) ?_
    refine AllReadyH.cons rfl (fun K hK => ?_) AllReadyH.nil
    go_simp
    refine (raised_no b c hb hc (by have := HY.out; omega) _).mono ?_
    rintro e w2 ⟨rfl, hbl2⟩
    exact bodyPost_panic rfl ⟨Reck.no (by have := HN.out; omega), ((hps.later hbl).later hbl2).2.2.2⟩

end Go.Proofs.Ytfknocgmobddmaa
