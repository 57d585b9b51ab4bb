import Derived.Test.YtfknocgmobddmaaX4
import Derived.Test.YtfknocgmobddmaaKitB
import Derived.Deep.CutBlock
import Derived.Deep.DeepCutAuto
namespace Go.Proofs.Ytfknocgmobddmaa
open Go.RowKit Go.Proofs.Kit Go.Shelf

theorem hiW_of {a b : Int} (ha : Wd a) (hb : Wd b) {S : Int} (h : S = num (a, b)) : hiW S = a := by rw [h]; exact hiW_num ⟨ha, hb⟩
theorem loW_of {a b : Int} (ha : Wd a) (hb : Wd b) {S : Int} (h : S = num (a, b)) : loW S = b := by rw [h]; exact loW_num ⟨ha, hb⟩

/-- What is added is taken away again. -/
theorem sub_back (a b c d : Int) (ha : Wd a) (hb : Wd b) (hc : Wd c) (hd : Wd d) (S : Int) (hS : S = num (a, b) + num (c, d)) (hlt : S < Big) (w : World) :
    Calls Try.prog 13 #[WV (hiW S) (loW S), WV c d] w fun e w' => e = .returned (.tuple #[WV a b, .int .i64 0]) ∧ Below w.heap.size w w' := by
  have h0 : 0 ≤ S := by have := (num_pos (p := (a, b)) ⟨ha, hb⟩).1; have := (num_pos (p := (c, d)) ⟨hc, hd⟩).1; omega
  refine (sub_any (hiW S) (loW S) c d (hiW_wd h0 hlt) (loW_wd _) hc hd w).mono ?_
  rintro e w' ⟨h, hb'⟩
  rw [num_hl] at h
  refine ⟨?_, hb'⟩
  rw [h.1 (by have := (num_pos (p := (a, b)) ⟨ha, hb⟩).1; omega), hiW_of ha hb (by omega), loW_of ha hb (by omega)]

/-- How the sum stands to what was added to. -/
theorem cmp_back (a b : Int) (_ha : Wd a) (hb : Wd b) (S : Int) (hS : num (a, b) ≤ S) (w : World) :
    Calls Try.prog 15 #[WV (hiW S) (loW S), WV a b] w fun e w' => (∃ n : Int, e = .returned (.int .i64 n) ∧ decide (n < 0) = false) ∧ Below w.heap.size w w' := by
  refine (compare_any (hiW S) (loW S) a b (loW_wd _) hb w).mono ?_
  rintro e w' ⟨rfl, hb'⟩
  refine ⟨⟨_, rfl, ?_⟩, hb'⟩
  rw [num_hl]
  unfold ord
  rw [if_neg (by omega)]
  split <;> rfl

/-- The product of what is divided with its divisor, and what is left, is it again. -/
theorem mul_back (a b y : Int) (ha : Wd a) (hb : Wd b) (hy : Wd y) (h0 : 0 < y) (Q M : Int) (hQ : Q = num (a, b) / y) (hM : M = Q * y) (w : World) :
    Calls Try.prog 14 #[WV (hiW Q) (loW Q), WV 0 y] w fun e w' => e = .returned (.tuple #[WV (hiW M) (loW M), .int .i64 0]) ∧ Below w.heap.size w w' := by
  have hn := num_pos (p := (a, b)) ⟨ha, hb⟩
  have hQ0 : 0 ≤ Q := by rw [hQ]; exact Int.ediv_nonneg hn.1 (by omega)
  have hQ1 : Q ≤ num (a, b) := by rw [hQ]; exact Int.ediv_le_self _ hn.1
  have hM1 : M ≤ num (a, b) := by rw [hM, hQ]; exact Int.ediv_mul_le _ (by omega)
  refine (mul_any (hiW Q) (loW Q) 0 y (hiW_wd hQ0 (by omega)) (loW_wd _) wd0 hy w).mono ?_
  rintro e w' ⟨h, hb'⟩
  have e1 : num (0, y) = y := by unfold num; simp
  rw [num_hl, e1, ← hM] at h
  exact ⟨h.1 (by omega), hb'⟩
theorem add_left (a b y : Int) (ha : Wd a) (hb : Wd b) (hy : Wd y) (h0 : 0 < y) (Q M R : Int) (hQ : Q = num (a, b) / y) (hM : M = Q * y) (hR : R = num (a, b) % y) (w : World) :
    Calls Try.prog 12 #[WV (hiW M) (loW M), WV 0 R] w fun e w' => e = .returned (.tuple #[WV a b, .int .i64 0]) ∧ Below w.heap.size w w' := by
  have hn := num_pos (p := (a, b)) ⟨ha, hb⟩
  have hQ0 : 0 ≤ Q := by rw [hQ]; exact Int.ediv_nonneg hn.1 (by omega)
  have hM0 : 0 ≤ M := by rw [hM]; exact Int.mul_nonneg hQ0 (by omega)
  have hR0 : 0 ≤ R := by rw [hR]; exact Int.emod_nonneg _ (by omega)
  have hR1 : R < y := by rw [hR]; exact Int.emod_lt_of_pos _ h0
  have hsum : M + R = num (a, b) := by rw [hM, hQ, hR]; have := Int.mul_ediv_add_emod (num (a, b)) y; rw [Int.mul_comm] at this; exact this
  refine (add_any (hiW M) (loW M) 0 R (hiW_wd hM0 (by omega)) (loW_wd _) wd0 ⟨hR0, by have := hy.2; omega⟩ w).mono ?_
  rintro e w' ⟨h, hb'⟩
  have e1 : num (0, R) = R := by unfold num; simp
  rw [num_hl, e1] at h
  refine ⟨?_, hb'⟩
  rw [h.1 (by omega), hiW_of ha hb hsum, loW_of ha hb hsum]

set_option maxRecDepth 100000 in
set_option maxHeartbeats 1000000 in
theorem back_ok (a b c d y : Int) (ha : Wd a) (hb : Wd b) (hc : Wd c) (hd : Wd d) (hy : Wd y) (hlt : num (a, b) + num (c, d) < Big) (h0 : 0 < y) (w : World) :
    Calls Try.prog 6 #[WV a b, WV c d, .int .u64 y] w fun e w' => e = .returned (.bool true) ∧ Below w.heap.size w w' := by
  have HLT := Lib.hid hlt; clear hlt
  go_enter Try.func6, Try.ntmps6
  go_wp2_with fail
  refine (wakes_true _).mono ?_
  rintro e w1 ⟨rfl, h1⟩
  have bA : Blk w1 w.heap.size #[.int .u64 a, .int .u64 b] 26 := ((Blk.new _ _ _).alloc _).later h1
  have bB : Blk w1 (w.heap.size + 1) #[.int .u64 c, .int .u64 d] 26 := (blk_at _ _ _ (by simp)).later h1
  have B1 : Below w.heap.size w w1 := (below2 w _ _).trans (h1.mono (by simp; omega))
  have cA0 := bA.cell 0
  have cA1 := bA.cell 1
  have cB0 := bB.cell 0
  have cB1 := bB.cell 1
  simp only [List.getElem?_toArray, List.getElem?_cons_zero, List.getElem?_cons_succ] at cA0 cA1 cB0 cB1
  go_wp2_with fail
  refine (add_any a b c d ha hb hc hd _).mono ?_
  rintro e w2 ⟨hr, h2⟩
  obtain rfl := hr.1 HLT.out
  obtain ⟨S, hS⟩ : ∃ S, S = num (a, b) + num (c, d) := ⟨_, rfl⟩
  rw [← hS]
  have HS := Lib.hid hS; clear hS hr
  have bA := bA.later h2
  have bB := bB.later h2
  have B2 := B1.trans (h2.mono B1.size)
  clear cA0 cA1 cB0 cB1 h1 h2 B1
  obtain ⟨cA0, cA1, lA⟩ := bA.two
  obtain ⟨cB0, cB1, lB⟩ := bB.two
  go_wp2_with fail
  refine (sub_back a b c d ha hb hc hd S HS.out (by rw [HS.out]; exact HLT.out) _).mono ?_
  rintro e w3 ⟨rfl, h3⟩
  have bA := bA.al h3
  have bS := Blk.nw h3
  have B3 := below_al B2 h3
  clear cA0 cA1 lA cB0 cB1 lB h3 bB B2
  obtain ⟨cA0, cA1, lA⟩ := bA.two
  obtain ⟨cS0, cS1, lS⟩ := bS.two
  have hne : ∀ w, (binOp .neq 26 (.agg #[.int .u64 a, .int .u64 b]) (.agg #[.int .u64 a, .int .u64 b])).run Try.prog w = .ok (.bool false) w := fun w => by rw [neq_wide]; simp [sameW]
  go_wp2_with fail
  refine (cmp_back a b ha hb S (by rw [HS.out]; have := (num_pos (p := (c, d)) ⟨hc, hd⟩).1; omega) _).mono ?_
  rintro e w4 ⟨⟨n, rfl, hn⟩, h4⟩
  have bA := bA.al h4
  have B4 := below_al B3 h4
  clear cA0 cA1 lA cS0 cS1 lS h4 bS B3
  obtain ⟨cA0, cA1, lA⟩ := bA.two
  go_wp2_with fail
  refine (div_any a b y ha hb hy h0 _).mono ?_
  rintro e w5 ⟨rfl, h5⟩
  have bA := bA.later h5
  have B5 := below_later B4 h5
  clear cA0 cA1 lA h5 B4
  obtain ⟨cA0, cA1, lA⟩ := bA.two
  obtain ⟨Q, hQ⟩ : ∃ Q, Q = num (a, b) / y := ⟨_, rfl⟩
  obtain ⟨R, hR⟩ : ∃ R, R = num (a, b) % y := ⟨_, rfl⟩
  rw [← hQ, ← hR]
  have HQ := Lib.hid hQ; clear hQ
  have HR := Lib.hid hR; clear hR
  go_upto_region 14 with fail
  have hT : Two w w.heap.size (.int .u64 a) (.int .u64 b) w5.heap.size (.int .u64 (hiW Q)) (.int .u64 (loW Q)) 26 (w5.alloc (.cells #[.int .u64 (hiW Q), .int .u64 (loW Q)] 26)) := ⟨bA.alloc _, Blk.new _ _ _, B5.alloc B5.size _⟩
  clear cA0 cA1 lA bA B5
  obtain ⟨M, hM⟩ : ∃ M, M = Q * y := ⟨_, rfl⟩
  have HM := Lib.hid hM; clear hM
  obtain ⟨w9, hw9⟩ : ∃ w9, w9 = (w5.alloc (.cells #[.int .u64 (hiW Q), .int .u64 (loW Q)] 26)) := ⟨_, rfl⟩
  rw [← hw9] at hT ⊢
  clear hw9
  generalize w5.heap.size = n5 at *
  go_cut [15, 16] (fun s15 s16 wx => s15 = .int .i64 0 ∧ ∃ k : Nat, s16 = .pointer (some ⟨k, 0, none⟩) ∧ Two w w.heap.size (.int .u64 a) (.int .u64 b) k (.int .u64 (hiW M)) (.int .u64 (loW M)) 26 wx)
  case first =>
    go_region_held3 (fun w' => w'.cell? ⟨w.heap.size, 0, none⟩ = some (.int .u64 a) ∧ w'.cell? ⟨w.heap.size, 1, none⟩ = some (.int .u64 b) ∧ w'.cell? ⟨n5, 0, none⟩ = some (.int .u64 (hiW Q)) ∧ w'.cell? ⟨n5, 1, none⟩ = some (.int .u64 (loW Q)) ∧ Two w w.heap.size (.int .u64 a) (.int .u64 b) n5 (.int .u64 (hiW Q)) (.int .u64 (loW Q)) 26 w')
      (first | exact hT.cells | exact hT.drew.cells | exact (hT.alloc _).cells | exact (hT.alloc _).drew.cells | exact ((hT.set hN 0 _).set (hN.set 0 _) 1 _).cells)
      (first
        | (go_at_call 19; refine (of_any _ _).mono ?_; rintro e w' ⟨rfl, hbl⟩; first | (have hN := hT.nwd hbl; obtain ⟨n0, n1, n2, n3, n4⟩ := hN.facts; have hT := (hT.alloc _).drew.later hbl) | (have hT := hT.drew.later hbl))
        | (go_at_call 14; refine (mul_back a b y ha hb hy h0 Q M HQ.out HM.out _).mono ?_; rintro e w' ⟨rfl, hbl⟩; first | (have hN := hT.nw hbl; obtain ⟨n0, n1, n2, n3, n4⟩ := hN.facts; have hT := (hT.alloc _).later hbl) | (have hN := hN.later hbl; obtain ⟨n0, n1, n2, n3, n4⟩ := hN.facts; have hT := hT.later hbl) | (have hT := hT.later hbl)))
    all_goals (go_wp2_with fail; go_meet; first | exact ⟨rfl, _, rfl, hT.1.alloc _, Blk.new _ _ _, hT.2.2.alloc hT.2.2.size _⟩ | exact ⟨rfl, _, rfl, ((hT.set hN 0 _).set (hN.set 0 _) 1 _).1, ((hN.set 0 _).set 1 _).blk, ((hT.set hN 0 _).set (hN.set 0 _) 1 _).2.2⟩)
  case rest =>
    obtain ⟨rfl, k, rfl, hT⟩ := hcut
    go_upto_region 15 with fail
    go_cut [17, 18] (fun s17 s18 wx => s18 = .int .i64 0 ∧ ∃ k : Nat, s17 = .pointer (some ⟨k, 0, none⟩) ∧ Two w w.heap.size (.int .u64 a) (.int .u64 b) k (.int .u64 a) (.int .u64 b) 26 wx)
    case first =>
      go_region_held3 (fun w' => w'.cell? ⟨w.heap.size, 0, none⟩ = some (.int .u64 a) ∧ w'.cell? ⟨w.heap.size, 1, none⟩ = some (.int .u64 b) ∧ w'.cell? ⟨k, 0, none⟩ = some (.int .u64 (hiW M)) ∧ w'.cell? ⟨k, 1, none⟩ = some (.int .u64 (loW M)) ∧ Two w w.heap.size (.int .u64 a) (.int .u64 b) k (.int .u64 (hiW M)) (.int .u64 (loW M)) 26 w')
        (first | exact hT.cells | exact hT.drew.cells | exact (hT.alloc _).cells | exact (hT.alloc _).drew.cells | exact ((hT.set hN 0 _).set (hN.set 0 _) 1 _).cells)
        (first
          | (go_at_call 19; refine (of_any _ _).mono ?_; rintro e w' ⟨rfl, hbl⟩; first | (have hN := hT.nwd hbl; obtain ⟨n0, n1, n2, n3, n4⟩ := hN.facts; have hT := (hT.alloc _).drew.later hbl) | (have hT := hT.drew.later hbl))
          | (go_at_call 12; refine (add_left a b y ha hb hy h0 Q M R HQ.out HM.out HR.out _).mono ?_; rintro e w' ⟨rfl, hbl⟩; first | (have hN := hT.nw hbl; obtain ⟨n0, n1, n2, n3, n4⟩ := hN.facts; have hT := (hT.alloc _).later hbl) | (have hN := hN.later hbl; obtain ⟨n0, n1, n2, n3, n4⟩ := hN.facts; have hT := hT.later hbl) | (have hT := hT.later hbl)))
      all_goals (go_wp2_with fail; go_meet; first | exact ⟨rfl, _, rfl, hT.1.alloc _, Blk.new _ _ _, hT.2.2.alloc hT.2.2.size _⟩ | exact ⟨rfl, _, rfl, ((hT.set hN 0 _).set (hN.set 0 _) 1 _).1, ((hN.set 0 _).set 1 _).blk, ((hT.set hN 0 _).set (hN.set 0 _) 1 _).2.2⟩)
    case rest =>
      obtain ⟨rfl, k2, rfl, hT⟩ := hcut
      obtain ⟨cA0, cA1, cK0, cK1, _⟩ := hT.cells
      have heq : ∀ w, (binOp .eql 26 (.agg #[.int .u64 a, .int .u64 b]) (.agg #[.int .u64 a, .int .u64 b])).run Try.prog w = .ok (.bool true) w := fun w => by rw [eql_wide]; simp [sameW]
      have hlt : decide (R < y) = true := by rw [HR.out]; simpa using Int.emod_lt_of_pos (num (a, b)) h0
      go_wp2_with fail
      go_ret
      exact ⟨rfl, hT.2.2⟩
end Go.Proofs.Ytfknocgmobddmaa
