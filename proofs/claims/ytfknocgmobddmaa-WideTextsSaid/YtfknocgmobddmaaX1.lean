import Derived.Test.YtfknocgmobddmaaT7
import Derived.Test.YtfknocgmobddmaaRng
import Derived.Shelf.RegionOpen
import Derived.OwnWalkIn
import Derived.TacticsInMore
import Derived.LoopNIn
import Derived.LoopIn
namespace Go.Proofs.Ytfknocgmobddmaa
open Go.RowKit Go.Proofs.Kit Go.Shelf
attribute [local go_sem] Oper.semAt_some

/-- The digits of a number, the last one first. -/
def digs (n : Nat) : List (Fin 10) := (⟨n % 10, Nat.mod_lt _ (by decide)⟩ : Fin 10) :: if h : n / 10 = 0 then [] else digs (n / 10)
termination_by n
decreasing_by omega
theorem digs_last {n : Nat} (h : n / 10 = 0) : digs n = [⟨n % 10, Nat.mod_lt _ (by decide)⟩] := by rw [digs, dif_pos h]
theorem digs_more {n : Nat} (h : n / 10 ≠ 0) : digs n = ⟨n % 10, Nat.mod_lt _ (by decide)⟩ :: digs (n / 10) := by rw [digs, dif_neg h]
theorem digs_length : ∀ (k n : Nat), n < 10 ^ (k + 1) → (digs n).length ≤ k + 1
  | 0, n, h => by rw [digs_last (by omega)]; simp
  | k + 1, n, h => by
    by_cases h0 : n / 10 = 0
    · rw [digs_last h0]; simp
    · rw [digs_more h0]; have := digs_length k (n / 10) (by rw [Nat.pow_succ] at h; omega); simp; omega

/-- The number that two cells hold. -/
def restOf (wr : World) (c : Nat) : Nat := (intOf ((wr.cell? ⟨c, 0, none⟩).getD undef) * 18446744073709551616 + intOf ((wr.cell? ⟨c, 1, none⟩).getD undef)).toNat
theorem restOf_eq {wr : World} {c R : Nat} (h : Blk wr c #[.int .u64 (hiW R), .int .u64 (loW R)] 26) : restOf wr c = R := by
  unfold restOf
  rw [h.cell 0, h.cell 1]
  simp [intOf]
  have := num_hl (R : Int)
  unfold num at this
  simp only at this
  rw [this]
  simp

theorem div10 (R R' D : Nat) (hR : (R : Int) < Big) (h1 : R' = R / 10) (h2 : D = R % 10) (w : World) :
    Calls Try.prog 41 #[.agg #[.int .u64 (hiW R), .int .u64 (loW R)], .int .u64 10] w fun e w' => e = .returned (.tuple #[WV (hiW R') (loW R'), .int .u64 D]) ∧ Below w.heap.size w w' := by
  subst h1 h2
  refine (divide_any (hiW R) (loW R) 10 (hiW_wd (by omega) hR) (loW_wd _) (by unfold Wd; omega) (by omega) w).mono ?_
  rintro e w' ⟨rfl, hb⟩
  refine ⟨?_, hb⟩
  rw [num_hl]
  simp

set_option maxRecDepth 100000 in
set_option maxHeartbeats 1000000 in
theorem digits1_in (n : Nat) (hn : 1 ≤ n) (bx N : Nat) (hN : (N : Int) < Big) (w : World) (hbx : Blk w bx #[.int .u64 (hiW N), .int .u64 (loW N)] 26) :
    SeqB Fence.wide n Try.prog 60 #[.pointer (some ⟨bx, 0, none⟩)] (fun x : Fin 10 => #[.int .u8 (x.val : Int)]) (fun xs => xs = digs N) (fun _ => True) 39 w := by
  intro l J Jx W hb hJ hJx hY h0
  refine callsIn_of_wp Try.func60 rfl trivial ?_ rfl
  simp only [Try.ntmps60, List.size_toArray, List.length_cons, List.length_nil, Nat.reduceAdd, Nat.reduceSub, Array.replicate_succ, Array.replicate_zero, List.push_toArray, List.append_toArray, List.nil_append, List.cons_append]
  have hW := hbx.later hb
  have c0 := hW.cell 0
  have c1 := hW.cell 1
  simp only [List.getElem?_toArray, List.getElem?_cons_zero, List.getElem?_cons_succ] at c0 c1
  obtain ⟨N1, hN1⟩ : ∃ q, q = N / 10 := ⟨_, rfl⟩
  obtain ⟨N0, hN0⟩ : ∃ q, q = N % 10 := ⟨_, rfl⟩
  have HN1 := Lib.hid hN1; clear hN1
  have HN0 := Lib.hid hN0; clear hN0
  gi_wp2_with fail
  refine ⟨trivial, (callsIn_wide.2 (div10 N N1 N0 hN HN1.out HN0.out _)).mono ?_⟩
  rintro e w1 ⟨rfl, hb1⟩
  have hsz1 : W.heap.size ≤ w1.heap.size := hb1.size
  have h01 : J [] w1 := hJ _ _ _ h0 hb1
  clear c0 c1
  gi_wp2_with fail
  gi_loopw [4] (fun d wr => ∃ (pre : List (Fin 10)) (R D : Nat), d = .int .u64 (D : Int) ∧ D < 10 ∧ (R : Int) < Big ∧ Blk wr w1.heap.size #[.int .u64 (hiW R), .int .u64 (loW R)] 26 ∧ J pre wr ∧ W.heap.size ≤ wr.heap.size ∧ pre ++ digs (R * 10 + D) = digs N) (fun _ wr => restOf wr w1.heap.size)
  case atStart =>
    have e1 := HN1.out
    have e0 := HN0.out
    refine ⟨[], N1, N0, rfl, by omega, by omega, Blk.new _ _ _, hJ _ _ _ h01 ((Below.refl _ _).alloc hsz1 _), by simp; omega, ?_⟩
    simp only [List.nil_append]
    congr 1; omega
  case round =>
    obtain ⟨pre, R, D, rfl, hD, hR, hc, hJp, hsz, hpre⟩ := hrel
    have hlen : pre.length < 39 := by
      have h1 := digs_length 38 N (by unfold Big at hN; omega)
      rw [← hpre, List.length_append] at h1
      have h2 : 1 ≤ (digs (R * 10 + D)).length := by rw [digs]; simp
      omega
    obtain ⟨fn, tmps, assign, body, hy, hRd⟩ := hY pre ⟨D, hD⟩ wr hJp hlen hsz
    dsimp only at hy
    have HPRE := Lib.hid hpre; clear hpre
    have hcv : IntKind.u8.wrap (D : Int) = (D : Int) := by rw [IntKind.wrap_u8]; omega
    gi_wp2_with fail
    refine hRd.mono ?_
    rintro e W3 (⟨rfl, hJ3, ha3⟩ | ⟨rfl, hJ3, ha3⟩)
    · have hc3 : Blk W3 w1.heap.size #[.int .u64 (hiW R), .int .u64 (loW R)] 26 := (ha3.same _ hsz1 hc.lt).trans hc
      have c0 := hc3.cell 0
      have c1 := hc3.cell 1
      have f0 := hc3.frozen 0
      have f1 := hc3.frozen 1
      simp only [List.getElem?_toArray, List.getElem?_cons_zero, List.getElem?_cons_succ] at c0 c1
      have hsz3 : W.heap.size ≤ W3.heap.size := Nat.le_trans hsz ha3.size
      have hne : ∀ w, (binOp .neq 26 (.agg #[.int .u64 (hiW R), .int .u64 (loW R)]) (.agg #[.int .u64 0, .int .u64 0])).run Try.prog w = .ok (.bool (decide (R ≠ 0))) w := fun w => by
        have e := neq_wide (hiW R) (loW R) (hiW 0) (loW 0) w
        rw [sameW_num (by omega) (by omega)] at e
        rw [show (.agg #[.int .u64 0, .int .u64 0] : Value) = .agg #[.int .u64 (hiW 0), .int .u64 (loW 0)] from rfl, e]
        simp
      by_cases h0R : R = 0
      · rw [decide_eq_false (by simpa using h0R)] at hne
        have H0 := Lib.hid h0R; clear h0R
        gi_wp2_with fail
        have h0R := H0.out
        go_end0
        refine ⟨⟨_, rfl⟩, .inl ⟨_, ?_, hJ3⟩⟩
        have := HPRE.out
        rw [h0R, digs_last (by omega)] at this
        rw [← this]
        congr 2
        simp
        omega
      · rw [decide_eq_true (by simpa using h0R)] at hne
        obtain ⟨R1, hR1⟩ : ∃ q, q = R / 10 := ⟨_, rfl⟩
        obtain ⟨R0, hR0⟩ : ∃ q, q = R % 10 := ⟨_, rfl⟩
        have HR1 := Lib.hid hR1; clear hR1
        have HR0 := Lib.hid hR0; clear hR0
        gi_wp2_with fail
        refine ⟨trivial, (callsIn_wide.2 (div10 R R1 R0 hR HR1.out HR0.out _)).mono ?_⟩
        rintro e w4 ⟨rfl, hb4⟩
        have hc4 := hc3.later hb4
        have c0 := hc4.cell 0
        have c1 := hc4.cell 1
        have f0 := hc4.frozen 0
        have f1 := hc4.frozen 1
        simp only [List.getElem?_toArray, List.getElem?_cons_zero, List.getElem?_cons_succ] at c0 c1
        gi_wp2_with fail
        have hbl4 : Below W.heap.size W3 ((w4.setCell ⟨w1.heap.size, 0, none⟩ (.int .u64 (hiW R1))).setCell ⟨w1.heap.size, 1, none⟩ (.int .u64 (loW R1))) := ((hb4.mono hsz3).setCell hsz1 _).setCell hsz1 _
        have hc5 : Blk ((w4.setCell ⟨w1.heap.size, 0, none⟩ (.int .u64 (hiW R1))).setCell ⟨w1.heap.size, 1, none⟩ (.int .u64 (loW R1))) w1.heap.size #[.int .u64 (hiW R1), .int .u64 (loW R1)] 26 := (hc4.set 0 _).set 1 _
        go_roundw
        case rel =>
          have e1 := HR1.out
          have e0 := HR0.out
          refine ⟨pre ++ [⟨D, hD⟩], R1, R0, rfl, by omega, by omega, hc5, hJ _ _ _ hJ3 hbl4, Nat.le_trans hsz3 hbl4.size, ?_⟩
          rw [← HPRE.out, digs_more (n := R * 10 + D) (by omega), List.append_assoc, List.singleton_append]
          congr 2
          · congr 1; omega
          · congr 1; omega
        case measure =>
          have e1 := HR1.out
          rw [restOf_eq hc5, restOf_eq hc]; omega
    · gi_wp2_with fail
      go_end0
      exact ⟨⟨_, rfl⟩, .inr ⟨_, trivial, hJ3⟩⟩
end Go.Proofs.Ytfknocgmobddmaa
