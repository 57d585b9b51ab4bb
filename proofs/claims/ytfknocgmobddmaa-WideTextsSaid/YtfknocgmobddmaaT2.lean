import Derived.Test.YtfknocgmobddmaaT1
import Derived.Defers
import Derived.Recover
namespace Go.Proofs.Ytfknocgmobddmaa
open Go.RowKit Go.Proofs.Kit

set_option maxHeartbeats 400000 in
theorem total_nil (w : World) :
    Calls Try.prog 46 #[.slice none 0 0] w fun e w' => Reck (0 < Big) 0 e ∧ Below w.heap.size w w' := by
  go_enter Try.func46, Try.ntmps46
  go_wp2
  go_loopw [5, 6, 7, 8, 9, 12] (fun _ _ _ _ _ i wr => i = .int .i64 0 ∧ wr = (w.alloc (.cells #[.int .u64 0, .int .u64 0] 26)).alloc (.cells #[.int .u64 0, .int .u64 0] 26)) (fun _ _ _ _ _ i _ => 0)
  case atStart => exact ⟨rfl, rfl⟩
  case round =>
    obtain ⟨rfl, rfl⟩ := hrel
    go_wp2
    refine bodyPost_ret (v := WV 0 0) (by simp [results, Try.results46, go_sem]) rfl ⟨?_, ?_⟩
    · exact Reck.ok (c := 0 < Big) (S := 0) (by decide)
    · exact ((Below.refl _ _).alloc (Nat.le_refl _) _).alloc (by simp) _

theorem diff_lo {a b c d : Int} : (b - d) % 18446744073709551616 = loW (num (a, b) - num (c, d)) := by unfold loW num; omega
def bor (x y : Int) : Int := if x < y then 1 else 0
theorem bor_01 (x y : Int) : 0 ≤ bor x y ∧ bor x y ≤ 1 := by unfold bor; split <;> omega
theorem diff_hi {a b c d : Int} (ha : Wd a) (hb : Wd b) (hc : Wd c) (hd : Wd d) (h : num (c, d) ≤ num (a, b)) : (a - c - bor b d) % 18446744073709551616 = hiW (num (a, b) - num (c, d)) := by
  obtain ⟨_, _⟩ := ha; obtain ⟨_, _⟩ := hb; obtain ⟨_, _⟩ := hc; obtain ⟨_, _⟩ := hd; unfold hiW num bor at *; simp only at *; split <;> omega
theorem diff_below {a b c d : Int} (ha : Wd a) (hb : Wd b) (hc : Wd c) (hd : Wd d) : bor a (c + bor b d) = if num (c, d) ≤ num (a, b) then 0 else 1 := by
  obtain ⟨_, _⟩ := ha; obtain ⟨_, _⟩ := hb; obtain ⟨_, _⟩ := hc; obtain ⟨_, _⟩ := hd; unfold num bor at *; simp only at *; split <;> split <;> split <;> omega
theorem sub64_b (x y b : Int) (hx : 0 ≤ x) (hy : 0 ≤ y) (hy' : y < 18446744073709551616) (hb0 : 0 ≤ b) (hb : b ≤ 1) (w : World) : (callFunc 54 #[.int .u64 x, .int .u64 y, .int .u64 b]).run Try.prog w =
    .ok (.value (.tuple #[.int .u64 ((x - y - b) % 18446744073709551616), .int .u64 (bor x (y + b))])) w := sub64 x y b hx hy hy' hb0 hb w
theorem sub64_b0 (x y : Int) (hx : 0 ≤ x) (hy : 0 ≤ y) (hy' : y < 18446744073709551616) (w : World) : (callFunc 54 #[.int .u64 x, .int .u64 y, .int .u64 0]).run Try.prog w =
    .ok (.value (.tuple #[.int .u64 ((x - y) % 18446744073709551616), .int .u64 (bor x y)])) w := sub64_0 x y hx hy hy' w

set_option maxHeartbeats 1000000 in
theorem diff_any (a b c d : Int) (ha : Wd a) (hb : Wd b) (hc : Wd c) (hd : Wd d) (w : World) :
    Calls Try.prog 35 #[WV a b, WV c d] w fun e w' => Reck (num (c, d) ≤ num (a, b)) (num (a, b) - num (c, d)) e ∧ Below w.heap.size w w' := by
  obtain ⟨k0, k1⟩ := bor_01 b d
  have hlo := @diff_lo a b c d
  have hbl := diff_below ha hb hc hd
  have Hhi := fun h => diff_hi ha hb hc hd h
  have HHI := Lib.hid Hhi; clear Hhi
  obtain ⟨a0, a1⟩ := ha; obtain ⟨b0, b1⟩ := hb; obtain ⟨c0, c1⟩ := hc; obtain ⟨d0, d1⟩ := hd
  have HLO := Lib.hid hlo; clear hlo
  by_cases h : num (c, d) ≤ num (a, b)
  · rw [if_pos h] at hbl
    have hne : (bor a (c + bor b d) != 0) = false := by rw [hbl]; rfl
    clear hbl
    go_enter Try.func35, Try.ntmps35
    go_wp2_with (first | simp only [sub64_b0 b d b0 d0 d1] | simp only [sub64_b a c _ a0 c0 c1 k0 k1])
    refine bodyPost_ret (v := WV (hiW (num (a, b) - num (c, d))) (loW (num (a, b) - num (c, d)))) ?_ rfl ⟨Reck.ok h, ?_⟩
    · simp [results, Try.results35, go_sem]
      exact ⟨HHI.out h, HLO.out⟩
    · exact (((Below.refl _ _).alloc (Nat.le_refl _) _).alloc (by simp) _).alloc (by simp; omega) _
  · rw [if_neg h] at hbl
    have hne : (bor a (c + bor b d) != 0) = true := by rw [hbl]; rfl
    clear hbl
    go_enter Try.func35, Try.ntmps35
    go_wp2_with (first | simp only [sub64_b0 b d b0 d0 d1] | simp only [sub64_b a c _ a0 c0 c1 k0 k1])
    refine bodyPost_panic rfl ⟨Reck.no (by omega), ?_⟩
    exact (((Below.refl _ _).alloc (Nat.le_refl _) _).alloc (by simp) _).alloc (by simp; omega) _

set_option maxRecDepth 100000 in
set_option maxHeartbeats 400000 in
theorem catch_panicking (b : Nat) (x : Int) (older : List PanicEntry) (w : World) (hc : Blk w b #[.int .i64 x] 31) :
    CallsD Try.prog 53 #[.pointer (some ⟨b, 0, none⟩)] (.panicking ({ v := .iface 79 (.agg #[]), recovered := false } :: older)) w fun e u' w' =>
      e = .returned (.tuple #[]) ∧ u' = .panicking ({ v := .iface 79 (.agg #[]), recovered := true } :: older) ∧ w' = (w.setCell ⟨b, 0, none⟩ (.int .i64 110)).alloc (.cells #[] 79) := by
  have hlt := hc.lt
  have c0 := hc.cell 0
  have f0 := hc.frozen 0
  simp only [List.getElem?_toArray, List.getElem?_cons_zero] at c0
  refine callsD_of_wpS Try.func53 rfl fun c₀ cs hu => ?_
  simp only [Try.ntmps53, List.size_toArray, List.length_cons, List.length_nil, Nat.reduceAdd, Nat.reduceSub, Array.replicate_succ, Array.replicate_zero, List.push_toArray, List.append_toArray, List.nil_append, List.cons_append]
  apply wpS_seq
  apply wpS_region
  simp [wpOpsS, go_sem, recoverD, hu, Exit.thenS]
  refine wpS_of_wp ?_
  clear hu
  have hta : ∀ w, (Instr.typeAssert (.iface 79 (.agg #[])) 20 79 true).run Try.prog w = .ok (.tuple #[.agg #[], .bool true]) w := fun _ => by kernel_rfl
  go_wp2
  exact ⟨rfl, _, rfl, .tuple #[], by simp [results, Try.results53], rfl, rfl, rfl⟩

set_option maxHeartbeats 400000 in
theorem catch_idle (p : Addr) (w : World) :
    CallsD Try.prog 53 #[.pointer (some p)] .returning w fun e u' w' => e = .returned (.tuple #[]) ∧ u' = .returning ∧ w' = w := by
  refine callsD_of_wpS Try.func53 rfl fun c₀ cs hu => ?_
  simp only [Try.ntmps53, List.size_toArray, List.length_cons, List.length_nil, Nat.reduceAdd, Nat.reduceSub, Array.replicate_succ, Array.replicate_zero, List.push_toArray, List.append_toArray, List.nil_append, List.cons_append]
  apply wpS_seq
  apply wpS_region
  simp [wpOpsS, go_sem, recoverD, hu, Exit.thenS]
  refine wpS_of_wp ?_
  go_wp2
  exact ⟨rfl, .returning, by cases c₀; simp_all, .tuple #[], by simp [results, Try.results53], rfl, rfl, rfl⟩

/-- What checked answers. -/
def Chk (c : Prop) (S : Int) (e : Ending) : Prop := (c → e = .returned (.tuple #[WV (hiW S) (loW S), .int .i64 0])) ∧ (¬ c → e = .returned (.tuple #[WV 0 0, .int .i64 110]))

set_option maxHeartbeats 1000000 in
theorem checked_any (c : Prop) (S : Int) (f : FuncId) (cap : Array Value) (w : World) (hent : ∀ args w, (callFunc f args).run Try.prog w = .ok (.enter f args) w)
    (hf : Calls Try.prog f cap ((w.alloc (.cells #[.int .u64 0, .int .u64 0] 26)).alloc (.cells #[.int .i64 0] 31)) fun e w' => Reck c S e ∧ Below (w.heap.size + 2) ((w.alloc (.cells #[.int .u64 0, .int .u64 0] 26)).alloc (.cells #[.int .i64 0] 31)) w') :
    Calls Try.prog 33 #[.func (.func f) #[] cap] w fun e w' => Chk c S e ∧ Below w.heap.size w w' := by
  have hmf : ∀ (fn : Fn) (first cap : Array Value) (w : World), (Instr.makeFunc fn first cap).run Try.prog w = .ok (.func fn first cap) w := fun _ _ _ _ => rfl
  have HF := Lib.hid hf; clear hf
  by_cases hc : c
  · go_enter_defers Try.func33, Try.ntmps33
    go_wp2_with fail
    refine HF.out.mono ?_
    rintro e w' ⟨hr, hb⟩
    obtain rfl := hr.1 hc
    have b0 : Blk w' w.heap.size #[.int .u64 0, .int .u64 0] 26 := ((Blk.new _ _ _).alloc _).below hb (by omega)
    have b1 : Blk w' (w.heap.size + 1) #[.int .i64 0] 31 := Blk.below (by simpa using Blk.new (w.alloc (.cells #[.int .u64 0, .int .u64 0] 26)) #[.int .i64 0] 31) hb (by omega)
    have c0 := b0.cell 0
    have c1 := b0.cell 1
    have f0 := b0.frozen 0
    have f1 := b0.frozen 1
    have d0 := b1.cell 0
    have g0 := b1.frozen 0
    simp only [List.getElem?_toArray, List.getElem?_cons_zero, List.getElem?_cons_succ] at c0 c1 d0
    go_wp2_with fail
    have B0 := (((b0.set 0 (.int .u64 (hiW S))).set 1 (.int .u64 (loW S))).other (p := ⟨w.heap.size + 1, 0, none⟩) (by simp) (.int .i64 0))
    have B1 := (((b1.other (p := ⟨w.heap.size, 0, none⟩) (by simp) (.int .u64 (hiW S))).other (p := ⟨w.heap.size, 1, none⟩) (by simp) (.int .u64 (loW S))).set 0 (.int .i64 0))
    refine leaves_cons (f := 53) (args := #[.pointer (some ⟨w.heap.size + 1, 0, none⟩)]) (by simp) (by simp [go_sem]) ?_
    refine (catch_idle _ _).mono ?_
    rintro e u' w'' ⟨rfl, rfl, rfl⟩
    have C0 := B0.cell 0
    have C1 := B0.cell 1
    have D0 := B1.cell 0
    simp at C0 C1 D0
    refine ⟨.tuple #[WV (hiW S) (loW S), .int .i64 0], by simp [results, Try.results33, go_sem, C0, C1, D0], ⟨fun _ => rfl, fun n => absurd hc n⟩, ?_⟩
    exact ((((((Below.refl _ _).alloc (Nat.le_refl _) _).alloc (by simp) _).trans (hb.mono (by omega))).setCell (by simp) _).setCell (by simp) _).setCell (by simp) _
  · go_enter_defers Try.func33, Try.ntmps33
    go_wp2_with fail
    refine HF.out.mono ?_
    rintro e w' ⟨hr, hb⟩
    obtain rfl := hr.2 hc
    have b0 : Blk w' w.heap.size #[.int .u64 0, .int .u64 0] 26 := ((Blk.new _ _ _).alloc _).below hb (by omega)
    have b1 : Blk w' (w.heap.size + 1) #[.int .i64 0] 31 := Blk.below (by simpa using Blk.new (w.alloc (.cells #[.int .u64 0, .int .u64 0] 26)) #[.int .i64 0] 31) hb (by omega)
    refine leaves_cons (f := 53) (args := #[.pointer (some ⟨w.heap.size + 1, 0, none⟩)]) (by simp) (by simp [go_sem]) ?_
    refine (catch_panicking _ _ _ _ b1).mono ?_
    rintro e u' w'' ⟨rfl, rfl, rfl⟩
    have B0 := (b0.other (p := ⟨w.heap.size + 1, 0, none⟩) (by simp) (.int .i64 110)).alloc (.cells #[] 79)
    have B1 := (b1.set 0 (.int .i64 110)).alloc (.cells #[] 79)
    have C0 := B0.cell 0
    have C1 := B0.cell 1
    have D0 := B1.cell 0
    simp at C0 C1 D0
    refine ⟨.tuple #[WV 0 0, .int .i64 110], by simp [results, Try.results33, go_sem, C0, C1, D0], ⟨fun n => absurd n hc, fun _ => rfl⟩, ?_⟩
    exact (((((Below.refl _ _).alloc (Nat.le_refl _) _).alloc (by simp) _).trans (hb.mono (by omega))).setCell (by simp) _).alloc (by have := b1.lt; simp; omega) _
end Go.Proofs.Ytfknocgmobddmaa
