import Derived.Test.YtmghbejbdkoehaaMi
import Derived.Defers
import Derived.Recover
import Derived.RegionTactic
import Derived.ChangeAlike
/- What is read: a step's fault is turned into its error. -/
namespace Go.Proofs.Ytmghbejbdkoehaa
open Go.RowKit Go.Proofs.Kit Go.Shelf

set_option maxRecDepth 100000 in
set_option maxHeartbeats 400000 in
theorem catchn_panicking (b : Nat) (x c : Int) (older : List PanicEntry) (w : World) (hc : Blk w b #[.int .i64 x] 32) :
    CallsD Try.prog 90 #[.pointer (some ⟨b, 0, none⟩)] (.panicking ({ v := .iface 141 (.int .i64 c), recovered := false } :: older)) w fun e u' w' =>
      e = .returned (.tuple #[]) ∧ u' = .panicking ({ v := .iface 141 (.int .i64 c), recovered := true } :: older) ∧ w' = w.setCell ⟨b, 0, none⟩ (.int .i64 c) := by
  have hlt := hc.lt
  have c0 := hc.cell 0
  have f0 := hc.frozen 0
  simp only [List.getElem?_toArray, List.getElem?_cons_zero] at c0
  refine callsD_of_wpS Try.func90 rfl fun c₀ cs hu => ?_
  simp only [Try.ntmps90, List.size_toArray, List.length_cons, List.length_nil, Nat.reduceAdd, Nat.reduceSub, Array.replicate_succ, Array.replicate_zero, List.push_toArray, List.append_toArray, List.nil_append, List.cons_append]
  apply wpS_seq
  apply wpS_region
  simp [wpOpsS, go_sem, recoverD, hu, Exit.thenS]
  refine wpS_of_wp ?_
  clear hu
  have hta : ∀ w, (Instr.typeAssert (.iface 141 (.int .i64 c)) 20 141 true).run Try.prog w = .ok (.tuple #[.int .i64 c, .bool true]) w := fun _ => by kernel_rfl
  go_wp2
  exact ⟨rfl, _, rfl, .tuple #[], by simp [results, Try.results90], rfl, rfl, rfl⟩

set_option maxHeartbeats 400000 in
theorem catchn_idle (p : Addr) (w : World) :
    CallsD Try.prog 90 #[.pointer (some p)] .returning w fun e u' w' => e = .returned (.tuple #[]) ∧ u' = .returning ∧ w' = w := by
  refine callsD_of_wpS Try.func90 rfl fun c₀ cs hu => ?_
  simp only [Try.ntmps90, List.size_toArray, List.length_cons, List.length_nil, Nat.reduceAdd, Nat.reduceSub, Array.replicate_succ, Array.replicate_zero, List.push_toArray, List.append_toArray, List.nil_append, List.cons_append]
  apply wpS_seq
  apply wpS_region
  simp [wpOpsS, go_sem, recoverD, hu, Exit.thenS]
  refine wpS_of_wp ?_
  go_wp2
  exact ⟨rfl, .returning, by cases c₀; simp_all, .tuple #[], by simp [results, Try.results90], rfl, rfl, rfl⟩
set_option maxRecDepth 100000 in
set_option maxHeartbeats 400000 in
theorem catchs_panicking (b : Nat) (x c : Int) (older : List PanicEntry) (w : World) (hc : Blk w b #[.int .i64 x] 32) :
    CallsD Try.prog 92 #[.pointer (some ⟨b, 0, none⟩)] (.panicking ({ v := .iface 141 (.int .i64 c), recovered := false } :: older)) w fun e u' w' =>
      e = .returned (.tuple #[]) ∧ u' = .panicking ({ v := .iface 141 (.int .i64 c), recovered := true } :: older) ∧ w' = w.setCell ⟨b, 0, none⟩ (.int .i64 c) := by
  have hlt := hc.lt
  have c0 := hc.cell 0
  have f0 := hc.frozen 0
  simp only [List.getElem?_toArray, List.getElem?_cons_zero] at c0
  refine callsD_of_wpS Try.func92 rfl fun c₀ cs hu => ?_
  simp only [Try.ntmps92, List.size_toArray, List.length_cons, List.length_nil, Nat.reduceAdd, Nat.reduceSub, Array.replicate_succ, Array.replicate_zero, List.push_toArray, List.append_toArray, List.nil_append, List.cons_append]
  apply wpS_seq
  apply wpS_region
  simp [wpOpsS, go_sem, recoverD, hu, Exit.thenS]
  refine wpS_of_wp ?_
  clear hu
  have hta : ∀ w, (Instr.typeAssert (.iface 141 (.int .i64 c)) 20 141 true).run Try.prog w = .ok (.tuple #[.int .i64 c, .bool true]) w := fun _ => by kernel_rfl
  go_wp2
  exact ⟨rfl, _, rfl, .tuple #[], by simp [results, Try.results92], rfl, rfl, rfl⟩

set_option maxHeartbeats 400000 in
theorem catchs_idle (p : Addr) (w : World) :
    CallsD Try.prog 92 #[.pointer (some p)] .returning w fun e u' w' => e = .returned (.tuple #[]) ∧ u' = .returning ∧ w' = w := by
  refine callsD_of_wpS Try.func92 rfl fun c₀ cs hu => ?_
  simp only [Try.ntmps92, List.size_toArray, List.length_cons, List.length_nil, Nat.reduceAdd, Nat.reduceSub, Array.replicate_succ, Array.replicate_zero, List.push_toArray, List.append_toArray, List.nil_append, List.cons_append]
  apply wpS_seq
  apply wpS_region
  simp [wpOpsS, go_sem, recoverD, hu, Exit.thenS]
  refine wpS_of_wp ?_
  go_wp2
  exact ⟨rfl, .returning, by cases c₀; simp_all, .tuple #[], by simp [results, Try.results92], rfl, rfl, rfl⟩
open Go.RowKit Go.Proofs.Kit Go.Shelf

/-- What is told of what was read. -/
def Told {α : Type} (r : Nat) (w : World) (R : Except Int (α × Nat)) (Z : Value) (G : α → Value → World → Prop) (e : Ending) (w' : World) : Prop :=
  But r w w' ∧ ((∃ x q v, R = .ok (x, q) ∧ e = .returned (.tuple #[v, .int .i64 ((q : Nat) : Int), .int .i64 0]) ∧ G x v w') ∨ (∃ c, R = .error c ∧ e = .returned (.tuple #[Z, .int .i64 0, .int .i64 c])))

set_option maxRecDepth 100000 in
set_option maxHeartbeats 2000000 in
theorem taken_any {α : Type} (f : FuncId) (r p : Nat) (bv : Value) (bs : List Int) (R : Except Int (α × Nat)) (G : α → Value → World → Prop) (w : World)
    (hent : ∀ args w, (callFunc f args).run Try.prog w = .ok (.enter f args) w) (h : Rdr w r bv bs p) (hG : ∀ x v X X', G x v X → But w.heap.size X X' → G x v X')
    (hf : ∀ nq, Calls Try.prog f #[.pointer (some ⟨r, 0, none⟩)] ((w.alloc (.cells #[.int .i64 0] 32)).drewN nq) (Stp r bv bs ((w.alloc (.cells #[.int .i64 0] 32)).drewN nq) R G)) :
    Calls Try.prog 83 #[.pointer (some ⟨r, 0, none⟩), .func (.func f) #[.pointer (some ⟨r, 0, none⟩)] #[]] w (Told r w R (.int .u64 0) G) := by
  have hmf : ∀ (fn : Fn) (first cap : Array Value) (w : World), (Instr.makeFunc fn first cap).run Try.prog w = .ok (.func fn first cap) w := fun _ _ _ _ => rfl
  have HF := Lib.hid hf
  have HG := Lib.hid hG
  have HE := Lib.hid hent
  have hle := h.le
  have hbd := h.bd
  have hlt := h.blk.lt
  have HR := Lib.hid h
  obtain ⟨o, c, rfl, hc, hm, _⟩ := h.seg.shape
  have k0 := h.blk.cell 0
  have k1 := h.blk.cell 1
  simp only [List.getElem?_toArray, List.getElem?_cons_zero, List.getElem?_cons_succ] at k0 k1
  obtain ⟨n, hn⟩ : ∃ n, n = bs.length := ⟨_, rfl⟩
  rw [← hn] at hle hbd hc k0
  have HN := Lib.hid hn
  clear hf hG h hn hent
  go_enter_defers Try.func83, Try.ntmps83
  go_wp2_with fail
  have d1 : decide ((p : Int) < 0) = false := by simp
  have d2 : decide ((n : Int) < (p : Int)) = false := by simp; omega
  go_quiet (fail)
  have hent := HE.out
  go_wp2_with fail
  have hrw : w.heap.size ≠ r := by omega
  have bE : Blk ((w.alloc (.cells #[.int .i64 0] 32)).drewN nq) w.heap.size #[.int .i64 0] 32 := Blk.new _ _ _
  have hB0 : But r w ((w.alloc (.cells #[.int .i64 0] 32)).drewN nq) := ((But.refl r w).alloc _).drewN nq
  clear k0 k1
  refine (HF.out nq).mono ?_
  rintro e w1 ⟨hB1, ⟨x, q, v, hr, rfl, hGx, hR1⟩ | ⟨cc, hr, rfl⟩⟩
  · have bE1 := hB1.blk bE hrw
    have e0 := bE1.cell 0
    have f0 := bE1.frozen 0
    have k1 := hR1.blk.cell 1
    simp only [List.getElem?_toArray, List.getElem?_cons_zero, List.getElem?_cons_succ] at e0 k1
    have hltE := bE1.lt
    have hltR := hR1.blk.lt
    have HRR := Lib.hid hr
    clear hr
    go_wp2_with fail
    go_region
    go_wp2_with fail
    have D0 := (bE1.set 0 (.int .i64 0)).drew.cell 0
    simp at D0
    refine leaves_cons (f := 90) (args := #[.pointer (some ⟨w.heap.size, 0, none⟩)]) (by simp) (by simp [go_sem]) ?_
    refine (catchn_idle _ _).mono ?_
    rintro e u' w'' ⟨rfl, rfl, rfl⟩
    refine ⟨.tuple #[v, .int .i64 (q : Int), .int .i64 0], by simp [results, Try.results83, go_sem, D0], ((hB0.trans hB1).low ((Below.refl w.heap.size _).setCell (Nat.le_refl _) _) (Nat.le_refl _)).drew, .inl ⟨x, q, v, HRR.out, rfl, HG.out _ _ _ _ hGx ((But.refl _ _).set 0 _).drew⟩⟩
  · have bE1 := hB1.blk bE hrw
    refine leaves_cons (f := 90) (args := #[.pointer (some ⟨w.heap.size, 0, none⟩)]) (by simp) (by simp [go_sem]) ?_
    refine (catchn_panicking _ _ _ _ _ bE1).mono ?_
    rintro e u' w'' ⟨rfl, rfl, rfl⟩
    have D0 := (bE1.set 0 (.int .i64 cc)).cell 0
    simp at D0
    refine ⟨.tuple #[.int .u64 0, .int .i64 0, .int .i64 cc], by simp [results, Try.results83, go_sem, D0], (hB0.trans hB1).low ((Below.refl w.heap.size _).setCell (Nat.le_refl _) _) (Nat.le_refl _), .inr ⟨cc, hr, rfl⟩⟩

set_option maxRecDepth 100000 in
set_option maxHeartbeats 1000000 in
theorem taken_arg (f : FuncId) (r n c : Nat) (a : Int) (o : Option Addr) (w : World) (h : Blk w r #[.slice o n c, .int .i64 a] 132) (ha : a < 0 ∨ (n : Int) < a) :
    Calls Try.prog 83 #[.pointer (some ⟨r, 0, none⟩), .func (.func f) #[.pointer (some ⟨r, 0, none⟩)] #[]] w fun e w' => e = .returned (.tuple #[.int .u64 0, .int .i64 0, .int .i64 2]) ∧ But r w w' := by
  have hmf : ∀ (fn : Fn) (first cap : Array Value) (w : World), (Instr.makeFunc fn first cap).run Try.prog w = .ok (.func fn first cap) w := fun _ _ _ _ => rfl
  have hlt := h.lt
  have k0 := h.cell 0
  have k1 := h.cell 1
  simp only [List.getElem?_toArray, List.getElem?_cons_zero, List.getElem?_cons_succ] at k0 k1
  by_cases ha0 : a < 0
  · go_enter_defers Try.func83, Try.ntmps83
    go_wp2_with fail
    have d1 : decide (a < 0) = true := by simpa using ha0
    go_quiet (fail)
    go_wp2_with fail
    have bE : Blk ((w.alloc (.cells #[.int .i64 0] 32)).drewN nq) w.heap.size #[.int .i64 0] 32 := Blk.new _ _ _
    have hB0 : But r w ((w.alloc (.cells #[.int .i64 0] 32)).drewN nq) := ((But.refl r w).alloc _).drewN nq
    refine leaves_cons (f := 90) (args := #[.pointer (some ⟨w.heap.size, 0, none⟩)]) (by simp) (by simp [go_sem]) ?_
    refine (catchn_panicking _ _ _ _ _ bE).mono ?_
    rintro e u' w'' ⟨rfl, rfl, rfl⟩
    have D0 := (bE.set 0 (.int .i64 2)).cell 0
    simp at D0
    exact ⟨.tuple #[.int .u64 0, .int .i64 0, .int .i64 2], by simp [results, Try.results83, go_sem, D0], rfl, hB0.low ((Below.refl w.heap.size _).setCell (Nat.le_refl _) _) (Nat.le_refl _)⟩
  · have ha1 : (n : Int) < a := by omega
    clear ha
    go_enter_defers Try.func83, Try.ntmps83
    go_wp2_with fail
    have d1 : decide (a < 0) = false := by simpa using ha0
    have d2 : decide ((n : Int) < a) = true := by simpa using ha1
    go_quiet (fail)
    go_wp2_with fail
    have bE : Blk ((w.alloc (.cells #[.int .i64 0] 32)).drewN nq) w.heap.size #[.int .i64 0] 32 := Blk.new _ _ _
    have hB0 : But r w ((w.alloc (.cells #[.int .i64 0] 32)).drewN nq) := ((But.refl r w).alloc _).drewN nq
    refine leaves_cons (f := 90) (args := #[.pointer (some ⟨w.heap.size, 0, none⟩)]) (by simp) (by simp [go_sem]) ?_
    refine (catchn_panicking _ _ _ _ _ bE).mono ?_
    rintro e u' w'' ⟨rfl, rfl, rfl⟩
    have D0 := (bE.set 0 (.int .i64 2)).cell 0
    simp at D0
    exact ⟨.tuple #[.int .u64 0, .int .i64 0, .int .i64 2], by simp [results, Try.results83, go_sem, D0], rfl, hB0.low ((Below.refl w.heap.size _).setCell (Nat.le_refl _) _) (Nat.le_refl _)⟩
set_option maxRecDepth 100000 in
set_option maxHeartbeats 2000000 in
theorem takes_any {α : Type} (f : FuncId) (r p : Nat) (bv : Value) (bs : List Int) (R : Except Int (α × Nat)) (G : α → Value → World → Prop) (w : World)
    (hent : ∀ args w, (callFunc f args).run Try.prog w = .ok (.enter f args) w) (h : Rdr w r bv bs p) (hG : ∀ x v X X', G x v X → But w.heap.size X X' → G x v X')
    (hf : ∀ nq, Calls Try.prog f #[.pointer (some ⟨r, 0, none⟩)] ((w.alloc (.cells #[.int .i64 0] 32)).drewN nq) (Stp r bv bs ((w.alloc (.cells #[.int .i64 0] 32)).drewN nq) R G)) :
    Calls Try.prog 85 #[.pointer (some ⟨r, 0, none⟩), .func (.func f) #[.pointer (some ⟨r, 0, none⟩)] #[]] w (Told r w R (.string ⟨#[]⟩) G) := by
  have hmf : ∀ (fn : Fn) (first cap : Array Value) (w : World), (Instr.makeFunc fn first cap).run Try.prog w = .ok (.func fn first cap) w := fun _ _ _ _ => rfl
  have HF := Lib.hid hf
  have HG := Lib.hid hG
  have HE := Lib.hid hent
  have hle := h.le
  have hbd := h.bd
  have hlt := h.blk.lt
  have HR := Lib.hid h
  obtain ⟨o, c, rfl, hc, hm, _⟩ := h.seg.shape
  have k0 := h.blk.cell 0
  have k1 := h.blk.cell 1
  simp only [List.getElem?_toArray, List.getElem?_cons_zero, List.getElem?_cons_succ] at k0 k1
  obtain ⟨n, hn⟩ : ∃ n, n = bs.length := ⟨_, rfl⟩
  rw [← hn] at hle hbd hc k0
  have HN := Lib.hid hn
  clear hf hG h hn hent
  go_enter_defers Try.func85, Try.ntmps85
  go_wp2_with fail
  have d1 : decide ((p : Int) < 0) = false := by simp
  have d2 : decide ((n : Int) < (p : Int)) = false := by simp; omega
  go_quiet (fail)
  have hent := HE.out
  go_wp2_with fail
  have hrw : w.heap.size ≠ r := by omega
  have bE : Blk ((w.alloc (.cells #[.int .i64 0] 32)).drewN nq) w.heap.size #[.int .i64 0] 32 := Blk.new _ _ _
  have hB0 : But r w ((w.alloc (.cells #[.int .i64 0] 32)).drewN nq) := ((But.refl r w).alloc _).drewN nq
  clear k0 k1
  refine (HF.out nq).mono ?_
  rintro e w1 ⟨hB1, ⟨x, q, v, hr, rfl, hGx, hR1⟩ | ⟨cc, hr, rfl⟩⟩
  · have bE1 := hB1.blk bE hrw
    have e0 := bE1.cell 0
    have f0 := bE1.frozen 0
    have k1 := hR1.blk.cell 1
    simp only [List.getElem?_toArray, List.getElem?_cons_zero, List.getElem?_cons_succ] at e0 k1
    have hltE := bE1.lt
    have hltR := hR1.blk.lt
    have HRR := Lib.hid hr
    clear hr
    go_wp2_with fail
    go_region
    go_wp2_with fail
    have D0 := (bE1.set 0 (.int .i64 0)).drew.cell 0
    simp at D0
    refine leaves_cons (f := 92) (args := #[.pointer (some ⟨w.heap.size, 0, none⟩)]) (by simp) (by simp [go_sem]) ?_
    refine (catchs_idle _ _).mono ?_
    rintro e u' w'' ⟨rfl, rfl, rfl⟩
    refine ⟨.tuple #[v, .int .i64 (q : Int), .int .i64 0], by simp [results, Try.results85, go_sem, D0], ((hB0.trans hB1).low ((Below.refl w.heap.size _).setCell (Nat.le_refl _) _) (Nat.le_refl _)).drew, .inl ⟨x, q, v, HRR.out, rfl, HG.out _ _ _ _ hGx ((But.refl _ _).set 0 _).drew⟩⟩
  · have bE1 := hB1.blk bE hrw
    refine leaves_cons (f := 92) (args := #[.pointer (some ⟨w.heap.size, 0, none⟩)]) (by simp) (by simp [go_sem]) ?_
    refine (catchs_panicking _ _ _ _ _ bE1).mono ?_
    rintro e u' w'' ⟨rfl, rfl, rfl⟩
    have D0 := (bE1.set 0 (.int .i64 cc)).cell 0
    simp at D0
    refine ⟨.tuple #[.string ⟨#[]⟩, .int .i64 0, .int .i64 cc], by simp [results, Try.results85, go_sem, D0], (hB0.trans hB1).low ((Below.refl w.heap.size _).setCell (Nat.le_refl _) _) (Nat.le_refl _), .inr ⟨cc, hr, rfl⟩⟩

set_option maxRecDepth 100000 in
set_option maxHeartbeats 1000000 in
theorem takes_arg (f : FuncId) (r n c : Nat) (a : Int) (o : Option Addr) (w : World) (h : Blk w r #[.slice o n c, .int .i64 a] 132) (ha : a < 0 ∨ (n : Int) < a) :
    Calls Try.prog 85 #[.pointer (some ⟨r, 0, none⟩), .func (.func f) #[.pointer (some ⟨r, 0, none⟩)] #[]] w fun e w' => e = .returned (.tuple #[.string ⟨#[]⟩, .int .i64 0, .int .i64 2]) ∧ But r w w' := by
  have hmf : ∀ (fn : Fn) (first cap : Array Value) (w : World), (Instr.makeFunc fn first cap).run Try.prog w = .ok (.func fn first cap) w := fun _ _ _ _ => rfl
  have hlt := h.lt
  have k0 := h.cell 0
  have k1 := h.cell 1
  simp only [List.getElem?_toArray, List.getElem?_cons_zero, List.getElem?_cons_succ] at k0 k1
  by_cases ha0 : a < 0
  · go_enter_defers Try.func85, Try.ntmps85
    go_wp2_with fail
    have d1 : decide (a < 0) = true := by simpa using ha0
    go_quiet (fail)
    go_wp2_with fail
    have bE : Blk ((w.alloc (.cells #[.int .i64 0] 32)).drewN nq) w.heap.size #[.int .i64 0] 32 := Blk.new _ _ _
    have hB0 : But r w ((w.alloc (.cells #[.int .i64 0] 32)).drewN nq) := ((But.refl r w).alloc _).drewN nq
    refine leaves_cons (f := 92) (args := #[.pointer (some ⟨w.heap.size, 0, none⟩)]) (by simp) (by simp [go_sem]) ?_
    refine (catchs_panicking _ _ _ _ _ bE).mono ?_
    rintro e u' w'' ⟨rfl, rfl, rfl⟩
    have D0 := (bE.set 0 (.int .i64 2)).cell 0
    simp at D0
    exact ⟨.tuple #[.string ⟨#[]⟩, .int .i64 0, .int .i64 2], by simp [results, Try.results85, go_sem, D0], rfl, hB0.low ((Below.refl w.heap.size _).setCell (Nat.le_refl _) _) (Nat.le_refl _)⟩
  · have ha1 : (n : Int) < a := by omega
    clear ha
    go_enter_defers Try.func85, Try.ntmps85
    go_wp2_with fail
    have d1 : decide (a < 0) = false := by simpa using ha0
    have d2 : decide ((n : Int) < a) = true := by simpa using ha1
    go_quiet (fail)
    go_wp2_with fail
    have bE : Blk ((w.alloc (.cells #[.int .i64 0] 32)).drewN nq) w.heap.size #[.int .i64 0] 32 := Blk.new _ _ _
    have hB0 : But r w ((w.alloc (.cells #[.int .i64 0] 32)).drewN nq) := ((But.refl r w).alloc _).drewN nq
    refine leaves_cons (f := 92) (args := #[.pointer (some ⟨w.heap.size, 0, none⟩)]) (by simp) (by simp [go_sem]) ?_
    refine (catchs_panicking _ _ _ _ _ bE).mono ?_
    rintro e u' w'' ⟨rfl, rfl, rfl⟩
    have D0 := (bE.set 0 (.int .i64 2)).cell 0
    simp at D0
    exact ⟨.tuple #[.string ⟨#[]⟩, .int .i64 0, .int .i64 2], by simp [results, Try.results85, go_sem, D0], rfl, hB0.low ((Below.refl w.heap.size _).setCell (Nat.le_refl _) _) (Nat.le_refl _)⟩
end Go.Proofs.Ytmghbejbdkoehaa


/- ReadNumber, ReadRow, ReadFrame, ReadText. -/
namespace Go.Proofs.Ytmghbejbdkoehaa
open Go.RowKit Go.Proofs.Kit Go.Shelf

/-- What is read, seen from outside. -/
def Read {α : Type} (w : World) (R : Except Int (α × Nat)) (Z : Value) (G : α → Value → World → Prop) (e : Ending) (w' : World) : Prop :=
  Below w.heap.size w w' ∧ ((∃ x q v, R = .ok (x, q) ∧ e = .returned (.tuple #[v, .int .i64 ((q : Nat) : Int), .int .i64 0]) ∧ G x v w') ∨ (∃ c, R = .error c ∧ e = .returned (.tuple #[Z, .int .i64 0, .int .i64 c])))
theorem Stp.mono {α : Type} {r : Nat} {bv : Value} {bs : List Int} {w : World} {R : Except Int (α × Nat)} {G G' : α → Value → World → Prop} {e : Ending} {w' : World} (h : Stp r bv bs w R G e w') (hG : ∀ x v, G x v w' → G' x v w') : Stp r bv bs w R G' e w' := by
  obtain ⟨h1, ⟨x, p, v, h2, h3, h4, h5⟩ | h2⟩ := h
  · exact ⟨h1, .inl ⟨x, p, v, h2, h3, hG _ _ h4, h5⟩⟩
  · exact ⟨h1, .inr h2⟩
/-- A reader that was laid just now. -/
theorem Rdr.new {w : World} {bv : Value} {bs : List Int} {p : Nat} (hs : Seg .u8 w bv bs) (hb : Byt bs) (hl : bs.length ≤ 1000000000) (hp : p ≤ bs.length) : Rdr (w.alloc (.cells #[bv, .int .i64 (p : Int)] 132)) w.heap.size bv bs p := by
  refine ⟨Blk.new _ _ _, hs.alloc _, hb, fun b hb' => ?_, hp, hl⟩
  rcases hs.2 with ⟨rfl, _⟩ | ⟨b', f, c, rfl, _, _, h4, _⟩
  · simp [Value.ownBlock] at hb'
  · simp [Value.ownBlock] at hb'
    omega

set_option maxRecDepth 100000 in
set_option maxHeartbeats 1000000 in
theorem readn_any (p : Nat) (bv : Value) (bs : List Int) (w : World) (hs : Seg .u8 w bv bs) (hb : Byt bs) (hl : bs.length ≤ 1000000000) (hp : p ≤ bs.length) :
    Calls Try.prog 76 #[bv, .int .i64 (p : Int)] w (Read w (rdN bs p) (.int .u64 0) (fun x v _ => v = .int .u64 x)) := by
  have hmf : ∀ (fn : Fn) (first cap : Array Value) (w : World), (Instr.makeFunc fn first cap).run Try.prog w = .ok (.func fn first cap) w := fun _ _ _ _ => rfl
  have HRN := Lib.hid (Rdr.new hs hb hl hp)
  obtain ⟨o, c, rfl, _, _, _⟩ := hs.shape
  obtain ⟨n, hn⟩ : ∃ n, n = bs.length := ⟨_, rfl⟩
  rw [← hn] at HRN ⊢
  clear hs hb hl hp hn
  go_enter Try.func76, Try.ntmps76
  go_wp2_with fail
  refine (taken_any 84 w.heap.size p _ bs (rdN bs p) (fun x v _ => v = .int .u64 x) _ (enters_of Try.func84 (by kernel_rfl) rfl) HRN.out (fun _ _ _ _ h _ => h) (fun nq => ?_)).mono ?_
  · exact (mnumber_any w.heap.size p _ bs _ (HRN.out.later (below_drN ((Below.refl _ _).alloc (Nat.le_refl _) _) nq))).mono fun e w' h => h.mono fun x v h => h
  · rintro e w1 ⟨hB, ⟨x, q, v, hr, rfl, hG⟩ | ⟨cc, hr, rfl⟩⟩
    · have HRR := Lib.hid hr
      clear hr
      go_wp2
      go_ret3
      have h := hG
      exact ⟨((Below.refl _ _).alloc (Nat.le_refl _) _).trans (hB.below (Nat.le_refl _) (by simp)), .inl ⟨x, q, _, HRR.out, rfl, rfl⟩⟩
    · have HRR := Lib.hid hr
      clear hr
      go_wp2
      go_ret3
      exact ⟨((Below.refl _ _).alloc (Nat.le_refl _) _).trans (hB.below (Nat.le_refl _) (by simp)), .inr ⟨cc, HRR.out, rfl⟩⟩
set_option maxRecDepth 100000 in
set_option maxHeartbeats 1000000 in
theorem readn_arg (a : Int) (bv : Value) (bs : List Int) (w : World) (hs : Seg .u8 w bv bs) (ha : a < 0 ∨ (bs.length : Int) < a) :
    Calls Try.prog 76 #[bv, .int .i64 a] w fun e w' => e = .returned (.tuple #[.int .u64 0, .int .i64 0, .int .i64 2]) ∧ Below w.heap.size w w' := by
  have hmf : ∀ (fn : Fn) (first cap : Array Value) (w : World), (Instr.makeFunc fn first cap).run Try.prog w = .ok (.func fn first cap) w := fun _ _ _ _ => rfl
  obtain ⟨o, c, rfl, _, _, _⟩ := hs.shape
  obtain ⟨n, hn⟩ : ∃ n, n = bs.length := ⟨_, rfl⟩
  rw [← hn] at ha ⊢
  have HAA := Lib.hid ha
  clear hs hn ha
  go_enter Try.func76, Try.ntmps76
  go_wp2_with fail
  refine (taken_arg 84 w.heap.size n c a o _ (Blk.new _ _ _) HAA.out).mono ?_
  rintro e w1 ⟨rfl, hB⟩
  go_wp2
  go_ret3
  exact ⟨rfl, ((Below.refl _ _).alloc (Nat.le_refl _) _).trans (hB.below (Nat.le_refl _) (by simp))⟩
set_option maxRecDepth 100000 in
set_option maxHeartbeats 1000000 in
theorem reads_any (p : Nat) (bv : Value) (bs : List Int) (w : World) (hs : Seg .u8 w bv bs) (hb : Byt bs) (hl : bs.length ≤ 1000000000) (hp : p ≤ bs.length) :
    Calls Try.prog 77 #[bv, .int .i64 (p : Int)] w (Read w (rdCounted 4000 bs p) (.string ⟨#[]⟩) (fun l v _ => v = .string (ofB l))) := by
  have hmf : ∀ (fn : Fn) (first cap : Array Value) (w : World), (Instr.makeFunc fn first cap).run Try.prog w = .ok (.func fn first cap) w := fun _ _ _ _ => rfl
  have HRN := Lib.hid (Rdr.new hs hb hl hp)
  obtain ⟨o, c, rfl, _, _, _⟩ := hs.shape
  obtain ⟨n, hn⟩ : ∃ n, n = bs.length := ⟨_, rfl⟩
  rw [← hn] at HRN ⊢
  clear hs hb hl hp hn
  go_enter Try.func77, Try.ntmps77
  go_wp2_with fail
  refine (takes_any 86 w.heap.size p _ bs (rdCounted 4000 bs p) (fun l v _ => v = .string (ofB l)) _ (enters_of Try.func86 (by kernel_rfl) rfl) HRN.out (fun _ _ _ _ h _ => h) (fun nq => ?_)).mono ?_
  · exact (mtext_any w.heap.size p _ bs _ (HRN.out.later (below_drN ((Below.refl _ _).alloc (Nat.le_refl _) _) nq))).mono fun e w' h => h.mono fun x v h => h
  · rintro e w1 ⟨hB, ⟨x, q, v, hr, rfl, hG⟩ | ⟨cc, hr, rfl⟩⟩
    · have HRR := Lib.hid hr
      clear hr
      go_wp2
      go_ret3
      have h := hG
      exact ⟨((Below.refl _ _).alloc (Nat.le_refl _) _).trans (hB.below (Nat.le_refl _) (by simp)), .inl ⟨x, q, _, HRR.out, rfl, rfl⟩⟩
    · have HRR := Lib.hid hr
      clear hr
      go_wp2
      go_ret3
      exact ⟨((Below.refl _ _).alloc (Nat.le_refl _) _).trans (hB.below (Nat.le_refl _) (by simp)), .inr ⟨cc, HRR.out, rfl⟩⟩
set_option maxRecDepth 100000 in
set_option maxHeartbeats 1000000 in
theorem reads_arg (a : Int) (bv : Value) (bs : List Int) (w : World) (hs : Seg .u8 w bv bs) (ha : a < 0 ∨ (bs.length : Int) < a) :
    Calls Try.prog 77 #[bv, .int .i64 a] w fun e w' => e = .returned (.tuple #[.string ⟨#[]⟩, .int .i64 0, .int .i64 2]) ∧ Below w.heap.size w w' := by
  have hmf : ∀ (fn : Fn) (first cap : Array Value) (w : World), (Instr.makeFunc fn first cap).run Try.prog w = .ok (.func fn first cap) w := fun _ _ _ _ => rfl
  obtain ⟨o, c, rfl, _, _, _⟩ := hs.shape
  obtain ⟨n, hn⟩ : ∃ n, n = bs.length := ⟨_, rfl⟩
  rw [← hn] at ha ⊢
  have HAA := Lib.hid ha
  clear hs hn ha
  go_enter Try.func77, Try.ntmps77
  go_wp2_with fail
  refine (takes_arg 86 w.heap.size n c a o _ (Blk.new _ _ _) HAA.out).mono ?_
  rintro e w1 ⟨rfl, hB⟩
  go_wp2
  go_ret3
  exact ⟨rfl, ((Below.refl _ _).alloc (Nat.le_refl _) _).trans (hB.below (Nat.le_refl _) (by simp))⟩
end Go.Proofs.Ytmghbejbdkoehaa


/- What is written is read again, and what is read is written as it stood there: plain lists. -/
namespace Go.Proofs.Ytmghbejbdkoehaa
open Go.RowKit Go.Proofs.Kit

theorem drop_at {bs x rest : List Int} {p : Nat} (h : bs.drop p = x ++ rest) : bs.drop (p + x.length) = rest := by
  rw [← List.drop_drop, h, List.drop_left]
theorem rdN_at {bs rest : List Int} {p n : Nat} (h : bs.drop p = sept n ++ rest) (hn : n < 18446744073709551616) : rdN bs p = .ok ((n : Int), p + (sept n).length) := by
  unfold rdN
  rw [h, rdNum_sept n 0 0 rest (by omega) (by omega) (by simpa using hn)]
  simp [Except.map]
theorem len_drop (bs : List Int) (p : Nat) : (bs.drop p).length = bs.length - p := List.length_drop
theorem rdCut_at {bs x rest : List Int} {p m : Nat} (h : bs.drop p = x ++ rest) (hm : x.length = m) : rdCut bs p m = .ok (x, p + m) := by
  unfold rdCut
  have hl := len_drop bs p
  rw [h, List.length_append] at hl
  rw [if_neg (by omega), h, ← hm, List.take_left]
theorem rdCounted_at {limit : Nat} {bs x rest : List Int} {p : Nat} (h : bs.drop p = sept x.length ++ (x ++ rest)) (hl : x.length ≤ limit) (hx : x.length < 18446744073709551616) :
    rdCounted limit bs p = .ok (x, p + (sept x.length).length + x.length) := by
  rw [rdN_ok (rdN_at h hx), if_neg (by omega), Int.toNat_natCast, rdCut_at (drop_at h) rfl]
theorem rdFrame_at {bs x rest : List Int} {p : Nat} {s : Int} (h : bs.drop p = sept x.length ++ (x ++ (four s ++ rest))) (hx : x.length ≤ 1048576) (h0 : 0 ≤ s) (h1 : s < 4294967296) :
    rdFrame bs p = if s = sumB x then .ok (x, p + (sept x.length).length + x.length + 4) else .error 122 := by
  have h2 := rdCounted_at (limit := 1048576) h hx (by omega)
  have h3 := drop_at (drop_at h)
  have h4 := rdCut_at h3 (lowB_len 4 s)
  have h5 : rdSum bs (p + (sept x.length).length + x.length) = .ok (s, p + (sept x.length).length + x.length + 4) := by
    unfold rdSum
    rw [h4]
    simp only [Except.map]
    rw [four, valB_low 4 s h0 (by omega)]
  exact rdFrame_ok h2 h5
theorem rdRows_at : ∀ (l : List Int) (bs rest acc : List Int) (p : Nat), (∀ x ∈ l, 0 ≤ x ∧ x < 18446744073709551616) → bs.drop p = rowB l ++ rest → rdRows l.length bs p acc = .ok (acc ++ l, p + (rowB l).length)
  | [], bs, rest, acc, p, _, _ => by simp [rdRows, rowB]
  | x :: t, bs, rest, acc, p, hb, h => by
    have hx := hb x (by simp)
    have e : rowB (x :: t) = sept x.toNat ++ rowB t := by simp [rowB]
    rw [e, List.append_assoc] at h
    have h1 := rdN_at h (by omega)
    rw [List.length_cons, rdRows_ok h1, rdRows_at t bs rest _ _ (fun y hy => hb y (by simp [hy])) (drop_at h), e]
    have : ((x.toNat : Nat) : Int) = x := by omega
    rw [this]
    simp
    omega
theorem rdRow_at {bs l rest : List Int} {p : Nat} (h : bs.drop p = bytesRow l ++ rest) (hb : ∀ x ∈ l, 0 ≤ x ∧ x < 18446744073709551616) (hl : l.length < 18446744073709551616) :
    rdRow bs p = .ok (l, p + (bytesRow l).length) := by
  unfold bytesRow at *
  rw [List.append_assoc] at h
  have h1 := rdN_at h hl
  have h2 := drop_at h
  have hlen := len_drop bs (p + (sept l.length).length)
  rw [h2, List.length_append] at hlen
  have hge : l.length ≤ (rowB l).length := by
    clear h h1 h2 hlen hb hl
    induction l with
    | nil => simp
    | cons x t ih => have := sept_pos x.toNat; simp [rowB] at ih ⊢; omega
  rw [rdRow_ok h1, Int.toNat_natCast, if_neg (by omega), rdRows_at l bs rest [] _ hb h2]
  simp
  omega

/-! ### Back -/
theorem take_join {bs : List Int} {p q s : Nat} (h1 : p ≤ q) (h2 : q ≤ s) : (bs.drop p).take (q - p) ++ (bs.drop q).take (s - q) = (bs.drop p).take (s - p) := by
  have e1 : bs.drop q = (bs.drop p).drop (q - p) := by rw [List.drop_drop]; congr 1; omega
  have e2 : s - p = (q - p) + (s - q) := by omega
  rw [e1, e2, List.take_add]
theorem rdCounted_back {limit : Nat} {bs l : List Int} {p q : Nat} (hb : Byt bs) (h : rdCounted limit bs p = .ok (l, q)) :
    l.length ≤ limit ∧ p < q ∧ q ≤ bs.length ∧ bytesText l = (bs.drop p).take (q - p) ∧ Byt l := by
  have hby := (rdCounted_sub hb h).1
  cases hr : rdN bs p with
  | error c => rw [rdN_err hr] at h; cases h
  | ok y =>
    obtain ⟨n, q1⟩ := y
    obtain ⟨m, rfl, _, g1, g2, g3⟩ := rdN_back hb hr
    rw [rdN_ok hr] at h
    split at h
    · cases h
    · rename_i hlim
      rw [Int.toNat_natCast] at h
      obtain ⟨rfl, rfl, h3⟩ := rdCut_sub h
      have hl : ((bs.drop q1).take m).length = m := by simp; omega
      refine ⟨by omega, by omega, by omega, ?_, hby⟩
      unfold bytesText
      rw [hl, g3]
      have := take_join (bs := bs) (p := p) (q := q1) (s := q1 + m) (by omega) (by omega)
      rw [← this]
      congr 2
      omega
theorem rdFrame_back {bs l : List Int} {p q : Nat} (hb : Byt bs) (h : rdFrame bs p = .ok (l, q)) :
    l.length ≤ 1048576 ∧ p < q ∧ q ≤ bs.length ∧ bytesFrame l = (bs.drop p).take (q - p) ∧ Byt l := by
  cases h1 : rdCounted 1048576 bs p with
  | error c => rw [rdFrame_e1 h1] at h; cases h
  | ok y =>
    obtain ⟨l1, q1⟩ := y
    obtain ⟨g1, g2, g3, g4, g5⟩ := rdCounted_back hb h1
    cases h2 : rdSum bs q1 with
    | error c => rw [rdFrame_e2 h1 h2] at h; cases h
    | ok z =>
      obtain ⟨s, q2⟩ := z
      rw [rdFrame_ok h1 h2] at h
      split at h
      · rename_i hs
        injection h with h; injection h with e1 e2
        subst e1 e2
        unfold rdSum at h2
        cases h3 : rdCut bs q1 4 with
        | error c => rw [h3] at h2; cases h2
        | ok u =>
          obtain ⟨f, q3⟩ := u
          rw [h3] at h2
          simp only [Except.map] at h2
          injection h2 with h2; injection h2 with e1 e2
          subst e2
          obtain ⟨f1, f2, f3⟩ := rdCut_sub h3
          subst f2
          refine ⟨g1, by omega, by omega, ?_, g5⟩
          have hf : four (sumB l1) = f := by
            have hl4 : f.length = 4 := by rw [f1]; simp; omega
            have := low_valB f (by rw [f1]; exact byt_sub hb _ _)
            rw [hl4, e1, hs] at this
            exact this
          unfold bytesFrame
          rw [hf, ← List.append_assoc]
          rw [show sept l1.length ++ l1 = bytesText l1 from rfl, g4, f1]
          have := take_join (bs := bs) (p := p) (q := q1) (s := q1 + 4) (by omega) (by omega)
          rw [← this]
          congr 2
          omega
      · cases h
theorem rdRows_back {bs : List Int} (hb : Byt bs) : ∀ (k : Nat) (acc l : List Int) (p q : Nat), p ≤ bs.length → rdRows k bs p acc = .ok (l, q) →
    ∃ t, l = acc ++ t ∧ t.length = k ∧ (∀ x ∈ t, 0 ≤ x ∧ x < 18446744073709551616) ∧ p ≤ q ∧ q ≤ bs.length ∧ rowB t = (bs.drop p).take (q - p)
  | 0, acc, l, p, q, hp, h => by
    simp only [rdRows] at h
    injection h with h; injection h with e1 e2
    subst e1 e2
    exact ⟨[], by simp, rfl, by simp, by omega, hp, by simp [rowB]⟩
  | k + 1, acc, l, p, q, hp, h => by
    cases hr : rdN bs p with
    | error c => rw [rdRows_e hr] at h; cases h
    | ok y =>
      obtain ⟨n, q1⟩ := y
      obtain ⟨m, rfl, g0, g1, g2, g3⟩ := rdN_back hb hr
      rw [rdRows_ok hr] at h
      obtain ⟨t, t1, t2, t3, t4, t5, t6⟩ := rdRows_back hb k _ l q1 q g2 h
      refine ⟨(m : Int) :: t, by rw [t1]; simp, by simp [t2], ?_, by omega, t5, ?_⟩
      · intro x hx
        rcases List.mem_cons.1 hx with rfl | hx
        · omega
        · exact t3 x hx
      · have e : rowB ((m : Int) :: t) = sept m ++ rowB t := by simp [rowB]
        rw [e, t6, g3]
        exact take_join (by omega) t4
theorem rdRow_back {bs l : List Int} {p q : Nat} (hb : Byt bs) (h : rdRow bs p = .ok (l, q)) :
    l.length ≤ bs.length ∧ (∀ x ∈ l, 0 ≤ x ∧ x < 18446744073709551616) ∧ p < q ∧ q ≤ bs.length ∧ bytesRow l = (bs.drop p).take (q - p) := by
  cases hr : rdN bs p with
  | error c => rw [rdRow_e hr] at h; cases h
  | ok y =>
    obtain ⟨n, q1⟩ := y
    obtain ⟨m, rfl, _, g1, g2, g3⟩ := rdN_back hb hr
    rw [rdRow_ok hr, Int.toNat_natCast] at h
    split at h
    · cases h
    · obtain ⟨t, t1, t2, t3, t4, t5, t6⟩ := rdRows_back hb m [] l q1 q g2 h
      rw [List.nil_append] at t1
      subst t1
      refine ⟨by omega, t3, by omega, t5, ?_⟩
      unfold bytesRow
      rw [t2, g3, t6]
      exact take_join (by omega) t4

/-! ### One byte that is another one -/
theorem sum_step {s t x : Int} (hs0 : 0 ≤ s) (hs : s < 4294967296) (ht0 : 0 ≤ t) (ht : t < 4294967296) (h : (31 * s + x + 1) % 4294967296 = (31 * t + x + 1) % 4294967296) : s = t := by omega
theorem sumF_inj : ∀ (l : List Int) (s t : Int), 0 ≤ s → s < 4294967296 → 0 ≤ t → t < 4294967296 → l.foldl (fun s x => (31 * s + x + 1) % 4294967296) s = l.foldl (fun s x => (31 * s + x + 1) % 4294967296) t → s = t
  | [], s, t, _, _, _, _, h => h
  | x :: l, s, t, a, b, c, d, h => by
    simp only [List.foldl_cons] at h
    have := sumF_inj l _ _ (by omega) (by omega) (by omega) (by omega) h
    exact sum_step a b c d this
theorem sumF_set : ∀ (l : List Int) (k : Nat) (hk : k < l.length) (x : Int) (s : Int), 0 ≤ s → s < 4294967296 → Byt l → 0 ≤ x → x < 256 →
    l.foldl (fun s x => (31 * s + x + 1) % 4294967296) s = (l.set k x).foldl (fun s x => (31 * s + x + 1) % 4294967296) s → l[k] = x
  | y :: l, 0, hk, x, s, s0, s1, hb, x0, x1, h => by
    simp only [List.set_cons_zero, List.foldl_cons] at h
    have hy := hb y (by simp)
    have := sumF_inj l _ _ (by omega) (by omega) (by omega) (by omega) h
    simp only [List.getElem_cons_zero]
    omega
  | y :: l, k + 1, hk, x, s, s0, s1, hb, x0, x1, h => by
    simp only [List.set_cons_succ, List.foldl_cons] at h
    simpa using sumF_set l k (by simpa using hk) x _ (by omega) (by omega) (fun z hz => hb z (by simp [hz])) x0 x1 h
theorem sum_set {l : List Int} {k : Nat} (hk : k < l.length) {x : Int} (hb : Byt l) (x0 : 0 ≤ x) (x1 : x < 256) : sumB l = sumB (l.set k x) ↔ l[k] = x := by
  constructor
  · exact fun h => sumF_set l k hk x 1 (by omega) (by omega) hb x0 x1 h
  · rintro rfl; simp
end Go.Proofs.Ytmghbejbdkoehaa

