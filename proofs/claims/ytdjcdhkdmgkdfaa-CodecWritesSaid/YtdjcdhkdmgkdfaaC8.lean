/- What is read: a step's fault is turned into its error. -/
import Derived.Test.YtdjcdhkdmgkdfaaC7
import Derived.Defers
import Derived.Recover
import Derived.RegionTactic
import Derived.ChangeAlike
namespace Go.Proofs.Ytdjcdhkdmgkdfaa
open Go.RowKit Go.Proofs.Kit Go.Shelf

set_option maxRecDepth 100000 in
set_option maxHeartbeats 400000 in
theorem catchn_panicking (b : Nat) (x c : Int) (older : List PanicEntry) (w : World) (hc : Blk w b #[.int .i64 x] 30) :
    CallsD Try.prog 40 #[.pointer (some ⟨b, 0, none⟩)] (.panicking ({ v := .iface 74 (.int .i64 c), recovered := false } :: older)) w fun e u' w' =>
      e = .returned (.tuple #[]) ∧ u' = .panicking ({ v := .iface 74 (.int .i64 c), recovered := true } :: older) ∧ w' = w.setCell ⟨b, 0, none⟩ (.int .i64 c) := by
  have hlt := hc.lt
  have c0 := hc.cell 0
  have f0 := hc.frozen 0
  simp only [List.getElem?_toArray, List.getElem?_cons_zero] at c0
  refine callsD_of_wpS Try.func40 rfl fun c₀ cs hu => ?_
  simp only [Try.ntmps40, List.size_toArray, List.length_cons, List.length_nil, Nat.reduceAdd, Nat.reduceSub, Array.replicate_succ, Array.replicate_zero, List.push_toArray, List.append_toArray, List.nil_append, List.cons_append]
  apply wpS_seq
  apply wpS_region
  simp [wpOpsS, go_sem, recoverD, hu, Exit.thenS]
  refine wpS_of_wp ?_
  clear hu
  have hta : ∀ w, (Instr.typeAssert (.iface 74 (.int .i64 c)) 20 74 true).run Try.prog w = .ok (.tuple #[.int .i64 c, .bool true]) w := fun _ => by kernel_rfl
  go_wp2
  exact ⟨rfl, _, rfl, .tuple #[], by simp [results, Try.results40], rfl, rfl, rfl⟩

set_option maxHeartbeats 400000 in
theorem catchn_idle (p : Addr) (w : World) :
    CallsD Try.prog 40 #[.pointer (some p)] .returning w fun e u' w' => e = .returned (.tuple #[]) ∧ u' = .returning ∧ w' = w := by
  refine callsD_of_wpS Try.func40 rfl fun c₀ cs hu => ?_
  simp only [Try.ntmps40, List.size_toArray, List.length_cons, List.length_nil, Nat.reduceAdd, Nat.reduceSub, Array.replicate_succ, Array.replicate_zero, List.push_toArray, List.append_toArray, List.nil_append, List.cons_append]
  apply wpS_seq
  apply wpS_region
  simp [wpOpsS, go_sem, recoverD, hu, Exit.thenS]
  refine wpS_of_wp ?_
  go_wp2
  exact ⟨rfl, .returning, by cases c₀; simp_all, .tuple #[], by simp [results, Try.results40], rfl, rfl, rfl⟩
set_option maxRecDepth 100000 in
set_option maxHeartbeats 400000 in
theorem catchu_panicking (b : Nat) (x c : Int) (older : List PanicEntry) (w : World) (hc : Blk w b #[.int .i64 x] 30) :
    CallsD Try.prog 38 #[.pointer (some ⟨b, 0, none⟩)] (.panicking ({ v := .iface 74 (.int .i64 c), recovered := false } :: older)) w fun e u' w' =>
      e = .returned (.tuple #[]) ∧ u' = .panicking ({ v := .iface 74 (.int .i64 c), recovered := true } :: older) ∧ w' = w.setCell ⟨b, 0, none⟩ (.int .i64 c) := by
  have hlt := hc.lt
  have c0 := hc.cell 0
  have f0 := hc.frozen 0
  simp only [List.getElem?_toArray, List.getElem?_cons_zero] at c0
  refine callsD_of_wpS Try.func38 rfl fun c₀ cs hu => ?_
  simp only [Try.ntmps38, List.size_toArray, List.length_cons, List.length_nil, Nat.reduceAdd, Nat.reduceSub, Array.replicate_succ, Array.replicate_zero, List.push_toArray, List.append_toArray, List.nil_append, List.cons_append]
  apply wpS_seq
  apply wpS_region
  simp [wpOpsS, go_sem, recoverD, hu, Exit.thenS]
  refine wpS_of_wp ?_
  clear hu
  have hta : ∀ w, (Instr.typeAssert (.iface 74 (.int .i64 c)) 20 74 true).run Try.prog w = .ok (.tuple #[.int .i64 c, .bool true]) w := fun _ => by kernel_rfl
  go_wp2
  exact ⟨rfl, _, rfl, .tuple #[], by simp [results, Try.results38], rfl, rfl, rfl⟩

set_option maxHeartbeats 400000 in
theorem catchu_idle (p : Addr) (w : World) :
    CallsD Try.prog 38 #[.pointer (some p)] .returning w fun e u' w' => e = .returned (.tuple #[]) ∧ u' = .returning ∧ w' = w := by
  refine callsD_of_wpS Try.func38 rfl fun c₀ cs hu => ?_
  simp only [Try.ntmps38, List.size_toArray, List.length_cons, List.length_nil, Nat.reduceAdd, Nat.reduceSub, Array.replicate_succ, Array.replicate_zero, List.push_toArray, List.append_toArray, List.nil_append, List.cons_append]
  apply wpS_seq
  apply wpS_region
  simp [wpOpsS, go_sem, recoverD, hu, Exit.thenS]
  refine wpS_of_wp ?_
  go_wp2
  exact ⟨rfl, .returning, by cases c₀; simp_all, .tuple #[], by simp [results, Try.results38], rfl, rfl, rfl⟩
set_option maxRecDepth 100000 in
set_option maxHeartbeats 400000 in
theorem catchb_panicking (b : Nat) (x c : Int) (older : List PanicEntry) (w : World) (hc : Blk w b #[.int .i64 x] 30) :
    CallsD Try.prog 42 #[.pointer (some ⟨b, 0, none⟩)] (.panicking ({ v := .iface 74 (.int .i64 c), recovered := false } :: older)) w fun e u' w' =>
      e = .returned (.tuple #[]) ∧ u' = .panicking ({ v := .iface 74 (.int .i64 c), recovered := true } :: older) ∧ w' = w.setCell ⟨b, 0, none⟩ (.int .i64 c) := by
  have hlt := hc.lt
  have c0 := hc.cell 0
  have f0 := hc.frozen 0
  simp only [List.getElem?_toArray, List.getElem?_cons_zero] at c0
  refine callsD_of_wpS Try.func42 rfl fun c₀ cs hu => ?_
  simp only [Try.ntmps42, List.size_toArray, List.length_cons, List.length_nil, Nat.reduceAdd, Nat.reduceSub, Array.replicate_succ, Array.replicate_zero, List.push_toArray, List.append_toArray, List.nil_append, List.cons_append]
  apply wpS_seq
  apply wpS_region
  simp [wpOpsS, go_sem, recoverD, hu, Exit.thenS]
  refine wpS_of_wp ?_
  clear hu
  have hta : ∀ w, (Instr.typeAssert (.iface 74 (.int .i64 c)) 20 74 true).run Try.prog w = .ok (.tuple #[.int .i64 c, .bool true]) w := fun _ => by kernel_rfl
  go_wp2
  exact ⟨rfl, _, rfl, .tuple #[], by simp [results, Try.results42], rfl, rfl, rfl⟩

set_option maxHeartbeats 400000 in
theorem catchb_idle (p : Addr) (w : World) :
    CallsD Try.prog 42 #[.pointer (some p)] .returning w fun e u' w' => e = .returned (.tuple #[]) ∧ u' = .returning ∧ w' = w := by
  refine callsD_of_wpS Try.func42 rfl fun c₀ cs hu => ?_
  simp only [Try.ntmps42, List.size_toArray, List.length_cons, List.length_nil, Nat.reduceAdd, Nat.reduceSub, Array.replicate_succ, Array.replicate_zero, List.push_toArray, List.append_toArray, List.nil_append, List.cons_append]
  apply wpS_seq
  apply wpS_region
  simp [wpOpsS, go_sem, recoverD, hu, Exit.thenS]
  refine wpS_of_wp ?_
  go_wp2
  exact ⟨rfl, .returning, by cases c₀; simp_all, .tuple #[], by simp [results, Try.results42], rfl, rfl, rfl⟩
set_option maxRecDepth 100000 in
set_option maxHeartbeats 400000 in
theorem catchs_panicking (b : Nat) (x c : Int) (older : List PanicEntry) (w : World) (hc : Blk w b #[.int .i64 x] 30) :
    CallsD Try.prog 45 #[.pointer (some ⟨b, 0, none⟩)] (.panicking ({ v := .iface 74 (.int .i64 c), recovered := false } :: older)) w fun e u' w' =>
      e = .returned (.tuple #[]) ∧ u' = .panicking ({ v := .iface 74 (.int .i64 c), recovered := true } :: older) ∧ w' = w.setCell ⟨b, 0, none⟩ (.int .i64 c) := by
  have hlt := hc.lt
  have c0 := hc.cell 0
  have f0 := hc.frozen 0
  simp only [List.getElem?_toArray, List.getElem?_cons_zero] at c0
  refine callsD_of_wpS Try.func45 rfl fun c₀ cs hu => ?_
  simp only [Try.ntmps45, List.size_toArray, List.length_cons, List.length_nil, Nat.reduceAdd, Nat.reduceSub, Array.replicate_succ, Array.replicate_zero, List.push_toArray, List.append_toArray, List.nil_append, List.cons_append]
  apply wpS_seq
  apply wpS_region
  simp [wpOpsS, go_sem, recoverD, hu, Exit.thenS]
  refine wpS_of_wp ?_
  clear hu
  have hta : ∀ w, (Instr.typeAssert (.iface 74 (.int .i64 c)) 20 74 true).run Try.prog w = .ok (.tuple #[.int .i64 c, .bool true]) w := fun _ => by kernel_rfl
  go_wp2
  exact ⟨rfl, _, rfl, .tuple #[], by simp [results, Try.results45], rfl, rfl, rfl⟩

set_option maxHeartbeats 400000 in
theorem catchs_idle (p : Addr) (w : World) :
    CallsD Try.prog 45 #[.pointer (some p)] .returning w fun e u' w' => e = .returned (.tuple #[]) ∧ u' = .returning ∧ w' = w := by
  refine callsD_of_wpS Try.func45 rfl fun c₀ cs hu => ?_
  simp only [Try.ntmps45, List.size_toArray, List.length_cons, List.length_nil, Nat.reduceAdd, Nat.reduceSub, Array.replicate_succ, Array.replicate_zero, List.push_toArray, List.append_toArray, List.nil_append, List.cons_append]
  apply wpS_seq
  apply wpS_region
  simp [wpOpsS, go_sem, recoverD, hu, Exit.thenS]
  refine wpS_of_wp ?_
  go_wp2
  exact ⟨rfl, .returning, by cases c₀; simp_all, .tuple #[], by simp [results, Try.results45], rfl, rfl, rfl⟩
open Go.RowKit Go.Proofs.Kit Go.Shelf

/-- What is told of what was read. -/
def Told {α : Type} (r : Nat) (w : World) (R : Except Int (α × Nat)) (Z : Value) (G : α → Value → World → Prop) (e : Ending) (w' : World) : Prop :=
  But r w w' ∧ ((∃ x q v, R = .ok (x, q) ∧ e = .returned (.tuple #[v, .int .i64 ((q : Nat) : Int), .int .i64 0]) ∧ G x v w') ∨ (∃ c, R = .error c ∧ e = .returned (.tuple #[Z, .int .i64 0, .int .i64 c])))

set_option maxHeartbeats 2000000 in
theorem taken_any {α : Type} (f : FuncId) (r p : Nat) (bv : Value) (bs : List Int) (R : Except Int (α × Nat)) (G : α → Value → World → Prop) (w : World)
    (hent : ∀ args w, (callFunc f args).run Try.prog w = .ok (.enter f args) w) (h : Rdr w r bv bs p) (hG : ∀ x v X X', G x v X → But w.heap.size X X' → G x v X')
    (hf : ∀ nq, Calls Try.prog f #[.pointer (some ⟨r, 0, none⟩)] ((w.alloc (.cells #[.int .i64 0] 30)).drewN nq) (Stp r bv bs ((w.alloc (.cells #[.int .i64 0] 30)).drewN nq) R G)) :
    Calls Try.prog 31 #[.pointer (some ⟨r, 0, none⟩), .func (.func f) #[.pointer (some ⟨r, 0, none⟩)] #[]] w (Told r w R (.int .u64 0) G) := by
  have hmf : ∀ (fn : Fn) (first cap : Array Value) (w : World), (Instr.makeFunc fn first cap).run Try.prog w = .ok (.func fn first cap) w := fun _ _ _ _ => rfl
  have HF := Lib.hid hf
  have HG := Lib.hid hG
  have HE := Lib.hid hent
  have hle := h.le
  have hbd := h.bd
  have hlt := h.blk.lt
  have HR := Lib.hid h
  obtain ⟨o, c, rfl, hc, hm, _⟩ := h.seg.shape
  have k0 := h.blk.cell 0
  have k1 := h.blk.cell 1
  simp only [List.getElem?_toArray, List.getElem?_cons_zero, List.getElem?_cons_succ] at k0 k1
  obtain ⟨n, hn⟩ : ∃ n, n = bs.length := ⟨_, rfl⟩
  rw [← hn] at hle hbd hc k0
  have HN := Lib.hid hn
  clear hf hG h hn hent
  go_enter_defers Try.func31, Try.ntmps31
  go_wp2_with fail
  have d1 : decide ((p : Int) < 0) = false := by simp
  have d2 : decide ((n : Int) < (p : Int)) = false := by simp; omega
  go_quiet (fail)
  have hent := HE.out
  go_wp2_with fail
  have hrw : w.heap.size ≠ r := by omega
  have bE : Blk ((w.alloc (.cells #[.int .i64 0] 30)).drewN nq) w.heap.size #[.int .i64 0] 30 := Blk.new _ _ _
  have hB0 : But r w ((w.alloc (.cells #[.int .i64 0] 30)).drewN nq) := ((But.refl r w).alloc _).drewN nq
  clear k0 k1
  refine (HF.out nq).mono ?_
  rintro e w1 ⟨hB1, ⟨x, q, v, hr, rfl, hGx, hR1⟩ | ⟨cc, hr, rfl⟩⟩
  · have bE1 := hB1.blk bE hrw
    have e0 := bE1.cell 0
    have f0 := bE1.frozen 0
    have k1 := hR1.blk.cell 1
    simp only [List.getElem?_toArray, List.getElem?_cons_zero, List.getElem?_cons_succ] at e0 k1
    have hltE := bE1.lt
    have hltR := hR1.blk.lt
    have HRR := Lib.hid hr
    clear hr
    go_wp2_with fail
    go_region
    go_wp2_with fail
    have D0 := (bE1.set 0 (.int .i64 0)).drew.cell 0
    simp at D0
    refine leaves_cons (f := 40) (args := #[.pointer (some ⟨w.heap.size, 0, none⟩)]) (by simp) (by simp [go_sem]) ?_
    refine (catchn_idle _ _).mono ?_
    rintro e u' w'' ⟨rfl, rfl, rfl⟩
    refine ⟨.tuple #[v, .int .i64 (q : Int), .int .i64 0], by simp [results, Try.results31, go_sem, D0], ((hB0.trans hB1).low ((Below.refl w.heap.size _).setCell (Nat.le_refl _) _) (Nat.le_refl _)).drew, .inl ⟨x, q, v, HRR.out, rfl, HG.out _ _ _ _ hGx ((But.refl _ _).set 0 _).drew⟩⟩
  · have bE1 := hB1.blk bE hrw
    refine leaves_cons (f := 40) (args := #[.pointer (some ⟨w.heap.size, 0, none⟩)]) (by simp) (by simp [go_sem]) ?_
    refine (catchn_panicking _ _ _ _ _ bE1).mono ?_
    rintro e u' w'' ⟨rfl, rfl, rfl⟩
    have D0 := (bE1.set 0 (.int .i64 cc)).cell 0
    simp at D0
    refine ⟨.tuple #[.int .u64 0, .int .i64 0, .int .i64 cc], by simp [results, Try.results31, go_sem, D0], (hB0.trans hB1).low ((Below.refl w.heap.size _).setCell (Nat.le_refl _) _) (Nat.le_refl _), .inr ⟨cc, hr, rfl⟩⟩

set_option maxHeartbeats 1000000 in
theorem taken_arg (f : FuncId) (r n c : Nat) (a : Int) (o : Option Addr) (w : World) (h : Blk w r #[.slice o n c, .int .i64 a] 62) (ha : a < 0 ∨ (n : Int) < a) :
    Calls Try.prog 31 #[.pointer (some ⟨r, 0, none⟩), .func (.func f) #[.pointer (some ⟨r, 0, none⟩)] #[]] w fun e w' => e = .returned (.tuple #[.int .u64 0, .int .i64 0, .int .i64 2]) ∧ But r w w' := by
  have hmf : ∀ (fn : Fn) (first cap : Array Value) (w : World), (Instr.makeFunc fn first cap).run Try.prog w = .ok (.func fn first cap) w := fun _ _ _ _ => rfl
  have hlt := h.lt
  have k0 := h.cell 0
  have k1 := h.cell 1
  simp only [List.getElem?_toArray, List.getElem?_cons_zero, List.getElem?_cons_succ] at k0 k1
  by_cases ha0 : a < 0
  · go_enter_defers Try.func31, Try.ntmps31
    go_wp2_with fail
    have d1 : decide (a < 0) = true := by simpa using ha0
    go_quiet (fail)
    go_wp2_with fail
    have bE : Blk ((w.alloc (.cells #[.int .i64 0] 30)).drewN nq) w.heap.size #[.int .i64 0] 30 := Blk.new _ _ _
    have hB0 : But r w ((w.alloc (.cells #[.int .i64 0] 30)).drewN nq) := ((But.refl r w).alloc _).drewN nq
    refine leaves_cons (f := 40) (args := #[.pointer (some ⟨w.heap.size, 0, none⟩)]) (by simp) (by simp [go_sem]) ?_
    refine (catchn_panicking _ _ _ _ _ bE).mono ?_
    rintro e u' w'' ⟨rfl, rfl, rfl⟩
    have D0 := (bE.set 0 (.int .i64 2)).cell 0
    simp at D0
    exact ⟨.tuple #[.int .u64 0, .int .i64 0, .int .i64 2], by simp [results, Try.results31, go_sem, D0], rfl, hB0.low ((Below.refl w.heap.size _).setCell (Nat.le_refl _) _) (Nat.le_refl _)⟩
  · have ha1 : (n : Int) < a := by omega
    clear ha
    go_enter_defers Try.func31, Try.ntmps31
    go_wp2_with fail
    have d1 : decide (a < 0) = false := by simpa using ha0
    have d2 : decide ((n : Int) < a) = true := by simpa using ha1
    go_quiet (fail)
    go_wp2_with fail
    have bE : Blk ((w.alloc (.cells #[.int .i64 0] 30)).drewN nq) w.heap.size #[.int .i64 0] 30 := Blk.new _ _ _
    have hB0 : But r w ((w.alloc (.cells #[.int .i64 0] 30)).drewN nq) := ((But.refl r w).alloc _).drewN nq
    refine leaves_cons (f := 40) (args := #[.pointer (some ⟨w.heap.size, 0, none⟩)]) (by simp) (by simp [go_sem]) ?_
    refine (catchn_panicking _ _ _ _ _ bE).mono ?_
    rintro e u' w'' ⟨rfl, rfl, rfl⟩
    have D0 := (bE.set 0 (.int .i64 2)).cell 0
    simp at D0
    exact ⟨.tuple #[.int .u64 0, .int .i64 0, .int .i64 2], by simp [results, Try.results31, go_sem, D0], rfl, hB0.low ((Below.refl w.heap.size _).setCell (Nat.le_refl _) _) (Nat.le_refl _)⟩
set_option maxHeartbeats 2000000 in
theorem takeu_any {α : Type} (f : FuncId) (r p : Nat) (bv : Value) (bs : List Int) (R : Except Int (α × Nat)) (G : α → Value → World → Prop) (w : World)
    (hent : ∀ args w, (callFunc f args).run Try.prog w = .ok (.enter f args) w) (h : Rdr w r bv bs p) (hG : ∀ x v X X', G x v X → But w.heap.size X X' → G x v X')
    (hf : ∀ nq, Calls Try.prog f #[.pointer (some ⟨r, 0, none⟩)] ((w.alloc (.cells #[.int .i64 0] 30)).drewN nq) (Stp r bv bs ((w.alloc (.cells #[.int .i64 0] 30)).drewN nq) R G)) :
    Calls Try.prog 29 #[.pointer (some ⟨r, 0, none⟩), .func (.func f) #[.pointer (some ⟨r, 0, none⟩)] #[]] w (Told r w R (.slice none 0 0) G) := by
  have hmf : ∀ (fn : Fn) (first cap : Array Value) (w : World), (Instr.makeFunc fn first cap).run Try.prog w = .ok (.func fn first cap) w := fun _ _ _ _ => rfl
  have HF := Lib.hid hf
  have HG := Lib.hid hG
  have HE := Lib.hid hent
  have hle := h.le
  have hbd := h.bd
  have hlt := h.blk.lt
  have HR := Lib.hid h
  obtain ⟨o, c, rfl, hc, hm, _⟩ := h.seg.shape
  have k0 := h.blk.cell 0
  have k1 := h.blk.cell 1
  simp only [List.getElem?_toArray, List.getElem?_cons_zero, List.getElem?_cons_succ] at k0 k1
  obtain ⟨n, hn⟩ : ∃ n, n = bs.length := ⟨_, rfl⟩
  rw [← hn] at hle hbd hc k0
  have HN := Lib.hid hn
  clear hf hG h hn hent
  go_enter_defers Try.func29, Try.ntmps29
  go_wp2_with fail
  have d1 : decide ((p : Int) < 0) = false := by simp
  have d2 : decide ((n : Int) < (p : Int)) = false := by simp; omega
  go_quiet (fail)
  have hent := HE.out
  go_wp2_with fail
  have hrw : w.heap.size ≠ r := by omega
  have bE : Blk ((w.alloc (.cells #[.int .i64 0] 30)).drewN nq) w.heap.size #[.int .i64 0] 30 := Blk.new _ _ _
  have hB0 : But r w ((w.alloc (.cells #[.int .i64 0] 30)).drewN nq) := ((But.refl r w).alloc _).drewN nq
  clear k0 k1
  refine (HF.out nq).mono ?_
  rintro e w1 ⟨hB1, ⟨x, q, v, hr, rfl, hGx, hR1⟩ | ⟨cc, hr, rfl⟩⟩
  · have bE1 := hB1.blk bE hrw
    have e0 := bE1.cell 0
    have f0 := bE1.frozen 0
    have k1 := hR1.blk.cell 1
    simp only [List.getElem?_toArray, List.getElem?_cons_zero, List.getElem?_cons_succ] at e0 k1
    have hltE := bE1.lt
    have hltR := hR1.blk.lt
    have HRR := Lib.hid hr
    clear hr
    go_wp2_with fail
    go_region
    go_wp2_with fail
    have D0 := (bE1.set 0 (.int .i64 0)).drew.cell 0
    simp at D0
    refine leaves_cons (f := 38) (args := #[.pointer (some ⟨w.heap.size, 0, none⟩)]) (by simp) (by simp [go_sem]) ?_
    refine (catchu_idle _ _).mono ?_
    rintro e u' w'' ⟨rfl, rfl, rfl⟩
    refine ⟨.tuple #[v, .int .i64 (q : Int), .int .i64 0], by simp [results, Try.results29, go_sem, D0], ((hB0.trans hB1).low ((Below.refl w.heap.size _).setCell (Nat.le_refl _) _) (Nat.le_refl _)).drew, .inl ⟨x, q, v, HRR.out, rfl, HG.out _ _ _ _ hGx ((But.refl _ _).set 0 _).drew⟩⟩
  · have bE1 := hB1.blk bE hrw
    refine leaves_cons (f := 38) (args := #[.pointer (some ⟨w.heap.size, 0, none⟩)]) (by simp) (by simp [go_sem]) ?_
    refine (catchu_panicking _ _ _ _ _ bE1).mono ?_
    rintro e u' w'' ⟨rfl, rfl, rfl⟩
    have D0 := (bE1.set 0 (.int .i64 cc)).cell 0
    simp at D0
    refine ⟨.tuple #[.slice none 0 0, .int .i64 0, .int .i64 cc], by simp [results, Try.results29, go_sem, D0], (hB0.trans hB1).low ((Below.refl w.heap.size _).setCell (Nat.le_refl _) _) (Nat.le_refl _), .inr ⟨cc, hr, rfl⟩⟩

set_option maxHeartbeats 1000000 in
theorem takeu_arg (f : FuncId) (r n c : Nat) (a : Int) (o : Option Addr) (w : World) (h : Blk w r #[.slice o n c, .int .i64 a] 62) (ha : a < 0 ∨ (n : Int) < a) :
    Calls Try.prog 29 #[.pointer (some ⟨r, 0, none⟩), .func (.func f) #[.pointer (some ⟨r, 0, none⟩)] #[]] w fun e w' => e = .returned (.tuple #[.slice none 0 0, .int .i64 0, .int .i64 2]) ∧ But r w w' := by
  have hmf : ∀ (fn : Fn) (first cap : Array Value) (w : World), (Instr.makeFunc fn first cap).run Try.prog w = .ok (.func fn first cap) w := fun _ _ _ _ => rfl
  have hlt := h.lt
  have k0 := h.cell 0
  have k1 := h.cell 1
  simp only [List.getElem?_toArray, List.getElem?_cons_zero, List.getElem?_cons_succ] at k0 k1
  by_cases ha0 : a < 0
  · go_enter_defers Try.func29, Try.ntmps29
    go_wp2_with fail
    have d1 : decide (a < 0) = true := by simpa using ha0
    go_quiet (fail)
    go_wp2_with fail
    have bE : Blk ((w.alloc (.cells #[.int .i64 0] 30)).drewN nq) w.heap.size #[.int .i64 0] 30 := Blk.new _ _ _
    have hB0 : But r w ((w.alloc (.cells #[.int .i64 0] 30)).drewN nq) := ((But.refl r w).alloc _).drewN nq
    refine leaves_cons (f := 38) (args := #[.pointer (some ⟨w.heap.size, 0, none⟩)]) (by simp) (by simp [go_sem]) ?_
    refine (catchu_panicking _ _ _ _ _ bE).mono ?_
    rintro e u' w'' ⟨rfl, rfl, rfl⟩
    have D0 := (bE.set 0 (.int .i64 2)).cell 0
    simp at D0
    exact ⟨.tuple #[.slice none 0 0, .int .i64 0, .int .i64 2], by simp [results, Try.results29, go_sem, D0], rfl, hB0.low ((Below.refl w.heap.size _).setCell (Nat.le_refl _) _) (Nat.le_refl _)⟩
  · have ha1 : (n : Int) < a := by omega
    clear ha
    go_enter_defers Try.func29, Try.ntmps29
    go_wp2_with fail
    have d1 : decide (a < 0) = false := by simpa using ha0
    have d2 : decide ((n : Int) < a) = true := by simpa using ha1
    go_quiet (fail)
    go_wp2_with fail
    have bE : Blk ((w.alloc (.cells #[.int .i64 0] 30)).drewN nq) w.heap.size #[.int .i64 0] 30 := Blk.new _ _ _
    have hB0 : But r w ((w.alloc (.cells #[.int .i64 0] 30)).drewN nq) := ((But.refl r w).alloc _).drewN nq
    refine leaves_cons (f := 38) (args := #[.pointer (some ⟨w.heap.size, 0, none⟩)]) (by simp) (by simp [go_sem]) ?_
    refine (catchu_panicking _ _ _ _ _ bE).mono ?_
    rintro e u' w'' ⟨rfl, rfl, rfl⟩
    have D0 := (bE.set 0 (.int .i64 2)).cell 0
    simp at D0
    exact ⟨.tuple #[.slice none 0 0, .int .i64 0, .int .i64 2], by simp [results, Try.results29, go_sem, D0], rfl, hB0.low ((Below.refl w.heap.size _).setCell (Nat.le_refl _) _) (Nat.le_refl _)⟩
set_option maxHeartbeats 2000000 in
theorem takeb_any {α : Type} (f : FuncId) (r p : Nat) (bv : Value) (bs : List Int) (R : Except Int (α × Nat)) (G : α → Value → World → Prop) (w : World)
    (hent : ∀ args w, (callFunc f args).run Try.prog w = .ok (.enter f args) w) (h : Rdr w r bv bs p) (hG : ∀ x v X X', G x v X → But w.heap.size X X' → G x v X')
    (hf : ∀ nq, Calls Try.prog f #[.pointer (some ⟨r, 0, none⟩)] ((w.alloc (.cells #[.int .i64 0] 30)).drewN nq) (Stp r bv bs ((w.alloc (.cells #[.int .i64 0] 30)).drewN nq) R G)) :
    Calls Try.prog 33 #[.pointer (some ⟨r, 0, none⟩), .func (.func f) #[.pointer (some ⟨r, 0, none⟩)] #[]] w (Told r w R (.slice none 0 0) G) := by
  have hmf : ∀ (fn : Fn) (first cap : Array Value) (w : World), (Instr.makeFunc fn first cap).run Try.prog w = .ok (.func fn first cap) w := fun _ _ _ _ => rfl
  have HF := Lib.hid hf
  have HG := Lib.hid hG
  have HE := Lib.hid hent
  have hle := h.le
  have hbd := h.bd
  have hlt := h.blk.lt
  have HR := Lib.hid h
  obtain ⟨o, c, rfl, hc, hm, _⟩ := h.seg.shape
  have k0 := h.blk.cell 0
  have k1 := h.blk.cell 1
  simp only [List.getElem?_toArray, List.getElem?_cons_zero, List.getElem?_cons_succ] at k0 k1
  obtain ⟨n, hn⟩ : ∃ n, n = bs.length := ⟨_, rfl⟩
  rw [← hn] at hle hbd hc k0
  have HN := Lib.hid hn
  clear hf hG h hn hent
  go_enter_defers Try.func33, Try.ntmps33
  go_wp2_with fail
  have d1 : decide ((p : Int) < 0) = false := by simp
  have d2 : decide ((n : Int) < (p : Int)) = false := by simp; omega
  go_quiet (fail)
  have hent := HE.out
  go_wp2_with fail
  have hrw : w.heap.size ≠ r := by omega
  have bE : Blk ((w.alloc (.cells #[.int .i64 0] 30)).drewN nq) w.heap.size #[.int .i64 0] 30 := Blk.new _ _ _
  have hB0 : But r w ((w.alloc (.cells #[.int .i64 0] 30)).drewN nq) := ((But.refl r w).alloc _).drewN nq
  clear k0 k1
  refine (HF.out nq).mono ?_
  rintro e w1 ⟨hB1, ⟨x, q, v, hr, rfl, hGx, hR1⟩ | ⟨cc, hr, rfl⟩⟩
  · have bE1 := hB1.blk bE hrw
    have e0 := bE1.cell 0
    have f0 := bE1.frozen 0
    have k1 := hR1.blk.cell 1
    simp only [List.getElem?_toArray, List.getElem?_cons_zero, List.getElem?_cons_succ] at e0 k1
    have hltE := bE1.lt
    have hltR := hR1.blk.lt
    have HRR := Lib.hid hr
    clear hr
    go_wp2_with fail
    go_region
    go_wp2_with fail
    have D0 := (bE1.set 0 (.int .i64 0)).drew.cell 0
    simp at D0
    refine leaves_cons (f := 42) (args := #[.pointer (some ⟨w.heap.size, 0, none⟩)]) (by simp) (by simp [go_sem]) ?_
    refine (catchb_idle _ _).mono ?_
    rintro e u' w'' ⟨rfl, rfl, rfl⟩
    refine ⟨.tuple #[v, .int .i64 (q : Int), .int .i64 0], by simp [results, Try.results33, go_sem, D0], ((hB0.trans hB1).low ((Below.refl w.heap.size _).setCell (Nat.le_refl _) _) (Nat.le_refl _)).drew, .inl ⟨x, q, v, HRR.out, rfl, HG.out _ _ _ _ hGx ((But.refl _ _).set 0 _).drew⟩⟩
  · have bE1 := hB1.blk bE hrw
    refine leaves_cons (f := 42) (args := #[.pointer (some ⟨w.heap.size, 0, none⟩)]) (by simp) (by simp [go_sem]) ?_
    refine (catchb_panicking _ _ _ _ _ bE1).mono ?_
    rintro e u' w'' ⟨rfl, rfl, rfl⟩
    have D0 := (bE1.set 0 (.int .i64 cc)).cell 0
    simp at D0
    refine ⟨.tuple #[.slice none 0 0, .int .i64 0, .int .i64 cc], by simp [results, Try.results33, go_sem, D0], (hB0.trans hB1).low ((Below.refl w.heap.size _).setCell (Nat.le_refl _) _) (Nat.le_refl _), .inr ⟨cc, hr, rfl⟩⟩

set_option maxHeartbeats 1000000 in
theorem takeb_arg (f : FuncId) (r n c : Nat) (a : Int) (o : Option Addr) (w : World) (h : Blk w r #[.slice o n c, .int .i64 a] 62) (ha : a < 0 ∨ (n : Int) < a) :
    Calls Try.prog 33 #[.pointer (some ⟨r, 0, none⟩), .func (.func f) #[.pointer (some ⟨r, 0, none⟩)] #[]] w fun e w' => e = .returned (.tuple #[.slice none 0 0, .int .i64 0, .int .i64 2]) ∧ But r w w' := by
  have hmf : ∀ (fn : Fn) (first cap : Array Value) (w : World), (Instr.makeFunc fn first cap).run Try.prog w = .ok (.func fn first cap) w := fun _ _ _ _ => rfl
  have hlt := h.lt
  have k0 := h.cell 0
  have k1 := h.cell 1
  simp only [List.getElem?_toArray, List.getElem?_cons_zero, List.getElem?_cons_succ] at k0 k1
  by_cases ha0 : a < 0
  · go_enter_defers Try.func33, Try.ntmps33
    go_wp2_with fail
    have d1 : decide (a < 0) = true := by simpa using ha0
    go_quiet (fail)
    go_wp2_with fail
    have bE : Blk ((w.alloc (.cells #[.int .i64 0] 30)).drewN nq) w.heap.size #[.int .i64 0] 30 := Blk.new _ _ _
    have hB0 : But r w ((w.alloc (.cells #[.int .i64 0] 30)).drewN nq) := ((But.refl r w).alloc _).drewN nq
    refine leaves_cons (f := 42) (args := #[.pointer (some ⟨w.heap.size, 0, none⟩)]) (by simp) (by simp [go_sem]) ?_
    refine (catchb_panicking _ _ _ _ _ bE).mono ?_
    rintro e u' w'' ⟨rfl, rfl, rfl⟩
    have D0 := (bE.set 0 (.int .i64 2)).cell 0
    simp at D0
    exact ⟨.tuple #[.slice none 0 0, .int .i64 0, .int .i64 2], by simp [results, Try.results33, go_sem, D0], rfl, hB0.low ((Below.refl w.heap.size _).setCell (Nat.le_refl _) _) (Nat.le_refl _)⟩
  · have ha1 : (n : Int) < a := by omega
    clear ha
    go_enter_defers Try.func33, Try.ntmps33
    go_wp2_with fail
    have d1 : decide (a < 0) = false := by simpa using ha0
    have d2 : decide ((n : Int) < a) = true := by simpa using ha1
    go_quiet (fail)
    go_wp2_with fail
    have bE : Blk ((w.alloc (.cells #[.int .i64 0] 30)).drewN nq) w.heap.size #[.int .i64 0] 30 := Blk.new _ _ _
    have hB0 : But r w ((w.alloc (.cells #[.int .i64 0] 30)).drewN nq) := ((But.refl r w).alloc _).drewN nq
    refine leaves_cons (f := 42) (args := #[.pointer (some ⟨w.heap.size, 0, none⟩)]) (by simp) (by simp [go_sem]) ?_
    refine (catchb_panicking _ _ _ _ _ bE).mono ?_
    rintro e u' w'' ⟨rfl, rfl, rfl⟩
    have D0 := (bE.set 0 (.int .i64 2)).cell 0
    simp at D0
    exact ⟨.tuple #[.slice none 0 0, .int .i64 0, .int .i64 2], by simp [results, Try.results33, go_sem, D0], rfl, hB0.low ((Below.refl w.heap.size _).setCell (Nat.le_refl _) _) (Nat.le_refl _)⟩
set_option maxHeartbeats 2000000 in
theorem takes_any {α : Type} (f : FuncId) (r p : Nat) (bv : Value) (bs : List Int) (R : Except Int (α × Nat)) (G : α → Value → World → Prop) (w : World)
    (hent : ∀ args w, (callFunc f args).run Try.prog w = .ok (.enter f args) w) (h : Rdr w r bv bs p) (hG : ∀ x v X X', G x v X → But w.heap.size X X' → G x v X')
    (hf : ∀ nq, Calls Try.prog f #[.pointer (some ⟨r, 0, none⟩)] ((w.alloc (.cells #[.int .i64 0] 30)).drewN nq) (Stp r bv bs ((w.alloc (.cells #[.int .i64 0] 30)).drewN nq) R G)) :
    Calls Try.prog 35 #[.pointer (some ⟨r, 0, none⟩), .func (.func f) #[.pointer (some ⟨r, 0, none⟩)] #[]] w (Told r w R (.string ⟨#[]⟩) G) := by
  have hmf : ∀ (fn : Fn) (first cap : Array Value) (w : World), (Instr.makeFunc fn first cap).run Try.prog w = .ok (.func fn first cap) w := fun _ _ _ _ => rfl
  have HF := Lib.hid hf
  have HG := Lib.hid hG
  have HE := Lib.hid hent
  have hle := h.le
  have hbd := h.bd
  have hlt := h.blk.lt
  have HR := Lib.hid h
  obtain ⟨o, c, rfl, hc, hm, _⟩ := h.seg.shape
  have k0 := h.blk.cell 0
  have k1 := h.blk.cell 1
  simp only [List.getElem?_toArray, List.getElem?_cons_zero, List.getElem?_cons_succ] at k0 k1
  obtain ⟨n, hn⟩ : ∃ n, n = bs.length := ⟨_, rfl⟩
  rw [← hn] at hle hbd hc k0
  have HN := Lib.hid hn
  clear hf hG h hn hent
  go_enter_defers Try.func35, Try.ntmps35
  go_wp2_with fail
  have d1 : decide ((p : Int) < 0) = false := by simp
  have d2 : decide ((n : Int) < (p : Int)) = false := by simp; omega
  go_quiet (fail)
  have hent := HE.out
  go_wp2_with fail
  have hrw : w.heap.size ≠ r := by omega
  have bE : Blk ((w.alloc (.cells #[.int .i64 0] 30)).drewN nq) w.heap.size #[.int .i64 0] 30 := Blk.new _ _ _
  have hB0 : But r w ((w.alloc (.cells #[.int .i64 0] 30)).drewN nq) := ((But.refl r w).alloc _).drewN nq
  clear k0 k1
  refine (HF.out nq).mono ?_
  rintro e w1 ⟨hB1, ⟨x, q, v, hr, rfl, hGx, hR1⟩ | ⟨cc, hr, rfl⟩⟩
  · have bE1 := hB1.blk bE hrw
    have e0 := bE1.cell 0
    have f0 := bE1.frozen 0
    have k1 := hR1.blk.cell 1
    simp only [List.getElem?_toArray, List.getElem?_cons_zero, List.getElem?_cons_succ] at e0 k1
    have hltE := bE1.lt
    have hltR := hR1.blk.lt
    have HRR := Lib.hid hr
    clear hr
    go_wp2_with fail
    go_region
    go_wp2_with fail
    have D0 := (bE1.set 0 (.int .i64 0)).drew.cell 0
    simp at D0
    refine leaves_cons (f := 45) (args := #[.pointer (some ⟨w.heap.size, 0, none⟩)]) (by simp) (by simp [go_sem]) ?_
    refine (catchs_idle _ _).mono ?_
    rintro e u' w'' ⟨rfl, rfl, rfl⟩
    refine ⟨.tuple #[v, .int .i64 (q : Int), .int .i64 0], by simp [results, Try.results35, go_sem, D0], ((hB0.trans hB1).low ((Below.refl w.heap.size _).setCell (Nat.le_refl _) _) (Nat.le_refl _)).drew, .inl ⟨x, q, v, HRR.out, rfl, HG.out _ _ _ _ hGx ((But.refl _ _).set 0 _).drew⟩⟩
  · have bE1 := hB1.blk bE hrw
    refine leaves_cons (f := 45) (args := #[.pointer (some ⟨w.heap.size, 0, none⟩)]) (by simp) (by simp [go_sem]) ?_
    refine (catchs_panicking _ _ _ _ _ bE1).mono ?_
    rintro e u' w'' ⟨rfl, rfl, rfl⟩
    have D0 := (bE1.set 0 (.int .i64 cc)).cell 0
    simp at D0
    refine ⟨.tuple #[.string ⟨#[]⟩, .int .i64 0, .int .i64 cc], by simp [results, Try.results35, go_sem, D0], (hB0.trans hB1).low ((Below.refl w.heap.size _).setCell (Nat.le_refl _) _) (Nat.le_refl _), .inr ⟨cc, hr, rfl⟩⟩

set_option maxHeartbeats 1000000 in
theorem takes_arg (f : FuncId) (r n c : Nat) (a : Int) (o : Option Addr) (w : World) (h : Blk w r #[.slice o n c, .int .i64 a] 62) (ha : a < 0 ∨ (n : Int) < a) :
    Calls Try.prog 35 #[.pointer (some ⟨r, 0, none⟩), .func (.func f) #[.pointer (some ⟨r, 0, none⟩)] #[]] w fun e w' => e = .returned (.tuple #[.string ⟨#[]⟩, .int .i64 0, .int .i64 2]) ∧ But r w w' := by
  have hmf : ∀ (fn : Fn) (first cap : Array Value) (w : World), (Instr.makeFunc fn first cap).run Try.prog w = .ok (.func fn first cap) w := fun _ _ _ _ => rfl
  have hlt := h.lt
  have k0 := h.cell 0
  have k1 := h.cell 1
  simp only [List.getElem?_toArray, List.getElem?_cons_zero, List.getElem?_cons_succ] at k0 k1
  by_cases ha0 : a < 0
  · go_enter_defers Try.func35, Try.ntmps35
    go_wp2_with fail
    have d1 : decide (a < 0) = true := by simpa using ha0
    go_quiet (fail)
    go_wp2_with fail
    have bE : Blk ((w.alloc (.cells #[.int .i64 0] 30)).drewN nq) w.heap.size #[.int .i64 0] 30 := Blk.new _ _ _
    have hB0 : But r w ((w.alloc (.cells #[.int .i64 0] 30)).drewN nq) := ((But.refl r w).alloc _).drewN nq
    refine leaves_cons (f := 45) (args := #[.pointer (some ⟨w.heap.size, 0, none⟩)]) (by simp) (by simp [go_sem]) ?_
    refine (catchs_panicking _ _ _ _ _ bE).mono ?_
    rintro e u' w'' ⟨rfl, rfl, rfl⟩
    have D0 := (bE.set 0 (.int .i64 2)).cell 0
    simp at D0
    exact ⟨.tuple #[.string ⟨#[]⟩, .int .i64 0, .int .i64 2], by simp [results, Try.results35, go_sem, D0], rfl, hB0.low ((Below.refl w.heap.size _).setCell (Nat.le_refl _) _) (Nat.le_refl _)⟩
  · have ha1 : (n : Int) < a := by omega
    clear ha
    go_enter_defers Try.func35, Try.ntmps35
    go_wp2_with fail
    have d1 : decide (a < 0) = false := by simpa using ha0
    have d2 : decide ((n : Int) < a) = true := by simpa using ha1
    go_quiet (fail)
    go_wp2_with fail
    have bE : Blk ((w.alloc (.cells #[.int .i64 0] 30)).drewN nq) w.heap.size #[.int .i64 0] 30 := Blk.new _ _ _
    have hB0 : But r w ((w.alloc (.cells #[.int .i64 0] 30)).drewN nq) := ((But.refl r w).alloc _).drewN nq
    refine leaves_cons (f := 45) (args := #[.pointer (some ⟨w.heap.size, 0, none⟩)]) (by simp) (by simp [go_sem]) ?_
    refine (catchs_panicking _ _ _ _ _ bE).mono ?_
    rintro e u' w'' ⟨rfl, rfl, rfl⟩
    have D0 := (bE.set 0 (.int .i64 2)).cell 0
    simp at D0
    exact ⟨.tuple #[.string ⟨#[]⟩, .int .i64 0, .int .i64 2], by simp [results, Try.results35, go_sem, D0], rfl, hB0.low ((Below.refl w.heap.size _).setCell (Nat.le_refl _) _) (Nat.le_refl _)⟩
end Go.Proofs.Ytdjcdhkdmgkdfaa
