/- moved: a move of any kind; a fault is turned into its error. -/
import Derived.Test.YtjfnhjmdgfkgnaaVA
import Derived.Defers
import Derived.Recover
import Derived.RegionTactic
import Derived.ChangeAlike
namespace Go.Proofs.Ytjfnhjmdgfkgnaa
open Go.RowKit Go.Proofs.Kit Go.Shelf

set_option maxHeartbeats 400000 in
theorem catch8_panicking (b : Nat) (x : Value) (c : Int) (older : List PanicEntry) (w : World) (hc : Blk w b #[x] 41) :
    CallsD Try.prog 114 #[.pointer (some ⟨b, 0, none⟩)] (.panicking ({ v := .iface 157 (.int .i64 c), recovered := false } :: older)) w fun e u' w' =>
      e = .returned (.tuple #[]) ∧ u' = .panicking ({ v := .iface 157 (.int .i64 c), recovered := true } :: older) ∧ w' = w.setCell ⟨b, 0, none⟩ (.int .i64 c) := by
  have hlt := hc.lt
  have c0 := hc.cell 0
  have f0 := hc.frozen 0
  simp only [List.getElem?_toArray, List.getElem?_cons_zero] at c0
  refine callsD_of_wpS Try.func114 rfl fun c₀ cs hu => ?_
  simp only [Try.ntmps114, List.size_toArray, List.length_cons, List.length_nil, Nat.reduceAdd, Nat.reduceSub, Array.replicate_succ, Array.replicate_zero, List.push_toArray, List.append_toArray, List.nil_append, List.cons_append]
  apply wpS_seq
  apply wpS_region
  simp [wpOpsS, go_sem, recoverD, hu, Exit.thenS]
  refine wpS_of_wp ?_
  clear hu
  have hta : ∀ w, (Instr.typeAssert (.iface 157 (.int .i64 c)) 20 157 true).run Try.prog w = .ok (.tuple #[.int .i64 c, .bool true]) w := fun _ => by kernel_rfl
  go_wp2
  exact ⟨rfl, _, rfl, .tuple #[], by simp [results, Try.results114], rfl, rfl, rfl⟩
set_option maxHeartbeats 400000 in
theorem catch8_idle (p : Addr) (w : World) :
    CallsD Try.prog 114 #[.pointer (some p)] .returning w fun e u' w' => e = .returned (.tuple #[]) ∧ u' = .returning ∧ w' = w := by
  refine callsD_of_wpS Try.func114 rfl fun c₀ cs hu => ?_
  simp only [Try.ntmps114, List.size_toArray, List.length_cons, List.length_nil, Nat.reduceAdd, Nat.reduceSub, Array.replicate_succ, Array.replicate_zero, List.push_toArray, List.append_toArray, List.nil_append, List.cons_append]
  apply wpS_seq
  apply wpS_region
  simp [wpOpsS, go_sem, recoverD, hu, Exit.thenS]
  refine wpS_of_wp ?_
  go_wp2
  exact ⟨rfl, .returning, by cases c₀; simp_all, .tuple #[], by simp [results, Try.results114], rfl, rfl, rfl⟩

def set7 (w : World) (b : Nat) (u0 u1 u2 u3 u4 u5 u6 : Value) : World := ((((((w.setCell ⟨b, 0, none⟩ u0).setCell ⟨b, 1, none⟩ u1).setCell ⟨b, 2, none⟩ u2).setCell ⟨b, 3, none⟩ u3).setCell ⟨b, 4, none⟩ u4).setCell ⟨b, 5, none⟩ u5).setCell ⟨b, 6, none⟩ u6
theorem leaves_same {P : Program} {fn : Func} {t t' : Array Value} {R : Ending → World → Prop} (h : results fn t = results fn t') : ∀ (ds : List Deferred) (u : FrameMode) (w : World), Leaves P fn t R ds u w → Leaves P fn t' R ds u w
  | [], .returning, w, hl => by simp only [Leaves] at hl ⊢; rw [← h]; exact hl
  | [], .panicking _, _, hl => hl
  | [], .run, _, hl => hl
  | d :: ds, u, w, hl => by
    simp only [Leaves] at hl ⊢
    obtain ⟨h1, fv, cap, f, args, h2, h3, h4⟩ := hl
    refine ⟨h1, fv, cap, f, args, h2, h3, h4.mono ?_⟩
    intro e u' w' he
    cases e with
    | returned v => exact leaves_same h ds _ _ he
    | panicked c => exact leaves_same h ds _ _ he
    | _ => exact he
theorem getD_put {α : Type} {xs : Array α} {d i : Nat} {v u : α} (h : d ≠ i) : (xs.setIfInBounds d v).getD i u = xs.getD i u := by
  rw [Array.getD_eq_getD_getElem?, Array.getD_eq_getD_getElem?, Array.getElem?_setIfInBounds_ne h]
theorem res_same (a : Act) (d : Nat) (v : Value) (h4 : d ≠ 4) (h5 : d ≠ 5) : results Try.f80 (a.put (some d) v).tmps = results Try.f80 a.tmps := by
  unfold results
  rw [Try.results80]
  simp [Act.put, Array.getElem?_setIfInBounds_ne h4, Array.getElem?_setIfInBounds_ne h5]
theorem hQ8 {K : Act → World → Prop} {R : Ending → World → Prop} (d : Nat) (h4 : d ≠ 4) (h5 : d ≠ 5) (v : Value) : ∀ c a w, Exit.then K (bodyPostD Try.prog Try.f80 R) (.panic c) (a.put (some d) v) w → Exit.then K (bodyPostD Try.prog Try.f80 R) (.panic c) a w := by
  intro c a w h
  simp only [Exit.then, bodyPostD] at h ⊢
  exact leaves_same (res_same a d v h4 h5) _ _ _ h
/-- The world in which a move is chosen. -/
abbrev nilS : Array Value := SC none 0 0 none 0 0 none 0 0 0 none 0 0 none 0 0 0
abbrev fns8 : Array Value := #[.nilFunc, .func (.func 115) #[] #[], .func (.func 116) #[] #[], .func (.func 117) #[] #[], .func (.func 118) #[] #[]]
abbrev W5 (w : World) (A : Array Value) (k key : Int) : World := ((((w.alloc (.cells A 111)).alloc (.cells #[.int .i64 k, .int .u64 key] 70)).alloc (.cells nilS 111)).alloc (.cells #[.int .i64 0] 41)).alloc (.cells fns8 161)
structure MV (w : World) (A : Array Value) (k key : Int) (W : World) : Prop where
  k2 : Blk W w.heap.size A 111
  k3 : Blk W (w.heap.size + 1) #[.int .i64 k, .int .u64 key] 70
  k4 : ∃ y0 y1 y2 y3 y4 y5 y6, Blk W (w.heap.size + 1 + 1) #[y0, y1, y2, y3, y4, y5, y6] 111
  k5 : ∃ y, Blk W (w.heap.size + 1 + 1 + 1) #[y] 41
  k6 : Blk W (w.heap.size + 1 + 1 + 1 + 1) fns8 161
  low : Below w.heap.size w W
theorem mv_new (w : World) (A : Array Value) (k key : Int) : MV w A k key (W5 w A k key) := by
  have h3 := Blk.new (w.alloc (.cells A 111)) #[.int .i64 k, .int .u64 key] 70
  have h4 := Blk.new ((w.alloc (.cells A 111)).alloc (.cells #[.int .i64 k, .int .u64 key] 70)) nilS 111
  have h5 := Blk.new (((w.alloc (.cells A 111)).alloc (.cells #[.int .i64 k, .int .u64 key] 70)).alloc (.cells nilS 111)) #[.int .i64 0] 41
  have h6 := Blk.new ((((w.alloc (.cells A 111)).alloc (.cells #[.int .i64 k, .int .u64 key] 70)).alloc (.cells nilS 111)).alloc (.cells #[.int .i64 0] 41)) fns8 161
  simp only [World.size_alloc] at h3 h4 h5 h6
  exact ⟨((((Blk.new w A 111).alloc _).alloc _).alloc _).alloc _, ((h3.alloc _).alloc _).alloc _, ⟨_, _, _, _, _, _, _, (h4.alloc _).alloc _⟩, ⟨_, h5.alloc _⟩, h6, (((((Gr.alloc w _).trans (Gr.alloc _ _)).trans (Gr.alloc _ _)).trans (Gr.alloc _ _)).trans (Gr.alloc _ _)).below⟩
theorem mv_new4 (w : World) (A : Array Value) (k key : Int) : Blk (W5 w A k key) (w.heap.size + 1 + 1) nilS 111 := by
  have h4 := Blk.new ((w.alloc (.cells A 111)).alloc (.cells #[.int .i64 k, .int .u64 key] 70)) nilS 111
  simp only [World.size_alloc] at h4
  exact (h4.alloc _).alloc _
theorem MV.later {w : World} {A : Array Value} {k key : Int} {W W' : World} (h : MV w A k key W) (hb : Below W.heap.size W W') : MV w A k key W' :=
  ⟨h.k2.later hb, h.k3.later hb, let ⟨y0, y1, y2, y3, y4, y5, y6, g⟩ := h.k4; ⟨y0, y1, y2, y3, y4, y5, y6, g.later hb⟩, let ⟨y, g⟩ := h.k5; ⟨y, g.later hb⟩, h.k6.later hb, below_later h.low hb⟩
theorem MV.drew {w : World} {A : Array Value} {k key : Int} {W : World} (h : MV w A k key W) : MV w A k key W.drew := h.later (Below.refl _ _).drew
theorem MV.st4 {w : World} {A : Array Value} {k key : Int} {W : World} (h : MV w A k key W) (u0 u1 u2 u3 u4 u5 u6 : Value) :
    MV w A k key (((((((W.setCell ⟨w.heap.size + 1 + 1, 0, none⟩ u0).setCell ⟨w.heap.size + 1 + 1, 1, none⟩ u1).setCell ⟨w.heap.size + 1 + 1, 2, none⟩ u2).setCell ⟨w.heap.size + 1 + 1, 3, none⟩ u3).setCell ⟨w.heap.size + 1 + 1, 4, none⟩ u4).setCell ⟨w.heap.size + 1 + 1, 5, none⟩ u5).setCell ⟨w.heap.size + 1 + 1, 6, none⟩ u6) :=
  ⟨((((((h.k2.other (by simp; try omega) _).other (by simp; try omega) _).other (by simp; try omega) _).other (by simp; try omega) _).other (by simp; try omega) _).other (by simp; try omega) _).other (by simp; try omega) _,
   ((((((h.k3.other (by simp; try omega) _).other (by simp; try omega) _).other (by simp; try omega) _).other (by simp; try omega) _).other (by simp; try omega) _).other (by simp; try omega) _).other (by simp; try omega) _,
   let ⟨_, _, _, _, _, _, _, g⟩ := h.k4; ⟨_, _, _, _, _, _, _, g.set7 u0 u1 u2 u3 u4 u5 u6⟩,
   let ⟨y, g⟩ := h.k5; ⟨y, ((((((g.other (by simp; try omega) _).other (by simp; try omega) _).other (by simp; try omega) _).other (by simp; try omega) _).other (by simp; try omega) _).other (by simp; try omega) _).other (by simp; try omega) _⟩,
   ((((((h.k6.other (by simp; try omega) _).other (by simp; try omega) _).other (by simp; try omega) _).other (by simp; try omega) _).other (by simp; try omega) _).other (by simp; try omega) _).other (by simp; try omega) _,
   below_set7 h.low (by omega) u0 u1 u2 u3 u4 u5 u6⟩
theorem MV.st5 {w : World} {A : Array Value} {k key : Int} {W : World} (h : MV w A k key W) (u : Value) : MV w A k key (W.setCell ⟨w.heap.size + 1 + 1 + 1, 0, none⟩ u) :=
  ⟨h.k2.other (by simp; try omega) _, h.k3.other (by simp; try omega) _, let ⟨y0, y1, y2, y3, y4, y5, y6, g⟩ := h.k4; ⟨y0, y1, y2, y3, y4, y5, y6, g.other (by simp; try omega) _⟩, let ⟨_, g⟩ := h.k5; ⟨u, by simpa using g.set 0 u⟩, h.k6.other (by simp; try omega) _, h.low.setCell (by simp; omega) _⟩
theorem bf7 {W : World} {b : Nat} {y0 y1 y2 y3 y4 y5 y6 : Value} {t : TypeId} (h : Blk W b #[y0, y1, y2, y3, y4, y5, y6] t) : W.frozen? ⟨b, 0, none⟩ = false ∧ W.frozen? ⟨b, 1, none⟩ = false ∧ W.frozen? ⟨b, 2, none⟩ = false ∧ W.frozen? ⟨b, 3, none⟩ = false ∧ W.frozen? ⟨b, 4, none⟩ = false ∧ W.frozen? ⟨b, 5, none⟩ = false ∧ W.frozen? ⟨b, 6, none⟩ = false :=
  ⟨h.frozen 0, h.frozen 1, h.frozen 2, h.frozen 3, h.frozen 4, h.frozen 5, h.frozen 6⟩
/-- What the caller is told. -/
def Told8 (lo r : Nat) (bs : List Br) (lv : List Int) (k key : Int) (X : Cs) (w : World) (e : Ending) (w' : World) : Prop :=
  Below w.heap.size w w' ∧ ((cerr k X = 0 ∧ ∃ (q : Nat) (ob : Option Addr) (m cb : Nat) (ol : Option Addr) (qq cl : Nat) (ok : Option Addr) (nk ck : Nat) (o0 : Option Addr) (n0 c0 : Nat) (o1 : Option Addr) (n1 c1 : Nat), Lk8 k key X q ∧
      e = .returned (.tuple #[.agg (SC ob m cb ol qq cl ok nk ck ((cgo bs lv k key q X).d : Int) o0 n0 c0 o1 n1 c1 ((cgo bs lv k key q X).s : Int)), .int .i64 0]) ∧ StM lo r w' bs lv (cgo bs lv k key q X) ob m cb ol qq cl ok nk ck o0 n0 c0 o1 n1 c1) ∨
    (cerr k X ≠ 0 ∧ e = .returned (.tuple #[.agg nilS, .int .i64 (cerr k X)])))
theorem res8_ok {lo r : Nat} {bs : List Br} {lv : List Int} {k key : Int} {X : Cs} {w : World} {e : Ending} {w' : World} (hc : cerr k X = 0) (h : Res8 lo r bs lv k key X w e w') :
    Below w.heap.size w w' ∧ ∃ (q : Nat) (ob : Option Addr) (m cb : Nat) (ol : Option Addr) (qq cl : Nat) (ok : Option Addr) (nk ck : Nat) (o0 : Option Addr) (n0 c0 : Nat) (o1 : Option Addr) (n1 c1 : Nat), Lk8 k key X q ∧
      ∃ X2 D2 S2, Hid (X2 = cgo bs lv k key q X ∧ D2 = (X2.d : Int) ∧ S2 = (X2.s : Int)) ∧ e = .returned (.agg (SC ob m cb ol qq cl ok nk ck D2 o0 n0 c0 o1 n1 c1 S2)) ∧ Hid (StM lo r w' bs lv X2 ob m cb ol qq cl ok nk ck o0 n0 c0 o1 n1 c1) := by
  obtain ⟨b, ⟨_, q, v, hL, rfl, ob, m, cb, ol, qq, cl, ok, nk, ck, o0, n0, c0, o1, n1, c1, rfl, hS⟩ | ⟨h1, _⟩⟩ := h
  · exact ⟨b, q, ob, m, cb, ol, qq, cl, ok, nk, ck, o0, n0, c0, o1, n1, c1, hL, _, _, _, Lib.hid ⟨rfl, rfl, rfl⟩, rfl, Lib.hid hS⟩
  · exact absurd hc h1
set_option maxHeartbeats 400000 in
theorem lastStore {ops : Array Oper} {md : Region.Mode} {S : World → Prop} {K : Act → World → Prop} {Q : Exit → Act → World → Prop} {o : Oper} {fuel : Nat} {listed : Array Bool} {tmps : Array Value} {ds : List Deferred} {w : World} {b : Nat} {y : Value} (hr : Region.ready md ops listed = [9]) (ho : ops[9]? = some o)
    (hw : Region.wanted o (yielded ops tmps) = true) (hd : Region.ready md ops (listed.setIfInBounds 9 true) = []) (h5 : tmps.getD 5 undef = .pointer (some ⟨b, 0, none⟩)) (hb : Blk w b #[y] 41) (e1 : o.op = Op.store 41 (Operand.tmp 5) (Operand.const (Value.int IntKind.i64 0))) (e2 : o.dst = none)
    (hS : S (w.setCell ⟨b, 0, none⟩ (.int .i64 0))) (hQ : K { tmps := tmps, defers := ds } (w.setCell ⟨b, 0, none⟩ (.int .i64 0))) : wpAnyH Try.prog md ops (Exit.then K Q) S (fuel + 1) listed { tmps := tmps, defers := ds } w := by
  refine lastOp hr ho hw hd ?_
  intro K' hK
  have c0 := hb.cell 0
  have f0 := hb.frozen 0
  have lb := hb.lt
  obtain ⟨dst, op, ty, pos, after, guard⟩ := o
  simp only at e1 e2
  subst e1 e2
  simp only [List.getElem?_toArray, List.getElem?_cons_zero] at c0
  go_simp
  exact hK _ _ hS hQ
theorem res8_no {lo r : Nat} {bs : List Br} {lv : List Int} {k key : Int} {X : Cs} {w : World} {e : Ending} {w' : World} (hc : cerr k X ≠ 0) (h : Res8 lo r bs lv k key X w e w') : Below w.heap.size w w' ∧ e = fault8 (cerr k X) := by
  obtain ⟨b, ⟨h1, _⟩ | ⟨_, h2⟩⟩ := h
  · exact absurd h1 hc
  · exact ⟨b, h2⟩
section
variable {lo r : Nat} {w : World} {bs : List Br} {lv : List Int} {X : Cs} {ob : Option Addr} {m cb : Nat} {ol : Option Addr} {q cl : Nat} {ok : Option Addr} {nk ck : Nat} {o0 : Option Addr} {n0 c0 : Nat} {o1 : Option Addr} {n1 c1 : Nat}
set_option maxRecDepth 100000 in
set_option maxHeartbeats 4000000 in
theorem moved1_ok (SD SS key : Int) (hr : r ≤ w.heap.size) (hc : cerr 1 X = 0)
    (hf : ∀ W, Below w.heap.size w W → Calls Try.prog 115 #[.agg (SC ob m cb ol q cl ok nk ck SD o0 n0 c0 o1 n1 c1 SS), .int .u64 key] W (Res8 lo r bs lv 1 key X W)) :
    Calls Try.prog 80 #[.agg (SC ob m cb ol q cl ok nk ck SD o0 n0 c0 o1 n1 c1 SS), .agg #[.int .i64 1, .int .u64 key]] w (Told8 lo r bs lv 1 key X w) := by
  have hmf : ∀ (fn : Fn) (first cap : Array Value) (w : World), (Instr.makeFunc fn first cap).run Try.prog w = .ok (.func fn first cap) w := fun _ _ _ _ => rfl
  have HF := Lib.hid hf
  have HC := Lib.hid hc
  clear hf hc
  go_enter_defers Try.func80, Try.ntmps80
  go_wp2_with fail
  obtain ⟨W, hW⟩ : ∃ W, W = ((((w.alloc (.cells (SC ob m cb ol q cl ok nk ck SD o0 n0 c0 o1 n1 c1 SS) 111)).alloc (.cells #[.int .i64 1, .int .u64 key] 70)).alloc (.cells #[.slice none 0 0, .slice none 0 0, .slice none 0 0, .int .i64 0, .slice none 0 0, .slice none 0 0, .int .i64 0] 111)).alloc (.cells #[.int .i64 0] 41)).alloc (.cells #[.nilFunc, .func (.func 115) #[] #[], .func (.func 116) #[] #[], .func (.func 117) #[] #[], .func (.func 118) #[] #[]] 161) := ⟨_, rfl⟩
  rw [← hW]
  have hmv : MV w (SC ob m cb ol q cl ok nk ck SD o0 n0 c0 o1 n1 c1 SS) 1 key W := by rw [hW]; exact mv_new _ _ _ _
  clear hW
  have hk : ∀ W', MV w (SC ob m cb ol q cl ok nk ck SD o0 n0 c0 o1 n1 c1 SS) 1 key W' → ((W'.cell? ⟨w.heap.size, 0, none⟩ = some (.slice ob m cb) ∧ W'.cell? ⟨w.heap.size, 1, none⟩ = some (.slice ol q cl) ∧ W'.cell? ⟨w.heap.size, 2, none⟩ = some (.slice ok nk ck) ∧ W'.cell? ⟨w.heap.size, 3, none⟩ = some (.int .i64 SD) ∧ W'.cell? ⟨w.heap.size, 4, none⟩ = some (.slice o0 n0 c0) ∧ W'.cell? ⟨w.heap.size, 5, none⟩ = some (.slice o1 n1 c1) ∧ W'.cell? ⟨w.heap.size, 6, none⟩ = some (.int .i64 SS)) ∧ (W'.cell? ⟨w.heap.size + 1, 0, none⟩ = some (.int .i64 1) ∧ W'.cell? ⟨w.heap.size + 1, 1, none⟩ = some (.int .u64 key) ∧ W'.cell? ⟨w.heap.size + 1 + 1 + 1 + 1, 1, none⟩ = some (.func (.func 115) #[] #[])) ∧ w.heap.size < W'.heap.size ∧ w.heap.size + 1 < W'.heap.size ∧ w.heap.size + 1 + 1 + 1 + 1 < W'.heap.size) ∧ MV w (SC ob m cb ol q cl ok nk ck SD o0 n0 c0 o1 n1 c1 SS) 1 key W' := fun W' h => ⟨⟨h.k2.all7, ⟨h.k3.cell 0, h.k3.cell 1, h.k6.cell 1⟩, h.k2.lt, h.k3.lt, h.k6.lt⟩, h⟩
  have HK := Lib.hid hk
  have hws := hmv
  clear hk hmv
  go_wp2_with fail
  refine wp_region_held_drew (S := (fun W' => ((W'.cell? ⟨w.heap.size, 0, none⟩ = some (.slice ob m cb) ∧ W'.cell? ⟨w.heap.size, 1, none⟩ = some (.slice ol q cl) ∧ W'.cell? ⟨w.heap.size, 2, none⟩ = some (.slice ok nk ck) ∧ W'.cell? ⟨w.heap.size, 3, none⟩ = some (.int .i64 SD) ∧ W'.cell? ⟨w.heap.size, 4, none⟩ = some (.slice o0 n0 c0) ∧ W'.cell? ⟨w.heap.size, 5, none⟩ = some (.slice o1 n1 c1) ∧ W'.cell? ⟨w.heap.size, 6, none⟩ = some (.int .i64 SS)) ∧ (W'.cell? ⟨w.heap.size + 1, 0, none⟩ = some (.int .i64 1) ∧ W'.cell? ⟨w.heap.size + 1, 1, none⟩ = some (.int .u64 key) ∧ W'.cell? ⟨w.heap.size + 1 + 1 + 1 + 1, 1, none⟩ = some (.func (.func 115) #[] #[])) ∧ w.heap.size < W'.heap.size ∧ w.heap.size + 1 < W'.heap.size ∧ w.heap.size + 1 + 1 + 1 + 1 < W'.heap.size) ∧ MV w (SC ob m cb ol q cl ok nk ck SD o0 n0 c0 o1 n1 c1 SS) 1 key W')) (by kernel_rfl) ?_ (fun hHeld => ?_)
  · exact HK.out _ hws.drew
  have hws := hws.drew
  refine takeOn 0 { dst := some 18, op := Op.fieldAddr 70 (Operand.tmp 3) 0, type := 0, pos := "stand.go:45", after := #[], guard := none } (v := ?v0) rfl (by kernel_rfl) (by kernel_rfl) (by kernel_rfl) (hQ8 _ (by decide) (by decide) _) (by rfl) (by assumption) ?yv0 ?_
  case yv0 =>
    intro w hSw
    try dsimp only at hSw
    go_simp
    try (with_reducible rfl)
  try simp only [Act.put, List.setIfInBounds_toArray, List.set_cons_zero, List.set_cons_succ]
  refine takeOn 1 { dst := some 19, op := Op.load 3 (Operand.tmp 18), type := 3, pos := "stand.go:45", after := #[{ on := 0, ground := Ground.data }], guard := none } (v := ?v1) rfl (by kernel_rfl) (by kernel_rfl) (by kernel_rfl) (hQ8 _ (by decide) (by decide) _) (by rfl) (by assumption) ?yv1 ?_
  case yv1 =>
    intro w hSw
    try dsimp only at hSw
    go_simp
    try (with_reducible rfl)
  try simp only [Act.put, List.setIfInBounds_toArray, List.set_cons_zero, List.set_cons_succ]
  refine takeOn 2 { dst := some 20, op := Op.indexAddr 161 (Operand.tmp 6) (Operand.tmp 19), type := 0, pos := "stand.go:45", after := #[{ on := 1, ground := Ground.data }], guard := none } (v := ?v2) rfl (by kernel_rfl) (by kernel_rfl) (by kernel_rfl) (hQ8 _ (by decide) (by decide) _) (by rfl) (by assumption) ?yv2 ?_
  case yv2 =>
    intro w hSw
    try dsimp only at hSw
    go_simp
    try (with_reducible rfl)
  try simp only [Act.put, List.setIfInBounds_toArray, List.set_cons_zero, List.set_cons_succ]
  refine takeOn 3 { dst := some 21, op := Op.load 159 (Operand.tmp 20), type := 159, pos := "stand.go:45", after := #[{ on := 2, ground := Ground.data }], guard := none } (v := ?v3) rfl (by kernel_rfl) (by kernel_rfl) (by kernel_rfl) (hQ8 _ (by decide) (by decide) _) (by rfl) (by assumption) ?yv3 ?_
  case yv3 =>
    intro w hSw
    try dsimp only at hSw
    go_simp
    try (with_reducible rfl)
  try simp only [Act.put, List.setIfInBounds_toArray, List.set_cons_zero, List.set_cons_succ]
  refine takeOn 4 { dst := some 22, op := Op.load 111 (Operand.tmp 2), type := 111, pos := "stand.go:45", after := #[], guard := none } (v := ?v4) rfl (by kernel_rfl) (by kernel_rfl) (by kernel_rfl) (hQ8 _ (by decide) (by decide) _) (by rfl) (by assumption) ?yv4 ?_
  case yv4 =>
    intro w hSw
    try dsimp only at hSw
    go_simp
    try (with_reducible rfl)
  try simp only [Act.put, List.setIfInBounds_toArray, List.set_cons_zero, List.set_cons_succ]
  refine takeOn 5 { dst := some 23, op := Op.fieldAddr 70 (Operand.tmp 3) 1, type := 0, pos := "stand.go:45", after := #[], guard := none } (v := ?v5) rfl (by kernel_rfl) (by kernel_rfl) (by kernel_rfl) (hQ8 _ (by decide) (by decide) _) (by rfl) (by assumption) ?yv5 ?_
  case yv5 =>
    intro w hSw
    try dsimp only at hSw
    go_simp
    try (with_reducible rfl)
  try simp only [Act.put, List.setIfInBounds_toArray, List.set_cons_zero, List.set_cons_succ]
  refine takeOn 6 { dst := some 24, op := Op.load 32 (Operand.tmp 23), type := 32, pos := "stand.go:45", after := #[{ on := 5, ground := Ground.data }], guard := none } (v := ?v6) rfl (by kernel_rfl) (by kernel_rfl) (by kernel_rfl) (hQ8 _ (by decide) (by decide) _) (by rfl) (by assumption) ?yv6 ?_
  case yv6 =>
    intro w hSw
    try dsimp only at hSw
    go_simp
    try (with_reducible rfl)
  try simp only [Act.put, List.setIfInBounds_toArray, List.set_cons_zero, List.set_cons_succ]
  refine wpAnyH_ready (rs := [7]) (by kernel_rfl) (by simp) ?_
  refine (AllReadyH.cons (o := { dst := some 25, op := Op.call { callee := Callee.value (Operand.tmp 21), args := #[Operand.tmp 22, Operand.tmp 24], argTypes := #[111, 32] }, type := 111, pos := "stand.go:45", after := #[{ on := 3, ground := Ground.data }, { on := 4, ground := Ground.data }, { on := 6, ground := Ground.data }], guard := none }) rfl (fun K hK => ?_) AllReadyH.nil)
  · skip
    go_simp
    go_at_call 115
    refine (HF.out _ hws.low).mono ?_
    rintro e w3 h3
    obtain ⟨b3, qq, ob', m', cb', ol', q', cl', ok', nk', ck', o0', n0', c0', o1', n1', c1', hLk, X2, D2, S2, hX2, rfl, h2⟩ := res8_ok HC.out h3
    have HLk := Lib.hid hLk
    have hws := hws.later b3
    clear hLk h3
    obtain ⟨y0, y1, y2, y3, y4, y5, y6, hk4⟩ := hws.k4
    obtain ⟨f0, f1, f2, f3, f4, f5, f6⟩ := bf7 hk4
    obtain ⟨v0, v1, v2, v3, v4, v5, v6⟩ := hk4.all7
    have l4 := hk4.lt
    have HK4 := Lib.hid hk4
    clear hk4
    try (go_wp2_with fail)
    refine hK.out _ _ ?_ (fun hHeld => ?_)
    · exact HK.out _ hws
    clear hK K
    try simp only [Act.put, List.setIfInBounds_toArray, List.set_cons_zero, List.set_cons_succ]
    refine wpAnyH_ready (rs := [8]) (by kernel_rfl) (by simp) ?_
    refine (AllReadyH.cons (o := { dst := none, op := Op.store 111 (Operand.tmp 4) (Operand.tmp 25), type := 0, pos := "stand.go:45", after := #[{ on := 7, ground := Ground.data }, { on := 7, ground := Ground.chain }, { on := 0, ground := Ground.phase }, { on := 1, ground := Ground.phase }, { on := 2, ground := Ground.phase }, { on := 3, ground := Ground.phase }, { on := 4, ground := Ground.phase }, { on := 5, ground := Ground.phase }, { on := 6, ground := Ground.phase }, { on := 7, ground := Ground.phase }], guard := none }) rfl (fun K hK => ?_) AllReadyH.nil)
    · skip
      go_simp
      try (go_wp2_with fail)
      refine hK.out _ _ ?_ (fun hHeld => ?_)
      · exact HK.out _ (hws.st4 _ _ _ _ _ _ _)
      clear hK K
      try simp only [Act.put, List.setIfInBounds_toArray, List.set_cons_zero, List.set_cons_succ]
      obtain ⟨y7, hk5⟩ := (hws.st4 (.slice ob' m' cb') (.slice ol' q' cl') (.slice ok' nk' ck') (.int .i64 D2) (.slice o0' n0' c0') (.slice o1' n1' c1') (.int .i64 S2)).k5
      refine lastStore (by kernel_rfl) rfl (by kernel_rfl) (by kernel_rfl) rfl hk5 rfl rfl (HK.out _ ((hws.st4 _ _ _ _ _ _ _).st5 _)) ?_
      have kR := (HK4.out.set7 (.slice ob' m' cb') (.slice ol' q' cl') (.slice ok' nk' ck') (.int .i64 D2) (.slice o0' n0' c0') (.slice o1' n1' c1') (.int .i64 S2)).other (p := ⟨w.heap.size + 1 + 1 + 1, 0, none⟩) (by simp) (.int .i64 0)
      have kE := hk5.set 0 (.int .i64 0)
      obtain ⟨r0, r1, r2, r3, r4, r5, r6⟩ := kR.all7
      have e0 := kE.cell 0
      simp only [List.setIfInBounds_toArray, List.set_cons_zero, List.getElem?_toArray, List.getElem?_cons_zero] at e0
      have hlow := ((hws.st4 (.slice ob' m' cb') (.slice ol' q' cl') (.slice ok' nk' ck') (.int .i64 D2) (.slice o0' n0' c0') (.slice o1' n1' c1') (.int .i64 S2)).st5 (.int .i64 0)).low
      clear f0 f1 f2 f3 f4 f5 f6 v0 v1 v2 v3 v4 v5 v6 l4 hk5 hHeld kR kE
      go_wp2_with fail
      refine leaves_cons (f := 114) (args := #[.pointer (some ⟨w.heap.size + 1 + 1 + 1, 0, none⟩)]) (by simp) (by simp [go_sem]) ?_
      refine (catch8_idle _ _).mono ?_
      rintro e u' w'' ⟨rfl, rfl, rfl⟩
      obtain ⟨hx, hd, hs⟩ := hX2.out
      have g3 := (MV.low hws)
      refine ⟨.tuple #[.agg (SC ob' m' cb' ol' q' cl' ok' nk' ck' D2 o0' n0' c0' o1' n1' c1' S2), .int .i64 0], by simp [results, Try.results80, go_sem, r0, r1, r2, r3, r4, r5, r6, e0], hlow, .inl ⟨HC.out, qq, ob', m', cb', ol', q', cl', ok', nk', ck', o0', n0', c0', o1', n1', c1', HLk.out, by rw [← hx, hd, hs], ?_⟩⟩
      rw [← hx]
      exact h2.out.lower ((below_set7 (Below.refl w.heap.size w3) (by omega) _ _ _ _ _ _ _).setCell (by simp; omega) _) hr
set_option maxRecDepth 100000 in
set_option maxHeartbeats 4000000 in
theorem moved2_ok (SD SS key : Int) (hr : r ≤ w.heap.size) (hc : cerr 2 X = 0)
    (hf : ∀ W, Below w.heap.size w W → Calls Try.prog 116 #[.agg (SC ob m cb ol q cl ok nk ck SD o0 n0 c0 o1 n1 c1 SS), .int .u64 key] W (Res8 lo r bs lv 2 key X W)) :
    Calls Try.prog 80 #[.agg (SC ob m cb ol q cl ok nk ck SD o0 n0 c0 o1 n1 c1 SS), .agg #[.int .i64 2, .int .u64 key]] w (Told8 lo r bs lv 2 key X w) := by
  have hmf : ∀ (fn : Fn) (first cap : Array Value) (w : World), (Instr.makeFunc fn first cap).run Try.prog w = .ok (.func fn first cap) w := fun _ _ _ _ => rfl
  have HF := Lib.hid hf
  have HC := Lib.hid hc
  clear hf hc
  go_enter_defers Try.func80, Try.ntmps80
  go_wp2_with fail
  obtain ⟨W, hW⟩ : ∃ W, W = ((((w.alloc (.cells (SC ob m cb ol q cl ok nk ck SD o0 n0 c0 o1 n1 c1 SS) 111)).alloc (.cells #[.int .i64 2, .int .u64 key] 70)).alloc (.cells #[.slice none 0 0, .slice none 0 0, .slice none 0 0, .int .i64 0, .slice none 0 0, .slice none 0 0, .int .i64 0] 111)).alloc (.cells #[.int .i64 0] 41)).alloc (.cells #[.nilFunc, .func (.func 115) #[] #[], .func (.func 116) #[] #[], .func (.func 117) #[] #[], .func (.func 118) #[] #[]] 161) := ⟨_, rfl⟩
  rw [← hW]
  have hmv : MV w (SC ob m cb ol q cl ok nk ck SD o0 n0 c0 o1 n1 c1 SS) 2 key W := by rw [hW]; exact mv_new _ _ _ _
  clear hW
  have hk : ∀ W', MV w (SC ob m cb ol q cl ok nk ck SD o0 n0 c0 o1 n1 c1 SS) 2 key W' → ((W'.cell? ⟨w.heap.size, 0, none⟩ = some (.slice ob m cb) ∧ W'.cell? ⟨w.heap.size, 1, none⟩ = some (.slice ol q cl) ∧ W'.cell? ⟨w.heap.size, 2, none⟩ = some (.slice ok nk ck) ∧ W'.cell? ⟨w.heap.size, 3, none⟩ = some (.int .i64 SD) ∧ W'.cell? ⟨w.heap.size, 4, none⟩ = some (.slice o0 n0 c0) ∧ W'.cell? ⟨w.heap.size, 5, none⟩ = some (.slice o1 n1 c1) ∧ W'.cell? ⟨w.heap.size, 6, none⟩ = some (.int .i64 SS)) ∧ (W'.cell? ⟨w.heap.size + 1, 0, none⟩ = some (.int .i64 2) ∧ W'.cell? ⟨w.heap.size + 1, 1, none⟩ = some (.int .u64 key) ∧ W'.cell? ⟨w.heap.size + 1 + 1 + 1 + 1, 2, none⟩ = some (.func (.func 116) #[] #[])) ∧ w.heap.size < W'.heap.size ∧ w.heap.size + 1 < W'.heap.size ∧ w.heap.size + 1 + 1 + 1 + 1 < W'.heap.size) ∧ MV w (SC ob m cb ol q cl ok nk ck SD o0 n0 c0 o1 n1 c1 SS) 2 key W' := fun W' h => ⟨⟨h.k2.all7, ⟨h.k3.cell 0, h.k3.cell 1, h.k6.cell 2⟩, h.k2.lt, h.k3.lt, h.k6.lt⟩, h⟩
  have HK := Lib.hid hk
  have hws := hmv
  clear hk hmv
  go_wp2_with fail
  refine wp_region_held_drew (S := (fun W' => ((W'.cell? ⟨w.heap.size, 0, none⟩ = some (.slice ob m cb) ∧ W'.cell? ⟨w.heap.size, 1, none⟩ = some (.slice ol q cl) ∧ W'.cell? ⟨w.heap.size, 2, none⟩ = some (.slice ok nk ck) ∧ W'.cell? ⟨w.heap.size, 3, none⟩ = some (.int .i64 SD) ∧ W'.cell? ⟨w.heap.size, 4, none⟩ = some (.slice o0 n0 c0) ∧ W'.cell? ⟨w.heap.size, 5, none⟩ = some (.slice o1 n1 c1) ∧ W'.cell? ⟨w.heap.size, 6, none⟩ = some (.int .i64 SS)) ∧ (W'.cell? ⟨w.heap.size + 1, 0, none⟩ = some (.int .i64 2) ∧ W'.cell? ⟨w.heap.size + 1, 1, none⟩ = some (.int .u64 key) ∧ W'.cell? ⟨w.heap.size + 1 + 1 + 1 + 1, 2, none⟩ = some (.func (.func 116) #[] #[])) ∧ w.heap.size < W'.heap.size ∧ w.heap.size + 1 < W'.heap.size ∧ w.heap.size + 1 + 1 + 1 + 1 < W'.heap.size) ∧ MV w (SC ob m cb ol q cl ok nk ck SD o0 n0 c0 o1 n1 c1 SS) 2 key W')) (by kernel_rfl) ?_ (fun hHeld => ?_)
  · exact HK.out _ hws.drew
  have hws := hws.drew
  refine takeOn 0 { dst := some 18, op := Op.fieldAddr 70 (Operand.tmp 3) 0, type := 0, pos := "stand.go:45", after := #[], guard := none } (v := ?v0) rfl (by kernel_rfl) (by kernel_rfl) (by kernel_rfl) (hQ8 _ (by decide) (by decide) _) (by rfl) (by assumption) ?yv0 ?_
  case yv0 =>
    intro w hSw
    try dsimp only at hSw
    go_simp
    try (with_reducible rfl)
  try simp only [Act.put, List.setIfInBounds_toArray, List.set_cons_zero, List.set_cons_succ]
  refine takeOn 1 { dst := some 19, op := Op.load 3 (Operand.tmp 18), type := 3, pos := "stand.go:45", after := #[{ on := 0, ground := Ground.data }], guard := none } (v := ?v1) rfl (by kernel_rfl) (by kernel_rfl) (by kernel_rfl) (hQ8 _ (by decide) (by decide) _) (by rfl) (by assumption) ?yv1 ?_
  case yv1 =>
    intro w hSw
    try dsimp only at hSw
    go_simp
    try (with_reducible rfl)
  try simp only [Act.put, List.setIfInBounds_toArray, List.set_cons_zero, List.set_cons_succ]
  refine takeOn 2 { dst := some 20, op := Op.indexAddr 161 (Operand.tmp 6) (Operand.tmp 19), type := 0, pos := "stand.go:45", after := #[{ on := 1, ground := Ground.data }], guard := none } (v := ?v2) rfl (by kernel_rfl) (by kernel_rfl) (by kernel_rfl) (hQ8 _ (by decide) (by decide) _) (by rfl) (by assumption) ?yv2 ?_
  case yv2 =>
    intro w hSw
    try dsimp only at hSw
    go_simp
    try (with_reducible rfl)
  try simp only [Act.put, List.setIfInBounds_toArray, List.set_cons_zero, List.set_cons_succ]
  refine takeOn 3 { dst := some 21, op := Op.load 159 (Operand.tmp 20), type := 159, pos := "stand.go:45", after := #[{ on := 2, ground := Ground.data }], guard := none } (v := ?v3) rfl (by kernel_rfl) (by kernel_rfl) (by kernel_rfl) (hQ8 _ (by decide) (by decide) _) (by rfl) (by assumption) ?yv3 ?_
  case yv3 =>
    intro w hSw
    try dsimp only at hSw
    go_simp
    try (with_reducible rfl)
  try simp only [Act.put, List.setIfInBounds_toArray, List.set_cons_zero, List.set_cons_succ]
  refine takeOn 4 { dst := some 22, op := Op.load 111 (Operand.tmp 2), type := 111, pos := "stand.go:45", after := #[], guard := none } (v := ?v4) rfl (by kernel_rfl) (by kernel_rfl) (by kernel_rfl) (hQ8 _ (by decide) (by decide) _) (by rfl) (by assumption) ?yv4 ?_
  case yv4 =>
    intro w hSw
    try dsimp only at hSw
    go_simp
    try (with_reducible rfl)
  try simp only [Act.put, List.setIfInBounds_toArray, List.set_cons_zero, List.set_cons_succ]
  refine takeOn 5 { dst := some 23, op := Op.fieldAddr 70 (Operand.tmp 3) 1, type := 0, pos := "stand.go:45", after := #[], guard := none } (v := ?v5) rfl (by kernel_rfl) (by kernel_rfl) (by kernel_rfl) (hQ8 _ (by decide) (by decide) _) (by rfl) (by assumption) ?yv5 ?_
  case yv5 =>
    intro w hSw
    try dsimp only at hSw
    go_simp
    try (with_reducible rfl)
  try simp only [Act.put, List.setIfInBounds_toArray, List.set_cons_zero, List.set_cons_succ]
  refine takeOn 6 { dst := some 24, op := Op.load 32 (Operand.tmp 23), type := 32, pos := "stand.go:45", after := #[{ on := 5, ground := Ground.data }], guard := none } (v := ?v6) rfl (by kernel_rfl) (by kernel_rfl) (by kernel_rfl) (hQ8 _ (by decide) (by decide) _) (by rfl) (by assumption) ?yv6 ?_
  case yv6 =>
    intro w hSw
    try dsimp only at hSw
    go_simp
    try (with_reducible rfl)
  try simp only [Act.put, List.setIfInBounds_toArray, List.set_cons_zero, List.set_cons_succ]
  refine wpAnyH_ready (rs := [7]) (by kernel_rfl) (by simp) ?_
  refine (AllReadyH.cons (o := { dst := some 25, op := Op.call { callee := Callee.value (Operand.tmp 21), args := #[Operand.tmp 22, Operand.tmp 24], argTypes := #[111, 32] }, type := 111, pos := "stand.go:45", after := #[{ on := 3, ground := Ground.data }, { on := 4, ground := Ground.data }, { on := 6, ground := Ground.data }], guard := none }) rfl (fun K hK => ?_) AllReadyH.nil)
  · skip
    go_simp
    go_at_call 116
    refine (HF.out _ hws.low).mono ?_
    rintro e w3 h3
    obtain ⟨b3, qq, ob', m', cb', ol', q', cl', ok', nk', ck', o0', n0', c0', o1', n1', c1', hLk, X2, D2, S2, hX2, rfl, h2⟩ := res8_ok HC.out h3
    have HLk := Lib.hid hLk
    have hws := hws.later b3
    clear hLk h3
    obtain ⟨y0, y1, y2, y3, y4, y5, y6, hk4⟩ := hws.k4
    obtain ⟨f0, f1, f2, f3, f4, f5, f6⟩ := bf7 hk4
    obtain ⟨v0, v1, v2, v3, v4, v5, v6⟩ := hk4.all7
    have l4 := hk4.lt
    have HK4 := Lib.hid hk4
    clear hk4
    try (go_wp2_with fail)
    refine hK.out _ _ ?_ (fun hHeld => ?_)
    · exact HK.out _ hws
    clear hK K
    try simp only [Act.put, List.setIfInBounds_toArray, List.set_cons_zero, List.set_cons_succ]
    refine wpAnyH_ready (rs := [8]) (by kernel_rfl) (by simp) ?_
    refine (AllReadyH.cons (o := { dst := none, op := Op.store 111 (Operand.tmp 4) (Operand.tmp 25), type := 0, pos := "stand.go:45", after := #[{ on := 7, ground := Ground.data }, { on := 7, ground := Ground.chain }, { on := 0, ground := Ground.phase }, { on := 1, ground := Ground.phase }, { on := 2, ground := Ground.phase }, { on := 3, ground := Ground.phase }, { on := 4, ground := Ground.phase }, { on := 5, ground := Ground.phase }, { on := 6, ground := Ground.phase }, { on := 7, ground := Ground.phase }], guard := none }) rfl (fun K hK => ?_) AllReadyH.nil)
    · skip
      go_simp
      try (go_wp2_with fail)
      refine hK.out _ _ ?_ (fun hHeld => ?_)
      · exact HK.out _ (hws.st4 _ _ _ _ _ _ _)
      clear hK K
      try simp only [Act.put, List.setIfInBounds_toArray, List.set_cons_zero, List.set_cons_succ]
      obtain ⟨y7, hk5⟩ := (hws.st4 (.slice ob' m' cb') (.slice ol' q' cl') (.slice ok' nk' ck') (.int .i64 D2) (.slice o0' n0' c0') (.slice o1' n1' c1') (.int .i64 S2)).k5
      refine lastStore (by kernel_rfl) rfl (by kernel_rfl) (by kernel_rfl) rfl hk5 rfl rfl (HK.out _ ((hws.st4 _ _ _ _ _ _ _).st5 _)) ?_
      have kR := (HK4.out.set7 (.slice ob' m' cb') (.slice ol' q' cl') (.slice ok' nk' ck') (.int .i64 D2) (.slice o0' n0' c0') (.slice o1' n1' c1') (.int .i64 S2)).other (p := ⟨w.heap.size + 1 + 1 + 1, 0, none⟩) (by simp) (.int .i64 0)
      have kE := hk5.set 0 (.int .i64 0)
      obtain ⟨r0, r1, r2, r3, r4, r5, r6⟩ := kR.all7
      have e0 := kE.cell 0
      simp only [List.setIfInBounds_toArray, List.set_cons_zero, List.getElem?_toArray, List.getElem?_cons_zero] at e0
      have hlow := ((hws.st4 (.slice ob' m' cb') (.slice ol' q' cl') (.slice ok' nk' ck') (.int .i64 D2) (.slice o0' n0' c0') (.slice o1' n1' c1') (.int .i64 S2)).st5 (.int .i64 0)).low
      clear f0 f1 f2 f3 f4 f5 f6 v0 v1 v2 v3 v4 v5 v6 l4 hk5 hHeld kR kE
      go_wp2_with fail
      refine leaves_cons (f := 114) (args := #[.pointer (some ⟨w.heap.size + 1 + 1 + 1, 0, none⟩)]) (by simp) (by simp [go_sem]) ?_
      refine (catch8_idle _ _).mono ?_
      rintro e u' w'' ⟨rfl, rfl, rfl⟩
      obtain ⟨hx, hd, hs⟩ := hX2.out
      have g3 := (MV.low hws)
      refine ⟨.tuple #[.agg (SC ob' m' cb' ol' q' cl' ok' nk' ck' D2 o0' n0' c0' o1' n1' c1' S2), .int .i64 0], by simp [results, Try.results80, go_sem, r0, r1, r2, r3, r4, r5, r6, e0], hlow, .inl ⟨HC.out, qq, ob', m', cb', ol', q', cl', ok', nk', ck', o0', n0', c0', o1', n1', c1', HLk.out, by rw [← hx, hd, hs], ?_⟩⟩
      rw [← hx]
      exact h2.out.lower ((below_set7 (Below.refl w.heap.size w3) (by omega) _ _ _ _ _ _ _).setCell (by simp; omega) _) hr
set_option maxRecDepth 100000 in
set_option maxHeartbeats 4000000 in
theorem moved3_ok (SD SS key : Int) (hr : r ≤ w.heap.size) (hc : cerr 3 X = 0)
    (hf : ∀ W, Below w.heap.size w W → Calls Try.prog 117 #[.agg (SC ob m cb ol q cl ok nk ck SD o0 n0 c0 o1 n1 c1 SS), .int .u64 key] W (Res8 lo r bs lv 3 key X W)) :
    Calls Try.prog 80 #[.agg (SC ob m cb ol q cl ok nk ck SD o0 n0 c0 o1 n1 c1 SS), .agg #[.int .i64 3, .int .u64 key]] w (Told8 lo r bs lv 3 key X w) := by
  have hmf : ∀ (fn : Fn) (first cap : Array Value) (w : World), (Instr.makeFunc fn first cap).run Try.prog w = .ok (.func fn first cap) w := fun _ _ _ _ => rfl
  have HF := Lib.hid hf
  have HC := Lib.hid hc
  clear hf hc
  go_enter_defers Try.func80, Try.ntmps80
  go_wp2_with fail
  obtain ⟨W, hW⟩ : ∃ W, W = ((((w.alloc (.cells (SC ob m cb ol q cl ok nk ck SD o0 n0 c0 o1 n1 c1 SS) 111)).alloc (.cells #[.int .i64 3, .int .u64 key] 70)).alloc (.cells #[.slice none 0 0, .slice none 0 0, .slice none 0 0, .int .i64 0, .slice none 0 0, .slice none 0 0, .int .i64 0] 111)).alloc (.cells #[.int .i64 0] 41)).alloc (.cells #[.nilFunc, .func (.func 115) #[] #[], .func (.func 116) #[] #[], .func (.func 117) #[] #[], .func (.func 118) #[] #[]] 161) := ⟨_, rfl⟩
  rw [← hW]
  have hmv : MV w (SC ob m cb ol q cl ok nk ck SD o0 n0 c0 o1 n1 c1 SS) 3 key W := by rw [hW]; exact mv_new _ _ _ _
  clear hW
  have hk : ∀ W', MV w (SC ob m cb ol q cl ok nk ck SD o0 n0 c0 o1 n1 c1 SS) 3 key W' → ((W'.cell? ⟨w.heap.size, 0, none⟩ = some (.slice ob m cb) ∧ W'.cell? ⟨w.heap.size, 1, none⟩ = some (.slice ol q cl) ∧ W'.cell? ⟨w.heap.size, 2, none⟩ = some (.slice ok nk ck) ∧ W'.cell? ⟨w.heap.size, 3, none⟩ = some (.int .i64 SD) ∧ W'.cell? ⟨w.heap.size, 4, none⟩ = some (.slice o0 n0 c0) ∧ W'.cell? ⟨w.heap.size, 5, none⟩ = some (.slice o1 n1 c1) ∧ W'.cell? ⟨w.heap.size, 6, none⟩ = some (.int .i64 SS)) ∧ (W'.cell? ⟨w.heap.size + 1, 0, none⟩ = some (.int .i64 3) ∧ W'.cell? ⟨w.heap.size + 1, 1, none⟩ = some (.int .u64 key) ∧ W'.cell? ⟨w.heap.size + 1 + 1 + 1 + 1, 3, none⟩ = some (.func (.func 117) #[] #[])) ∧ w.heap.size < W'.heap.size ∧ w.heap.size + 1 < W'.heap.size ∧ w.heap.size + 1 + 1 + 1 + 1 < W'.heap.size) ∧ MV w (SC ob m cb ol q cl ok nk ck SD o0 n0 c0 o1 n1 c1 SS) 3 key W' := fun W' h => ⟨⟨h.k2.all7, ⟨h.k3.cell 0, h.k3.cell 1, h.k6.cell 3⟩, h.k2.lt, h.k3.lt, h.k6.lt⟩, h⟩
  have HK := Lib.hid hk
  have hws := hmv
  clear hk hmv
  go_wp2_with fail
  refine wp_region_held_drew (S := (fun W' => ((W'.cell? ⟨w.heap.size, 0, none⟩ = some (.slice ob m cb) ∧ W'.cell? ⟨w.heap.size, 1, none⟩ = some (.slice ol q cl) ∧ W'.cell? ⟨w.heap.size, 2, none⟩ = some (.slice ok nk ck) ∧ W'.cell? ⟨w.heap.size, 3, none⟩ = some (.int .i64 SD) ∧ W'.cell? ⟨w.heap.size, 4, none⟩ = some (.slice o0 n0 c0) ∧ W'.cell? ⟨w.heap.size, 5, none⟩ = some (.slice o1 n1 c1) ∧ W'.cell? ⟨w.heap.size, 6, none⟩ = some (.int .i64 SS)) ∧ (W'.cell? ⟨w.heap.size + 1, 0, none⟩ = some (.int .i64 3) ∧ W'.cell? ⟨w.heap.size + 1, 1, none⟩ = some (.int .u64 key) ∧ W'.cell? ⟨w.heap.size + 1 + 1 + 1 + 1, 3, none⟩ = some (.func (.func 117) #[] #[])) ∧ w.heap.size < W'.heap.size ∧ w.heap.size + 1 < W'.heap.size ∧ w.heap.size + 1 + 1 + 1 + 1 < W'.heap.size) ∧ MV w (SC ob m cb ol q cl ok nk ck SD o0 n0 c0 o1 n1 c1 SS) 3 key W')) (by kernel_rfl) ?_ (fun hHeld => ?_)
  · exact HK.out _ hws.drew
  have hws := hws.drew
  refine takeOn 0 { dst := some 18, op := Op.fieldAddr 70 (Operand.tmp 3) 0, type := 0, pos := "stand.go:45", after := #[], guard := none } (v := ?v0) rfl (by kernel_rfl) (by kernel_rfl) (by kernel_rfl) (hQ8 _ (by decide) (by decide) _) (by rfl) (by assumption) ?yv0 ?_
  case yv0 =>
    intro w hSw
    try dsimp only at hSw
    go_simp
    try (with_reducible rfl)
  try simp only [Act.put, List.setIfInBounds_toArray, List.set_cons_zero, List.set_cons_succ]
  refine takeOn 1 { dst := some 19, op := Op.load 3 (Operand.tmp 18), type := 3, pos := "stand.go:45", after := #[{ on := 0, ground := Ground.data }], guard := none } (v := ?v1) rfl (by kernel_rfl) (by kernel_rfl) (by kernel_rfl) (hQ8 _ (by decide) (by decide) _) (by rfl) (by assumption) ?yv1 ?_
  case yv1 =>
    intro w hSw
    try dsimp only at hSw
    go_simp
    try (with_reducible rfl)
  try simp only [Act.put, List.setIfInBounds_toArray, List.set_cons_zero, List.set_cons_succ]
  refine takeOn 2 { dst := some 20, op := Op.indexAddr 161 (Operand.tmp 6) (Operand.tmp 19), type := 0, pos := "stand.go:45", after := #[{ on := 1, ground := Ground.data }], guard := none } (v := ?v2) rfl (by kernel_rfl) (by kernel_rfl) (by kernel_rfl) (hQ8 _ (by decide) (by decide) _) (by rfl) (by assumption) ?yv2 ?_
  case yv2 =>
    intro w hSw
    try dsimp only at hSw
    go_simp
    try (with_reducible rfl)
  try simp only [Act.put, List.setIfInBounds_toArray, List.set_cons_zero, List.set_cons_succ]
  refine takeOn 3 { dst := some 21, op := Op.load 159 (Operand.tmp 20), type := 159, pos := "stand.go:45", after := #[{ on := 2, ground := Ground.data }], guard := none } (v := ?v3) rfl (by kernel_rfl) (by kernel_rfl) (by kernel_rfl) (hQ8 _ (by decide) (by decide) _) (by rfl) (by assumption) ?yv3 ?_
  case yv3 =>
    intro w hSw
    try dsimp only at hSw
    go_simp
    try (with_reducible rfl)
  try simp only [Act.put, List.setIfInBounds_toArray, List.set_cons_zero, List.set_cons_succ]
  refine takeOn 4 { dst := some 22, op := Op.load 111 (Operand.tmp 2), type := 111, pos := "stand.go:45", after := #[], guard := none } (v := ?v4) rfl (by kernel_rfl) (by kernel_rfl) (by kernel_rfl) (hQ8 _ (by decide) (by decide) _) (by rfl) (by assumption) ?yv4 ?_
  case yv4 =>
    intro w hSw
    try dsimp only at hSw
    go_simp
    try (with_reducible rfl)
  try simp only [Act.put, List.setIfInBounds_toArray, List.set_cons_zero, List.set_cons_succ]
  refine takeOn 5 { dst := some 23, op := Op.fieldAddr 70 (Operand.tmp 3) 1, type := 0, pos := "stand.go:45", after := #[], guard := none } (v := ?v5) rfl (by kernel_rfl) (by kernel_rfl) (by kernel_rfl) (hQ8 _ (by decide) (by decide) _) (by rfl) (by assumption) ?yv5 ?_
  case yv5 =>
    intro w hSw
    try dsimp only at hSw
    go_simp
    try (with_reducible rfl)
  try simp only [Act.put, List.setIfInBounds_toArray, List.set_cons_zero, List.set_cons_succ]
  refine takeOn 6 { dst := some 24, op := Op.load 32 (Operand.tmp 23), type := 32, pos := "stand.go:45", after := #[{ on := 5, ground := Ground.data }], guard := none } (v := ?v6) rfl (by kernel_rfl) (by kernel_rfl) (by kernel_rfl) (hQ8 _ (by decide) (by decide) _) (by rfl) (by assumption) ?yv6 ?_
  case yv6 =>
    intro w hSw
    try dsimp only at hSw
    go_simp
    try (with_reducible rfl)
  try simp only [Act.put, List.setIfInBounds_toArray, List.set_cons_zero, List.set_cons_succ]
  refine wpAnyH_ready (rs := [7]) (by kernel_rfl) (by simp) ?_
  refine (AllReadyH.cons (o := { dst := some 25, op := Op.call { callee := Callee.value (Operand.tmp 21), args := #[Operand.tmp 22, Operand.tmp 24], argTypes := #[111, 32] }, type := 111, pos := "stand.go:45", after := #[{ on := 3, ground := Ground.data }, { on := 4, ground := Ground.data }, { on := 6, ground := Ground.data }], guard := none }) rfl (fun K hK => ?_) AllReadyH.nil)
  · skip
    go_simp
    go_at_call 117
    refine (HF.out _ hws.low).mono ?_
    rintro e w3 h3
    obtain ⟨b3, qq, ob', m', cb', ol', q', cl', ok', nk', ck', o0', n0', c0', o1', n1', c1', hLk, X2, D2, S2, hX2, rfl, h2⟩ := res8_ok HC.out h3
    have HLk := Lib.hid hLk
    have hws := hws.later b3
    clear hLk h3
    obtain ⟨y0, y1, y2, y3, y4, y5, y6, hk4⟩ := hws.k4
    obtain ⟨f0, f1, f2, f3, f4, f5, f6⟩ := bf7 hk4
    obtain ⟨v0, v1, v2, v3, v4, v5, v6⟩ := hk4.all7
    have l4 := hk4.lt
    have HK4 := Lib.hid hk4
    clear hk4
    try (go_wp2_with fail)
    refine hK.out _ _ ?_ (fun hHeld => ?_)
    · exact HK.out _ hws
    clear hK K
    try simp only [Act.put, List.setIfInBounds_toArray, List.set_cons_zero, List.set_cons_succ]
    refine wpAnyH_ready (rs := [8]) (by kernel_rfl) (by simp) ?_
    refine (AllReadyH.cons (o := { dst := none, op := Op.store 111 (Operand.tmp 4) (Operand.tmp 25), type := 0, pos := "stand.go:45", after := #[{ on := 7, ground := Ground.data }, { on := 7, ground := Ground.chain }, { on := 0, ground := Ground.phase }, { on := 1, ground := Ground.phase }, { on := 2, ground := Ground.phase }, { on := 3, ground := Ground.phase }, { on := 4, ground := Ground.phase }, { on := 5, ground := Ground.phase }, { on := 6, ground := Ground.phase }, { on := 7, ground := Ground.phase }], guard := none }) rfl (fun K hK => ?_) AllReadyH.nil)
    · skip
      go_simp
      try (go_wp2_with fail)
      refine hK.out _ _ ?_ (fun hHeld => ?_)
      · exact HK.out _ (hws.st4 _ _ _ _ _ _ _)
      clear hK K
      try simp only [Act.put, List.setIfInBounds_toArray, List.set_cons_zero, List.set_cons_succ]
      obtain ⟨y7, hk5⟩ := (hws.st4 (.slice ob' m' cb') (.slice ol' q' cl') (.slice ok' nk' ck') (.int .i64 D2) (.slice o0' n0' c0') (.slice o1' n1' c1') (.int .i64 S2)).k5
      refine lastStore (by kernel_rfl) rfl (by kernel_rfl) (by kernel_rfl) rfl hk5 rfl rfl (HK.out _ ((hws.st4 _ _ _ _ _ _ _).st5 _)) ?_
      have kR := (HK4.out.set7 (.slice ob' m' cb') (.slice ol' q' cl') (.slice ok' nk' ck') (.int .i64 D2) (.slice o0' n0' c0') (.slice o1' n1' c1') (.int .i64 S2)).other (p := ⟨w.heap.size + 1 + 1 + 1, 0, none⟩) (by simp) (.int .i64 0)
      have kE := hk5.set 0 (.int .i64 0)
      obtain ⟨r0, r1, r2, r3, r4, r5, r6⟩ := kR.all7
      have e0 := kE.cell 0
      simp only [List.setIfInBounds_toArray, List.set_cons_zero, List.getElem?_toArray, List.getElem?_cons_zero] at e0
      have hlow := ((hws.st4 (.slice ob' m' cb') (.slice ol' q' cl') (.slice ok' nk' ck') (.int .i64 D2) (.slice o0' n0' c0') (.slice o1' n1' c1') (.int .i64 S2)).st5 (.int .i64 0)).low
      clear f0 f1 f2 f3 f4 f5 f6 v0 v1 v2 v3 v4 v5 v6 l4 hk5 hHeld kR kE
      go_wp2_with fail
      refine leaves_cons (f := 114) (args := #[.pointer (some ⟨w.heap.size + 1 + 1 + 1, 0, none⟩)]) (by simp) (by simp [go_sem]) ?_
      refine (catch8_idle _ _).mono ?_
      rintro e u' w'' ⟨rfl, rfl, rfl⟩
      obtain ⟨hx, hd, hs⟩ := hX2.out
      have g3 := (MV.low hws)
      refine ⟨.tuple #[.agg (SC ob' m' cb' ol' q' cl' ok' nk' ck' D2 o0' n0' c0' o1' n1' c1' S2), .int .i64 0], by simp [results, Try.results80, go_sem, r0, r1, r2, r3, r4, r5, r6, e0], hlow, .inl ⟨HC.out, qq, ob', m', cb', ol', q', cl', ok', nk', ck', o0', n0', c0', o1', n1', c1', HLk.out, by rw [← hx, hd, hs], ?_⟩⟩
      rw [← hx]
      exact h2.out.lower ((below_set7 (Below.refl w.heap.size w3) (by omega) _ _ _ _ _ _ _).setCell (by simp; omega) _) hr
set_option maxRecDepth 100000 in
set_option maxHeartbeats 4000000 in
theorem moved4_ok (SD SS key : Int) (hr : r ≤ w.heap.size) (hc : cerr 4 X = 0)
    (hf : ∀ W, Below w.heap.size w W → Calls Try.prog 118 #[.agg (SC ob m cb ol q cl ok nk ck SD o0 n0 c0 o1 n1 c1 SS), .int .u64 key] W (Res8 lo r bs lv 4 key X W)) :
    Calls Try.prog 80 #[.agg (SC ob m cb ol q cl ok nk ck SD o0 n0 c0 o1 n1 c1 SS), .agg #[.int .i64 4, .int .u64 key]] w (Told8 lo r bs lv 4 key X w) := by
  have hmf : ∀ (fn : Fn) (first cap : Array Value) (w : World), (Instr.makeFunc fn first cap).run Try.prog w = .ok (.func fn first cap) w := fun _ _ _ _ => rfl
  have HF := Lib.hid hf
  have HC := Lib.hid hc
  clear hf hc
  go_enter_defers Try.func80, Try.ntmps80
  go_wp2_with fail
  obtain ⟨W, hW⟩ : ∃ W, W = ((((w.alloc (.cells (SC ob m cb ol q cl ok nk ck SD o0 n0 c0 o1 n1 c1 SS) 111)).alloc (.cells #[.int .i64 4, .int .u64 key] 70)).alloc (.cells #[.slice none 0 0, .slice none 0 0, .slice none 0 0, .int .i64 0, .slice none 0 0, .slice none 0 0, .int .i64 0] 111)).alloc (.cells #[.int .i64 0] 41)).alloc (.cells #[.nilFunc, .func (.func 115) #[] #[], .func (.func 116) #[] #[], .func (.func 117) #[] #[], .func (.func 118) #[] #[]] 161) := ⟨_, rfl⟩
  rw [← hW]
  have hmv : MV w (SC ob m cb ol q cl ok nk ck SD o0 n0 c0 o1 n1 c1 SS) 4 key W := by rw [hW]; exact mv_new _ _ _ _
  clear hW
  have hk : ∀ W', MV w (SC ob m cb ol q cl ok nk ck SD o0 n0 c0 o1 n1 c1 SS) 4 key W' → ((W'.cell? ⟨w.heap.size, 0, none⟩ = some (.slice ob m cb) ∧ W'.cell? ⟨w.heap.size, 1, none⟩ = some (.slice ol q cl) ∧ W'.cell? ⟨w.heap.size, 2, none⟩ = some (.slice ok nk ck) ∧ W'.cell? ⟨w.heap.size, 3, none⟩ = some (.int .i64 SD) ∧ W'.cell? ⟨w.heap.size, 4, none⟩ = some (.slice o0 n0 c0) ∧ W'.cell? ⟨w.heap.size, 5, none⟩ = some (.slice o1 n1 c1) ∧ W'.cell? ⟨w.heap.size, 6, none⟩ = some (.int .i64 SS)) ∧ (W'.cell? ⟨w.heap.size + 1, 0, none⟩ = some (.int .i64 4) ∧ W'.cell? ⟨w.heap.size + 1, 1, none⟩ = some (.int .u64 key) ∧ W'.cell? ⟨w.heap.size + 1 + 1 + 1 + 1, 4, none⟩ = some (.func (.func 118) #[] #[])) ∧ w.heap.size < W'.heap.size ∧ w.heap.size + 1 < W'.heap.size ∧ w.heap.size + 1 + 1 + 1 + 1 < W'.heap.size) ∧ MV w (SC ob m cb ol q cl ok nk ck SD o0 n0 c0 o1 n1 c1 SS) 4 key W' := fun W' h => ⟨⟨h.k2.all7, ⟨h.k3.cell 0, h.k3.cell 1, h.k6.cell 4⟩, h.k2.lt, h.k3.lt, h.k6.lt⟩, h⟩
  have HK := Lib.hid hk
  have hws := hmv
  clear hk hmv
  go_wp2_with fail
  refine wp_region_held_drew (S := (fun W' => ((W'.cell? ⟨w.heap.size, 0, none⟩ = some (.slice ob m cb) ∧ W'.cell? ⟨w.heap.size, 1, none⟩ = some (.slice ol q cl) ∧ W'.cell? ⟨w.heap.size, 2, none⟩ = some (.slice ok nk ck) ∧ W'.cell? ⟨w.heap.size, 3, none⟩ = some (.int .i64 SD) ∧ W'.cell? ⟨w.heap.size, 4, none⟩ = some (.slice o0 n0 c0) ∧ W'.cell? ⟨w.heap.size, 5, none⟩ = some (.slice o1 n1 c1) ∧ W'.cell? ⟨w.heap.size, 6, none⟩ = some (.int .i64 SS)) ∧ (W'.cell? ⟨w.heap.size + 1, 0, none⟩ = some (.int .i64 4) ∧ W'.cell? ⟨w.heap.size + 1, 1, none⟩ = some (.int .u64 key) ∧ W'.cell? ⟨w.heap.size + 1 + 1 + 1 + 1, 4, none⟩ = some (.func (.func 118) #[] #[])) ∧ w.heap.size < W'.heap.size ∧ w.heap.size + 1 < W'.heap.size ∧ w.heap.size + 1 + 1 + 1 + 1 < W'.heap.size) ∧ MV w (SC ob m cb ol q cl ok nk ck SD o0 n0 c0 o1 n1 c1 SS) 4 key W')) (by kernel_rfl) ?_ (fun hHeld => ?_)
  · exact HK.out _ hws.drew
  have hws := hws.drew
  refine takeOn 0 { dst := some 18, op := Op.fieldAddr 70 (Operand.tmp 3) 0, type := 0, pos := "stand.go:45", after := #[], guard := none } (v := ?v0) rfl (by kernel_rfl) (by kernel_rfl) (by kernel_rfl) (hQ8 _ (by decide) (by decide) _) (by rfl) (by assumption) ?yv0 ?_
  case yv0 =>
    intro w hSw
    try dsimp only at hSw
    go_simp
    try (with_reducible rfl)
  try simp only [Act.put, List.setIfInBounds_toArray, List.set_cons_zero, List.set_cons_succ]
  refine takeOn 1 { dst := some 19, op := Op.load 3 (Operand.tmp 18), type := 3, pos := "stand.go:45", after := #[{ on := 0, ground := Ground.data }], guard := none } (v := ?v1) rfl (by kernel_rfl) (by kernel_rfl) (by kernel_rfl) (hQ8 _ (by decide) (by decide) _) (by rfl) (by assumption) ?yv1 ?_
  case yv1 =>
    intro w hSw
    try dsimp only at hSw
    go_simp
    try (with_reducible rfl)
  try simp only [Act.put, List.setIfInBounds_toArray, List.set_cons_zero, List.set_cons_succ]
  refine takeOn 2 { dst := some 20, op := Op.indexAddr 161 (Operand.tmp 6) (Operand.tmp 19), type := 0, pos := "stand.go:45", after := #[{ on := 1, ground := Ground.data }], guard := none } (v := ?v2) rfl (by kernel_rfl) (by kernel_rfl) (by kernel_rfl) (hQ8 _ (by decide) (by decide) _) (by rfl) (by assumption) ?yv2 ?_
  case yv2 =>
    intro w hSw
    try dsimp only at hSw
    go_simp
    try (with_reducible rfl)
  try simp only [Act.put, List.setIfInBounds_toArray, List.set_cons_zero, List.set_cons_succ]
  refine takeOn 3 { dst := some 21, op := Op.load 159 (Operand.tmp 20), type := 159, pos := "stand.go:45", after := #[{ on := 2, ground := Ground.data }], guard := none } (v := ?v3) rfl (by kernel_rfl) (by kernel_rfl) (by kernel_rfl) (hQ8 _ (by decide) (by decide) _) (by rfl) (by assumption) ?yv3 ?_
  case yv3 =>
    intro w hSw
    try dsimp only at hSw
    go_simp
    try (with_reducible rfl)
  try simp only [Act.put, List.setIfInBounds_toArray, List.set_cons_zero, List.set_cons_succ]
  refine takeOn 4 { dst := some 22, op := Op.load 111 (Operand.tmp 2), type := 111, pos := "stand.go:45", after := #[], guard := none } (v := ?v4) rfl (by kernel_rfl) (by kernel_rfl) (by kernel_rfl) (hQ8 _ (by decide) (by decide) _) (by rfl) (by assumption) ?yv4 ?_
  case yv4 =>
    intro w hSw
    try dsimp only at hSw
    go_simp
    try (with_reducible rfl)
  try simp only [Act.put, List.setIfInBounds_toArray, List.set_cons_zero, List.set_cons_succ]
  refine takeOn 5 { dst := some 23, op := Op.fieldAddr 70 (Operand.tmp 3) 1, type := 0, pos := "stand.go:45", after := #[], guard := none } (v := ?v5) rfl (by kernel_rfl) (by kernel_rfl) (by kernel_rfl) (hQ8 _ (by decide) (by decide) _) (by rfl) (by assumption) ?yv5 ?_
  case yv5 =>
    intro w hSw
    try dsimp only at hSw
    go_simp
    try (with_reducible rfl)
  try simp only [Act.put, List.setIfInBounds_toArray, List.set_cons_zero, List.set_cons_succ]
  refine takeOn 6 { dst := some 24, op := Op.load 32 (Operand.tmp 23), type := 32, pos := "stand.go:45", after := #[{ on := 5, ground := Ground.data }], guard := none } (v := ?v6) rfl (by kernel_rfl) (by kernel_rfl) (by kernel_rfl) (hQ8 _ (by decide) (by decide) _) (by rfl) (by assumption) ?yv6 ?_
  case yv6 =>
    intro w hSw
    try dsimp only at hSw
    go_simp
    try (with_reducible rfl)
  try simp only [Act.put, List.setIfInBounds_toArray, List.set_cons_zero, List.set_cons_succ]
  refine wpAnyH_ready (rs := [7]) (by kernel_rfl) (by simp) ?_
  refine (AllReadyH.cons (o := { dst := some 25, op := Op.call { callee := Callee.value (Operand.tmp 21), args := #[Operand.tmp 22, Operand.tmp 24], argTypes := #[111, 32] }, type := 111, pos := "stand.go:45", after := #[{ on := 3, ground := Ground.data }, { on := 4, ground := Ground.data }, { on := 6, ground := Ground.data }], guard := none }) rfl (fun K hK => ?_) AllReadyH.nil)
  · skip
    go_simp
    go_at_call 118
    refine (HF.out _ hws.low).mono ?_
    rintro e w3 h3
    obtain ⟨b3, qq, ob', m', cb', ol', q', cl', ok', nk', ck', o0', n0', c0', o1', n1', c1', hLk, X2, D2, S2, hX2, rfl, h2⟩ := res8_ok HC.out h3
    have HLk := Lib.hid hLk
    have hws := hws.later b3
    clear hLk h3
    obtain ⟨y0, y1, y2, y3, y4, y5, y6, hk4⟩ := hws.k4
    obtain ⟨f0, f1, f2, f3, f4, f5, f6⟩ := bf7 hk4
    obtain ⟨v0, v1, v2, v3, v4, v5, v6⟩ := hk4.all7
    have l4 := hk4.lt
    have HK4 := Lib.hid hk4
    clear hk4
    try (go_wp2_with fail)
    refine hK.out _ _ ?_ (fun hHeld => ?_)
    · exact HK.out _ hws
    clear hK K
    try simp only [Act.put, List.setIfInBounds_toArray, List.set_cons_zero, List.set_cons_succ]
    refine wpAnyH_ready (rs := [8]) (by kernel_rfl) (by simp) ?_
    refine (AllReadyH.cons (o := { dst := none, op := Op.store 111 (Operand.tmp 4) (Operand.tmp 25), type := 0, pos := "stand.go:45", after := #[{ on := 7, ground := Ground.data }, { on := 7, ground := Ground.chain }, { on := 0, ground := Ground.phase }, { on := 1, ground := Ground.phase }, { on := 2, ground := Ground.phase }, { on := 3, ground := Ground.phase }, { on := 4, ground := Ground.phase }, { on := 5, ground := Ground.phase }, { on := 6, ground := Ground.phase }, { on := 7, ground := Ground.phase }], guard := none }) rfl (fun K hK => ?_) AllReadyH.nil)
    · skip
      go_simp
      try (go_wp2_with fail)
      refine hK.out _ _ ?_ (fun hHeld => ?_)
      · exact HK.out _ (hws.st4 _ _ _ _ _ _ _)
      clear hK K
      try simp only [Act.put, List.setIfInBounds_toArray, List.set_cons_zero, List.set_cons_succ]
      obtain ⟨y7, hk5⟩ := (hws.st4 (.slice ob' m' cb') (.slice ol' q' cl') (.slice ok' nk' ck') (.int .i64 D2) (.slice o0' n0' c0') (.slice o1' n1' c1') (.int .i64 S2)).k5
      refine lastStore (by kernel_rfl) rfl (by kernel_rfl) (by kernel_rfl) rfl hk5 rfl rfl (HK.out _ ((hws.st4 _ _ _ _ _ _ _).st5 _)) ?_
      have kR := (HK4.out.set7 (.slice ob' m' cb') (.slice ol' q' cl') (.slice ok' nk' ck') (.int .i64 D2) (.slice o0' n0' c0') (.slice o1' n1' c1') (.int .i64 S2)).other (p := ⟨w.heap.size + 1 + 1 + 1, 0, none⟩) (by simp) (.int .i64 0)
      have kE := hk5.set 0 (.int .i64 0)
      obtain ⟨r0, r1, r2, r3, r4, r5, r6⟩ := kR.all7
      have e0 := kE.cell 0
      simp only [List.setIfInBounds_toArray, List.set_cons_zero, List.getElem?_toArray, List.getElem?_cons_zero] at e0
      have hlow := ((hws.st4 (.slice ob' m' cb') (.slice ol' q' cl') (.slice ok' nk' ck') (.int .i64 D2) (.slice o0' n0' c0') (.slice o1' n1' c1') (.int .i64 S2)).st5 (.int .i64 0)).low
      clear f0 f1 f2 f3 f4 f5 f6 v0 v1 v2 v3 v4 v5 v6 l4 hk5 hHeld kR kE
      go_wp2_with fail
      refine leaves_cons (f := 114) (args := #[.pointer (some ⟨w.heap.size + 1 + 1 + 1, 0, none⟩)]) (by simp) (by simp [go_sem]) ?_
      refine (catch8_idle _ _).mono ?_
      rintro e u' w'' ⟨rfl, rfl, rfl⟩
      obtain ⟨hx, hd, hs⟩ := hX2.out
      have g3 := (MV.low hws)
      refine ⟨.tuple #[.agg (SC ob' m' cb' ol' q' cl' ok' nk' ck' D2 o0' n0' c0' o1' n1' c1' S2), .int .i64 0], by simp [results, Try.results80, go_sem, r0, r1, r2, r3, r4, r5, r6, e0], hlow, .inl ⟨HC.out, qq, ob', m', cb', ol', q', cl', ok', nk', ck', o0', n0', c0', o1', n1', c1', HLk.out, by rw [← hx, hd, hs], ?_⟩⟩
      rw [← hx]
      exact h2.out.lower ((below_set7 (Below.refl w.heap.size w3) (by omega) _ _ _ _ _ _ _).setCell (by simp; omega) _) hr
set_option maxRecDepth 100000 in
set_option maxHeartbeats 4000000 in
theorem moved1_no (SD SS key : Int) (hc : cerr 1 X ≠ 0)
    (hf : ∀ W, Below w.heap.size w W → Calls Try.prog 115 #[.agg (SC ob m cb ol q cl ok nk ck SD o0 n0 c0 o1 n1 c1 SS), .int .u64 key] W (Res8 lo r bs lv 1 key X W)) :
    Calls Try.prog 80 #[.agg (SC ob m cb ol q cl ok nk ck SD o0 n0 c0 o1 n1 c1 SS), .agg #[.int .i64 1, .int .u64 key]] w (Told8 lo r bs lv 1 key X w) := by
  have hmf : ∀ (fn : Fn) (first cap : Array Value) (w : World), (Instr.makeFunc fn first cap).run Try.prog w = .ok (.func fn first cap) w := fun _ _ _ _ => rfl
  have HF := Lib.hid hf
  have HC := Lib.hid hc
  clear hf hc
  go_enter_defers Try.func80, Try.ntmps80
  go_wp2_with fail
  obtain ⟨W, hW⟩ : ∃ W, W = ((((w.alloc (.cells (SC ob m cb ol q cl ok nk ck SD o0 n0 c0 o1 n1 c1 SS) 111)).alloc (.cells #[.int .i64 1, .int .u64 key] 70)).alloc (.cells #[.slice none 0 0, .slice none 0 0, .slice none 0 0, .int .i64 0, .slice none 0 0, .slice none 0 0, .int .i64 0] 111)).alloc (.cells #[.int .i64 0] 41)).alloc (.cells #[.nilFunc, .func (.func 115) #[] #[], .func (.func 116) #[] #[], .func (.func 117) #[] #[], .func (.func 118) #[] #[]] 161) := ⟨_, rfl⟩
  rw [← hW]
  have hmv : MV w (SC ob m cb ol q cl ok nk ck SD o0 n0 c0 o1 n1 c1 SS) 1 key W := by rw [hW]; exact mv_new _ _ _ _
  have H4 : Hid (Blk W (w.heap.size + 1 + 1) nilS 111) := Lib.hid (by rw [hW]; exact mv_new4 _ _ _ _)
  clear hW
  have hk : ∀ W', MV w (SC ob m cb ol q cl ok nk ck SD o0 n0 c0 o1 n1 c1 SS) 1 key W' → ((W'.cell? ⟨w.heap.size, 0, none⟩ = some (.slice ob m cb) ∧ W'.cell? ⟨w.heap.size, 1, none⟩ = some (.slice ol q cl) ∧ W'.cell? ⟨w.heap.size, 2, none⟩ = some (.slice ok nk ck) ∧ W'.cell? ⟨w.heap.size, 3, none⟩ = some (.int .i64 SD) ∧ W'.cell? ⟨w.heap.size, 4, none⟩ = some (.slice o0 n0 c0) ∧ W'.cell? ⟨w.heap.size, 5, none⟩ = some (.slice o1 n1 c1) ∧ W'.cell? ⟨w.heap.size, 6, none⟩ = some (.int .i64 SS)) ∧ (W'.cell? ⟨w.heap.size + 1, 0, none⟩ = some (.int .i64 1) ∧ W'.cell? ⟨w.heap.size + 1, 1, none⟩ = some (.int .u64 key) ∧ W'.cell? ⟨w.heap.size + 1 + 1 + 1 + 1, 1, none⟩ = some (.func (.func 115) #[] #[])) ∧ w.heap.size < W'.heap.size ∧ w.heap.size + 1 < W'.heap.size ∧ w.heap.size + 1 + 1 + 1 + 1 < W'.heap.size) ∧ MV w (SC ob m cb ol q cl ok nk ck SD o0 n0 c0 o1 n1 c1 SS) 1 key W' := fun W' h => ⟨⟨h.k2.all7, ⟨h.k3.cell 0, h.k3.cell 1, h.k6.cell 1⟩, h.k2.lt, h.k3.lt, h.k6.lt⟩, h⟩
  have HK := Lib.hid hk
  have hws := hmv
  clear hk hmv
  go_wp2_with fail
  refine wp_region_held_drew (S := (fun W' => ((W'.cell? ⟨w.heap.size, 0, none⟩ = some (.slice ob m cb) ∧ W'.cell? ⟨w.heap.size, 1, none⟩ = some (.slice ol q cl) ∧ W'.cell? ⟨w.heap.size, 2, none⟩ = some (.slice ok nk ck) ∧ W'.cell? ⟨w.heap.size, 3, none⟩ = some (.int .i64 SD) ∧ W'.cell? ⟨w.heap.size, 4, none⟩ = some (.slice o0 n0 c0) ∧ W'.cell? ⟨w.heap.size, 5, none⟩ = some (.slice o1 n1 c1) ∧ W'.cell? ⟨w.heap.size, 6, none⟩ = some (.int .i64 SS)) ∧ (W'.cell? ⟨w.heap.size + 1, 0, none⟩ = some (.int .i64 1) ∧ W'.cell? ⟨w.heap.size + 1, 1, none⟩ = some (.int .u64 key) ∧ W'.cell? ⟨w.heap.size + 1 + 1 + 1 + 1, 1, none⟩ = some (.func (.func 115) #[] #[])) ∧ w.heap.size < W'.heap.size ∧ w.heap.size + 1 < W'.heap.size ∧ w.heap.size + 1 + 1 + 1 + 1 < W'.heap.size) ∧ MV w (SC ob m cb ol q cl ok nk ck SD o0 n0 c0 o1 n1 c1 SS) 1 key W')) (by kernel_rfl) ?_ (fun hHeld => ?_)
  · exact HK.out _ hws.drew
  have hws := hws.drew
  refine takeOn 0 { dst := some 18, op := Op.fieldAddr 70 (Operand.tmp 3) 0, type := 0, pos := "stand.go:45", after := #[], guard := none } (v := ?v0) rfl (by kernel_rfl) (by kernel_rfl) (by kernel_rfl) (hQ8 _ (by decide) (by decide) _) (by rfl) (by assumption) ?yv0 ?_
  case yv0 =>
    intro w hSw
    try dsimp only at hSw
    go_simp
    try (with_reducible rfl)
  try simp only [Act.put, List.setIfInBounds_toArray, List.set_cons_zero, List.set_cons_succ]
  refine takeOn 1 { dst := some 19, op := Op.load 3 (Operand.tmp 18), type := 3, pos := "stand.go:45", after := #[{ on := 0, ground := Ground.data }], guard := none } (v := ?v1) rfl (by kernel_rfl) (by kernel_rfl) (by kernel_rfl) (hQ8 _ (by decide) (by decide) _) (by rfl) (by assumption) ?yv1 ?_
  case yv1 =>
    intro w hSw
    try dsimp only at hSw
    go_simp
    try (with_reducible rfl)
  try simp only [Act.put, List.setIfInBounds_toArray, List.set_cons_zero, List.set_cons_succ]
  refine takeOn 2 { dst := some 20, op := Op.indexAddr 161 (Operand.tmp 6) (Operand.tmp 19), type := 0, pos := "stand.go:45", after := #[{ on := 1, ground := Ground.data }], guard := none } (v := ?v2) rfl (by kernel_rfl) (by kernel_rfl) (by kernel_rfl) (hQ8 _ (by decide) (by decide) _) (by rfl) (by assumption) ?yv2 ?_
  case yv2 =>
    intro w hSw
    try dsimp only at hSw
    go_simp
    try (with_reducible rfl)
  try simp only [Act.put, List.setIfInBounds_toArray, List.set_cons_zero, List.set_cons_succ]
  refine takeOn 3 { dst := some 21, op := Op.load 159 (Operand.tmp 20), type := 159, pos := "stand.go:45", after := #[{ on := 2, ground := Ground.data }], guard := none } (v := ?v3) rfl (by kernel_rfl) (by kernel_rfl) (by kernel_rfl) (hQ8 _ (by decide) (by decide) _) (by rfl) (by assumption) ?yv3 ?_
  case yv3 =>
    intro w hSw
    try dsimp only at hSw
    go_simp
    try (with_reducible rfl)
  try simp only [Act.put, List.setIfInBounds_toArray, List.set_cons_zero, List.set_cons_succ]
  refine takeOn 4 { dst := some 22, op := Op.load 111 (Operand.tmp 2), type := 111, pos := "stand.go:45", after := #[], guard := none } (v := ?v4) rfl (by kernel_rfl) (by kernel_rfl) (by kernel_rfl) (hQ8 _ (by decide) (by decide) _) (by rfl) (by assumption) ?yv4 ?_
  case yv4 =>
    intro w hSw
    try dsimp only at hSw
    go_simp
    try (with_reducible rfl)
  try simp only [Act.put, List.setIfInBounds_toArray, List.set_cons_zero, List.set_cons_succ]
  refine takeOn 5 { dst := some 23, op := Op.fieldAddr 70 (Operand.tmp 3) 1, type := 0, pos := "stand.go:45", after := #[], guard := none } (v := ?v5) rfl (by kernel_rfl) (by kernel_rfl) (by kernel_rfl) (hQ8 _ (by decide) (by decide) _) (by rfl) (by assumption) ?yv5 ?_
  case yv5 =>
    intro w hSw
    try dsimp only at hSw
    go_simp
    try (with_reducible rfl)
  try simp only [Act.put, List.setIfInBounds_toArray, List.set_cons_zero, List.set_cons_succ]
  refine takeOn 6 { dst := some 24, op := Op.load 32 (Operand.tmp 23), type := 32, pos := "stand.go:45", after := #[{ on := 5, ground := Ground.data }], guard := none } (v := ?v6) rfl (by kernel_rfl) (by kernel_rfl) (by kernel_rfl) (hQ8 _ (by decide) (by decide) _) (by rfl) (by assumption) ?yv6 ?_
  case yv6 =>
    intro w hSw
    try dsimp only at hSw
    go_simp
    try (with_reducible rfl)
  try simp only [Act.put, List.setIfInBounds_toArray, List.set_cons_zero, List.set_cons_succ]
  refine wpAnyH_ready (rs := [7]) (by kernel_rfl) (by simp) ?_
  refine (AllReadyH.cons (o := { dst := some 25, op := Op.call { callee := Callee.value (Operand.tmp 21), args := #[Operand.tmp 22, Operand.tmp 24], argTypes := #[111, 32] }, type := 111, pos := "stand.go:45", after := #[{ on := 3, ground := Ground.data }, { on := 4, ground := Ground.data }, { on := 6, ground := Ground.data }], guard := none }) rfl (fun K hK => ?_) AllReadyH.nil)
  · skip
    go_simp
    go_at_call 115
    refine (HF.out _ hws.low).mono ?_
    rintro e w3 h3
    obtain ⟨b3, rfl⟩ := res8_no HC.out h3
    have hws := hws.later b3
    obtain ⟨y7, hk5⟩ := hws.k5
    clear h3
    go_wp2_with fail
    have kR := ((H4.out.later (Below.refl _ _).drew).later b3).other (p := ⟨w.heap.size + 1 + 1 + 1, 0, none⟩) (by simp) (.int .i64 (cerr 1 X))
    have kE := hk5.set 0 (.int .i64 (cerr 1 X))
    obtain ⟨r0, r1, r2, r3, r4, r5, r6⟩ := kR.all7
    have e0 := kE.cell 0
    simp only [List.setIfInBounds_toArray, List.set_cons_zero, List.getElem?_toArray, List.getElem?_cons_zero] at e0
    have hlow := (hws.st5 (.int .i64 (cerr 1 X))).low
    refine leaves_cons (f := 114) (args := #[.pointer (some ⟨w.heap.size + 1 + 1 + 1, 0, none⟩)]) (by simp) (by simp [go_sem]) ?_
    refine (catch8_panicking _ _ _ _ _ hk5).mono ?_
    rintro e u' w'' ⟨rfl, rfl, rfl⟩
    exact ⟨.tuple #[.agg nilS, .int .i64 (cerr 1 X)], by simp [results, Try.results80, go_sem, r0, r1, r2, r3, r4, r5, r6, e0], hlow, .inr ⟨HC.out, rfl⟩⟩
set_option maxRecDepth 100000 in
set_option maxHeartbeats 4000000 in
theorem moved2_no (SD SS key : Int) (hc : cerr 2 X ≠ 0)
    (hf : ∀ W, Below w.heap.size w W → Calls Try.prog 116 #[.agg (SC ob m cb ol q cl ok nk ck SD o0 n0 c0 o1 n1 c1 SS), .int .u64 key] W (Res8 lo r bs lv 2 key X W)) :
    Calls Try.prog 80 #[.agg (SC ob m cb ol q cl ok nk ck SD o0 n0 c0 o1 n1 c1 SS), .agg #[.int .i64 2, .int .u64 key]] w (Told8 lo r bs lv 2 key X w) := by
  have hmf : ∀ (fn : Fn) (first cap : Array Value) (w : World), (Instr.makeFunc fn first cap).run Try.prog w = .ok (.func fn first cap) w := fun _ _ _ _ => rfl
  have HF := Lib.hid hf
  have HC := Lib.hid hc
  clear hf hc
  go_enter_defers Try.func80, Try.ntmps80
  go_wp2_with fail
  obtain ⟨W, hW⟩ : ∃ W, W = ((((w.alloc (.cells (SC ob m cb ol q cl ok nk ck SD o0 n0 c0 o1 n1 c1 SS) 111)).alloc (.cells #[.int .i64 2, .int .u64 key] 70)).alloc (.cells #[.slice none 0 0, .slice none 0 0, .slice none 0 0, .int .i64 0, .slice none 0 0, .slice none 0 0, .int .i64 0] 111)).alloc (.cells #[.int .i64 0] 41)).alloc (.cells #[.nilFunc, .func (.func 115) #[] #[], .func (.func 116) #[] #[], .func (.func 117) #[] #[], .func (.func 118) #[] #[]] 161) := ⟨_, rfl⟩
  rw [← hW]
  have hmv : MV w (SC ob m cb ol q cl ok nk ck SD o0 n0 c0 o1 n1 c1 SS) 2 key W := by rw [hW]; exact mv_new _ _ _ _
  have H4 : Hid (Blk W (w.heap.size + 1 + 1) nilS 111) := Lib.hid (by rw [hW]; exact mv_new4 _ _ _ _)
  clear hW
  have hk : ∀ W', MV w (SC ob m cb ol q cl ok nk ck SD o0 n0 c0 o1 n1 c1 SS) 2 key W' → ((W'.cell? ⟨w.heap.size, 0, none⟩ = some (.slice ob m cb) ∧ W'.cell? ⟨w.heap.size, 1, none⟩ = some (.slice ol q cl) ∧ W'.cell? ⟨w.heap.size, 2, none⟩ = some (.slice ok nk ck) ∧ W'.cell? ⟨w.heap.size, 3, none⟩ = some (.int .i64 SD) ∧ W'.cell? ⟨w.heap.size, 4, none⟩ = some (.slice o0 n0 c0) ∧ W'.cell? ⟨w.heap.size, 5, none⟩ = some (.slice o1 n1 c1) ∧ W'.cell? ⟨w.heap.size, 6, none⟩ = some (.int .i64 SS)) ∧ (W'.cell? ⟨w.heap.size + 1, 0, none⟩ = some (.int .i64 2) ∧ W'.cell? ⟨w.heap.size + 1, 1, none⟩ = some (.int .u64 key) ∧ W'.cell? ⟨w.heap.size + 1 + 1 + 1 + 1, 2, none⟩ = some (.func (.func 116) #[] #[])) ∧ w.heap.size < W'.heap.size ∧ w.heap.size + 1 < W'.heap.size ∧ w.heap.size + 1 + 1 + 1 + 1 < W'.heap.size) ∧ MV w (SC ob m cb ol q cl ok nk ck SD o0 n0 c0 o1 n1 c1 SS) 2 key W' := fun W' h => ⟨⟨h.k2.all7, ⟨h.k3.cell 0, h.k3.cell 1, h.k6.cell 2⟩, h.k2.lt, h.k3.lt, h.k6.lt⟩, h⟩
  have HK := Lib.hid hk
  have hws := hmv
  clear hk hmv
  go_wp2_with fail
  refine wp_region_held_drew (S := (fun W' => ((W'.cell? ⟨w.heap.size, 0, none⟩ = some (.slice ob m cb) ∧ W'.cell? ⟨w.heap.size, 1, none⟩ = some (.slice ol q cl) ∧ W'.cell? ⟨w.heap.size, 2, none⟩ = some (.slice ok nk ck) ∧ W'.cell? ⟨w.heap.size, 3, none⟩ = some (.int .i64 SD) ∧ W'.cell? ⟨w.heap.size, 4, none⟩ = some (.slice o0 n0 c0) ∧ W'.cell? ⟨w.heap.size, 5, none⟩ = some (.slice o1 n1 c1) ∧ W'.cell? ⟨w.heap.size, 6, none⟩ = some (.int .i64 SS)) ∧ (W'.cell? ⟨w.heap.size + 1, 0, none⟩ = some (.int .i64 2) ∧ W'.cell? ⟨w.heap.size + 1, 1, none⟩ = some (.int .u64 key) ∧ W'.cell? ⟨w.heap.size + 1 + 1 + 1 + 1, 2, none⟩ = some (.func (.func 116) #[] #[])) ∧ w.heap.size < W'.heap.size ∧ w.heap.size + 1 < W'.heap.size ∧ w.heap.size + 1 + 1 + 1 + 1 < W'.heap.size) ∧ MV w (SC ob m cb ol q cl ok nk ck SD o0 n0 c0 o1 n1 c1 SS) 2 key W')) (by kernel_rfl) ?_ (fun hHeld => ?_)
  · exact HK.out _ hws.drew
  have hws := hws.drew
  refine takeOn 0 { dst := some 18, op := Op.fieldAddr 70 (Operand.tmp 3) 0, type := 0, pos := "stand.go:45", after := #[], guard := none } (v := ?v0) rfl (by kernel_rfl) (by kernel_rfl) (by kernel_rfl) (hQ8 _ (by decide) (by decide) _) (by rfl) (by assumption) ?yv0 ?_
  case yv0 =>
    intro w hSw
    try dsimp only at hSw
    go_simp
    try (with_reducible rfl)
  try simp only [Act.put, List.setIfInBounds_toArray, List.set_cons_zero, List.set_cons_succ]
  refine takeOn 1 { dst := some 19, op := Op.load 3 (Operand.tmp 18), type := 3, pos := "stand.go:45", after := #[{ on := 0, ground := Ground.data }], guard := none } (v := ?v1) rfl (by kernel_rfl) (by kernel_rfl) (by kernel_rfl) (hQ8 _ (by decide) (by decide) _) (by rfl) (by assumption) ?yv1 ?_
  case yv1 =>
    intro w hSw
    try dsimp only at hSw
    go_simp
    try (with_reducible rfl)
  try simp only [Act.put, List.setIfInBounds_toArray, List.set_cons_zero, List.set_cons_succ]
  refine takeOn 2 { dst := some 20, op := Op.indexAddr 161 (Operand.tmp 6) (Operand.tmp 19), type := 0, pos := "stand.go:45", after := #[{ on := 1, ground := Ground.data }], guard := none } (v := ?v2) rfl (by kernel_rfl) (by kernel_rfl) (by kernel_rfl) (hQ8 _ (by decide) (by decide) _) (by rfl) (by assumption) ?yv2 ?_
  case yv2 =>
    intro w hSw
    try dsimp only at hSw
    go_simp
    try (with_reducible rfl)
  try simp only [Act.put, List.setIfInBounds_toArray, List.set_cons_zero, List.set_cons_succ]
  refine takeOn 3 { dst := some 21, op := Op.load 159 (Operand.tmp 20), type := 159, pos := "stand.go:45", after := #[{ on := 2, ground := Ground.data }], guard := none } (v := ?v3) rfl (by kernel_rfl) (by kernel_rfl) (by kernel_rfl) (hQ8 _ (by decide) (by decide) _) (by rfl) (by assumption) ?yv3 ?_
  case yv3 =>
    intro w hSw
    try dsimp only at hSw
    go_simp
    try (with_reducible rfl)
  try simp only [Act.put, List.setIfInBounds_toArray, List.set_cons_zero, List.set_cons_succ]
  refine takeOn 4 { dst := some 22, op := Op.load 111 (Operand.tmp 2), type := 111, pos := "stand.go:45", after := #[], guard := none } (v := ?v4) rfl (by kernel_rfl) (by kernel_rfl) (by kernel_rfl) (hQ8 _ (by decide) (by decide) _) (by rfl) (by assumption) ?yv4 ?_
  case yv4 =>
    intro w hSw
    try dsimp only at hSw
    go_simp
    try (with_reducible rfl)
  try simp only [Act.put, List.setIfInBounds_toArray, List.set_cons_zero, List.set_cons_succ]
  refine takeOn 5 { dst := some 23, op := Op.fieldAddr 70 (Operand.tmp 3) 1, type := 0, pos := "stand.go:45", after := #[], guard := none } (v := ?v5) rfl (by kernel_rfl) (by kernel_rfl) (by kernel_rfl) (hQ8 _ (by decide) (by decide) _) (by rfl) (by assumption) ?yv5 ?_
  case yv5 =>
    intro w hSw
    try dsimp only at hSw
    go_simp
    try (with_reducible rfl)
  try simp only [Act.put, List.setIfInBounds_toArray, List.set_cons_zero, List.set_cons_succ]
  refine takeOn 6 { dst := some 24, op := Op.load 32 (Operand.tmp 23), type := 32, pos := "stand.go:45", after := #[{ on := 5, ground := Ground.data }], guard := none } (v := ?v6) rfl (by kernel_rfl) (by kernel_rfl) (by kernel_rfl) (hQ8 _ (by decide) (by decide) _) (by rfl) (by assumption) ?yv6 ?_
  case yv6 =>
    intro w hSw
    try dsimp only at hSw
    go_simp
    try (with_reducible rfl)
  try simp only [Act.put, List.setIfInBounds_toArray, List.set_cons_zero, List.set_cons_succ]
  refine wpAnyH_ready (rs := [7]) (by kernel_rfl) (by simp) ?_
  refine (AllReadyH.cons (o := { dst := some 25, op := Op.call { callee := Callee.value (Operand.tmp 21), args := #[Operand.tmp 22, Operand.tmp 24], argTypes := #[111, 32] }, type := 111, pos := "stand.go:45", after := #[{ on := 3, ground := Ground.data }, { on := 4, ground := Ground.data }, { on := 6, ground := Ground.data }], guard := none }) rfl (fun K hK => ?_) AllReadyH.nil)
  · skip
    go_simp
    go_at_call 116
    refine (HF.out _ hws.low).mono ?_
    rintro e w3 h3
    obtain ⟨b3, rfl⟩ := res8_no HC.out h3
    have hws := hws.later b3
    obtain ⟨y7, hk5⟩ := hws.k5
    clear h3
    go_wp2_with fail
    have kR := ((H4.out.later (Below.refl _ _).drew).later b3).other (p := ⟨w.heap.size + 1 + 1 + 1, 0, none⟩) (by simp) (.int .i64 (cerr 2 X))
    have kE := hk5.set 0 (.int .i64 (cerr 2 X))
    obtain ⟨r0, r1, r2, r3, r4, r5, r6⟩ := kR.all7
    have e0 := kE.cell 0
    simp only [List.setIfInBounds_toArray, List.set_cons_zero, List.getElem?_toArray, List.getElem?_cons_zero] at e0
    have hlow := (hws.st5 (.int .i64 (cerr 2 X))).low
    refine leaves_cons (f := 114) (args := #[.pointer (some ⟨w.heap.size + 1 + 1 + 1, 0, none⟩)]) (by simp) (by simp [go_sem]) ?_
    refine (catch8_panicking _ _ _ _ _ hk5).mono ?_
    rintro e u' w'' ⟨rfl, rfl, rfl⟩
    exact ⟨.tuple #[.agg nilS, .int .i64 (cerr 2 X)], by simp [results, Try.results80, go_sem, r0, r1, r2, r3, r4, r5, r6, e0], hlow, .inr ⟨HC.out, rfl⟩⟩
set_option maxRecDepth 100000 in
set_option maxHeartbeats 4000000 in
theorem moved3_no (SD SS key : Int) (hc : cerr 3 X ≠ 0)
    (hf : ∀ W, Below w.heap.size w W → Calls Try.prog 117 #[.agg (SC ob m cb ol q cl ok nk ck SD o0 n0 c0 o1 n1 c1 SS), .int .u64 key] W (Res8 lo r bs lv 3 key X W)) :
    Calls Try.prog 80 #[.agg (SC ob m cb ol q cl ok nk ck SD o0 n0 c0 o1 n1 c1 SS), .agg #[.int .i64 3, .int .u64 key]] w (Told8 lo r bs lv 3 key X w) := by
  have hmf : ∀ (fn : Fn) (first cap : Array Value) (w : World), (Instr.makeFunc fn first cap).run Try.prog w = .ok (.func fn first cap) w := fun _ _ _ _ => rfl
  have HF := Lib.hid hf
  have HC := Lib.hid hc
  clear hf hc
  go_enter_defers Try.func80, Try.ntmps80
  go_wp2_with fail
  obtain ⟨W, hW⟩ : ∃ W, W = ((((w.alloc (.cells (SC ob m cb ol q cl ok nk ck SD o0 n0 c0 o1 n1 c1 SS) 111)).alloc (.cells #[.int .i64 3, .int .u64 key] 70)).alloc (.cells #[.slice none 0 0, .slice none 0 0, .slice none 0 0, .int .i64 0, .slice none 0 0, .slice none 0 0, .int .i64 0] 111)).alloc (.cells #[.int .i64 0] 41)).alloc (.cells #[.nilFunc, .func (.func 115) #[] #[], .func (.func 116) #[] #[], .func (.func 117) #[] #[], .func (.func 118) #[] #[]] 161) := ⟨_, rfl⟩
  rw [← hW]
  have hmv : MV w (SC ob m cb ol q cl ok nk ck SD o0 n0 c0 o1 n1 c1 SS) 3 key W := by rw [hW]; exact mv_new _ _ _ _
  have H4 : Hid (Blk W (w.heap.size + 1 + 1) nilS 111) := Lib.hid (by rw [hW]; exact mv_new4 _ _ _ _)
  clear hW
  have hk : ∀ W', MV w (SC ob m cb ol q cl ok nk ck SD o0 n0 c0 o1 n1 c1 SS) 3 key W' → ((W'.cell? ⟨w.heap.size, 0, none⟩ = some (.slice ob m cb) ∧ W'.cell? ⟨w.heap.size, 1, none⟩ = some (.slice ol q cl) ∧ W'.cell? ⟨w.heap.size, 2, none⟩ = some (.slice ok nk ck) ∧ W'.cell? ⟨w.heap.size, 3, none⟩ = some (.int .i64 SD) ∧ W'.cell? ⟨w.heap.size, 4, none⟩ = some (.slice o0 n0 c0) ∧ W'.cell? ⟨w.heap.size, 5, none⟩ = some (.slice o1 n1 c1) ∧ W'.cell? ⟨w.heap.size, 6, none⟩ = some (.int .i64 SS)) ∧ (W'.cell? ⟨w.heap.size + 1, 0, none⟩ = some (.int .i64 3) ∧ W'.cell? ⟨w.heap.size + 1, 1, none⟩ = some (.int .u64 key) ∧ W'.cell? ⟨w.heap.size + 1 + 1 + 1 + 1, 3, none⟩ = some (.func (.func 117) #[] #[])) ∧ w.heap.size < W'.heap.size ∧ w.heap.size + 1 < W'.heap.size ∧ w.heap.size + 1 + 1 + 1 + 1 < W'.heap.size) ∧ MV w (SC ob m cb ol q cl ok nk ck SD o0 n0 c0 o1 n1 c1 SS) 3 key W' := fun W' h => ⟨⟨h.k2.all7, ⟨h.k3.cell 0, h.k3.cell 1, h.k6.cell 3⟩, h.k2.lt, h.k3.lt, h.k6.lt⟩, h⟩
  have HK := Lib.hid hk
  have hws := hmv
  clear hk hmv
  go_wp2_with fail
  refine wp_region_held_drew (S := (fun W' => ((W'.cell? ⟨w.heap.size, 0, none⟩ = some (.slice ob m cb) ∧ W'.cell? ⟨w.heap.size, 1, none⟩ = some (.slice ol q cl) ∧ W'.cell? ⟨w.heap.size, 2, none⟩ = some (.slice ok nk ck) ∧ W'.cell? ⟨w.heap.size, 3, none⟩ = some (.int .i64 SD) ∧ W'.cell? ⟨w.heap.size, 4, none⟩ = some (.slice o0 n0 c0) ∧ W'.cell? ⟨w.heap.size, 5, none⟩ = some (.slice o1 n1 c1) ∧ W'.cell? ⟨w.heap.size, 6, none⟩ = some (.int .i64 SS)) ∧ (W'.cell? ⟨w.heap.size + 1, 0, none⟩ = some (.int .i64 3) ∧ W'.cell? ⟨w.heap.size + 1, 1, none⟩ = some (.int .u64 key) ∧ W'.cell? ⟨w.heap.size + 1 + 1 + 1 + 1, 3, none⟩ = some (.func (.func 117) #[] #[])) ∧ w.heap.size < W'.heap.size ∧ w.heap.size + 1 < W'.heap.size ∧ w.heap.size + 1 + 1 + 1 + 1 < W'.heap.size) ∧ MV w (SC ob m cb ol q cl ok nk ck SD o0 n0 c0 o1 n1 c1 SS) 3 key W')) (by kernel_rfl) ?_ (fun hHeld => ?_)
  · exact HK.out _ hws.drew
  have hws := hws.drew
  refine takeOn 0 { dst := some 18, op := Op.fieldAddr 70 (Operand.tmp 3) 0, type := 0, pos := "stand.go:45", after := #[], guard := none } (v := ?v0) rfl (by kernel_rfl) (by kernel_rfl) (by kernel_rfl) (hQ8 _ (by decide) (by decide) _) (by rfl) (by assumption) ?yv0 ?_
  case yv0 =>
    intro w hSw
    try dsimp only at hSw
    go_simp
    try (with_reducible rfl)
  try simp only [Act.put, List.setIfInBounds_toArray, List.set_cons_zero, List.set_cons_succ]
  refine takeOn 1 { dst := some 19, op := Op.load 3 (Operand.tmp 18), type := 3, pos := "stand.go:45", after := #[{ on := 0, ground := Ground.data }], guard := none } (v := ?v1) rfl (by kernel_rfl) (by kernel_rfl) (by kernel_rfl) (hQ8 _ (by decide) (by decide) _) (by rfl) (by assumption) ?yv1 ?_
  case yv1 =>
    intro w hSw
    try dsimp only at hSw
    go_simp
    try (with_reducible rfl)
  try simp only [Act.put, List.setIfInBounds_toArray, List.set_cons_zero, List.set_cons_succ]
  refine takeOn 2 { dst := some 20, op := Op.indexAddr 161 (Operand.tmp 6) (Operand.tmp 19), type := 0, pos := "stand.go:45", after := #[{ on := 1, ground := Ground.data }], guard := none } (v := ?v2) rfl (by kernel_rfl) (by kernel_rfl) (by kernel_rfl) (hQ8 _ (by decide) (by decide) _) (by rfl) (by assumption) ?yv2 ?_
  case yv2 =>
    intro w hSw
    try dsimp only at hSw
    go_simp
    try (with_reducible rfl)
  try simp only [Act.put, List.setIfInBounds_toArray, List.set_cons_zero, List.set_cons_succ]
  refine takeOn 3 { dst := some 21, op := Op.load 159 (Operand.tmp 20), type := 159, pos := "stand.go:45", after := #[{ on := 2, ground := Ground.data }], guard := none } (v := ?v3) rfl (by kernel_rfl) (by kernel_rfl) (by kernel_rfl) (hQ8 _ (by decide) (by decide) _) (by rfl) (by assumption) ?yv3 ?_
  case yv3 =>
    intro w hSw
    try dsimp only at hSw
    go_simp
    try (with_reducible rfl)
  try simp only [Act.put, List.setIfInBounds_toArray, List.set_cons_zero, List.set_cons_succ]
  refine takeOn 4 { dst := some 22, op := Op.load 111 (Operand.tmp 2), type := 111, pos := "stand.go:45", after := #[], guard := none } (v := ?v4) rfl (by kernel_rfl) (by kernel_rfl) (by kernel_rfl) (hQ8 _ (by decide) (by decide) _) (by rfl) (by assumption) ?yv4 ?_
  case yv4 =>
    intro w hSw
    try dsimp only at hSw
    go_simp
    try (with_reducible rfl)
  try simp only [Act.put, List.setIfInBounds_toArray, List.set_cons_zero, List.set_cons_succ]
  refine takeOn 5 { dst := some 23, op := Op.fieldAddr 70 (Operand.tmp 3) 1, type := 0, pos := "stand.go:45", after := #[], guard := none } (v := ?v5) rfl (by kernel_rfl) (by kernel_rfl) (by kernel_rfl) (hQ8 _ (by decide) (by decide) _) (by rfl) (by assumption) ?yv5 ?_
  case yv5 =>
    intro w hSw
    try dsimp only at hSw
    go_simp
    try (with_reducible rfl)
  try simp only [Act.put, List.setIfInBounds_toArray, List.set_cons_zero, List.set_cons_succ]
  refine takeOn 6 { dst := some 24, op := Op.load 32 (Operand.tmp 23), type := 32, pos := "stand.go:45", after := #[{ on := 5, ground := Ground.data }], guard := none } (v := ?v6) rfl (by kernel_rfl) (by kernel_rfl) (by kernel_rfl) (hQ8 _ (by decide) (by decide) _) (by rfl) (by assumption) ?yv6 ?_
  case yv6 =>
    intro w hSw
    try dsimp only at hSw
    go_simp
    try (with_reducible rfl)
  try simp only [Act.put, List.setIfInBounds_toArray, List.set_cons_zero, List.set_cons_succ]
  refine wpAnyH_ready (rs := [7]) (by kernel_rfl) (by simp) ?_
  refine (AllReadyH.cons (o := { dst := some 25, op := Op.call { callee := Callee.value (Operand.tmp 21), args := #[Operand.tmp 22, Operand.tmp 24], argTypes := #[111, 32] }, type := 111, pos := "stand.go:45", after := #[{ on := 3, ground := Ground.data }, { on := 4, ground := Ground.data }, { on := 6, ground := Ground.data }], guard := none }) rfl (fun K hK => ?_) AllReadyH.nil)
  · skip
    go_simp
    go_at_call 117
    refine (HF.out _ hws.low).mono ?_
    rintro e w3 h3
    obtain ⟨b3, rfl⟩ := res8_no HC.out h3
    have hws := hws.later b3
    obtain ⟨y7, hk5⟩ := hws.k5
    clear h3
    go_wp2_with fail
    have kR := ((H4.out.later (Below.refl _ _).drew).later b3).other (p := ⟨w.heap.size + 1 + 1 + 1, 0, none⟩) (by simp) (.int .i64 (cerr 3 X))
    have kE := hk5.set 0 (.int .i64 (cerr 3 X))
    obtain ⟨r0, r1, r2, r3, r4, r5, r6⟩ := kR.all7
    have e0 := kE.cell 0
    simp only [List.setIfInBounds_toArray, List.set_cons_zero, List.getElem?_toArray, List.getElem?_cons_zero] at e0
    have hlow := (hws.st5 (.int .i64 (cerr 3 X))).low
    refine leaves_cons (f := 114) (args := #[.pointer (some ⟨w.heap.size + 1 + 1 + 1, 0, none⟩)]) (by simp) (by simp [go_sem]) ?_
    refine (catch8_panicking _ _ _ _ _ hk5).mono ?_
    rintro e u' w'' ⟨rfl, rfl, rfl⟩
    exact ⟨.tuple #[.agg nilS, .int .i64 (cerr 3 X)], by simp [results, Try.results80, go_sem, r0, r1, r2, r3, r4, r5, r6, e0], hlow, .inr ⟨HC.out, rfl⟩⟩
set_option maxRecDepth 100000 in
set_option maxHeartbeats 4000000 in
theorem moved4_no (SD SS key : Int) (hc : cerr 4 X ≠ 0)
    (hf : ∀ W, Below w.heap.size w W → Calls Try.prog 118 #[.agg (SC ob m cb ol q cl ok nk ck SD o0 n0 c0 o1 n1 c1 SS), .int .u64 key] W (Res8 lo r bs lv 4 key X W)) :
    Calls Try.prog 80 #[.agg (SC ob m cb ol q cl ok nk ck SD o0 n0 c0 o1 n1 c1 SS), .agg #[.int .i64 4, .int .u64 key]] w (Told8 lo r bs lv 4 key X w) := by
  have hmf : ∀ (fn : Fn) (first cap : Array Value) (w : World), (Instr.makeFunc fn first cap).run Try.prog w = .ok (.func fn first cap) w := fun _ _ _ _ => rfl
  have HF := Lib.hid hf
  have HC := Lib.hid hc
  clear hf hc
  go_enter_defers Try.func80, Try.ntmps80
  go_wp2_with fail
  obtain ⟨W, hW⟩ : ∃ W, W = ((((w.alloc (.cells (SC ob m cb ol q cl ok nk ck SD o0 n0 c0 o1 n1 c1 SS) 111)).alloc (.cells #[.int .i64 4, .int .u64 key] 70)).alloc (.cells #[.slice none 0 0, .slice none 0 0, .slice none 0 0, .int .i64 0, .slice none 0 0, .slice none 0 0, .int .i64 0] 111)).alloc (.cells #[.int .i64 0] 41)).alloc (.cells #[.nilFunc, .func (.func 115) #[] #[], .func (.func 116) #[] #[], .func (.func 117) #[] #[], .func (.func 118) #[] #[]] 161) := ⟨_, rfl⟩
  rw [← hW]
  have hmv : MV w (SC ob m cb ol q cl ok nk ck SD o0 n0 c0 o1 n1 c1 SS) 4 key W := by rw [hW]; exact mv_new _ _ _ _
  have H4 : Hid (Blk W (w.heap.size + 1 + 1) nilS 111) := Lib.hid (by rw [hW]; exact mv_new4 _ _ _ _)
  clear hW
  have hk : ∀ W', MV w (SC ob m cb ol q cl ok nk ck SD o0 n0 c0 o1 n1 c1 SS) 4 key W' → ((W'.cell? ⟨w.heap.size, 0, none⟩ = some (.slice ob m cb) ∧ W'.cell? ⟨w.heap.size, 1, none⟩ = some (.slice ol q cl) ∧ W'.cell? ⟨w.heap.size, 2, none⟩ = some (.slice ok nk ck) ∧ W'.cell? ⟨w.heap.size, 3, none⟩ = some (.int .i64 SD) ∧ W'.cell? ⟨w.heap.size, 4, none⟩ = some (.slice o0 n0 c0) ∧ W'.cell? ⟨w.heap.size, 5, none⟩ = some (.slice o1 n1 c1) ∧ W'.cell? ⟨w.heap.size, 6, none⟩ = some (.int .i64 SS)) ∧ (W'.cell? ⟨w.heap.size + 1, 0, none⟩ = some (.int .i64 4) ∧ W'.cell? ⟨w.heap.size + 1, 1, none⟩ = some (.int .u64 key) ∧ W'.cell? ⟨w.heap.size + 1 + 1 + 1 + 1, 4, none⟩ = some (.func (.func 118) #[] #[])) ∧ w.heap.size < W'.heap.size ∧ w.heap.size + 1 < W'.heap.size ∧ w.heap.size + 1 + 1 + 1 + 1 < W'.heap.size) ∧ MV w (SC ob m cb ol q cl ok nk ck SD o0 n0 c0 o1 n1 c1 SS) 4 key W' := fun W' h => ⟨⟨h.k2.all7, ⟨h.k3.cell 0, h.k3.cell 1, h.k6.cell 4⟩, h.k2.lt, h.k3.lt, h.k6.lt⟩, h⟩
  have HK := Lib.hid hk
  have hws := hmv
  clear hk hmv
  go_wp2_with fail
  refine wp_region_held_drew (S := (fun W' => ((W'.cell? ⟨w.heap.size, 0, none⟩ = some (.slice ob m cb) ∧ W'.cell? ⟨w.heap.size, 1, none⟩ = some (.slice ol q cl) ∧ W'.cell? ⟨w.heap.size, 2, none⟩ = some (.slice ok nk ck) ∧ W'.cell? ⟨w.heap.size, 3, none⟩ = some (.int .i64 SD) ∧ W'.cell? ⟨w.heap.size, 4, none⟩ = some (.slice o0 n0 c0) ∧ W'.cell? ⟨w.heap.size, 5, none⟩ = some (.slice o1 n1 c1) ∧ W'.cell? ⟨w.heap.size, 6, none⟩ = some (.int .i64 SS)) ∧ (W'.cell? ⟨w.heap.size + 1, 0, none⟩ = some (.int .i64 4) ∧ W'.cell? ⟨w.heap.size + 1, 1, none⟩ = some (.int .u64 key) ∧ W'.cell? ⟨w.heap.size + 1 + 1 + 1 + 1, 4, none⟩ = some (.func (.func 118) #[] #[])) ∧ w.heap.size < W'.heap.size ∧ w.heap.size + 1 < W'.heap.size ∧ w.heap.size + 1 + 1 + 1 + 1 < W'.heap.size) ∧ MV w (SC ob m cb ol q cl ok nk ck SD o0 n0 c0 o1 n1 c1 SS) 4 key W')) (by kernel_rfl) ?_ (fun hHeld => ?_)
  · exact HK.out _ hws.drew
  have hws := hws.drew
  refine takeOn 0 { dst := some 18, op := Op.fieldAddr 70 (Operand.tmp 3) 0, type := 0, pos := "stand.go:45", after := #[], guard := none } (v := ?v0) rfl (by kernel_rfl) (by kernel_rfl) (by kernel_rfl) (hQ8 _ (by decide) (by decide) _) (by rfl) (by assumption) ?yv0 ?_
  case yv0 =>
    intro w hSw
    try dsimp only at hSw
    go_simp
    try (with_reducible rfl)
  try simp only [Act.put, List.setIfInBounds_toArray, List.set_cons_zero, List.set_cons_succ]
  refine takeOn 1 { dst := some 19, op := Op.load 3 (Operand.tmp 18), type := 3, pos := "stand.go:45", after := #[{ on := 0, ground := Ground.data }], guard := none } (v := ?v1) rfl (by kernel_rfl) (by kernel_rfl) (by kernel_rfl) (hQ8 _ (by decide) (by decide) _) (by rfl) (by assumption) ?yv1 ?_
  case yv1 =>
    intro w hSw
    try dsimp only at hSw
    go_simp
    try (with_reducible rfl)
  try simp only [Act.put, List.setIfInBounds_toArray, List.set_cons_zero, List.set_cons_succ]
  refine takeOn 2 { dst := some 20, op := Op.indexAddr 161 (Operand.tmp 6) (Operand.tmp 19), type := 0, pos := "stand.go:45", after := #[{ on := 1, ground := Ground.data }], guard := none } (v := ?v2) rfl (by kernel_rfl) (by kernel_rfl) (by kernel_rfl) (hQ8 _ (by decide) (by decide) _) (by rfl) (by assumption) ?yv2 ?_
  case yv2 =>
    intro w hSw
    try dsimp only at hSw
    go_simp
    try (with_reducible rfl)
  try simp only [Act.put, List.setIfInBounds_toArray, List.set_cons_zero, List.set_cons_succ]
  refine takeOn 3 { dst := some 21, op := Op.load 159 (Operand.tmp 20), type := 159, pos := "stand.go:45", after := #[{ on := 2, ground := Ground.data }], guard := none } (v := ?v3) rfl (by kernel_rfl) (by kernel_rfl) (by kernel_rfl) (hQ8 _ (by decide) (by decide) _) (by rfl) (by assumption) ?yv3 ?_
  case yv3 =>
    intro w hSw
    try dsimp only at hSw
    go_simp
    try (with_reducible rfl)
  try simp only [Act.put, List.setIfInBounds_toArray, List.set_cons_zero, List.set_cons_succ]
  refine takeOn 4 { dst := some 22, op := Op.load 111 (Operand.tmp 2), type := 111, pos := "stand.go:45", after := #[], guard := none } (v := ?v4) rfl (by kernel_rfl) (by kernel_rfl) (by kernel_rfl) (hQ8 _ (by decide) (by decide) _) (by rfl) (by assumption) ?yv4 ?_
  case yv4 =>
    intro w hSw
    try dsimp only at hSw
    go_simp
    try (with_reducible rfl)
  try simp only [Act.put, List.setIfInBounds_toArray, List.set_cons_zero, List.set_cons_succ]
  refine takeOn 5 { dst := some 23, op := Op.fieldAddr 70 (Operand.tmp 3) 1, type := 0, pos := "stand.go:45", after := #[], guard := none } (v := ?v5) rfl (by kernel_rfl) (by kernel_rfl) (by kernel_rfl) (hQ8 _ (by decide) (by decide) _) (by rfl) (by assumption) ?yv5 ?_
  case yv5 =>
    intro w hSw
    try dsimp only at hSw
    go_simp
    try (with_reducible rfl)
  try simp only [Act.put, List.setIfInBounds_toArray, List.set_cons_zero, List.set_cons_succ]
  refine takeOn 6 { dst := some 24, op := Op.load 32 (Operand.tmp 23), type := 32, pos := "stand.go:45", after := #[{ on := 5, ground := Ground.data }], guard := none } (v := ?v6) rfl (by kernel_rfl) (by kernel_rfl) (by kernel_rfl) (hQ8 _ (by decide) (by decide) _) (by rfl) (by assumption) ?yv6 ?_
  case yv6 =>
    intro w hSw
    try dsimp only at hSw
    go_simp
    try (with_reducible rfl)
  try simp only [Act.put, List.setIfInBounds_toArray, List.set_cons_zero, List.set_cons_succ]
  refine wpAnyH_ready (rs := [7]) (by kernel_rfl) (by simp) ?_
  refine (AllReadyH.cons (o := { dst := some 25, op := Op.call { callee := Callee.value (Operand.tmp 21), args := #[Operand.tmp 22, Operand.tmp 24], argTypes := #[111, 32] }, type := 111, pos := "stand.go:45", after := #[{ on := 3, ground := Ground.data }, { on := 4, ground := Ground.data }, { on := 6, ground := Ground.data }], guard := none }) rfl (fun K hK => ?_) AllReadyH.nil)
  · skip
    go_simp
    go_at_call 118
    refine (HF.out _ hws.low).mono ?_
    rintro e w3 h3
    obtain ⟨b3, rfl⟩ := res8_no HC.out h3
    have hws := hws.later b3
    obtain ⟨y7, hk5⟩ := hws.k5
    clear h3
    go_wp2_with fail
    have kR := ((H4.out.later (Below.refl _ _).drew).later b3).other (p := ⟨w.heap.size + 1 + 1 + 1, 0, none⟩) (by simp) (.int .i64 (cerr 4 X))
    have kE := hk5.set 0 (.int .i64 (cerr 4 X))
    obtain ⟨r0, r1, r2, r3, r4, r5, r6⟩ := kR.all7
    have e0 := kE.cell 0
    simp only [List.setIfInBounds_toArray, List.set_cons_zero, List.getElem?_toArray, List.getElem?_cons_zero] at e0
    have hlow := (hws.st5 (.int .i64 (cerr 4 X))).low
    refine leaves_cons (f := 114) (args := #[.pointer (some ⟨w.heap.size + 1 + 1 + 1, 0, none⟩)]) (by simp) (by simp [go_sem]) ?_
    refine (catch8_panicking _ _ _ _ _ hk5).mono ?_
    rintro e u' w'' ⟨rfl, rfl, rfl⟩
    exact ⟨.tuple #[.agg nilS, .int .i64 (cerr 4 X)], by simp [results, Try.results80, go_sem, r0, r1, r2, r3, r4, r5, r6, e0], hlow, .inr ⟨HC.out, rfl⟩⟩
end
end Go.Proofs.Ytjfnhjmdgfkgnaa

