/- TrieJoins: two tries as one, and some branches alone: for all two tries and all two numbers the law returns true. No condition. -/
import Derived.Test.YtjfnhjmdgfkgnaaJ1
import Derived.Orders
import Derived.Test.YtjfnhjmdgfkgnaaU18
import Derived.Test.YtjfnhjmdgfkgnaaN13
import Derived.Test.YtjfnhjmdgfkgnaaU22
import Derived.Test.YtjfnhjmdgfkgnaaU23
import Derived.Test.YtjfnhjmdgfkgnaaU25
import Derived.Test.YtjfnhjmdgfkgnaaU24
import Derived.Test.YtjfnhjmdgfkgnaaU27
import Derived.Test.YtjfnhjmdgfkgnaaU29
import Derived.Test.YtjfnhjmdgfkgnaaN20
import Derived.Deep.CutBlock
import Derived.Test.YtjfnhjmdgfkgnaaVD
/- A region that draws its order: two calls of one function on two variables, their answers laid into two blocks of the region's own. -/
namespace Go.Proofs.Kit
open Go.RowKit
def upd {α : Type} (f : Nat → α) (k : Nat) (x : α) : Nat → α := fun i => if i = k then x else f i
@[simp] theorem upd_same {α : Type} (f : Nat → α) (k : Nat) (x : α) : upd f k x k = x := by simp [upd]
theorem upd_ne {α : Type} (f : Nat → α) {k i : Nat} (x : α) (h : i ≠ k) : upd f k x i = f i := by simp [upd, h]
/-- The operation waits for these. -/
def needs (o : Oper) (l : List Nat) : Bool := l.all fun i => o.after.any fun e => Region.binds .any e && e.on == i
/-- The operation waits for none but these. -/
def only (o : Oper) (l : List Nat) : Bool := o.after.all fun e => !Region.binds .any e || l.contains e.on
theorem needs_listed {ops : Array Oper} {listed : Array Bool} {j : Nat} {o : Oper} {l : List Nat} (hj : j ∈ Region.ready .any ops listed) (ho : ops[j]? = some o) (hn : needs o l = true) {i : Nat} (hi : i ∈ l) : listed.getD i false = true := by
  obtain ⟨_, o', ho', h⟩ := mem_ready.1 hj
  rw [ho] at ho'
  cases ho'
  have h1 := List.all_eq_true.1 hn i hi
  obtain ⟨e, he, hb⟩ := Array.any_eq_true'.1 h1
  simp only [Bool.and_eq_true, beq_iff_eq] at hb
  rw [← hb.2]
  exact h e he hb.1
theorem only_ready {ops : Array Oper} {listed : Array Bool} {j : Nat} {o : Oper} {l : List Nat} (h0 : listed.getD j true = false) (ho : ops[j]? = some o) (hn : only o l = true) (h : ∀ i ∈ l, listed.getD i false = true) : j ∈ Region.ready .any ops listed := by
  refine mem_ready.2 ⟨h0, o, ho, fun e he hb => ?_⟩
  have h1 := Array.all_eq_true_iff_forall_mem.1 hn e he
  simp only [hb, Bool.not_true, Bool.false_or, List.contains_iff_mem] at h1
  exact h _ h1
theorem count_set {listed : Array Bool} {i : Nat} (h : listed.getD i true = false) : (listed.setIfInBounds i true).toList.count false + 1 = listed.toList.count false := by
  have hi : i < listed.size := by
    rcases Nat.lt_or_ge i listed.size with h' | h'
    · exact h'
    · simp [Array.getElem?_eq_none h'] at h
  have he : listed.toList[i]'(by simpa using hi) = false := by simpa [hi] using h
  rw [Array.toList_setIfInBounds, List.count_set (by simpa using hi), he]
  have h1 : 0 < listed.toList.count false := List.count_pos_iff.2 (he ▸ List.getElem_mem _)
  have h2 : (if (false == false) = true then 1 else 0) = 1 := rfl
  have h3 : (if (true == false) = true then 1 else 0) = 0 := rfl
  rw [h2, h3]
  omega
/-- A drawn region by what holds whichever have run. -/
theorem wpAny_inv {P : Program} {ops : Array Oper} {Q : Exit → Act → World → Prop} (I : Array Bool → Act → World → Prop)
    (step : ∀ listed a w, I listed a w → ∀ i o, i ∈ Region.ready .any ops listed → listed.getD i true = false → ops[i]? = some o → wpOp P ops Q i (I (listed.setIfInBounds i true)) a w)
    (fin : ∀ listed a w, I listed a w → Region.ready .any ops listed = [] → Q .normal a w) :
    ∀ (fuel : Nat) (listed : Array Bool) (a : Act) (w : World), listed.toList.count false ≤ fuel → I listed a w → wpAny P .any ops Q fuel listed a w := by
  intro fuel
  induction fuel with
  | zero =>
    intro listed a w hc hI
    have hr : Region.ready .any ops listed = [] := by
      cases hr : Region.ready .any ops listed with
      | nil => rfl
      | cons i t =>
        have hi : i ∈ Region.ready .any ops listed := by rw [hr]; simp
        have := count_set (mem_ready.1 hi).1
        omega
    exact ⟨hr, fin _ _ _ hI hr⟩
  | succ fuel ih =>
    intro listed a w hc hI
    refine ⟨fin _ _ _ hI, fun i hi => ?_⟩
    obtain ⟨h0, o, ho, _⟩ := mem_ready.1 hi
    have := count_set h0
    exact wpOp_mono (fun a' w' h' => ih _ _ _ (by omega) h') (step _ _ _ hI i o hi h0 ho)
/-- What an operation without a guard comes to. -/
theorem wpOp_of {P : Program} {ops : Array Oper} {Q : Exit → Act → World → Prop} {i : Nat} {o : Oper} {K : Act → World → Prop} {a : Act} {w : World} (ho : ops[i]? = some o) (hg : o.guard = none) (h : o.wp P a w K Q) : wpOp P ops Q i K a w := by
  unfold wpOp
  rw [ho]
  simp only
  have hw : Region.wanted o (yielded ops a.tmps) = true := by unfold Region.wanted; rw [hg]
  rw [if_pos hw]
  exact .inl h
/-- a is a0 but for these slots. -/
structure Slots (a0 a : Act) (D : List Nat) (X : Nat → Value) : Prop where
  defers : a.defers = a0.defers
  size : a.tmps.size = a0.tmps.size
  inn : ∀ t ∈ D, a.tmps[t]? = some (X t)
  out : ∀ t, t ∉ D → a.tmps[t]? = a0.tmps[t]?
theorem Slots.put {a0 a : Act} {D : List Nat} {X : Nat → Value} (h : Slots a0 a D X) {d : Nat} (hd : d ∈ D) (v : Value) : Slots a0 (a.put (some d) v) D (upd X d v) := by
  have hl : d < a.tmps.size := (Array.getElem?_eq_some_iff.1 (h.inn d hd)).1
  refine ⟨h.defers, ?_, fun t ht => ?_, fun t ht => ?_⟩
  · show (a.tmps.setIfInBounds d v).size = _
    rw [Array.size_setIfInBounds]; exact h.size
  · show (a.tmps.setIfInBounds d v)[t]? = _
    by_cases e : t = d
    · subst e; simp [hl]
    · rw [Array.getElem?_setIfInBounds_ne (Ne.symm e), upd_ne _ _ e]; exact h.inn t ht
  · show (a.tmps.setIfInBounds d v)[t]? = _
    have e : d ≠ t := by rintro rfl; exact ht hd
    rw [Array.getElem?_setIfInBounds_ne e]; exact h.out t ht
theorem Slots.eval {a0 a : Act} {D : List Nat} {X : Nat → Value} (h : Slots a0 a D X) {d : Nat} (hd : d ∈ D) : a.eval (.tmp d) = X d := by
  simp [Act.eval, h.inn d hd]
theorem Slots.eval_out {a0 a : Act} {D : List Nat} {X : Nat → Value} (h : Slots a0 a D X) {d : Nat} (hd : d ∉ D) : a.eval (.tmp d) = a0.eval (.tmp d) := by
  simp [Act.eval, h.out d hd]
theorem Slots.start {a0 : Act} {D : List Nat} (h : ∀ t ∈ D, t < a0.tmps.size) : Slots a0 a0 D (fun t => a0.eval (.tmp t)) :=
  ⟨rfl, rfl, fun t ht => by have := h t ht; simp [Act.eval, this], fun _ _ => rfl⟩
def putL (a : Act) : List (Nat × Value) → Act
  | [] => a
  | (d, v) :: r => putL (a.put (some d) v) r
/-- What stands in the six slots that the region writes. -/
theorem Slots.eq6 {a0 a : Act} {X : Nat → Value} {d1 d2 d3 d4 d5 d6 : Nat} (h : Slots a0 a [d1, d2, d3, d4, d5, d6] X) (hd : [d1, d2, d3, d4, d5, d6].Nodup) :
    a = (((((a0.put (some d1) (X d1)).put (some d2) (X d2)).put (some d3) (X d3)).put (some d4) (X d4)).put (some d5) (X d5)).put (some d6) (X d6) := by
  have hs : ∀ t ∈ [d1, d2, d3, d4, d5, d6], t < a0.tmps.size := fun t ht => by rw [← h.size]; exact (Array.getElem?_eq_some_iff.1 (h.inn t ht)).1
  have S0 := (Slots.start hs)
  have S6 := (((((S0.put (d := d1) (by simp) (X d1)).put (d := d2) (by simp) (X d2)).put (d := d3) (by simp) (X d3)).put (d := d4) (by simp) (X d4)).put (d := d5) (by simp) (X d5)).put (d := d6) (by simp) (X d6)
  have hX : ∀ t ∈ [d1, d2, d3, d4, d5, d6], upd (upd (upd (upd (upd (upd (fun t => a0.eval (.tmp t)) d1 (X d1)) d2 (X d2)) d3 (X d3)) d4 (X d4)) d5 (X d5)) d6 (X d6) t = X t := fun t ht => by
    simp only [List.mem_cons, List.not_mem_nil, or_false] at ht
    unfold upd
    rcases ht with rfl | rfl | rfl | rfl | rfl | rfl <;> (repeat' split) <;> simp_all
  generalize ((((((a0.put (some d1) (X d1)).put (some d2) (X d2)).put (some d3) (X d3)).put (some d4) (X d4)).put (some d5) (X d5)).put (some d6) (X d6)) = a' at S6
  have ht : a.tmps = a'.tmps := Array.ext_getElem? fun t => by
    by_cases ht : t ∈ [d1, d2, d3, d4, d5, d6]
    · rw [h.inn t ht, S6.inn t ht, hX t ht]
    · rw [h.out t ht, S6.out t ht]
  have hdf : a.defers = a'.defers := h.defers.trans S6.defers.symm
  cases a; cases a'
  simp only at ht hdf
  rw [ht, hdf]

/-- What holds of the eight operations, whichever have run. -/
structure TwoI (n : Nat) (ty : TypeId) (z : Array Value) (C : Value → Array Value) (R1 R2 : Value → World → Prop) (vx vy : Value) (w0 : World) (b0 b1 b2 b3 b4 b5 b6 b7 : Bool) (x17 x18 x19 x20 x7 x8 : Value) (w : World) : Prop where
  low : Below n w0 w
  e0 : b0 = true → x17 = vx
  e1 : b1 = true → R1 x18 w
  e2 : b2 = true → x19 = vy
  e3 : b3 = true → R2 x20 w
  e4 : b4 = true → ∃ p, x7 = .pointer (some ⟨p, 0, none⟩) ∧ n ≤ p ∧ Blk w p (if b6 then C x18 else z) ty
  e5 : b5 = true → ∃ q, x8 = .pointer (some ⟨q, 0, none⟩) ∧ n ≤ q ∧ Blk w q (if b7 then C x20 else z) ty
  ne : b4 = true → b5 = true → x7 ≠ x8
  o6 : b6 = true → b1 = true ∧ b3 = true ∧ b4 = true ∧ b5 = true
  o7 : b7 = true → b6 = true

theorem two_boxes {P : Program} {Q : Exit → Act → World → Prop} {id : Nat} (hm : P.follows .mixedOrders = true) {o0 o1 o2 o3 o4 o5 o6 o7 : Oper} {d17 d18 d19 d20 d7 d8 t3 t4 : Nat} {ty : TypeId} {f : FuncId}
    {a0 : Act} {w : World} {vx vy : Value} {z : Array Value} (C : Value → Array Value) (R1 R2 : Value → World → Prop)
    (hd : [d17, d18, d19, d20, d7, d8].Nodup) (hs : ∀ t ∈ [d17, d18, d19, d20, d7, d8], t < a0.tmps.size) (h3 : t3 ∉ [d17, d18, d19, d20, d7, d8]) (h4 : t4 ∉ [d17, d18, d19, d20, d7, d8])
    (k0 : o0.op = .load ty (.tmp t3) ∧ o0.dst = some d17 ∧ o0.guard = none ∧ only o0 [] = true)
    (k1 : o1.dst = some d18 ∧ o1.guard = none ∧ needs o1 [0] = true ∧ only o1 [0] = true)
    (k2 : o2.op = .load ty (.tmp t4) ∧ o2.dst = some d19 ∧ o2.guard = none ∧ only o2 [] = true)
    (k3 : o3.dst = some d20 ∧ o3.guard = none ∧ needs o3 [1, 2] = true ∧ only o3 [0, 1, 2] = true)
    (k4 : o4.op = .alloc ty ∧ o4.dst = some d7 ∧ o4.guard = none ∧ only o4 [] = true)
    (k5 : o5.op = .alloc ty ∧ o5.dst = some d8 ∧ o5.guard = none ∧ only o5 [] = true)
    (k6 : o6.op = .store ty (.tmp d7) (.tmp d18) ∧ o6.dst = none ∧ o6.guard = none ∧ needs o6 [1, 3, 4, 5] = true ∧ only o6 [0, 1, 2, 3, 4, 5] = true)
    (k7 : o7.op = .store ty (.tmp d8) (.tmp d20) ∧ o7.dst = none ∧ o7.guard = none ∧ needs o7 [6] = true ∧ only o7 [0, 1, 2, 3, 4, 5, 6] = true)
    (l3 : ∀ w', Below w.heap.size w w' → (Instr.loadAt ty (a0.eval (.tmp t3))).run P w' = .ok vx w')
    (l4 : ∀ w', Below w.heap.size w w' → (Instr.loadAt ty (a0.eval (.tmp t4))).run P w' = .ok vy w')
    (c1 : ∀ a : Act, a.eval (.tmp d17) = vx → ∀ w', (execOp a.eval o1).run P w' = .ok (.enter f #[vx]) w')
    (c3 : ∀ a : Act, a.eval (.tmp d19) = vy → ∀ w', (execOp a.eval o3).run P w' = .ok (.enter f #[vy]) w')
    (own1 : ∀ w', Below w.heap.size w w' → Calls P f #[vx] w' fun e w'' => ∃ v, e = .returned v ∧ R1 v w'' ∧ Below w'.heap.size w' w'')
    (own2 : ∀ w', Below w.heap.size w w' → Calls P f #[vy] w' fun e w'' => ∃ v, e = .returned v ∧ R2 v w'' ∧ Below w'.heap.size w' w'')
    (al : ∀ w', (Instr.alloc ty true (.tuple #[])).run P w' = .ok (.pointer (some ⟨w'.heap.size, 0, none⟩)) (w'.alloc (.cells z ty)))
    (r1 : ∀ v w' w'', R1 v w' → Below w'.heap.size w' w'' → R1 v w'') (r2 : ∀ v w' w'', R2 v w' → Below w'.heap.size w' w'' → R2 v w'')
    (s1 : ∀ v w' w'' p c, R1 v w' → Blk w' p c ty → ButR (fun b => b = p) w' w'' → R1 v w'') (s2 : ∀ v w' w'' p c, R2 v w' → Blk w' p c ty → ButR (fun b => b = p) w' w'' → R2 v w'')
    (st1 : ∀ v w' p, R1 v w' → Blk w' p z ty → ∃ w'', (Instr.storeAt ty (.pointer (some ⟨p, 0, none⟩)) v).run P w' = .ok () w'' ∧ Blk w'' p (C v) ty ∧ ButR (fun b => b = p) w' w'')
    (st2 : ∀ v w' p, R2 v w' → Blk w' p z ty → ∃ w'', (Instr.storeAt ty (.pointer (some ⟨p, 0, none⟩)) v).run P w' = .ok () w'' ∧ Blk w'' p (C v) ty ∧ ButR (fun b => b = p) w' w'')
    (fin : ∀ v1 v2 p q w', R1 v1 w' → R2 v2 w' → Blk w' p (C v1) ty → Blk w' q (C v2) ty → p ≠ q → w.heap.size ≤ p → w.heap.size ≤ q → Below w.heap.size w w' →
      Q .normal ((((((a0.put (some d17) vx).put (some d18) v1).put (some d19) vy).put (some d20) v2).put (some d7) (.pointer (some ⟨p, 0, none⟩))).put (some d8) (.pointer (some ⟨q, 0, none⟩))) w') :
    (Code.region id #[o0, o1, o2, o3, o4, o5, o6, o7] true).wp P Q a0 w := by
  have nd := hd
  simp only [List.nodup_cons, List.mem_cons, List.not_mem_nil, or_false, not_or, not_false_eq_true, List.nodup_nil, and_true] at nd
  obtain ⟨⟨n1, n2, n3, n4, n5⟩, ⟨n6, n7, n8, n9⟩, ⟨n10, n11, n12⟩, ⟨n13, n14⟩, n15⟩ := nd
  refine wp_region_any hm (wpAny_inv (fun listed a w' => ∃ b0 b1 b2 b3 b4 b5 b6 b7 X, listed = #[b0, b1, b2, b3, b4, b5, b6, b7] ∧ Slots a0 a [d17, d18, d19, d20, d7, d8] X ∧
    TwoI w.heap.size ty z C R1 R2 vx vy w b0 b1 b2 b3 b4 b5 b6 b7 (X d17) (X d18) (X d19) (X d20) (X d7) (X d8) w') ?step ?fin _ _ _ _ (by simp) ?start)
  case start =>
    exact ⟨false, false, false, false, false, false, false, false, _, rfl, Slots.start hs, (Below.refl _ _).drew, by simp, by simp, by simp, by simp, by simp, by simp, by simp, by simp, by simp⟩
  case fin =>
    rintro listed a w' ⟨b0, b1, b2, b3, b4, b5, b6, b7, X, rfl, hS, hI⟩ hr
    have no : ∀ j, j ∉ Region.ready .any #[o0, o1, o2, o3, o4, o5, o6, o7] #[b0, b1, b2, b3, b4, b5, b6, b7] := by rw [hr]; simp
    have B0 : b0 = true := by
      cases b0 with
      | true => rfl
      | false => exact (no 0 (only_ready rfl rfl k0.2.2.2 (by simp))).elim
    have B2 : b2 = true := by
      cases b2 with
      | true => rfl
      | false => exact (no 2 (only_ready rfl rfl k2.2.2.2 (by simp))).elim
    have B4 : b4 = true := by
      cases b4 with
      | true => rfl
      | false => exact (no 4 (only_ready rfl rfl k4.2.2.2 (by simp))).elim
    have B5 : b5 = true := by
      cases b5 with
      | true => rfl
      | false => exact (no 5 (only_ready rfl rfl k5.2.2.2 (by simp))).elim
    subst B0 B2 B4 B5
    have B1 : b1 = true := by
      cases b1 with
      | true => rfl
      | false => exact (no 1 (only_ready rfl rfl k1.2.2.2 (by simp))).elim
    subst B1
    have B3 : b3 = true := by
      cases b3 with
      | true => rfl
      | false => exact (no 3 (only_ready rfl rfl k3.2.2.2 (by simp))).elim
    subst B3
    have B6 : b6 = true := by
      cases b6 with
      | true => rfl
      | false => exact (no 6 (only_ready rfl rfl k6.2.2.2.2 (by simp))).elim
    subst B6
    have B7 : b7 = true := by
      cases b7 with
      | true => rfl
      | false => exact (no 7 (only_ready rfl rfl k7.2.2.2.2 (by simp))).elim
    subst B7
    obtain ⟨p, hp, hp1, hp2⟩ := hI.e4 rfl
    obtain ⟨q, hq, hq1, hq2⟩ := hI.e5 rfl
    have hne := hI.ne rfl rfl
    rw [hS.eq6 hd, hI.e0 rfl, hI.e2 rfl, hp, hq]
    exact fin _ _ p q w' (hI.e1 rfl) (hI.e3 rfl) (by simpa using hp2) (by simpa using hq2) (by rintro rfl; exact hne (hp.trans hq.symm)) hp1 hq1 hI.low
  case step =>
    rintro listed a w' ⟨b0, b1, b2, b3, b4, b5, b6, b7, X, rfl, hS, hI⟩ i o hi h0 ho
    have hi8 : i < 8 := (Array.getElem?_eq_some_iff.1 ho).1
    match i, hi8 with
    | 0, _ =>
      have he : o = o0 := (Option.some.inj ho).symm
      subst he
      have r := l3 w' hI.low
      rw [← hS.eval_out h3] at r
      refine wpOp_of (o := o) rfl k0.2.2.1 ?_
      have e : (execOp a.eval o).run P w' = .ok (.value vx) w' := by
        unfold execOp
        simp only [k0.1]
        simp [r]
      unfold Oper.wp
      rw [e, Oper.upon_value, k0.2.1]
      refine ⟨true, b1, b2, b3, b4, b5, b6, b7, _, rfl, hS.put (d := d17) (by simp) _, ?_⟩
      rw [upd_same, upd_ne X _ (show d18 ≠ d17 from (Ne.symm n1)), upd_ne X _ (show d19 ≠ d17 from (Ne.symm n2)), upd_ne X _ (show d20 ≠ d17 from (Ne.symm n3)), upd_ne X _ (show d7 ≠ d17 from (Ne.symm n4)), upd_ne X _ (show d8 ≠ d17 from (Ne.symm n5))]
      exact { hI with e0 := fun _ => rfl }
    | 1, _ =>
      have he : o = o1 := (Option.some.inj ho).symm
      subst he
      have hb : b1 = false := h0
      have hx := hI.e0 (needs_listed hi rfl k1.2.2.1 (i := 0) (by simp))
      have h6 : b6 = false := by
        cases h : b6 with
        | false => rfl
        | true => have := hI.o6 h; simp [hb] at this
      have h7 : b7 = false := by
        cases h : b7 with
        | false => rfl
        | true => have := hI.o7 h; simp [h6] at this
      subst h6 h7
      refine wpOp_of (o := o) rfl k1.2.1 ?_
      unfold Oper.wp
      rw [c1 a ((hS.eval (d := d17) (by simp)).trans hx), Oper.upon_enter]
      refine (own1 w' hI.low).mono ?_
      rintro en w'' ⟨v, rfl, hR, hB⟩
      show ∃ _, _
      rw [k1.1]
      refine ⟨b0, true, b2, b3, b4, b5, false, false, _, rfl, hS.put (d := d18) (by simp) _, ?_⟩
      rw [upd_ne X _ (show d17 ≠ d18 from n1), upd_same, upd_ne X _ (show d19 ≠ d18 from (Ne.symm n6)), upd_ne X _ (show d20 ≠ d18 from (Ne.symm n7)), upd_ne X _ (show d7 ≠ d18 from (Ne.symm n8)), upd_ne X _ (show d8 ≠ d18 from (Ne.symm n9))]
      exact ⟨hI.low.trans (hB.mono hI.low.size), hI.e0, fun _ => hR, hI.e2, fun h => r2 _ _ _ (hI.e3 h) hB, fun h => by obtain ⟨p, x1, x2, x3⟩ := hI.e4 h; exact ⟨p, x1, x2, x3.later hB⟩, fun h => by obtain ⟨p, x1, x2, x3⟩ := hI.e5 h; exact ⟨p, x1, x2, x3.later hB⟩, hI.ne, by simp, by simp⟩
    | 2, _ =>
      have he : o = o2 := (Option.some.inj ho).symm
      subst he
      have r := l4 w' hI.low
      rw [← hS.eval_out h4] at r
      refine wpOp_of (o := o) rfl k2.2.2.1 ?_
      have e : (execOp a.eval o).run P w' = .ok (.value vy) w' := by
        unfold execOp
        simp only [k2.1]
        simp [r]
      unfold Oper.wp
      rw [e, Oper.upon_value, k2.2.1]
      refine ⟨b0, b1, true, b3, b4, b5, b6, b7, _, rfl, hS.put (d := d19) (by simp) _, ?_⟩
      rw [upd_ne X _ (show d17 ≠ d19 from n2), upd_ne X _ (show d18 ≠ d19 from n6), upd_same, upd_ne X _ (show d20 ≠ d19 from (Ne.symm n10)), upd_ne X _ (show d7 ≠ d19 from (Ne.symm n11)), upd_ne X _ (show d8 ≠ d19 from (Ne.symm n12))]
      exact { hI with e2 := fun _ => rfl }
    | 3, _ =>
      have he : o = o3 := (Option.some.inj ho).symm
      subst he
      have hb : b3 = false := h0
      have hx := hI.e2 (needs_listed hi rfl k3.2.2.1 (i := 2) (by simp))
      have h6 : b6 = false := by
        cases h : b6 with
        | false => rfl
        | true => have := hI.o6 h; simp [hb] at this
      have h7 : b7 = false := by
        cases h : b7 with
        | false => rfl
        | true => have := hI.o7 h; simp [h6] at this
      subst h6 h7
      refine wpOp_of (o := o) rfl k3.2.1 ?_
      unfold Oper.wp
      rw [c3 a ((hS.eval (d := d19) (by simp)).trans hx), Oper.upon_enter]
      refine (own2 w' hI.low).mono ?_
      rintro en w'' ⟨v, rfl, hR, hB⟩
      show ∃ _, _
      rw [k3.1]
      refine ⟨b0, b1, b2, true, b4, b5, false, false, _, rfl, hS.put (d := d20) (by simp) _, ?_⟩
      rw [upd_ne X _ (show d17 ≠ d20 from n3), upd_ne X _ (show d18 ≠ d20 from n7), upd_ne X _ (show d19 ≠ d20 from n10), upd_same, upd_ne X _ (show d7 ≠ d20 from (Ne.symm n13)), upd_ne X _ (show d8 ≠ d20 from (Ne.symm n14))]
      exact ⟨hI.low.trans (hB.mono hI.low.size), hI.e0, fun h => r1 _ _ _ (hI.e1 h) hB, hI.e2, fun _ => hR, fun h => by obtain ⟨p, x1, x2, x3⟩ := hI.e4 h; exact ⟨p, x1, x2, x3.later hB⟩, fun h => by obtain ⟨p, x1, x2, x3⟩ := hI.e5 h; exact ⟨p, x1, x2, x3.later hB⟩, hI.ne, by simp, by simp⟩
    | 4, _ =>
      have he : o = o4 := (Option.some.inj ho).symm
      subst he
      have hb : b4 = false := h0
      have h6 : b6 = false := by
        cases h : b6 with
        | false => rfl
        | true => have := hI.o6 h; simp [hb] at this
      have h7 : b7 = false := by
        cases h : b7 with
        | false => rfl
        | true => have := hI.o7 h; simp [h6] at this
      subst h6 h7
      have hB : Below w'.heap.size w' (w'.alloc (.cells z ty)) := (Below.refl _ _).alloc (Nat.le_refl _) _
      refine wpOp_of (o := o) rfl k4.2.2.1 ?_
      have e : (execOp a.eval o).run P w' = .ok (.value (.pointer (some ⟨w'.heap.size, 0, none⟩))) (w'.alloc (.cells z ty)) := by
        unfold execOp
        simp only [k4.1]
        simp [al]
      unfold Oper.wp
      rw [e, Oper.upon_value, k4.2.1]
      refine ⟨b0, b1, b2, b3, true, b5, false, false, _, rfl, hS.put (d := d7) (by simp) _, ?_⟩
      rw [upd_ne X _ (show d17 ≠ d7 from n4), upd_ne X _ (show d18 ≠ d7 from n8), upd_ne X _ (show d19 ≠ d7 from n11), upd_ne X _ (show d20 ≠ d7 from n13), upd_same, upd_ne X _ (show d8 ≠ d7 from (Ne.symm n15))]
      exact ⟨hI.low.trans (hB.mono hI.low.size), hI.e0, fun h => r1 _ _ _ (hI.e1 h) hB, hI.e2, fun h => r2 _ _ _ (hI.e3 h) hB, fun _ => ⟨_, rfl, hI.low.size, Blk.new _ _ _⟩, fun h => by obtain ⟨p, x1, x2, x3⟩ := hI.e5 h; exact ⟨p, x1, x2, x3.later hB⟩, fun _ h => by
        obtain ⟨p, x1, _, x3⟩ := hI.e5 h
        rw [x1]
        intro hc
        have hp := x3.lt
        injection hc with hc
        injection hc with hc
        injection hc with hc
        omega, by simp, by simp⟩
    | 5, _ =>
      have he : o = o5 := (Option.some.inj ho).symm
      subst he
      have hb : b5 = false := h0
      have h6 : b6 = false := by
        cases h : b6 with
        | false => rfl
        | true => have := hI.o6 h; simp [hb] at this
      have h7 : b7 = false := by
        cases h : b7 with
        | false => rfl
        | true => have := hI.o7 h; simp [h6] at this
      subst h6 h7
      have hB : Below w'.heap.size w' (w'.alloc (.cells z ty)) := (Below.refl _ _).alloc (Nat.le_refl _) _
      refine wpOp_of (o := o) rfl k5.2.2.1 ?_
      have e : (execOp a.eval o).run P w' = .ok (.value (.pointer (some ⟨w'.heap.size, 0, none⟩))) (w'.alloc (.cells z ty)) := by
        unfold execOp
        simp only [k5.1]
        simp [al]
      unfold Oper.wp
      rw [e, Oper.upon_value, k5.2.1]
      refine ⟨b0, b1, b2, b3, b4, true, false, false, _, rfl, hS.put (d := d8) (by simp) _, ?_⟩
      rw [upd_ne X _ (show d17 ≠ d8 from n5), upd_ne X _ (show d18 ≠ d8 from n9), upd_ne X _ (show d19 ≠ d8 from n12), upd_ne X _ (show d20 ≠ d8 from n14), upd_ne X _ (show d7 ≠ d8 from n15), upd_same]
      exact ⟨hI.low.trans (hB.mono hI.low.size), hI.e0, fun h => r1 _ _ _ (hI.e1 h) hB, hI.e2, fun h => r2 _ _ _ (hI.e3 h) hB, fun h => by obtain ⟨p, x1, x2, x3⟩ := hI.e4 h; exact ⟨p, x1, x2, x3.later hB⟩, fun _ => ⟨_, rfl, hI.low.size, Blk.new _ _ _⟩, fun h _ => by
        obtain ⟨p, x1, _, x3⟩ := hI.e4 h
        rw [x1]
        intro hc
        have hp := x3.lt
        injection hc with hc
        injection hc with hc
        injection hc with hc
        omega, by simp, by simp⟩
    | 6, _ =>
      have he : o = o6 := (Option.some.inj ho).symm
      subst he
      have hb : b6 = false := h0
      have L : b1 = true ∧ b3 = true ∧ b4 = true ∧ b5 = true := ⟨needs_listed hi rfl k6.2.2.2.1 (i := 1) (by simp), needs_listed hi rfl k6.2.2.2.1 (i := 3) (by simp), needs_listed hi rfl k6.2.2.2.1 (i := 4) (by simp), needs_listed hi rfl k6.2.2.2.1 (i := 5) (by simp)⟩
      obtain ⟨rfl, rfl, rfl, rfl⟩ := L
      have h7 : b7 = false := by
        cases h : b7 with
        | false => rfl
        | true => have := hI.o7 h; simp [hb] at this
      subst hb h7
      obtain ⟨p, p1, p2, p3⟩ := hI.e4 rfl
      obtain ⟨q, q1, q2, q3⟩ := hI.e5 rfl
      have hpq : p ≠ q := by rintro rfl; exact hI.ne rfl rfl (p1.trans q1.symm)
      simp only [Bool.false_eq_true, if_false] at p3 q3
      obtain ⟨w'', r, hB, hR⟩ := st1 _ w' _ (hI.e1 rfl) p3
      have e : (execOp a.eval o).run P w' = .ok .skip w'' := by
        unfold execOp
        simp only [k6.1, hS.eval (d := d7) (by simp), hS.eval (d := d18) (by simp), p1]
        simp [r]
      refine wpOp_of (o := o) rfl k6.2.2.1 ?_
      unfold Oper.wp
      rw [e, Oper.upon_skip, k6.2.1]
      refine ⟨b0, true, b2, true, true, true, true, false, X, rfl, hS, ?_⟩
      exact ⟨hI.low.trans (hR.below (by rintro b rfl; exact p2) hI.low.size), hI.e0, fun h => s1 _ _ _ _ _ (hI.e1 h) p3 hR, hI.e2, fun h => s2 _ _ _ _ _ (hI.e3 h) p3 hR,
        fun _ => ⟨p, p1, p2, hB⟩, fun _ => ⟨q, q1, q2, hR.blk q3 (Ne.symm hpq)⟩, hI.ne, by simp, by simp⟩
    | 7, _ =>
      have he : o = o7 := (Option.some.inj ho).symm
      subst he
      have hb : b7 = false := h0
      have L : b1 = true ∧ b3 = true ∧ b4 = true ∧ b5 = true := hI.o6 (needs_listed hi rfl k7.2.2.2.1 (i := 6) (by simp))
      obtain ⟨rfl, rfl, rfl, rfl⟩ := L
      have h6 : b6 = true := needs_listed hi rfl k7.2.2.2.1 (i := 6) (by simp)
      subst hb h6
      obtain ⟨p, p1, p2, p3⟩ := hI.e4 rfl
      obtain ⟨q, q1, q2, q3⟩ := hI.e5 rfl
      have hpq : p ≠ q := by rintro rfl; exact hI.ne rfl rfl (p1.trans q1.symm)
      simp only [Bool.false_eq_true, if_false, if_true] at p3 q3
      obtain ⟨w'', r, hB, hR⟩ := st2 _ w' _ (hI.e3 rfl) q3
      have e : (execOp a.eval o).run P w' = .ok .skip w'' := by
        unfold execOp
        simp only [k7.1, hS.eval (d := d8) (by simp), hS.eval (d := d20) (by simp), q1]
        simp [r]
      refine wpOp_of (o := o) rfl k7.2.2.1 ?_
      unfold Oper.wp
      rw [e, Oper.upon_skip, k7.2.1]
      refine ⟨b0, true, b2, true, true, true, true, true, X, rfl, hS, ?_⟩
      exact ⟨hI.low.trans (hR.below (by rintro b rfl; exact q2) hI.low.size), hI.e0, fun h => s1 _ _ _ _ _ (hI.e1 h) q3 hR, hI.e2, fun h => s2 _ _ _ _ _ (hI.e3 h) q3 hR,
        fun _ => ⟨p, p1, p2, hR.blk p3 hpq⟩, fun _ => ⟨q, q1, q2, hB⟩, hI.ne, by simp, by simp⟩
    | j + 8, h => omega
end Go.Proofs.Kit


/- trie.Merge: the trie of both. -/
namespace Go.Proofs.Kit
open Go.RowKit
def mrgE (b1 : List Br) (l1 : List Int) (b2 : List Br) (l2 : List Int) : Int := if ok7 b1 l1 ∧ ok7 b2 l2 then 0 else 170
def mrgP (b1 : List Br) (l1 : List Int) (b2 : List Br) (l2 : List Int) : List Pr := if ok7 b1 l1 ∧ ok7 b2 l2 then comb true true true (prs b1 l1) (prs b2 l2) else []
structure M7 (tT : TypeId) (w : World) (va vla vb vlb : Value) (W : World) : Prop where
  k0 : Blk W w.heap.size #[va, vla] tT
  k1 : Blk W (w.heap.size + 1) #[vb, vlb] tT
  k2 : Blk W (w.heap.size + 1 + 1) #[.slice none 0 0, .slice none 0 0] tT
  low : Below w.heap.size w W
theorem M7.later {tT : TypeId} {w W W' : World} {va vla vb vlb : Value} (h : M7 tT w va vla vb vlb W) (hb : Below W.heap.size W W') : M7 tT w va vla vb vlb W' := ⟨h.k0.later hb, h.k1.later hb, h.k2.later hb, below_later h.low hb⟩
theorem M7.drew {tT : TypeId} {w W : World} {va vla vb vlb : Value} (h : M7 tT w va vla vb vlb W) : M7 tT w va vla vb vlb W.drew := h.later (Below.refl _ _).drew
theorem M7.all {tT : TypeId} {w W : World} {va vla vb vlb : Value} (h : M7 tT w va vla vb vlb W) : ((W.cell? ⟨w.heap.size, 0, none⟩ = some va ∧ W.cell? ⟨w.heap.size, 1, none⟩ = some vla) ∧ W.cell? ⟨w.heap.size + 1, 0, none⟩ = some vb ∧ W.cell? ⟨w.heap.size + 1, 1, none⟩ = some vlb) ∧ M7 tT w va vla vb vlb W := ⟨⟨⟨h.k0.cell 0, h.k0.cell 1⟩, h.k1.cell 0, h.k1.cell 1⟩, h⟩
theorem M7.new {tT : TypeId} (w : World) (va vla vb vlb : Value) : M7 tT w va vla vb vlb (((w.alloc (.cells #[va, vla] tT)).alloc (.cells #[vb, vlb] tT)).alloc (.cells #[.slice none 0 0, .slice none 0 0] tT)) :=
  ⟨((Blk.new w _ _).later (Gr.alloc _ _).below).later (Gr.alloc _ _).below, by simpa using (Blk.new (w.alloc (.cells #[va, vla] tT)) #[vb, vlb] tT).later (Gr.alloc _ _).below, by simpa using Blk.new ((w.alloc (.cells #[va, vla] tT)).alloc (.cells #[vb, vlb] tT)) #[.slice none 0 0, .slice none 0 0] tT, (((Gr.alloc _ _).trans (Gr.alloc _ _)).trans (Gr.alloc _ _)).below⟩
end Go.Proofs.Kit
namespace Go.Proofs.Ytjfnhjmdgfkgnaa
open Go.RowKit Go.Proofs.Kit
set_option maxRecDepth 100000 in
set_option maxHeartbeats 8000000 in
theorem ymerge_any (o1 : Option Addr) (m1 c1 : Nat) (o2 : Option Addr) (q1 d1 : Nat) (o3 : Option Addr) (m2 c2 : Nat) (o4 : Option Addr) (q2 d2 : Nat) (b1 b2 : List Br) (l1 l2 : List Int) (w : World)
    (h1 : SegR w (.slice o1 m1 c1) b1) (h2 : Seg .u64 w (.slice o2 q1 d1) l1) (h3 : SegR w (.slice o3 m2 c2) b2) (h4 : Seg .u64 w (.slice o4 q2 d2) l2) (k1 : b1.length ≤ 10000) (k2 : l1.length ≤ 10000) (k3 : b2.length ≤ 10000) (k4 : l2.length ≤ 10000) :
    Calls Try.prog 21 #[.agg #[.slice o1 m1 c1, .slice o2 q1 d1], .agg #[.slice o3 m2 c2, .slice o4 q2 d2]] w (TrieE w (mrgE b1 l1 b2 l2) (bof (mrgP b1 l1 b2 l2)) ((mrgP b1 l1 b2 l2).map (·.2))) := by
  have HMA := Lib.hid (fun W (g : Below w.heap.size w W) => mayBe_any (.slice o1 m1 c1) (.slice o2 q1 d1) b1 l1 W (h1.later g) (h2.later g) (by omega) (by omega))
  have HMB := Lib.hid (fun W (g : Below w.heap.size w W) => mayBe_any (.slice o3 m2 c2) (.slice o4 q2 d2) b2 l2 W (h3.later g) (h4.later g) (by omega) (by omega))
  have HPA := Lib.hid (fun W (g : Below w.heap.size w W) (hok : ok7 b1 l1) => pairs_any (.slice o1 m1 c1) (.slice o2 q1 d1) b1 l1 W (h1.later g) (h2.later g) k2 k1 hok.2.1)
  have HPB := Lib.hid (fun W (g : Below w.heap.size w W) (hok : ok7 b2 l2) => pairs_any (.slice o3 m2 c2) (.slice o4 q2 d2) b2 l2 W (h3.later g) (h4.later g) k4 k3 hok.2.1)
  have HNEW := Lib.hid (M7.new (tT := 25) w (.slice o1 m1 c1) (.slice o2 q1 d1) (.slice o3 m2 c2) (.slice o4 q2 d2))
  clear h1 h2 h3 h4
  unfold mrgE mrgP
  by_cases hp : ok7 b1 l1
  · rw [decide_eq_true hp] at HMA
    by_cases hq : ok7 b2 l2
    · rw [decide_eq_true hq] at HMB
      rw [if_pos ⟨hp, hq⟩, if_pos ⟨hp, hq⟩]
      have ta := tri hp
      have tb := tri hq
      have la : (prs b1 l1).length ≤ 10000 := by rw [ta.lenL]; exact k2
      have lb : (prs b2 l2).length ≤ 10000 := by rw [tb.lenL]; exact k4
      have HPA := Lib.hid (fun W (g : Below w.heap.size w W) => HPA.out W g hp)
      have HPB := Lib.hid (fun W (g : Below w.heap.size w W) => HPB.out W g hq)
      obtain ⟨A, hA⟩ : ∃ A, A = prs b1 l1 := ⟨_, rfl⟩
      obtain ⟨B, hB⟩ : ∃ B, B = prs b2 l2 := ⟨_, rfl⟩
      rw [← hA] at HPA la ta
      rw [← hB] at HPB lb tb
      rw [← hA, ← hB]
      have ck : ck2 A B = 0 := if_pos ⟨⟨ta.run, ta.len⟩, tb.run, tb.len⟩
      have cm : cmb true true true A B = comb true true true A B := if_pos ⟨⟨ta.run, ta.len⟩, tb.run, tb.len⟩
      have hrun := comb_run ta.run tb.run true true true
      have hlen : (comb true true true A B).length ≤ A.length + B.length := Nat.le_trans (keepP_len _ _ _ _) (tog_len _ _)
      have HUN := Lib.hid (fun va vb W (ha : SegP W va A) (hb : SegP W vb B) => union_any va vb A B W ha hb (by omega))
      rw [ck, cm] at HUN
      obtain ⟨C, hC⟩ : ∃ C, C = comb true true true A B := ⟨_, rfl⟩
      rw [← hC] at HUN hrun hlen
      rw [← hC]
      have HLA := Lib.hid (fun v W (hs : SegP W v C) => laid_any v C W hs hrun (by omega))
      clear hA hB hC ck cm ta tb la lb hlen hrun hp hq k1 k2 k3 k4
      have hmix := mixed
      go_enter Try.func21, Try.ntmps21
      go_wp2_with fail
      refine (HMA.out _ (((Gr.alloc _ _).trans (Gr.alloc _ _)).trans (Gr.alloc _ _)).below).mono ?_
      rintro e w1 ⟨rfl, l1⟩
      have m1 := HNEW.out.later l1
      obtain ⟨⟨c0, c1, lc⟩, ⟨e0, e1, le⟩⟩ := And.intro m1.k0.two m1.k1.two
      have M1 := Lib.hid m1
      clear l1 m1 HNEW HMA
      go_wp2_with fail
      refine (HMB.out _ M1.out.low).mono ?_
      rintro e w2 ⟨rfl, l2⟩
      have m2 := M1.out.later l2
      have M2 := Lib.hid m2
      clear c0 c1 lc e0 e1 le l2 M1 HMB m2
      go_upto_region 3 with fail
      go_cut [6, 7] (fun s6 s7 wx => s7 = .int .i64 0 ∧ Hid (SegP wx s6 C) ∧ Hid (M7 25 w (.slice o1 m1 c1) (.slice o2 q1 d1) (.slice o3 m2 c2) (.slice o4 q2 d2) wx))
      case first =>
        have hm := M2.out
        go_region_held3 (fun W' => ((W'.cell? ⟨w.heap.size, 0, none⟩ = some (.slice o1 m1 c1) ∧ W'.cell? ⟨w.heap.size, 1, none⟩ = some (.slice o2 q1 d1)) ∧ W'.cell? ⟨w.heap.size + 1, 0, none⟩ = some (.slice o3 m2 c2) ∧ W'.cell? ⟨w.heap.size + 1, 1, none⟩ = some (.slice o4 q2 d2)) ∧ M7 25 w (.slice o1 m1 c1) (.slice o2 q1 d1) (.slice o3 m2 c2) (.slice o4 q2 d2) W')
          (first | exact hm.all | exact hm.drew.all)
          (first
            | (go_at_call 57; (first | (with_reducible refine (HPA.out _ (by first | exact hm.low | exact hm.drew.low)).mono ?_; rintro e w3 ⟨vA, rfl, hFA, lF⟩) | (with_reducible refine (HPB.out _ (by first | exact hm.low | exact hm.drew.low)).mono ?_; rintro e w3 ⟨vB, rfl, hFB, lF⟩)); have hm := (by first | exact hm.later lF | exact hm.drew.later lF : M7 25 w (.slice o1 m1 c1) (.slice o2 q1 d1) (.slice o3 m2 c2) (.slice o4 q2 d2) w3); (first | (have hFA := hFA.later lF) | (have hFA := hFA.drew.later lF) | skip); (first | (have hFB := hFB.later lF) | (have hFB := hFB.drew.later lF) | skip))
            | (go_at_call 29; (with_reducible refine (HUN.out _ _ _ (by first | exact hFA.seg | exact hFA.seg.drew) (by first | exact hFB.seg | exact hFB.seg.drew)).mono ?_); rintro e w3 ⟨vC, rfl, hFC, lF⟩; have hm := (by first | exact hm.later lF | exact hm.drew.later lF : M7 25 w (.slice o1 m1 c1) (.slice o2 q1 d1) (.slice o3 m2 c2) (.slice o4 q2 d2) w3)))
        all_goals
          go_wp2_with fail
          go_meet
          exact ⟨rfl, Lib.hid (by first | exact hFC.seg | exact hFC.seg.drew), Lib.hid (by first | exact hm | exact hm.drew)⟩
      case rest =>
        obtain ⟨rfl, HC, HM⟩ := hcut
        have LO := Lib.hid HM.out.low
        have K2 := Lib.hid HM.out.k2
        clear HM M2 HUN HPA HPB
        go_wp2_with fail
        refine (HLA.out _ _ HC.out).mono ?_
        rintro e w5 ⟨vb, vl, rfl, hB, hL, l5⟩
        obtain ⟨o5, c5, rfl, -, -, -⟩ := hB.seg.shape
        obtain ⟨o6, c6, rfl, -, -, -⟩ := hL.seg.shape
        have k1 := K2.out.later l5
        obtain ⟨y0, y1, yl⟩ := k1.two
        obtain ⟨z0, z1⟩ := k1.z2
        obtain ⟨m5, hm5⟩ : ∃ m5, m5 = (bof C).length := ⟨_, rfl⟩
        obtain ⟨q6, hq6⟩ : ∃ q6, q6 = (C.map (·.2)).length := ⟨_, rfl⟩
        rw [← hm5] at hB ⊢
        rw [← hq6] at hL ⊢
        obtain ⟨r0, r1, _⟩ := (k1.set2 (.slice o5 m5 c5) (.slice o6 q6 c6)).two
        have HR := Lib.hid (And.intro r0 r1)
        have HB := Lib.hid (((hB.mono LO.out.size).oth (hB.ne_blk k1 (by decide)) 0 (.slice o5 m5 c5)).oth (hB.ne_blk k1 (by decide)) 1 (.slice o6 q6 c6))
        have HL := Lib.hid (((hL.mono LO.out.size).oth (hL.ne_blk k1 (by decide)) 0 (.slice o5 m5 c5)).oth (hL.ne_blk k1 (by decide)) 1 (.slice o6 q6 c6))
        have HLO := Lib.hid (((below_later LO.out l5).setCell (p := ⟨w.heap.size + 1 + 1, 0, none⟩) (by simp; omega) (.slice o5 m5 c5)).setCell (p := ⟨w.heap.size + 1 + 1, 1, none⟩) (by simp; omega) (.slice o6 q6 c6))
        clear hB hL k1 r0 r1 l5 K2 LO HLA hm5 hq6
        go_wp2
        obtain ⟨r0, r1⟩ := HR.out
        exact bodyPost_ret (v := .tuple #[.agg #[.slice o5 m5 c5, .slice o6 q6 c6], .int .i64 0]) (by simp [results, Try.results21, go_sem, r0, r1]) rfl ⟨o5, m5, c5, o6, q6, c6, rfl, HB.out, HL.out, HLO.out⟩
    · rw [decide_eq_false hq] at HMB
      rw [if_neg (fun h => hq h.2), if_neg (fun h => hq h.2)]
      clear hp hq HPA HPB k1 k2 k3 k4
      go_enter Try.func21, Try.ntmps21
      go_wp2_with fail
      refine (HMA.out _ (((Gr.alloc _ _).trans (Gr.alloc _ _)).trans (Gr.alloc _ _)).below).mono ?_
      rintro e w1 ⟨rfl, l1⟩
      have m1 := HNEW.out.later l1
      obtain ⟨⟨c0, c1, lc⟩, ⟨e0, e1, le⟩⟩ := And.intro m1.k0.two m1.k1.two
      have M1 := Lib.hid m1
      clear l1 m1 HNEW HMA
      go_wp2_with fail
      refine (HMB.out _ M1.out.low).mono ?_
      rintro e w2 ⟨rfl, l2⟩
      have m2 := M1.out.later l2
      have lo1 := Lib.hid m2.low
      have k1 := m2.k2
      obtain ⟨y0, y1, yl⟩ := k1.two
      obtain ⟨z0, z1⟩ := k1.z2
      obtain ⟨r0, r1, _⟩ := (k1.set2 (.slice none 0 0) (.slice none 0 0)).two
      have HR := Lib.hid (And.intro r0 r1)
      clear c0 c1 lc e0 e1 le l2 M1 HMB m2 k1 r0 r1
      go_wp2
      obtain ⟨r0, r1⟩ := HR.out
      exact bodyPost_ret (v := .tuple #[.agg #[.slice none 0 0, .slice none 0 0], .int .i64 170]) (by simp [results, Try.results21, go_sem, r0, r1]) rfl ⟨none, 0, 0, none, 0, 0, rfl, OwnR.nil _ _ _, Owns.nil _ _ _ _, (lo1.out.setCell (by simp; omega) _).setCell (by simp; omega) _⟩
  · rw [decide_eq_false hp] at HMA
    rw [if_neg (fun h => hp h.1), if_neg (fun h => hp h.1)]
    clear hp HPA HPB HMB k1 k2 k3 k4
    go_enter Try.func21, Try.ntmps21
    go_wp2_with fail
    refine (HMA.out _ (((Gr.alloc _ _).trans (Gr.alloc _ _)).trans (Gr.alloc _ _)).below).mono ?_
    rintro e w1 ⟨rfl, l1⟩
    have m1 := HNEW.out.later l1
    have lo1 := Lib.hid m1.low
    have k1 := m1.k2
    obtain ⟨y0, y1, yl⟩ := k1.two
    obtain ⟨z0, z1⟩ := k1.z2
    obtain ⟨r0, r1, _⟩ := (k1.set2 (.slice none 0 0) (.slice none 0 0)).two
    have HR := Lib.hid (And.intro r0 r1)
    clear l1 m1 HNEW HMA k1 r0 r1
    go_wp2
    obtain ⟨r0, r1⟩ := HR.out
    exact bodyPost_ret (v := .tuple #[.agg #[.slice none 0 0, .slice none 0 0], .int .i64 170]) (by simp [results, Try.results21, go_sem, r0, r1]) rfl ⟨none, 0, 0, none, 0, 0, rfl, OwnR.nil _ _ _, Owns.nil _ _ _ _, (lo1.out.setCell (by simp; omega) _).setCell (by simp; omega) _⟩
end Go.Proofs.Ytjfnhjmdgfkgnaa


/- Two tries of one's own, laid into two boxes by a region that draws its order. -/
namespace Go.Proofs.Kit
open Go.RowKit
/-- A trie of the call's own, as a value. -/
def OT (tB tu : TypeId) (B : Nat) (bs : List Br) (lv : List Int) (v : Value) (W : World) : Prop :=
  ∃ ob m cb ol q cl, v = .agg #[.slice ob m cb, .slice ol q cl] ∧ OwnR tB B W (.slice ob m cb) bs ∧ Owns .u64 tu B W (.slice ol q cl) lv
theorem OT.later {tB tu : TypeId} {B : Nat} {bs : List Br} {lv : List Int} {v : Value} {W W' : World} (h : OT tB tu B bs lv v W) (hb : Below W.heap.size W W') : OT tB tu B bs lv v W' := by
  obtain ⟨ob, m, cb, ol, q, cl, e, h1, h2⟩ := h
  exact ⟨ob, m, cb, ol, q, cl, e, h1.later hb, h2.later hb⟩
theorem OT.butR {tB tu : TypeId} {B : Nat} {bs : List Br} {lv : List Int} {v : Value} {W W' : World} (h : OT tB tu B bs lv v W) {g : Nat} {vs : Array Value} {t : TypeId} (hk : Blk W g vs t) (h1 : tB ≠ t) (h2 : tu ≠ t) (hr : ButR (fun b => b = g) W W') : OT tB tu B bs lv v W' := by
  obtain ⟨ob, m, cb, ol, q, cl, e, k1, k2⟩ := h
  refine ⟨ob, m, cb, ol, q, cl, e, k1.same fun x hx => ?_, k2.same fun x hx => ?_⟩
  · exact hr.same x (fun e => k1.ne_blk hk h1 (e ▸ hx)) (k1.lt x hx).2
  · exact hr.same x (fun e => k2.ne_blk hk h2 (e ▸ hx)) (k2.lt x hx).2
def aggT : Value → Array Value
  | .agg cs => cs
  | _ => #[]
end Go.Proofs.Kit
namespace Go.Proofs.Ytjfnhjmdgfkgnaa
open Go.RowKit Go.Proofs.Kit
theorem infoTrie : (Try.prog.info? 25).map (·.size) = some 2 := by kernel_rfl
theorem load_trie {w : World} {g : Nat} {x y : Value} (h : Blk w g #[x, y] 25) : (Instr.loadAt 25 (.pointer (some ⟨g, 0, none⟩))).run Try.prog w = .ok (.agg #[x, y]) w := by
  refine run_loadAt_mid w g 0 25 [x, y] _ (fun j v hv => ?_) Try.underlying25 rfl infoTrie
  rw [h.cell]
  simpa using hv
theorem store_trie {w : World} {g : Nat} {x y : Value} (h : Blk w g #[x, y] 25) {o1 : Option Addr} {m1 c1 : Nat} {o2 : Option Addr} {m2 c2 : Nat} :
    (Instr.storeAt 25 (.pointer (some ⟨g, 0, none⟩)) (.agg #[.slice o1 m1 c1, .slice o2 m2 c2])).run Try.prog w = .ok () ((w.setCell ⟨g, 0, none⟩ (.slice o1 m1 c1)).setCell ⟨g, 1, none⟩ (.slice o2 m2 c2)) := by
  rw [run_storeAt_mid w g 0 25 #[.slice o1 m1 c1, .slice o2 m2 c2] ?_ infoTrie ?_]
  · rfl
  · intro j hj
    have hj' : j < 2 := hj
    refine ⟨?_, by rw [h.frozen]⟩
    rw [h.cell]
    simp only [Nat.zero_add]
    simp [hj']
  · simp [Value.oneCell']
theorem alloc_trie (w : World) : (Instr.alloc 25 true (.tuple #[])).run Try.prog w = .ok (.pointer (some ⟨w.heap.size, 0, none⟩)) (w.alloc (.cells #[.slice none 0 0, .slice none 0 0] 25)) := by
  go_simp
  try rfl
theorem call_own7 (x : Act) (t : Tmp) (s : String) (af : Array Edge) (v : Value) (d : Option Tmp) (h : x.eval (.tmp t) = v) (w : World) :
    (execOp x.eval { dst := d, op := .call { callee := .value (.func 12), args := #[.tmp t], argTypes := #[25] }, type := 25, pos := s, after := af, guard := none }).run Try.prog w = .ok (.enter 12 #[v]) w := by
  subst h
  have e : x.eval (.func 12) = .func (.func 12) #[] #[] := rfl
  unfold execOp
  go_simp
theorem butR_two (w : World) (g : Nat) (x y : Value) : ButR (fun b => b = g) w ((w.setCell ⟨g, 0, none⟩ x).setCell ⟨g, 1, none⟩ y) := by
  have h := ButR.refl (fun b => b = g) w
  iterate 2 (refine ButR.set ?_ _ _ (fun _ => rfl))
  exact h
end Go.Proofs.Ytjfnhjmdgfkgnaa


/- TrieJoins: its walk. -/
namespace Go.Proofs.Ytjfnhjmdgfkgnaa
open Go.RowKit Go.Proofs.Kit
theorem zcut_is {l : List Pr} {f t : Int} : zcutP l f t = l.filter (fun x => decide (f ≤ x.1) && decide (x.1 < t)) := by
  unfold zcutP
  exact List.filter_congr fun x _ => by simp
theorem mrg_run (b1 : List Br) (l1 : List Int) (b2 : List Br) (l2 : List Int) : Run (mrgP b1 l1 b2 l2) := by
  unfold mrgP
  split
  · rename_i h; exact comb_run (tri h.1).run (tri h.2).run true true true
  · exact Run.nil
theorem union_is {a b : List Pr} (ha : Run a) (hb : Run b) : ofP (a ++ b) = comb true true true a b := by
  refine run_ext (ofP_run _) (comb_run ha hb true true true) fun p => ?_
  rw [ofP_mem, comb_mem ha hb, List.mem_append]
  by_cases h1 : p ∈ a <;> by_cases h2 : p ∈ b <;> simp [h1, h2]
theorem Blk.z2b {w : World} {b : Nat} {x y : Value} {t : TypeId} (h : Blk w b #[x, y] t) : w.frozen? ⟨b, 0, none⟩ = false ∧ w.frozen? ⟨b, 1, none⟩ = false := ⟨h.frozen 0, h.frozen 1⟩
/-- A trie of one's own in a box of one's own. -/
structure MO (base T : Nat) (ob : Option Addr) (m cb : Nat) (ol : Option Addr) (q cl : Nat) (bs : List Br) (lv : List Int) (W : World) : Prop where
  k : Blk W T #[.slice ob m cb, .slice ol q cl] 25
  b : OwnR 68 base W (.slice ob m cb) bs
  l : Owns .u64 32 base W (.slice ol q cl) lv
theorem MO.later {base T : Nat} {ob : Option Addr} {m cb : Nat} {ol : Option Addr} {q cl : Nat} {bs : List Br} {lv : List Int} {W W' : World} (h : MO base T ob m cb ol q cl bs lv W) (g : Below W.heap.size W W') : MO base T ob m cb ol q cl bs lv W' := ⟨h.k.later g, h.b.later g, h.l.later g⟩
theorem zsame_yes (v1 v2 v3 v4 : Value) (b : List Br) (l : List Int) (w : World) (h1 : SegR w v1 b) (h2 : Seg .u64 w v2 l) (h3 : SegR w v3 b) (h4 : Seg .u64 w v4 l) :
    Calls Try.prog 20 #[.agg #[v1, v2], .agg #[v3, v4]] w fun e w' => e = .returned (.bool true) ∧ Below w.heap.size w w' :=
  (zsame_any v1 v2 v3 v4 b b l l w h1 h2 h3 h4).mono fun _ _ ⟨h, g⟩ => ⟨by rw [h]; simp, g.below⟩
theorem zof_sh (v : Value) (M : List Pr) (mM qM : Nat) (W : World) (hs : SegP W v M) (hl : M.length ≤ 1000000) (hr : Run M) (hm : mM = (bof M).length) (hq : qM = (M.map (·.2)).length) :
    Calls Try.prog 23 #[v] W fun e w' => ∃ o9 c9 oX cX, e = .returned (.agg #[.slice o9 mM c9, .slice oX qM cX]) ∧ OwnR 68 W.heap.size w' (.slice o9 mM c9) (bof M) ∧ Owns .u64 32 W.heap.size w' (.slice oX qM cX) (M.map (·.2)) ∧ Below W.heap.size W w' := by
  refine (zof_any v M W hs hl hr).mono ?_
  rintro e w' ⟨vb, vl, rfl, hB, hL, l⟩
  obtain ⟨o9, c9, rfl, -, -, -⟩ := hB.seg.shape
  obtain ⟨oX, cX, rfl, -, -, -⟩ := hL.seg.shape
  rw [← hm] at hB ⊢
  rw [← hq] at hL ⊢
  exact ⟨o9, c9, oX, cX, rfl, hB, hL, l⟩
/-- A box of one's own that is written over, and what else lies there. -/
theorem mo_set {B T : Nat} {o9 : Option Addr} {m9 c9 : Nat} {oX : Option Addr} {qX cX : Nat} {bs : List Br} {lv : List Int} {W : World} (hB : OwnR 68 B W (.slice o9 m9 c9) bs) (hL : Owns .u64 32 B W (.slice oX qX cX) lv) {x y : Value} (kz : Blk W T #[x, y] 25) :
    MO 0 T o9 m9 c9 oX qX cX bs lv ((W.setCell ⟨T, 0, none⟩ (.slice o9 m9 c9)).setCell ⟨T, 1, none⟩ (.slice oX qX cX)) :=
  ⟨kz.set2 _ _, ((hB.mono (Nat.zero_le _)).oth (hB.ne_blk kz (by decide)) 0 _).oth (hB.ne_blk kz (by decide)) 1 _, ((hL.mono (Nat.zero_le _)).oth (hL.ne_blk kz (by decide)) 0 _).oth (hL.ne_blk kz (by decide)) 1 _⟩
theorem blk_set {T T' : Nat} {W : World} {vs : Array Value} {t : TypeId} (h : Blk W T' vs t) (hne : T' ≠ T) (x y : Value) : Blk ((W.setCell ⟨T, 0, none⟩ x).setCell ⟨T, 1, none⟩ y) T' vs t := (h.other (p := ⟨T, 0, none⟩) hne x).other (p := ⟨T, 1, none⟩) hne y
theorem mo_keep {T T' : Nat} {o9 : Option Addr} {m9 c9 : Nat} {oX : Option Addr} {qX cX : Nat} {bs : List Br} {lv : List Int} {W : World} (h : MO 0 T o9 m9 c9 oX qX cX bs lv W) {x y : Value} (kz : Blk W T' #[x, y] 25) (hne : T ≠ T') (x' y' : Value) :
    MO 0 T o9 m9 c9 oX qX cX bs lv ((W.setCell ⟨T', 0, none⟩ x').setCell ⟨T', 1, none⟩ y') :=
  ⟨blk_set h.k hne _ _, (h.b.oth (h.b.ne_blk kz (by decide)) 0 _).oth (h.b.ne_blk kz (by decide)) 1 _, (h.l.oth (h.l.ne_blk kz (by decide)) 0 _).oth (h.l.ne_blk kz (by decide)) 1 _⟩
theorem low_set {B T : Nat} {W0 W : World} (h : Below B W0 W) (hB : B ≤ T) (x y : Value) : Below B W0 ((W.setCell ⟨T, 0, none⟩ x).setCell ⟨T, 1, none⟩ y) := (h.setCell hB _).setCell hB _
/-- The two tries that are asked, in their boxes. -/
structure J7 (p q : Nat) (oa : Option Addr) (ma ca : Nat) (oc : Option Addr) (qa cc : Nat) (ob : Option Addr) (mb cb : Nat) (od : Option Addr) (qb cd : Nat) (A B : List Br) (LA LB : List Int) (W : World) : Prop where
  k1 : Blk W p #[.slice oa ma ca, .slice oc qa cc] 25
  k2 : Blk W q #[.slice ob mb cb, .slice od qb cd] 25
  a : SegR W (.slice oa ma ca) A
  la : Seg .u64 W (.slice oc qa cc) LA
  b : SegR W (.slice ob mb cb) B
  lb : Seg .u64 W (.slice od qb cd) LB
section
variable {p q : Nat} {oa : Option Addr} {ma ca : Nat} {oc : Option Addr} {qa cc : Nat} {ob : Option Addr} {mb cb : Nat} {od : Option Addr} {qb cd : Nat} {A B : List Br} {LA LB : List Int} {W W' : World}
theorem J7.later (h : J7 p q oa ma ca oc qa cc ob mb cb od qb cd A B LA LB W) (g : Below W.heap.size W W') : J7 p q oa ma ca oc qa cc ob mb cb od qb cd A B LA LB W' := ⟨h.k1.later g, h.k2.later g, h.a.later g, h.la.later g, h.b.later g, h.lb.later g⟩
theorem J7.cells (h : J7 p q oa ma ca oc qa cc ob mb cb od qb cd A B LA LB W) : W.cell? ⟨p, 0, none⟩ = some (.slice oa ma ca) ∧ W.cell? ⟨p, 1, none⟩ = some (.slice oc qa cc) ∧ W.cell? ⟨q, 0, none⟩ = some (.slice ob mb cb) ∧ W.cell? ⟨q, 1, none⟩ = some (.slice od qb cd) := ⟨h.k1.cell 0, h.k1.cell 1, h.k2.cell 0, h.k2.cell 1⟩
end
/-- What came in: two tries and two numbers, in their boxes. -/
structure I7 (w : World) (vx vlx vy vly : Value) (f t : Int) (W : World) : Prop where
  x : Blk W w.heap.size #[vx, vlx] 25
  y : Blk W (w.heap.size + 1) #[vy, vly] 25
  c : Blk W (w.heap.size + 1 + 1) #[.int .u64 f, .int .u64 t] 40
  low : Below w.heap.size w W
theorem I7.later {w W W' : World} {vx vlx vy vly : Value} {f t : Int} (h : I7 w vx vlx vy vly f t W) (g : Below W.heap.size W W') : I7 w vx vlx vy vly f t W' := ⟨h.x.later g, h.y.later g, h.c.later g, below_later h.low g⟩
theorem I7.new (w : World) (vx vlx vy vly : Value) (f t : Int) : I7 w vx vlx vy vly f t (((w.alloc (.cells #[vx, vlx] 25)).alloc (.cells #[vy, vly] 25)).alloc (.cells #[.int .u64 f, .int .u64 t] 40)) :=
  ⟨((Blk.new w _ _).later (Gr.alloc _ _).below).later (Gr.alloc _ _).below, by simpa using (Blk.new (w.alloc (.cells #[vx, vlx] 25)) #[vy, vly] 25).later (Gr.alloc _ _).below, by simpa using Blk.new ((w.alloc (.cells #[vx, vlx] 25)).alloc (.cells #[vy, vly] 25)) #[.int .u64 f, .int .u64 t] 40, (((Gr.alloc _ _).trans (Gr.alloc _ _)).trans (Gr.alloc _ _)).below⟩
set_option maxRecDepth 100000 in
set_option maxHeartbeats 8000000 in
theorem trieJoins_true (ob : Option Addr) (m cb : Nat) (bs : List Br) (ol : Option Addr) (q cl : Nat) (lv : List Int) (ob' : Option Addr) (m' cb' : Nat) (bs' : List Br) (ol' : Option Addr) (q' cl' : Nat) (lv' : List Int) (f t : Int) (w : World)
    (hm : bs.length = m) (hmc : m ≤ cb) (hcb : cb ≤ 9223372036854775807) (ab : ArgR w ob cb bs) (hq : lv.length = q) (hqc : q ≤ cl) (hcl : cl ≤ 9223372036854775807) (al : ArgI .u64 w ol cl lv)
    (hm' : bs'.length = m') (hmc' : m' ≤ cb') (hcb' : cb' ≤ 9223372036854775807) (ab' : ArgR w ob' cb' bs') (hq' : lv'.length = q') (hqc' : q' ≤ cl') (hcl' : cl' ≤ 9223372036854775807) (al' : ArgI .u64 w ol' cl' lv') :
    Calls Try.prog 4 #[.agg #[.slice ob m cb, .slice ol q cl], .agg #[.slice ob' m' cb', .slice ol' q' cl'], .agg #[.int .u64 f, .int .u64 t]] w fun e w' => e = .returned (.bool true) ∧ Below w.heap.size w w' := by
  have HOX := Lib.hid (fun W (g : Below w.heap.size w W) => own7_any ob m cb ol q cl bs lv W hm hmc hcb (ab.later g) hq hqc hcl (al.later g))
  have HOY := Lib.hid (fun W (g : Below w.heap.size w W) => own7_any ob' m' cb' ol' q' cl' bs' lv' W hm' hmc' hcb' (ab'.later g) hq' hqc' hcl' (al'.later g))
  have HNEW := Lib.hid (I7.new w (.slice ob m cb) (.slice ol q cl) (.slice ob' m' cb') (.slice ol' q' cl') f t)
  have hmix := mixed
  clear hm hmc hcb ab hq hqc hcl al hm' hmc' hcb' ab' hq' hqc' hcl' al'
  go_enter Try.func4, Try.ntmps4
  go_wp2_with fail
  refine (wakes7_true _).mono ?_
  rintro e w1 ⟨rfl, l1⟩
  have II := Lib.hid (HNEW.out.later l1)
  clear HNEW l1
  go_upto_region 3 with fail
  go_cut [7, 8] from 24 to 27 (fun s7 s8 wd => ∃ (p q1 : Nat) (oa : Option Addr) (ma ca : Nat) (oc : Option Addr) (qa cc : Nat) (oe : Option Addr) (mb ce : Nat) (od : Option Addr) (qb cd : Nat), s7 = .pointer (some ⟨p, 0, none⟩) ∧ s8 = .pointer (some ⟨q1, 0, none⟩) ∧
    Hid (J7 p q1 oa ma ca oc qa cc oe mb ce od qb cd (bs.take 40) (bs'.take 40) (lv.take 60) (lv'.take 60) wd) ∧ Hid (I7 w (.slice ob m cb) (.slice ol q cl) (.slice ob' m' cb') (.slice ol' q' cl') f t wd))
  case first =>
    have cc := call_own7
    have aa := alloc_trie
    refine two_boxes hmix aggT (OT 68 32 w1.heap.size (bs.take 40) (lv.take 60)) (OT 68 32 w1.heap.size (bs'.take 40) (lv'.take 60))
      (d17 := 24) (d18 := 25) (d19 := 26) (d20 := 27) (d7 := 7) (d8 := 8) (t3 := 3) (t4 := 4) (ty := 25) (f := 12) (vx := .agg #[.slice ob m cb, .slice ol q cl]) (vy := .agg #[.slice ob' m' cb', .slice ol' q' cl']) (z := #[.slice none 0 0, .slice none 0 0])
      (by decide) (fun t ht => by have : t ≤ 27 := by simp at ht; omega
                                  exact Nat.lt_of_le_of_lt this (by simp)) (by decide) (by decide) ⟨rfl, rfl, rfl, by kernel_rfl⟩ ⟨rfl, rfl, by kernel_rfl, by kernel_rfl⟩ ⟨rfl, rfl, rfl, by kernel_rfl⟩ ⟨rfl, rfl, by kernel_rfl, by kernel_rfl⟩
      ⟨rfl, rfl, rfl, by kernel_rfl⟩ ⟨rfl, rfl, rfl, by kernel_rfl⟩ ⟨rfl, rfl, rfl, by kernel_rfl, by kernel_rfl⟩ ⟨rfl, rfl, rfl, by kernel_rfl, by kernel_rfl⟩
      (fun w' hb => load_trie (II.out.x.later hb)) (fun w' hb => load_trie (II.out.y.later hb)) (fun ρ h w' => cc ρ _ _ _ _ _ h w') (fun ρ h w' => cc ρ _ _ _ _ _ h w') ?_ ?_ aa ?_ ?_ ?_ ?_ ?_ ?_ ?_
    · exact fun w' hb => (HOX.out w' (below_later II.out.low hb)).mono fun e wb ⟨o1, m1, c1, o2, q2, c2, h1, h2, h3, h4⟩ => ⟨_, h1, ⟨o1, m1, c1, o2, q2, c2, rfl, h2.mono hb.size, h3.mono hb.size⟩, h4⟩
    · exact fun w' hb => (HOY.out w' (below_later II.out.low hb)).mono fun e wb ⟨o1, m1, c1, o2, q2, c2, h1, h2, h3, h4⟩ => ⟨_, h1, ⟨o1, m1, c1, o2, q2, c2, rfl, h2.mono hb.size, h3.mono hb.size⟩, h4⟩
    · exact fun v w' w'' h hb => h.later hb
    · exact fun v w' w'' h hb => h.later hb
    · exact fun v w' w'' p c h hk hb => h.butR hk (by decide) (by decide) hb
    · exact fun v w' w'' p c h hk hb => h.butR hk (by decide) (by decide) hb
    · rintro v w' p ⟨o1, m1, c1, o2, q2, c2, rfl, h2, h3⟩ hk; exact ⟨_, store_trie hk, hk.set2 _ _, butR_two _ _ _ _⟩
    · rintro v w' p ⟨o1, m1, c1, o2, q2, c2, rfl, h2, h3⟩ hk; exact ⟨_, store_trie hk, hk.set2 _ _, butR_two _ _ _ _⟩
    · rintro v1 v2 p q w' ⟨o1, m1, c1, o2, q2, c2, rfl, h1, h1'⟩ ⟨o3, m3, c3, o4, q4, c4, rfl, h2, h2'⟩ hp hq hpq hp1 hq1 hb
      go_wp2
      go_meet
      exact ⟨p, q, o1, m1, c1, o2, q2, c2, o3, m3, c3, o4, q4, c4, rfl, rfl, Lib.hid ⟨hp, hq, h1.seg, h1'.seg, h2.seg, h2'.seg⟩, Lib.hid (II.out.later hb)⟩
  case rest =>
    obtain ⟨p, q1, oa, ma, ca, oc, qa, cc, oe, mb, ce, od, qb, cd, rfl, rfl, HJ, HI⟩ := hcut
    obtain ⟨A, hA⟩ : ∃ A, A = bs.take 40 := ⟨_, rfl⟩
    obtain ⟨B, hB⟩ : ∃ B, B = bs'.take 40 := ⟨_, rfl⟩
    obtain ⟨LA, hLA⟩ : ∃ LA, LA = lv.take 60 := ⟨_, rfl⟩
    obtain ⟨LB, hLB⟩ : ∃ LB, LB = lv'.take 60 := ⟨_, rfl⟩
    rw [← hA, ← hLA] at HOX
    rw [← hB, ← hLB] at HOY
    rw [← hA, ← hB, ← hLA, ← hLB] at HJ
    have HSZ := Lib.hid (show A.length ≤ 40 ∧ LA.length ≤ 60 ∧ B.length ≤ 40 ∧ LB.length ≤ 60 from by rw [hA, hB, hLA, hLB]; simp only [List.length_take]; omega)
    have HLN := Lib.hid (show A.length = ma ∧ LA.length = qa ∧ B.length = mb ∧ LB.length = qb from ⟨segR_len HJ.out.a, seg_len HJ.out.la, segR_len HJ.out.b, seg_len HJ.out.lb⟩)
    clear hA hB hLA hLB II
    obtain ⟨w3, hw3⟩ : ∃ w3, w3 = wc := ⟨_, rfl⟩
    rw [← hw3] at HJ HI ⊢
    clear hw3
    have HJ0 := HJ
    have HI0 := HI
    obtain ⟨c1, c2, c3, c4⟩ := HJ.out.cells
    have lp := HJ.out.k1.lt
    have lq := HJ.out.k2.lt
    go_wp2_with fail
    refine (ymerge_any oa ma ca oc qa cc oe mb ce od qb cd A B LA LB w3 HJ.out.a HJ.out.la HJ.out.b HJ.out.lb (by have := HSZ.out; omega) (by have := HSZ.out; omega) (by have := HSZ.out; omega) (by have := HSZ.out; omega)).mono ?_
    rintro e w4 ⟨o5, m5, c5, o6, q6, c6, rfl, hMB, hML, l4⟩
    obtain ⟨E, hE⟩ : ∃ E, E = mrgE A LA B LB := ⟨_, rfl⟩
    obtain ⟨M, hM⟩ : ∃ M, M = mrgP A LA B LB := ⟨_, rfl⟩
    rw [← hM] at hMB hML
    rw [← hE]
    have HE := Lib.hid hE
    have HM := Lib.hid hM
    have HMO := Lib.hid (And.intro hMB hML)
    have HJ4 := Lib.hid (HJ.out.later l4)
    have HI4 := Lib.hid (HI.out.later l4)
    have L4 := Lib.hid l4
    clear hE hM hMB hML l4 c1 c2 c3 c4 lp lq HJ HI
    go_upto_region 5 with fail
    obtain ⟨T9, hT9⟩ : ∃ T9, T9 = w4.heap.size := ⟨_, rfl⟩
    obtain ⟨W5, hW5⟩ : ∃ W5, W5 = w4.alloc (.cells #[.slice o5 m5 c5, .slice o6 q6 c6] 25) := ⟨_, rfl⟩
    have st : Below w4.heap.size w4 W5 := by rw [hW5]; exact (Gr.alloc _ _).below
    have HM9 := Lib.hid (show MO w3.heap.size T9 o5 m5 c5 o6 q6 c6 (bof M) (M.map (·.2)) W5 from ⟨by rw [hW5, hT9]; exact Blk.new _ _ _, HMO.out.1.later st, HMO.out.2.later st⟩)
    rw [← hW5, ← hT9]
    have HJ := Lib.hid (HJ4.out.later st)
    have HI := Lib.hid (HI4.out.later st)
    have L5 := Lib.hid (below_later L4.out st)
    clear hT9 hW5 st HMO HJ4 HI4 L4
    obtain ⟨c1, c2, c3, c4⟩ := HJ.out.cells
    obtain ⟨i1, i2, li⟩ := HI.out.c.two
    have lp := HJ.out.k1.lt
    go_wp2_with fail
    refine (ycut_any oa ma ca oc qa cc A LA f t W5 HJ.out.a HJ.out.la HLN.out.1 HLN.out.2.1 (by have := HSZ.out; have := HLN.out; omega) (by have := HSZ.out; have := HLN.out; omega)).mono ?_
    rintro e w6 ⟨o7, m7, c7, o8, q8, c8, rfl, hMB, hML, l6⟩
    obtain ⟨F, hF⟩ : ∃ F, F = cutE A LA f t := ⟨_, rfl⟩
    obtain ⟨C, hC⟩ : ∃ C, C = cutQ A LA f t := ⟨_, rfl⟩
    rw [← hC] at hMB hML
    rw [← hF]
    obtain ⟨bC, hbC⟩ : ∃ bC, bC = W5.heap.size := ⟨_, rfl⟩
    rw [← hbC] at hMB hML
    have HBC := Lib.hid (show w3.heap.size ≤ bC ∧ ∀ g, (Value.slice o6 q6 c6).ownBlock = some g → g < bC from ⟨by rw [hbC]; exact L5.out.size, fun g hg => by rw [hbC]; exact (HM9.out.l.lt g hg).2⟩)
    have HF := Lib.hid hF
    have HC := Lib.hid hC
    have HMO := Lib.hid (And.intro hMB hML)
    have HJ6 := Lib.hid (HJ.out.later l6)
    have HI6 := Lib.hid (HI.out.later l6)
    have HM6 := Lib.hid (HM9.out.later l6)
    have L6 := Lib.hid (below_later L5.out l6)
    clear hF hC hbC hMB hML l6 c1 c2 c3 c4 lp i1 i2 li HJ HI HM9 L5
    go_upto_region 6 with fail
    obtain ⟨T11, hT11⟩ : ∃ T11, T11 = w6.heap.size := ⟨_, rfl⟩
    obtain ⟨W6, hW6⟩ : ∃ W6, W6 = w6.alloc (.cells #[.slice o7 m7 c7, .slice o8 q8 c8] 25) := ⟨_, rfl⟩
    have st : Below w6.heap.size w6 W6 := by rw [hW6]; exact (Gr.alloc _ _).below
    have HC6 := Lib.hid (show MO bC T11 o7 m7 c7 o8 q8 c8 (bof C) (C.map (·.2)) W6 from ⟨by rw [hW6, hT11]; exact Blk.new _ _ _, HMO.out.1.later st, HMO.out.2.later st⟩)
    rw [← hW6, ← hT11]
    have HJ := Lib.hid (HJ6.out.later st)
    have HI := Lib.hid (HI6.out.later st)
    have HM6 := Lib.hid (HM6.out.later st)
    have L6 := Lib.hid (below_later L6.out st)
    clear hT11 hW6 st HMO HJ6 HI6
    have HRA := Lib.hid (fun W (g : Below W6.heap.size W6 W) => zright_any (.slice oa ma ca) (.slice oc qa cc) A LA W (HJ.out.later g).a (HJ.out.later g).la (by have := HSZ.out; omega) (by have := HSZ.out; omega))
    have HRB := Lib.hid (fun W (g : Below W6.heap.size W6 W) => zright_any (.slice oe mb ce) (.slice od qb cd) B LB W (HJ.out.later g).b (HJ.out.later g).lb (by have := HSZ.out; omega) (by have := HSZ.out; omega))
    have HCL := Lib.hid (fun W (g : Below W6.heap.size W6 W) => show (W.cell? ⟨p, 0, none⟩ = some (.slice oa ma ca) ∧ W.cell? ⟨p, 1, none⟩ = some (.slice oc qa cc) ∧ W.cell? ⟨q1, 0, none⟩ = some (.slice oe mb ce) ∧ W.cell? ⟨q1, 1, none⟩ = some (.slice od qb cd)) ∧ Below W6.heap.size W6 W from ⟨(HJ.out.later g).cells, g⟩)
    go_cut [13, 14] (fun s13 s14 wx => s13 = .bool (decide (ok7 A LA)) ∧ s14 = .bool (decide (ok7 B LB)) ∧ Hid (Below W6.heap.size W6 wx))
    case first =>
      have hws : Below W6.heap.size W6 W6 := Below.refl _ _
      go_region_held3 (fun W' => (W'.cell? ⟨p, 0, none⟩ = some (.slice oa ma ca) ∧ W'.cell? ⟨p, 1, none⟩ = some (.slice oc qa cc) ∧ W'.cell? ⟨q1, 0, none⟩ = some (.slice oe mb ce) ∧ W'.cell? ⟨q1, 1, none⟩ = some (.slice od qb cd)) ∧ Below W6.heap.size W6 W')
        (first | exact HCL.out _ hws | exact HCL.out _ hws.drew)
        ((go_at_call 13; (first | (with_reducible refine (HRA.out _ (by first | exact hws | exact hws.drew)).mono ?_) | (with_reducible refine (HRB.out _ (by first | exact hws | exact hws.drew)).mono ?_)); rintro e w3' ⟨rfl, gF⟩; have hws := (by first | exact below_later hws gF.below | exact below_later hws.drew gF.below : Below W6.heap.size W6 w3')))
      all_goals
        go_wp2_with fail
        go_meet
        exact ⟨rfl, rfl, Lib.hid hws⟩
    case rest =>
      obtain ⟨rfl, rfl, HB7⟩ := hcut
      have HJ := Lib.hid (HJ.out.later HB7.out)
      have HI := Lib.hid (HI.out.later HB7.out)
      have HM6 := Lib.hid (HM6.out.later HB7.out)
      have HC6 := Lib.hid (HC6.out.later HB7.out)
      have L6 := Lib.hid (below_later L6.out HB7.out)
      obtain ⟨w7, hw7⟩ : ∃ w7, w7 = wc := ⟨_, rfl⟩
      rw [← hw7] at HJ HI HM6 HC6 L6 ⊢
      clear hw7 HB7 HRA HRB HCL
      obtain ⟨PA, hPA⟩ : ∃ PA, PA = decide (ok7 A LA) := ⟨_, rfl⟩
      obtain ⟨PB, hPB⟩ : ∃ PB, PB = decide (ok7 B LB) := ⟨_, rfl⟩
      rw [← hPA, ← hPB]
      have HPA := Lib.hid hPA
      have HPB := Lib.hid hPB
      clear hPA hPB
      go_upto_region 9 with fail
      obtain ⟨T15, hT15⟩ : ∃ T15, T15 = w7.heap.size := ⟨_, rfl⟩
      obtain ⟨w8, hw8⟩ : ∃ w8, w8 = (w7.alloc (.cells #[.slice none 0 0, .slice none 0 0] 25)).alloc (.cells #[.slice none 0 0, .slice none 0 0] 25) := ⟨_, rfl⟩
      have st : Below w7.heap.size w7 w8 := by rw [hw8]; exact ((Gr.alloc _ _).trans (Gr.alloc _ _)).below
      have kz1 : Blk w8 T15 #[.slice none 0 0, .slice none 0 0] 25 := by rw [hw8, hT15]; exact (Blk.new w7 _ _).later (Gr.alloc _ _).below
      have kz2 : Blk w8 (T15 + 1) #[.slice none 0 0, .slice none 0 0] 25 := by rw [hw8, hT15]; simpa using Blk.new (w7.alloc (.cells #[.slice none 0 0, .slice none 0 0] 25)) #[.slice none 0 0, .slice none 0 0] 25
      have HLT := Lib.hid (show p < T15 ∧ q1 < T15 from ⟨by rw [hT15]; exact HJ.out.k1.lt, by rw [hT15]; exact HJ.out.k2.lt⟩)
      have HSW := Lib.hid (show w3.heap.size ≤ T15 from by rw [hT15]; exact L6.out.size)
      have KZ1 := Lib.hid kz1
      have KZ2 := Lib.hid kz2
      have HS7 := Lib.hid hT15
      have L8 := Lib.hid st
      rw [← hw8, ← hT15]
      clear hw8 hT15 st kz1 kz2
      go_cut [50] from 47 to 49 (fun s wx => s = .bool (PA && PB) ∧ wx = w8)
      case first =>
        cases PA <;> cases PB
        all_goals
          go_wp2
          go_meet
          exact ⟨rfl, rfl⟩
      case rest =>
        obtain ⟨rfl, rfl⟩ := hcut
        obtain ⟨w8, hw8⟩ : ∃ w8, w8 = wc := ⟨_, rfl⟩
        rw [← hw8] at KZ1 KZ2 L8 ⊢
        clear hw8
        obtain ⟨PC, hPC⟩ : ∃ PC, PC = (PA && PB) := ⟨_, rfl⟩
        rw [← hPC]
        have HPC := Lib.hid hPC
        clear hPC
        go_upto_if 50 with fail
        go_cut [17] from 50 to 56 (fun s17 wx => s17 = .int .i64 E ∧ ∃ (o9 : Option Addr) (m9 c9 : Nat) (oX : Option Addr) (qX cX : Nat), Hid (MO 0 T15 o9 m9 c9 oX qX cX (bof M) (M.map (·.2)) wx) ∧ Hid (Blk wx (T15 + 1) #[.slice none 0 0, .slice none 0 0] 25) ∧ Hid (Below w7.heap.size w7 wx))
        case first =>
          by_cases hab : ok7 A LA ∧ ok7 B LB
          · have eC : PC = true := by rw [HPC.out, HPA.out, HPB.out, decide_eq_true hab.1, decide_eq_true hab.2]; rfl
            subst eC
            have ta := tri hab.1
            have tb := tri hab.2
            have la : (prs A LA).length ≤ 60 := by rw [ta.lenL]; exact HSZ.out.2.1
            have lb : (prs B LB).length ≤ 60 := by rw [tb.lenL]; exact HSZ.out.2.2.2
            have hE0 : E = 0 := by rw [HE.out]; exact if_pos hab
            have hM0 : M = comb true true true (prs A LA) (prs B LB) := by rw [HM.out]; exact if_pos hab
            have HZA := Lib.hid (fun W (g : Below w7.heap.size w7 W) => zrun_any (.slice oa ma ca) (.slice oc qa cc) A LA W (HJ.out.later g).a (HJ.out.later g).la (by have := HSZ.out; omega) (by have := HSZ.out; omega) hab.1.2.1)
            have HZB := Lib.hid (fun W (g : Below w7.heap.size w7 W) => zrun_any (.slice oe mb ce) (.slice od qb cd) B LB W (HJ.out.later g).b (HJ.out.later g).lb (by have := HSZ.out; omega) (by have := HSZ.out; omega) hab.2.2.1)
            have HUN := Lib.hid (fun va vb W (ha : SegP W va (prs A LA)) (hb : SegP W vb (prs B LB)) => dunion_any va (prs A LA) vb (prs B LB) W ha (by omega) hb (by omega))
            rw [union_is ta.run tb.run, ← hM0] at HUN
            have hMl : M.length ≤ 1000 := by rw [hM0]; exact Nat.le_trans (Nat.le_trans (keepP_len _ _ _ _) (tog_len _ _)) (by omega)
            have hMr : Run M := by rw [hM0]; exact comb_run ta.run tb.run true true true
            obtain ⟨mM, hmM⟩ : ∃ mM, mM = (bof M).length := ⟨_, rfl⟩
            obtain ⟨qM, hqM⟩ : ∃ qM, qM = (M.map (·.2)).length := ⟨_, rfl⟩
            have HOF := Lib.hid (fun v W (hs : SegP W v M) => zof_sh v M mM qM W hs (by omega) hMr hmM hqM)
            clear hmM hqM
            obtain ⟨RA, hRA⟩ : ∃ RA, RA = prs A LA := ⟨_, rfl⟩
            obtain ⟨RB, hRB⟩ : ∃ RB, RB = prs B LB := ⟨_, rfl⟩
            rw [← hRA] at HZA HUN
            rw [← hRB] at HZB HUN
            have HCL := Lib.hid (fun W (g : Below w7.heap.size w7 W) => (HJ.out.later g).cells)
            have HE0 := Lib.hid hE0
            clear ta tb la lb hM0 hMl hMr hRA hRB hab hE0
            have hws : Below w8.heap.size w8 w8 := Below.refl _ _
            obtain ⟨z0, z1⟩ := KZ1.out.z2
            obtain ⟨v0, v1, vl⟩ := KZ1.out.two
            go_upto_region 10 with fail
            go_region_held3 (fun W' => (W'.cell? ⟨p, 0, none⟩ = some (.slice oa ma ca) ∧ W'.cell? ⟨p, 1, none⟩ = some (.slice oc qa cc) ∧ W'.cell? ⟨q1, 0, none⟩ = some (.slice oe mb ce) ∧ W'.cell? ⟨q1, 1, none⟩ = some (.slice od qb cd)))
              (first | exact HCL.out _ (below_later L8.out hws) | exact HCL.out _ (below_later L8.out hws.drew) | exact HCL.out _ (((below_later L8.out hws).setCell (by rw [← HS7.out]; exact Nat.le_refl _) _).setCell (by rw [← HS7.out]; exact Nat.le_refl _) _) | exact HCL.out _ (((below_later L8.out hws.drew).setCell (by rw [← HS7.out]; exact Nat.le_refl _) _).setCell (by rw [← HS7.out]; exact Nat.le_refl _) _))
              (first
                | (go_at_call 25; (first | (with_reducible refine (HZA.out _ (by first | exact below_later L8.out hws | exact below_later L8.out hws.drew)).mono ?_; rintro e w9 ⟨vA, rfl, hFA, lF⟩) | (with_reducible refine (HZB.out _ (by first | exact below_later L8.out hws | exact below_later L8.out hws.drew)).mono ?_; rintro e w9 ⟨vB, rfl, hFB, lF⟩)); (first | (have hFA := hFA.later lF) | (have hFA := hFA.drew.later lF) | skip); (first | (have hFB := hFB.later lF) | (have hFB := hFB.drew.later lF) | skip); have hws := (by first | exact below_later hws lF | exact below_later hws.drew lF : Below w8.heap.size w8 w9); have kz := KZ1.out.later hws; obtain ⟨z0, z1⟩ := kz.z2; obtain ⟨v0, v1, vl⟩ := kz.two)
                | (go_at_call 24; (with_reducible refine (HUN.out _ _ _ (by first | exact hFA.seg | exact hFA.seg.drew) (by first | exact hFB.seg | exact hFB.seg.drew)).mono ?_); rintro e w9 ⟨vC, rfl, hFC, lF⟩; have hws := (by first | exact below_later hws lF | exact below_later hws.drew lF : Below w8.heap.size w8 w9); have kz := KZ1.out.later hws; obtain ⟨z0, z1⟩ := kz.z2; obtain ⟨v0, v1, vl⟩ := kz.two)
                | (go_at_call 23; (with_reducible refine (HOF.out _ _ (by first | exact hFC.seg | exact hFC.seg.drew)).mono ?_); rintro e w9 ⟨o9, c9, oX, cX, rfl, hB, hL, lF⟩; have hws := (by first | exact below_later hws lF | exact below_later hws.drew lF : Below w8.heap.size w8 w9); have kz := KZ1.out.later hws; obtain ⟨z0, z1⟩ := kz.z2; obtain ⟨v0, v1, vl⟩ := kz.two))
            all_goals
              refine then_at ?_
              intro W9 hW9
              have kk : MO 0 T15 o9 mM c9 oX qM cX (bof M) (M.map (·.2)) W9 := by rw [hW9]; exact mo_set hB hL kz
              have k2 : Blk W9 (T15 + 1) #[.slice none 0 0, .slice none 0 0] 25 := by rw [hW9]; exact blk_set (KZ2.out.later hws) (by omega) _ _
              have lo : Below w7.heap.size w7 W9 := by rw [hW9]; exact low_set (below_later L8.out hws) (by rw [← HS7.out]; exact Nat.le_refl _) _ _
              have KK := Lib.hid kk
              have K2 := Lib.hid k2
              have LO := Lib.hid lo
              clear hW9 kk k2 lo
              go_wp2_with fail
              go_meet
              exact ⟨by rw [HE0.out], o9, mM, c9, oX, qM, cX, KK, K2, LO⟩
          · have eC : PC = false := by
              rw [HPC.out, HPA.out, HPB.out, Bool.and_eq_false_iff, decide_eq_false_iff_not, decide_eq_false_iff_not]
              by_cases h : ok7 A LA
              · exact .inr fun h' => hab ⟨h, h'⟩
              · exact .inl h
            subst eC
            have HE0 := Lib.hid (show E = 170 from by rw [HE.out]; exact if_neg hab)
            have HM0 := Lib.hid (show M = [] from by rw [HM.out]; exact if_neg hab)
            clear hab
            go_wp2_with fail
            go_meet
            exact ⟨by rw [HE0.out], none, 0, 0, none, 0, 0, Lib.hid ⟨KZ1.out, by rw [HM0.out]; exact OwnR.nil _ _ _, by rw [HM0.out]; exact Owns.nil _ _ _ _⟩, KZ2, L8⟩
        case rest =>
          obtain ⟨rfl, o9, m9, c9, oX, qX, cX, HM15, KZ2, L9⟩ := hcut
          obtain ⟨w9, hw9⟩ : ∃ w9, w9 = wc := ⟨_, rfl⟩
          rw [← hw9] at HM15 KZ2 L9 ⊢
          clear hw9 KZ1 L8 HPC HPB
          go_upto_if 57 with fail
          go_cut [18] from 58 to 70 (fun s18 wx => s18 = .int .i64 F ∧ ∃ (o10 : Option Addr) (m10 c10 : Nat) (oY : Option Addr) (qY cY : Nat), Hid (MO 0 (T15 + 1) o10 m10 c10 oY qY cY (bof C) (C.map (·.2)) wx) ∧ Hid (MO 0 T15 o9 m9 c9 oX qX cX (bof M) (M.map (·.2)) wx) ∧ Hid (Below w7.heap.size w7 wx))
          case first =>
            by_cases hab : ok7 A LA
            · have eC : PA = true := by rw [HPA.out]; exact decide_eq_true hab
              subst eC
              have HIC := HI.out.later L9.out
              obtain ⟨i1, i2, li⟩ := HIC.c.two
              by_cases hft : f ≤ t
              · have ta := tri hab
                have la : (prs A LA).length ≤ 60 := by rw [ta.lenL]; exact HSZ.out.2.1
                have hF0 : F = 0 := by rw [HF.out]; unfold cutE; rw [if_pos hab, if_neg (by omega)]
                have hC0 : C = zcutP (prs A LA) f t := by rw [HC.out, zcut_is]; exact if_pos ⟨hab, hft⟩
                have HZA := Lib.hid (fun W (g : Below w7.heap.size w7 W) => zrun_any (.slice oa ma ca) (.slice oc qa cc) A LA W (HJ.out.later g).a (HJ.out.later g).la (by have := HSZ.out; omega) (by have := HSZ.out; omega) hab.2.1)
                have HZC := Lib.hid (fun va W (ha : SegP W va (prs A LA)) => zcut_any va (prs A LA) W ha (by omega) f t)
                rw [← hC0] at HZC
                have hMl : C.length ≤ 1000 := by rw [hC0]; exact Nat.le_trans (List.length_filter_le _ _) (by omega)
                have hMr : Run C := by rw [hC0]; exact filt_run ta.run _
                obtain ⟨mM, hmM⟩ : ∃ mM, mM = (bof C).length := ⟨_, rfl⟩
                obtain ⟨qM, hqM⟩ : ∃ qM, qM = (C.map (·.2)).length := ⟨_, rfl⟩
                have HOF := Lib.hid (fun v W (hs : SegP W v C) => zof_sh v C mM qM W hs (by omega) hMr hmM hqM)
                obtain ⟨RA, hRA⟩ : ∃ RA, RA = prs A LA := ⟨_, rfl⟩
                rw [← hRA] at HZA HZC
                have HCL := Lib.hid (fun W (g : Below w7.heap.size w7 W) => show W.cell? ⟨p, 0, none⟩ = some (.slice oa ma ca) ∧ W.cell? ⟨p, 1, none⟩ = some (.slice oc qa cc) ∧ W.cell? ⟨w.heap.size + 1 + 1, 0, none⟩ = some (.int .u64 f) ∧ W.cell? ⟨w.heap.size + 1 + 1, 1, none⟩ = some (.int .u64 t) from ⟨(HJ.out.later g).cells.1, (HJ.out.later g).cells.2.1, (HI.out.later g).c.cell 0, (HI.out.later g).c.cell 1⟩)
                have HE0 := Lib.hid hF0
                have hle : decide (f ≤ t) = true := decide_eq_true hft
                clear hmM hqM ta la hC0 hMl hMr hRA hab hF0 hft HIC
                have hws : Below w9.heap.size w9 w9 := Below.refl _ _
                obtain ⟨z0, z1⟩ := KZ2.out.z2
                obtain ⟨v0, v1, vl⟩ := KZ2.out.two
                go_upto_region 14 with fail
                clear i1 i2 li
                go_region_held3 (fun W' => W'.cell? ⟨p, 0, none⟩ = some (.slice oa ma ca) ∧ W'.cell? ⟨p, 1, none⟩ = some (.slice oc qa cc) ∧ W'.cell? ⟨w.heap.size + 1 + 1, 0, none⟩ = some (.int .u64 f) ∧ W'.cell? ⟨w.heap.size + 1 + 1, 1, none⟩ = some (.int .u64 t))
                  (first | exact HCL.out _ (below_later L9.out hws) | exact HCL.out _ (below_later L9.out hws.drew) | exact HCL.out _ (low_set (below_later L9.out hws) (by rw [← HS7.out]; exact Nat.le_succ _) _ _) | exact HCL.out _ (low_set (below_later L9.out hws.drew) (by rw [← HS7.out]; exact Nat.le_succ _) _ _))
                  (first
                    | (go_at_call 25; (with_reducible refine (HZA.out _ (by first | exact below_later L9.out hws | exact below_later L9.out hws.drew)).mono ?_); rintro e wq ⟨vA, rfl, hFA, lF⟩; have hws := (by first | exact below_later hws lF | exact below_later hws.drew lF : Below w9.heap.size w9 wq); have kz := KZ2.out.later hws; obtain ⟨z0, z1⟩ := kz.z2; obtain ⟨v0, v1, vl⟩ := kz.two)
                    | (go_at_call 26; (with_reducible refine (HZC.out _ _ (by first | exact hFA.seg | exact hFA.seg.drew)).mono ?_); rintro e wq ⟨vC, rfl, hFC, lF⟩; have hws := (by first | exact below_later hws lF | exact below_later hws.drew lF : Below w9.heap.size w9 wq); have kz := KZ2.out.later hws; obtain ⟨z0, z1⟩ := kz.z2; obtain ⟨v0, v1, vl⟩ := kz.two)
                    | (go_at_call 23; (with_reducible refine (HOF.out _ _ (by first | exact hFC.seg | exact hFC.seg.drew)).mono ?_); rintro e wq ⟨o10, c10, oY, cY, rfl, hB, hL, lF⟩; have hws := (by first | exact below_later hws lF | exact below_later hws.drew lF : Below w9.heap.size w9 wq); have kz := KZ2.out.later hws; obtain ⟨z0, z1⟩ := kz.z2; obtain ⟨v0, v1, vl⟩ := kz.two))
                all_goals
                  refine then_at ?_
                  intro W9 hW9
                  have kk : MO 0 (T15 + 1) o10 mM c10 oY qM cY (bof C) (C.map (·.2)) W9 := by rw [hW9]; exact mo_set hB hL kz
                  have k2 : MO 0 T15 o9 m9 c9 oX qX cX (bof M) (M.map (·.2)) W9 := by rw [hW9]; exact mo_keep (HM15.out.later hws) kz (by omega) _ _
                  have lo : Below w7.heap.size w7 W9 := by rw [hW9]; exact low_set (below_later L9.out hws) (by rw [← HS7.out]; exact Nat.le_succ _) _ _
                  have KK := Lib.hid kk
                  have K2 := Lib.hid k2
                  have LO := Lib.hid lo
                  clear hW9 kk k2 lo
                  go_wp2_with fail
                  go_meet
                  exact ⟨by rw [HE0.out], o10, mM, c10, oY, qM, cY, KK, K2, LO⟩
              · have hle : decide (f ≤ t) = false := decide_eq_false hft
                have HE0 := Lib.hid (show F = 2 from by rw [HF.out]; unfold cutE; rw [if_pos hab, if_pos (by omega)])
                have HM0 := Lib.hid (show C = [] from by rw [HC.out]; exact if_neg (fun h => hft h.2))
                clear hab hft HIC
                go_wp2_with fail
                go_meet
                exact ⟨by rw [HE0.out], none, 0, 0, none, 0, 0, Lib.hid ⟨KZ2.out, by rw [HM0.out]; exact OwnR.nil _ _ _, by rw [HM0.out]; exact Owns.nil _ _ _ _⟩, HM15, L9⟩
            · have eC : PA = false := by rw [HPA.out]; exact decide_eq_false hab
              subst eC
              have HE0 := Lib.hid (show F = 170 from by rw [HF.out]; exact if_neg hab)
              have HM0 := Lib.hid (show C = [] from by rw [HC.out]; exact if_neg (fun h => hab h.1))
              clear hab
              go_wp2_with fail
              go_meet
              exact ⟨by rw [HE0.out], none, 0, 0, none, 0, 0, Lib.hid ⟨KZ2.out, by rw [HM0.out]; exact OwnR.nil _ _ _, by rw [HM0.out]; exact Owns.nil _ _ _ _⟩, HM15, L9⟩
          case rest =>
            obtain ⟨rfl, o10, m10, c10, oY, qY, cY, HM16, HM15, L10⟩ := hcut
            obtain ⟨w10, hw10⟩ : ∃ w10, w10 = wc := ⟨_, rfl⟩
            rw [← hw10] at HM16 HM15 L10 ⊢
            have HM6 := Lib.hid (HM6.out.later L10.out)
            have HC6 := Lib.hid (HC6.out.later L10.out)
            have HJ := Lib.hid (HJ.out.later L10.out)
            have HI := Lib.hid (HI.out.later L10.out)
            have LW := Lib.hid (below_later L6.out L10.out)
            clear hw10 KZ2 L9 L10 L6 HPA HE HM HF HC HS7
            obtain ⟨d0, d1, dl⟩ := HM6.out.k.two
            obtain ⟨e0, e1, el⟩ := HM15.out.k.two
            obtain ⟨f0, f1, fl⟩ := HC6.out.k.two
            obtain ⟨g0, g1, gl⟩ := HM16.out.k.two
            go_wp2_with fail
            refine (zsame_yes _ _ _ _ (bof M) (M.map (·.2)) _ HM6.out.b.seg HM6.out.l.seg HM15.out.b.seg HM15.out.l.seg).mono ?_
            rintro e w11 ⟨rfl, l11⟩
            have HM6 := Lib.hid (HM6.out.later l11)
            have HC6 := Lib.hid (HC6.out.later l11)
            have HM16 := Lib.hid (HM16.out.later l11)
            have HJ := Lib.hid (HJ.out.later l11)
            have HI := Lib.hid (HI.out.later l11)
            have LW := Lib.hid (below_later LW.out l11)
            clear l11 HM15 d0 d1 dl e0 e1 el f0 f1 fl g0 g1 gl
            obtain ⟨f0, f1, fl⟩ := HC6.out.k.two
            obtain ⟨g0, g1, gl⟩ := HM16.out.k.two
            go_wp2_with fail
            refine (zsame_yes _ _ _ _ (bof C) (C.map (·.2)) _ HC6.out.b.seg HC6.out.l.seg HM16.out.b.seg HM16.out.l.seg).mono ?_
            rintro e w12 ⟨rfl, l12⟩
            have HM6 := Lib.hid (HM6.out.later l12)
            have HC6 := Lib.hid (HC6.out.later l12)
            have HJ := Lib.hid (HJ.out.later l12)
            have HI := Lib.hid (HI.out.later l12)
            have LW := Lib.hid (below_later LW.out l12)
            clear l12 HM16 f0 f1 fl g0 g1 gl
            obtain ⟨d0, d1, dl⟩ := HM6.out.k.two
            obtain ⟨f0, f1, fl⟩ := HC6.out.k.two
            have hix0 : ∀ (a b c d : Value) (w : World), (Instr.index 50 (.agg #[a, b, c, d]) (.int .i64 0)).run Try.prog w = .ok (.agg #[a, b]) w := fun _ _ _ _ _ => by kernel_rfl
            have hix1 : ∀ (a b c d : Value) (w : World), (Instr.index 50 (.agg #[a, b, c, d]) (.int .i64 1)).run Try.prog w = .ok (.agg #[c, d]) w := fun _ _ _ _ _ => by kernel_rfl
            have HLM := Lib.hid (show ∃ L : List Int, L.length = q6 ∧ Owns .u64 32 w3.heap.size w12 (.slice o6 q6 c6) L from ⟨_, seg_len HM6.out.l.seg, HM6.out.l⟩)
            have HLC := Lib.hid (show ∃ L : List Int, L.length = q8 ∧ Owns .u64 32 bC w12 (.slice o8 q8 c8) L from ⟨_, seg_len HC6.out.l.seg, HC6.out.l⟩)
            clear HJ HI
            go_wp2
            go_loopw [94] (fun i wr => ∃ k : Nat, k ≤ 2 ∧ i = .int .i64 (k : Int) ∧ Hid (∃ L : List Int, L.length = q6 ∧ Owns .u64 32 w3.heap.size wr (.slice o6 q6 c6) L) ∧ Hid (∃ L : List Int, L.length = q8 ∧ Owns .u64 32 bC wr (.slice o8 q8 c8) L) ∧ Hid (Below w3.heap.size w3 wr)) (fun i _ => 2 - (intOf i).toNat)
            case atStart => exact ⟨0, by decide, rfl, HLM, HLC, LW⟩
            case round =>
              obtain ⟨k, hk, rfl, HL0, HL1, HB⟩ := hrel
              clear HM6 HC6 LW HLM HLC d0 d1 dl f0 f1 fl
              rcases (show k = 0 ∨ k = 1 ∨ k = 2 by omega) with rfl | rfl | rfl
              · have KOT := HL1
                go_upto_region 21 with fail
                obtain ⟨B20, hB20⟩ : ∃ B20, B20 = wr.heap.size := ⟨_, rfl⟩
                obtain ⟨Wa, hWa⟩ : ∃ Wa, Wa = wr.alloc (.cells #[.slice o5 m5 c5, .slice o6 q6 c6] 25) := ⟨_, rfl⟩
                have st : Below wr.heap.size wr Wa := by rw [hWa]; exact (Gr.alloc _ _).below
                have kb : Blk Wa B20 #[.slice o5 m5 c5, .slice o6 q6 c6] 25 := by rw [hWa, hB20]; exact Blk.new _ _ _
                have KB := Lib.hid kb
                have HLa := Lib.hid (show ∃ L : List Int, L.length = q6 ∧ Owns .u64 32 w3.heap.size Wa (.slice o6 q6 c6) L from by obtain ⟨L, h1, h2⟩ := HL0.out; exact ⟨L, h1, h2.later st⟩)
                have HLb := Lib.hid (show ∃ L : List Int, L.length = q8 ∧ Owns .u64 32 bC Wa (.slice o8 q8 c8) L from by obtain ⟨L, h1, h2⟩ := KOT.out; exact ⟨L, h1, h2.later st⟩)
                have HBa := Lib.hid (below_later HB.out st)
                have hq63 : q6 ≤ 9223372036854775807 := by obtain ⟨L, h1, h2⟩ := HLa.out; rw [← h1]; exact h2.len
                rw [← hWa, ← hB20]
                clear hWa hB20 st kb KOT HL0 HL1 HB
                go_loopw [100] (fun i wz => ∃ j : Nat, j ≤ q6 ∧ i = .int .i64 (j : Int) ∧ Hid (Blk wz B20 #[.slice o5 m5 c5, .slice o6 q6 c6] 25) ∧ Hid (∃ L : List Int, L.length = q6 ∧ Owns .u64 32 w3.heap.size wz (.slice o6 q6 c6) L) ∧ Hid (∃ L : List Int, L.length = q8 ∧ Owns .u64 32 bC wz (.slice o8 q8 c8) L) ∧ Hid (Below w3.heap.size w3 wz)) (fun i _ => q6 - (intOf i).toNat)
                case atStart => exact ⟨0, Nat.zero_le _, rfl, KB, HLa, HLb, HBa⟩
                case round =>
                  obtain ⟨j, hj, rfl, KB, HLa, HLb, HBZ⟩ := hrel
                  by_cases hjn : j < q6
                  · obtain ⟨L, hLl, hOL⟩ := HLa.out
                    have hjL : j < L.length := by omega
                    obtain ⟨g, cap, e, -, -, hgB, hgl, x2, x3, -⟩ := hOL.set hjL 0
                    have hnb := hOL.ne_blk KB.out (by decide)
                    have hoth : (Value.slice o8 q8 c8).ownBlock ≠ some g := fun h => by
                      obtain ⟨L2, -, h2⟩ := HLb.out
                      have h3 := h2.lt g h
                      have h4 := HBC.out.2 g (by first | exact h | rw [e]; rfl)
                      omega
                    injection e with e1 _ _
                    subst e1
                    have HST := Lib.hid (fun x => hOL.store hjL x)
                    have HKS := Lib.hid (fun x => KB.out.other (p := ⟨g, j, none⟩) (by intro e; exact hnb (by rw [e]; rfl)) x)
                    have HOS := Lib.hid (fun x => show ∃ L : List Int, L.length = q8 ∧ Owns .u64 32 bC (wr.setCell ⟨g, j, none⟩ x) (.slice o8 q8 c8) L from by obtain ⟨L2, h1, h2⟩ := HLb.out; exact ⟨L2, h1, h2.oth hoth j x⟩)
                    have HLL3 := Lib.hid hLl
                    have HGB := Lib.hid (show w3.heap.size ≤ g by have := HBC.out.1; omega)
                    obtain ⟨b0, b1, bl⟩ := KB.out.two
                    obtain ⟨y, hy⟩ : ∃ y, y = L[j] := ⟨_, rfl⟩
                    rw [← hy] at x2
                    clear hOL hLl hjL hy hgB hnb hoth
                    go_wp2
                    go_roundw
                    case rel => exact ⟨j + 1, by omega, by go_num, Lib.hid (HKS.out _), Lib.hid ⟨_, by rw [List.length_set]; exact HLL3.out, HST.out _⟩, Lib.hid (HOS.out _), Lib.hid (HBZ.out.setCell HGB.out _)⟩
                    case measure => simp [intOf]; omega
                  · go_wp2
                    go_roundw
                    case rel => exact ⟨1, by decide, rfl, HLa, HLb, HBZ⟩
                    case measure => simp [intOf]
              · have KOT := HL0
                go_upto_region 21 with fail
                obtain ⟨B20, hB20⟩ : ∃ B20, B20 = wr.heap.size := ⟨_, rfl⟩
                obtain ⟨Wa, hWa⟩ : ∃ Wa, Wa = wr.alloc (.cells #[.slice o7 m7 c7, .slice o8 q8 c8] 25) := ⟨_, rfl⟩
                have st : Below wr.heap.size wr Wa := by rw [hWa]; exact (Gr.alloc _ _).below
                have kb : Blk Wa B20 #[.slice o7 m7 c7, .slice o8 q8 c8] 25 := by rw [hWa, hB20]; exact Blk.new _ _ _
                have KB := Lib.hid kb
                have HLa := Lib.hid (show ∃ L : List Int, L.length = q8 ∧ Owns .u64 32 bC Wa (.slice o8 q8 c8) L from by obtain ⟨L, h1, h2⟩ := HL1.out; exact ⟨L, h1, h2.later st⟩)
                have HLb := Lib.hid (show ∃ L : List Int, L.length = q6 ∧ Owns .u64 32 w3.heap.size Wa (.slice o6 q6 c6) L from by obtain ⟨L, h1, h2⟩ := KOT.out; exact ⟨L, h1, h2.later st⟩)
                have HBa := Lib.hid (below_later HB.out st)
                have hq63 : q8 ≤ 9223372036854775807 := by obtain ⟨L, h1, h2⟩ := HLa.out; rw [← h1]; exact h2.len
                rw [← hWa, ← hB20]
                clear hWa hB20 st kb KOT HL0 HL1 HB
                go_loopw [100] (fun i wz => ∃ j : Nat, j ≤ q8 ∧ i = .int .i64 (j : Int) ∧ Hid (Blk wz B20 #[.slice o7 m7 c7, .slice o8 q8 c8] 25) ∧ Hid (∃ L : List Int, L.length = q8 ∧ Owns .u64 32 bC wz (.slice o8 q8 c8) L) ∧ Hid (∃ L : List Int, L.length = q6 ∧ Owns .u64 32 w3.heap.size wz (.slice o6 q6 c6) L) ∧ Hid (Below w3.heap.size w3 wz)) (fun i _ => q8 - (intOf i).toNat)
                case atStart => exact ⟨0, Nat.zero_le _, rfl, KB, HLa, HLb, HBa⟩
                case round =>
                  obtain ⟨j, hj, rfl, KB, HLa, HLb, HBZ⟩ := hrel
                  by_cases hjn : j < q8
                  · obtain ⟨L, hLl, hOL⟩ := HLa.out
                    have hjL : j < L.length := by omega
                    obtain ⟨g, cap, e, -, -, hgB, hgl, x2, x3, -⟩ := hOL.set hjL 0
                    have hnb := hOL.ne_blk KB.out (by decide)
                    have hoth : (Value.slice o6 q6 c6).ownBlock ≠ some g := fun h => by
                      obtain ⟨L2, -, h2⟩ := HLb.out
                      have h3 := h2.lt g h
                      have h4 := HBC.out.2 g (by first | exact h | rw [e]; rfl)
                      omega
                    injection e with e1 _ _
                    subst e1
                    have HST := Lib.hid (fun x => hOL.store hjL x)
                    have HKS := Lib.hid (fun x => KB.out.other (p := ⟨g, j, none⟩) (by intro e; exact hnb (by rw [e]; rfl)) x)
                    have HOS := Lib.hid (fun x => show ∃ L : List Int, L.length = q6 ∧ Owns .u64 32 w3.heap.size (wr.setCell ⟨g, j, none⟩ x) (.slice o6 q6 c6) L from by obtain ⟨L2, h1, h2⟩ := HLb.out; exact ⟨L2, h1, h2.oth hoth j x⟩)
                    have HLL3 := Lib.hid hLl
                    have HGB := Lib.hid (show w3.heap.size ≤ g by have := HBC.out.1; omega)
                    obtain ⟨b0, b1, bl⟩ := KB.out.two
                    obtain ⟨y, hy⟩ : ∃ y, y = L[j] := ⟨_, rfl⟩
                    rw [← hy] at x2
                    clear hOL hLl hjL hy hgB hnb hoth
                    go_wp2
                    go_roundw
                    case rel => exact ⟨j + 1, by omega, by go_num, Lib.hid (HKS.out _), Lib.hid ⟨_, by rw [List.length_set]; exact HLL3.out, HST.out _⟩, Lib.hid (HOS.out _), Lib.hid (HBZ.out.setCell HGB.out _)⟩
                    case measure => simp [intOf]; omega
                  · go_wp2
                    go_roundw
                    case rel => exact ⟨2, by decide, rfl, HLb, HLa, HBZ⟩
                    case measure => simp [intOf]
              · have HJ := Lib.hid (HJ0.out.later HB.out)
                have HI := Lib.hid (HI0.out.later HB.out)
                clear HL0 HL1 HB HJ0 HI0
                have HOA := Lib.hid (fun W (g : Below wr.heap.size wr W) => HOX.out W (HI.out.later g).low)
                have HOB := Lib.hid (fun W (g : Below wr.heap.size wr W) => HOY.out W (HI.out.later g).low)
                have HZA := Lib.hid (fun v3 v4 W (g : Below wr.heap.size wr W) (h3 : SegR W v3 A) (h4 : Seg .u64 W v4 LA) => zsame_yes (.slice oa ma ca) (.slice oc qa cc) v3 v4 A LA W (HJ.out.later g).a (HJ.out.later g).la h3 h4)
                have HZB := Lib.hid (fun v3 v4 W (g : Below wr.heap.size wr W) (h3 : SegR W v3 B) (h4 : Seg .u64 W v4 LB) => zsame_yes (.slice oe mb ce) (.slice od qb cd) v3 v4 B LB W (HJ.out.later g).b (HJ.out.later g).lb h3 h4)
                have HCL := Lib.hid (fun W (g : Below wr.heap.size wr W) => show (W.cell? ⟨p, 0, none⟩ = some (.slice oa ma ca) ∧ W.cell? ⟨p, 1, none⟩ = some (.slice oc qa cc) ∧ W.cell? ⟨q1, 0, none⟩ = some (.slice oe mb ce) ∧ W.cell? ⟨q1, 1, none⟩ = some (.slice od qb cd)) ∧ W.cell? ⟨w.heap.size, 0, none⟩ = some (.slice ob m cb) ∧ W.cell? ⟨w.heap.size, 1, none⟩ = some (.slice ol q cl) ∧ W.cell? ⟨w.heap.size + 1, 0, none⟩ = some (.slice ob' m' cb') ∧ W.cell? ⟨w.heap.size + 1, 1, none⟩ = some (.slice ol' q' cl') from ⟨(HJ.out.later g).cells, (HI.out.later g).x.cell 0, (HI.out.later g).x.cell 1, (HI.out.later g).y.cell 0, (HI.out.later g).y.cell 1⟩)
                go_upto_region 26 with fail
                go_cut [6] (fun s wx => s = .bool true ∧ Hid (Below wr.heap.size wr wx))
                case first =>
                  have hws : Below wr.heap.size wr wr := Below.refl _ _
                  go_region_held3 (fun W => (W.cell? ⟨p, 0, none⟩ = some (.slice oa ma ca) ∧ W.cell? ⟨p, 1, none⟩ = some (.slice oc qa cc) ∧ W.cell? ⟨q1, 0, none⟩ = some (.slice oe mb ce) ∧ W.cell? ⟨q1, 1, none⟩ = some (.slice od qb cd)) ∧ W.cell? ⟨w.heap.size, 0, none⟩ = some (.slice ob m cb) ∧ W.cell? ⟨w.heap.size, 1, none⟩ = some (.slice ol q cl) ∧ W.cell? ⟨w.heap.size + 1, 0, none⟩ = some (.slice ob' m' cb') ∧ W.cell? ⟨w.heap.size + 1, 1, none⟩ = some (.slice ol' q' cl'))
                    (first | exact HCL.out _ hws | exact HCL.out _ hws.drew)
                    (first
                      | (go_at_call 12; (first | (with_reducible refine (HOA.out _ (by first | exact hws | exact hws.drew)).mono ?_; rintro e wq ⟨x1, x2, x3, x4, x5, x6, rfl, hBA, hLA, lF⟩) | (with_reducible refine (HOB.out _ (by first | exact hws | exact hws.drew)).mono ?_; rintro e wq ⟨x1, x2, x3, x4, x5, x6, rfl, hBB, hLB, lF⟩)); have hws := (by first | exact below_later hws lF | exact below_later hws.drew lF : Below wr.heap.size wr wq))
                      | (go_at_call 20; (first | (with_reducible refine (HZA.out _ _ _ (by first | exact hws | exact hws.drew) (by first | exact hBA.seg | exact hBA.seg.drew) (by first | exact hLA.seg | exact hLA.seg.drew)).mono ?_) | (with_reducible refine (HZB.out _ _ _ (by first | exact hws | exact hws.drew) (by first | exact hBB.seg | exact hBB.seg.drew) (by first | exact hLB.seg | exact hLB.seg.drew)).mono ?_)); rintro e wq ⟨rfl, lF⟩; have hws := (by first | exact below_later hws lF | exact below_later hws.drew lF : Below wr.heap.size wr wq)))
                  all_goals
                    go_wp2_with fail
                    go_meet
                    exact ⟨rfl, Lib.hid hws⟩
                case rest =>
                  obtain ⟨rfl, HWW⟩ := hcut
                  have HF := Lib.hid (below_later HI.out.low HWW.out)
                  go_wp2_with fail
                  go_ret
                  exact ⟨rfl, HF.out⟩
end Go.Proofs.Ytjfnhjmdgfkgnaa


/- TrieJoins: two tries as one, and some branches alone: for all two tries and all two numbers the law returns true. No condition. -/
namespace Go.Proofs.Ytjfnhjmdgfkgnaa
open Go.ChangeShapes Go.WideShapes Go.ChangeAt Go.RowKit Go.Joins Go.Proofs.Kit

set_option maxRecDepth 100000 in
/-- An array of two numbers. -/
theorem open_two {H : Type} {enc : TypeId × Value → H} {W : World} {r : Reach} {b0 : Nat} {v : Value} {d : DataW H} {p : List MemPlace} (hv : Value.okWide Try.prog W r b0 40 v) (h : DataW.Trod enc Try.prog W 0 (fun _ => true) true 40 v d p) :
    ∃ k0 k1 : Int, v = .agg #[.int .u64 k0, .int .u64 k1] := by
  simp only [Value.okWide, Try.underlying40] at hv
  obtain ⟨cs, rfl, hcs, _⟩ := hv
  obtain ⟨fuel, hf⟩ := h
  obtain ⟨ys, k2, _, _, hlen, hyl, hg⟩ := DataW.trod_array Try.underlying40 hf
  have c2 : Try.prog.cellsOf 40 = 2 := by kernel_rfl
  rw [c2] at hcs hlen
  have g0 := hg 0 (by decide)
  have g1 := hg 1 (by decide)
  rw [cells_u64] at g0 g1
  obtain ⟨cs⟩ := cs
  match cs, hcs, ys, hyl with
  | [x, y], _, [y0, y1], _ =>
    simp [Value.cells] at g0 g1
    obtain ⟨n0, e0, _, _⟩ := DataW.trod_int Try.underlying32 g0
    obtain ⟨n1, e1, _, _⟩ := DataW.trod_int Try.underlying32 g1
    injection e0 with e0 _
    injection e1 with e1 _
    exact ⟨n0, n1, by rw [e0, e1]⟩

set_option maxRecDepth 100000 in
theorem trieJoins_lifted (os : Os) (started : os.Started) (H : Type) (enc : TypeId × Value → H) :
    ReturnsInHanded {} Try.checked os 4 .any (Rows.trieJoinsSpec.pre6 enc Try.prog Try.f4 Rows.trieJoinsRow.domain false) (Rows.trieJoinsSpec.post enc Try.prog Try.f4 false true false false) := by
  refine returnsInHanded_of_change (C := Try.checked) own started (by kernel_rfl) Try.func4
    (ChangeSpec.witness6 (enc := enc) (C := Try.checked) false ⟨#[], #[.agg #[.slice none 0 0, .slice none 0 0], .agg #[.slice none 0 0, .slice none 0 0], .agg #[.int .u64 0, .int .u64 0]], []⟩ 8 (by kernel_rfl) (by kernel_rfl) (by kernel_rfl) (by kernel_rfl)) ?_
  intro W base args ds gs before hval0 hW _ _
  have hval : ∀ (j : Nat) t v, Try.f4.params[j]? = some t → args[j]? = some v → Value.okWide Try.prog W .any base t v := hval0
  have hW' := hW
  obtain ⟨p, q, hA0, hV, rfl, _, _⟩ := hW
  have hA : DataW.TrodAll enc Try.prog W 0 (fun _ => true) true Try.f4.params.toList args.toList ds p := hA0
  rw [Try.params4] at hA hval
  obtain ⟨v0, v1, v2, d0, d1, d2, p0, p1, p2, rfl, rfl, rfl, h0, h1, h2⟩ := trodAll_three hA
  obtain ⟨rfl, rfl⟩ := trodVars_none hV
  obtain ⟨ob, m, cb, bs, ol, q, cl, lv, rfl, t1, t2, t3, t4, t5, t6, t7, t8⟩ := open_trie (hval 0 25 v0 rfl rfl) h0
  obtain ⟨ob', m', cb', bs', ol', q', cl', lv', rfl, u1, u2, u3, u4, u5, u6, u7, u8⟩ := open_trie (hval 1 25 v1 rfl rfl) h1
  obtain ⟨k0, k1, rfl⟩ := open_two (hval 2 40 v2 rfl rfl) h2
  refine (trieJoins_true ob m cb bs ol q cl lv ob' m' cb' bs' ol' q' cl' lv' k0 k1 W t1 t2 t3 t4 t5 t6 t7 t8 u1 u2 u3 u4 u5 u6 u7 u8).mono fun e W' ⟨he, hb⟩ => ?_
  subst he
  exact ⟨_, rfl, law_post laidOut (by kernel_rfl) (by kernel_rfl : Try.f4.resultTypes = #[4]) Try.underlying4 rfl hW' rfl hb⟩

theorem trieJoins_holds : Rows.TrieJoinsSaid :=
  OpenClaim.holds_of_wide 4 Try.f4 rfl rfl rfl rfl rfl rfl rfl ⟨rfl, rfl, rfl, rfl, rfl⟩ rfl rfl rfl rfl rfl (by kernel_rfl) Try.func4 (by kernel_rfl)
    (of_decide_eq_true (by kernel_rfl)) (by unfold Func.isWrapper; first | (rw [if_pos (by decide +kernel)]; kernel_rfl) | (rw [if_neg (by decide +kernel)]; exact ⟨rfl, rfl⟩))
    (fun os started H enc _ => trieJoins_lifted os started H enc)
#print axioms trieJoins_holds
end Go.Proofs.Ytjfnhjmdgfkgnaa

