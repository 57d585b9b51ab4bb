/- A region that draws its order: two calls of one function on two variables, their answers laid into two blocks of the region's own. -/
import Derived.Test.YtmghbejbdkoehaaMb
import Derived.Orders
namespace Go.Proofs.Kit
open Go.RowKit
/-- The operation waits for these. -/
def needs (o : Oper) (l : List Nat) : Bool := l.all fun i => o.after.any fun e => Region.binds .any e && e.on == i
/-- The operation waits for none but these. -/
def only (o : Oper) (l : List Nat) : Bool := o.after.all fun e => !Region.binds .any e || l.contains e.on
theorem needs_listed {ops : Array Oper} {listed : Array Bool} {j : Nat} {o : Oper} {l : List Nat} (hj : j ∈ Region.ready .any ops listed) (ho : ops[j]? = some o) (hn : needs o l = true) {i : Nat} (hi : i ∈ l) : listed.getD i false = true := by
  obtain ⟨_, o', ho', h⟩ := mem_ready.1 hj
  rw [ho] at ho'
  cases ho'
  have h1 := List.all_eq_true.1 hn i hi
  obtain ⟨e, he, hb⟩ := Array.any_eq_true'.1 h1
  simp only [Bool.and_eq_true, beq_iff_eq] at hb
  rw [← hb.2]
  exact h e he hb.1
theorem only_ready {ops : Array Oper} {listed : Array Bool} {j : Nat} {o : Oper} {l : List Nat} (h0 : listed.getD j true = false) (ho : ops[j]? = some o) (hn : only o l = true) (h : ∀ i ∈ l, listed.getD i false = true) : j ∈ Region.ready .any ops listed := by
  refine mem_ready.2 ⟨h0, o, ho, fun e he hb => ?_⟩
  have h1 := Array.all_eq_true_iff_forall_mem.1 hn e he
  simp only [hb, Bool.not_true, Bool.false_or, List.contains_iff_mem] at h1
  exact h _ h1
theorem count_set {listed : Array Bool} {i : Nat} (h : listed.getD i true = false) : (listed.setIfInBounds i true).toList.count false + 1 = listed.toList.count false := by
  have hi : i < listed.size := by
    rcases Nat.lt_or_ge i listed.size with h' | h'
    · exact h'
    · simp [Array.getElem?_eq_none h'] at h
  have he : listed.toList[i]'(by simpa using hi) = false := by simpa [hi] using h
  rw [Array.toList_setIfInBounds, List.count_set (by simpa using hi), he]
  have h1 : 0 < listed.toList.count false := List.count_pos_iff.2 (he ▸ List.getElem_mem _)
  have h2 : (if (false == false) = true then 1 else 0) = 1 := rfl
  have h3 : (if (true == false) = true then 1 else 0) = 0 := rfl
  rw [h2, h3]
  omega
/-- A drawn region by what holds whichever have run. -/
theorem wpAny_inv {P : Program} {ops : Array Oper} {Q : Exit → Act → World → Prop} (I : Array Bool → Act → World → Prop)
    (step : ∀ listed a w, I listed a w → ∀ i o, i ∈ Region.ready .any ops listed → listed.getD i true = false → ops[i]? = some o → wpOp P ops Q i (I (listed.setIfInBounds i true)) a w)
    (fin : ∀ listed a w, I listed a w → Region.ready .any ops listed = [] → Q .normal a w) :
    ∀ (fuel : Nat) (listed : Array Bool) (a : Act) (w : World), listed.toList.count false ≤ fuel → I listed a w → wpAny P .any ops Q fuel listed a w := by
  intro fuel
  induction fuel with
  | zero =>
    intro listed a w hc hI
    have hr : Region.ready .any ops listed = [] := by
      cases hr : Region.ready .any ops listed with
      | nil => rfl
      | cons i t =>
        have hi : i ∈ Region.ready .any ops listed := by rw [hr]; simp
        have := count_set (mem_ready.1 hi).1
        omega
    exact ⟨hr, fin _ _ _ hI hr⟩
  | succ fuel ih =>
    intro listed a w hc hI
    refine ⟨fin _ _ _ hI, fun i hi => ?_⟩
    obtain ⟨h0, o, ho, _⟩ := mem_ready.1 hi
    have := count_set h0
    exact wpOp_mono (fun a' w' h' => ih _ _ _ (by omega) h') (step _ _ _ hI i o hi h0 ho)
/-- What an operation without a guard comes to. -/
theorem wpOp_of {P : Program} {ops : Array Oper} {Q : Exit → Act → World → Prop} {i : Nat} {o : Oper} {K : Act → World → Prop} {a : Act} {w : World} (ho : ops[i]? = some o) (hg : o.guard = none) (h : o.wp P a w K Q) : wpOp P ops Q i K a w := by
  unfold wpOp
  rw [ho]
  simp only
  have hw : Region.wanted o (yielded ops a.tmps) = true := by unfold Region.wanted; rw [hg]
  rw [if_pos hw]
  exact .inl h
/-- a is a0 but for these slots. -/
structure Slots (a0 a : Act) (D : List Nat) (X : Nat → Value) : Prop where
  defers : a.defers = a0.defers
  size : a.tmps.size = a0.tmps.size
  inn : ∀ t ∈ D, a.tmps[t]? = some (X t)
  out : ∀ t, t ∉ D → a.tmps[t]? = a0.tmps[t]?
theorem Slots.put {a0 a : Act} {D : List Nat} {X : Nat → Value} (h : Slots a0 a D X) {d : Nat} (hd : d ∈ D) (v : Value) : Slots a0 (a.put (some d) v) D (upd X d v) := by
  have hl : d < a.tmps.size := (Array.getElem?_eq_some_iff.1 (h.inn d hd)).1
  refine ⟨h.defers, ?_, fun t ht => ?_, fun t ht => ?_⟩
  · show (a.tmps.setIfInBounds d v).size = _
    rw [Array.size_setIfInBounds]; exact h.size
  · show (a.tmps.setIfInBounds d v)[t]? = _
    by_cases e : t = d
    · subst e; simp [hl]
    · rw [Array.getElem?_setIfInBounds_ne (Ne.symm e), upd_ne _ _ e]; exact h.inn t ht
  · show (a.tmps.setIfInBounds d v)[t]? = _
    have e : d ≠ t := by rintro rfl; exact ht hd
    rw [Array.getElem?_setIfInBounds_ne e]; exact h.out t ht
theorem Slots.eval {a0 a : Act} {D : List Nat} {X : Nat → Value} (h : Slots a0 a D X) {d : Nat} (hd : d ∈ D) : a.eval (.tmp d) = X d := by
  simp [Act.eval, h.inn d hd]
theorem Slots.eval_out {a0 a : Act} {D : List Nat} {X : Nat → Value} (h : Slots a0 a D X) {d : Nat} (hd : d ∉ D) : a.eval (.tmp d) = a0.eval (.tmp d) := by
  simp [Act.eval, h.out d hd]
theorem Slots.start {a0 : Act} {D : List Nat} (h : ∀ t ∈ D, t < a0.tmps.size) : Slots a0 a0 D (fun t => a0.eval (.tmp t)) :=
  ⟨rfl, rfl, fun t ht => by have := h t ht; simp [Act.eval, this], fun _ _ => rfl⟩
def putL (a : Act) : List (Nat × Value) → Act
  | [] => a
  | (d, v) :: r => putL (a.put (some d) v) r
/-- What stands in the six slots that the region writes. -/
theorem Slots.eq6 {a0 a : Act} {X : Nat → Value} {d1 d2 d3 d4 d5 d6 : Nat} (h : Slots a0 a [d1, d2, d3, d4, d5, d6] X) (hd : [d1, d2, d3, d4, d5, d6].Nodup) :
    a = (((((a0.put (some d1) (X d1)).put (some d2) (X d2)).put (some d3) (X d3)).put (some d4) (X d4)).put (some d5) (X d5)).put (some d6) (X d6) := by
  have hs : ∀ t ∈ [d1, d2, d3, d4, d5, d6], t < a0.tmps.size := fun t ht => by rw [← h.size]; exact (Array.getElem?_eq_some_iff.1 (h.inn t ht)).1
  have S0 := (Slots.start hs)
  have S6 := (((((S0.put (d := d1) (by simp) (X d1)).put (d := d2) (by simp) (X d2)).put (d := d3) (by simp) (X d3)).put (d := d4) (by simp) (X d4)).put (d := d5) (by simp) (X d5)).put (d := d6) (by simp) (X d6)
  have hX : ∀ t ∈ [d1, d2, d3, d4, d5, d6], upd (upd (upd (upd (upd (upd (fun t => a0.eval (.tmp t)) d1 (X d1)) d2 (X d2)) d3 (X d3)) d4 (X d4)) d5 (X d5)) d6 (X d6) t = X t := fun t ht => by
    simp only [List.mem_cons, List.not_mem_nil, or_false] at ht
    unfold upd
    rcases ht with rfl | rfl | rfl | rfl | rfl | rfl <;> (repeat' split) <;> simp_all
  generalize ((((((a0.put (some d1) (X d1)).put (some d2) (X d2)).put (some d3) (X d3)).put (some d4) (X d4)).put (some d5) (X d5)).put (some d6) (X d6)) = a' at S6
  have ht : a.tmps = a'.tmps := Array.ext_getElem? fun t => by
    by_cases ht : t ∈ [d1, d2, d3, d4, d5, d6]
    · rw [h.inn t ht, S6.inn t ht, hX t ht]
    · rw [h.out t ht, S6.out t ht]
  have hdf : a.defers = a'.defers := h.defers.trans S6.defers.symm
  cases a; cases a'
  simp only at ht hdf
  rw [ht, hdf]

/-- What holds of the eight operations, whichever have run. -/
structure TwoI (n : Nat) (ty : TypeId) (z : Array Value) (C : Value → Array Value) (R1 R2 : Value → World → Prop) (vx vy : Value) (w0 : World) (b0 b1 b2 b3 b4 b5 b6 b7 : Bool) (x17 x18 x19 x20 x7 x8 : Value) (w : World) : Prop where
  low : Below n w0 w
  e0 : b0 = true → x17 = vx
  e1 : b1 = true → R1 x18 w
  e2 : b2 = true → x19 = vy
  e3 : b3 = true → R2 x20 w
  e4 : b4 = true → ∃ p, x7 = .pointer (some ⟨p, 0, none⟩) ∧ n ≤ p ∧ Blk w p (if b6 then C x18 else z) ty
  e5 : b5 = true → ∃ q, x8 = .pointer (some ⟨q, 0, none⟩) ∧ n ≤ q ∧ Blk w q (if b7 then C x20 else z) ty
  ne : b4 = true → b5 = true → x7 ≠ x8
  o6 : b6 = true → b1 = true ∧ b3 = true ∧ b4 = true ∧ b5 = true
  o7 : b7 = true → b6 = true

theorem two_boxes {P : Program} {Q : Exit → Act → World → Prop} {id : Nat} (hm : P.follows .mixedOrders = true) {o0 o1 o2 o3 o4 o5 o6 o7 : Oper} {d17 d18 d19 d20 d7 d8 t3 t4 : Nat} {ty : TypeId} {f : FuncId}
    {a0 : Act} {w : World} {vx vy : Value} {z : Array Value} (C : Value → Array Value) (R1 R2 : Value → World → Prop)
    (hd : [d17, d18, d19, d20, d7, d8].Nodup) (hs : ∀ t ∈ [d17, d18, d19, d20, d7, d8], t < a0.tmps.size) (h3 : t3 ∉ [d17, d18, d19, d20, d7, d8]) (h4 : t4 ∉ [d17, d18, d19, d20, d7, d8])
    (k0 : o0.op = .load ty (.tmp t3) ∧ o0.dst = some d17 ∧ o0.guard = none ∧ only o0 [] = true)
    (k1 : o1.dst = some d18 ∧ o1.guard = none ∧ needs o1 [0] = true ∧ only o1 [0] = true)
    (k2 : o2.op = .load ty (.tmp t4) ∧ o2.dst = some d19 ∧ o2.guard = none ∧ only o2 [] = true)
    (k3 : o3.dst = some d20 ∧ o3.guard = none ∧ needs o3 [1, 2] = true ∧ only o3 [0, 1, 2] = true)
    (k4 : o4.op = .alloc ty ∧ o4.dst = some d7 ∧ o4.guard = none ∧ only o4 [] = true)
    (k5 : o5.op = .alloc ty ∧ o5.dst = some d8 ∧ o5.guard = none ∧ only o5 [] = true)
    (k6 : o6.op = .store ty (.tmp d7) (.tmp d18) ∧ o6.dst = none ∧ o6.guard = none ∧ needs o6 [1, 3, 4, 5] = true ∧ only o6 [0, 1, 2, 3, 4, 5] = true)
    (k7 : o7.op = .store ty (.tmp d8) (.tmp d20) ∧ o7.dst = none ∧ o7.guard = none ∧ needs o7 [6] = true ∧ only o7 [0, 1, 2, 3, 4, 5, 6] = true)
    (l3 : ∀ w', Below w.heap.size w w' → (Instr.loadAt ty (a0.eval (.tmp t3))).run P w' = .ok vx w')
    (l4 : ∀ w', Below w.heap.size w w' → (Instr.loadAt ty (a0.eval (.tmp t4))).run P w' = .ok vy w')
    (c1 : ∀ a : Act, a.eval (.tmp d17) = vx → ∀ w', (execOp a.eval o1).run P w' = .ok (.enter f #[vx]) w')
    (c3 : ∀ a : Act, a.eval (.tmp d19) = vy → ∀ w', (execOp a.eval o3).run P w' = .ok (.enter f #[vy]) w')
    (own1 : ∀ w', Below w.heap.size w w' → Calls P f #[vx] w' fun e w'' => ∃ v, e = .returned v ∧ R1 v w'' ∧ Below w'.heap.size w' w'')
    (own2 : ∀ w', Below w.heap.size w w' → Calls P f #[vy] w' fun e w'' => ∃ v, e = .returned v ∧ R2 v w'' ∧ Below w'.heap.size w' w'')
    (al : ∀ w', (Instr.alloc ty true (.tuple #[])).run P w' = .ok (.pointer (some ⟨w'.heap.size, 0, none⟩)) (w'.alloc (.cells z ty)))
    (r1 : ∀ v w' w'', R1 v w' → Below w'.heap.size w' w'' → R1 v w'') (r2 : ∀ v w' w'', R2 v w' → Below w'.heap.size w' w'' → R2 v w'')
    (s1 : ∀ v w' w'' p c, R1 v w' → Blk w' p c ty → ButR (fun b => b = p) w' w'' → R1 v w'') (s2 : ∀ v w' w'' p c, R2 v w' → Blk w' p c ty → ButR (fun b => b = p) w' w'' → R2 v w'')
    (st1 : ∀ v w' p, R1 v w' → Blk w' p z ty → ∃ w'', (Instr.storeAt ty (.pointer (some ⟨p, 0, none⟩)) v).run P w' = .ok () w'' ∧ Blk w'' p (C v) ty ∧ ButR (fun b => b = p) w' w'')
    (st2 : ∀ v w' p, R2 v w' → Blk w' p z ty → ∃ w'', (Instr.storeAt ty (.pointer (some ⟨p, 0, none⟩)) v).run P w' = .ok () w'' ∧ Blk w'' p (C v) ty ∧ ButR (fun b => b = p) w' w'')
    (fin : ∀ v1 v2 p q w', R1 v1 w' → R2 v2 w' → Blk w' p (C v1) ty → Blk w' q (C v2) ty → p ≠ q → w.heap.size ≤ p → w.heap.size ≤ q → Below w.heap.size w w' →
      Q .normal ((((((a0.put (some d17) vx).put (some d18) v1).put (some d19) vy).put (some d20) v2).put (some d7) (.pointer (some ⟨p, 0, none⟩))).put (some d8) (.pointer (some ⟨q, 0, none⟩))) w') :
    (Code.region id #[o0, o1, o2, o3, o4, o5, o6, o7] true).wp P Q a0 w := by
  have nd := hd
  simp only [List.nodup_cons, List.mem_cons, List.not_mem_nil, or_false, not_or, not_false_eq_true, List.nodup_nil, and_true] at nd
  obtain ⟨⟨n1, n2, n3, n4, n5⟩, ⟨n6, n7, n8, n9⟩, ⟨n10, n11, n12⟩, ⟨n13, n14⟩, n15⟩ := nd
  refine wp_region_any hm (wpAny_inv (fun listed a w' => ∃ b0 b1 b2 b3 b4 b5 b6 b7 X, listed = #[b0, b1, b2, b3, b4, b5, b6, b7] ∧ Slots a0 a [d17, d18, d19, d20, d7, d8] X ∧
    TwoI w.heap.size ty z C R1 R2 vx vy w b0 b1 b2 b3 b4 b5 b6 b7 (X d17) (X d18) (X d19) (X d20) (X d7) (X d8) w') ?step ?fin _ _ _ _ (by simp) ?start)
  case start =>
    exact ⟨false, false, false, false, false, false, false, false, _, rfl, Slots.start hs, (Below.refl _ _).drew, by simp, by simp, by simp, by simp, by simp, by simp, by simp, by simp, by simp⟩
  case fin =>
    rintro listed a w' ⟨b0, b1, b2, b3, b4, b5, b6, b7, X, rfl, hS, hI⟩ hr
    have no : ∀ j, j ∉ Region.ready .any #[o0, o1, o2, o3, o4, o5, o6, o7] #[b0, b1, b2, b3, b4, b5, b6, b7] := by rw [hr]; simp
    have B0 : b0 = true := by
      cases b0 with
      | true => rfl
      | false => exact (no 0 (only_ready rfl rfl k0.2.2.2 (by simp))).elim
    have B2 : b2 = true := by
      cases b2 with
      | true => rfl
      | false => exact (no 2 (only_ready rfl rfl k2.2.2.2 (by simp))).elim
    have B4 : b4 = true := by
      cases b4 with
      | true => rfl
      | false => exact (no 4 (only_ready rfl rfl k4.2.2.2 (by simp))).elim
    have B5 : b5 = true := by
      cases b5 with
      | true => rfl
      | false => exact (no 5 (only_ready rfl rfl k5.2.2.2 (by simp))).elim
    subst B0 B2 B4 B5
    have B1 : b1 = true := by
      cases b1 with
      | true => rfl
      | false => exact (no 1 (only_ready rfl rfl k1.2.2.2 (by simp))).elim
    subst B1
    have B3 : b3 = true := by
      cases b3 with
      | true => rfl
      | false => exact (no 3 (only_ready rfl rfl k3.2.2.2 (by simp))).elim
    subst B3
    have B6 : b6 = true := by
      cases b6 with
      | true => rfl
      | false => exact (no 6 (only_ready rfl rfl k6.2.2.2.2 (by simp))).elim
    subst B6
    have B7 : b7 = true := by
      cases b7 with
      | true => rfl
      | false => exact (no 7 (only_ready rfl rfl k7.2.2.2.2 (by simp))).elim
    subst B7
    obtain ⟨p, hp, hp1, hp2⟩ := hI.e4 rfl
    obtain ⟨q, hq, hq1, hq2⟩ := hI.e5 rfl
    have hne := hI.ne rfl rfl
    rw [hS.eq6 hd, hI.e0 rfl, hI.e2 rfl, hp, hq]
    exact fin _ _ p q w' (hI.e1 rfl) (hI.e3 rfl) (by simpa using hp2) (by simpa using hq2) (by rintro rfl; exact hne (hp.trans hq.symm)) hp1 hq1 hI.low
  case step =>
    rintro listed a w' ⟨b0, b1, b2, b3, b4, b5, b6, b7, X, rfl, hS, hI⟩ i o hi h0 ho
    have hi8 : i < 8 := (Array.getElem?_eq_some_iff.1 ho).1
    match i, hi8 with
    | 0, _ =>
      have he : o = o0 := (Option.some.inj ho).symm
      subst he
      have r := l3 w' hI.low
      rw [← hS.eval_out h3] at r
      refine wpOp_of (o := o) rfl k0.2.2.1 ?_
      have e : (execOp a.eval o).run P w' = .ok (.value vx) w' := by
        unfold execOp
        simp only [k0.1]
        simp [r]
      unfold Oper.wp
      rw [e, Oper.upon_value, k0.2.1]
      refine ⟨true, b1, b2, b3, b4, b5, b6, b7, _, rfl, hS.put (d := d17) (by simp) _, ?_⟩
      rw [upd_same, upd_ne X _ (show d18 ≠ d17 from (Ne.symm n1)), upd_ne X _ (show d19 ≠ d17 from (Ne.symm n2)), upd_ne X _ (show d20 ≠ d17 from (Ne.symm n3)), upd_ne X _ (show d7 ≠ d17 from (Ne.symm n4)), upd_ne X _ (show d8 ≠ d17 from (Ne.symm n5))]
      exact { hI with e0 := fun _ => rfl }
    | 1, _ =>
      have he : o = o1 := (Option.some.inj ho).symm
      subst he
      have hb : b1 = false := h0
      have hx := hI.e0 (needs_listed hi rfl k1.2.2.1 (i := 0) (by simp))
      have h6 : b6 = false := by
        cases h : b6 with
        | false => rfl
        | true => have := hI.o6 h; simp [hb] at this
      have h7 : b7 = false := by
        cases h : b7 with
        | false => rfl
        | true => have := hI.o7 h; simp [h6] at this
      subst h6 h7
      refine wpOp_of (o := o) rfl k1.2.1 ?_
      unfold Oper.wp
      rw [c1 a ((hS.eval (d := d17) (by simp)).trans hx), Oper.upon_enter]
      refine (own1 w' hI.low).mono ?_
      rintro en w'' ⟨v, rfl, hR, hB⟩
      show ∃ _, _
      rw [k1.1]
      refine ⟨b0, true, b2, b3, b4, b5, false, false, _, rfl, hS.put (d := d18) (by simp) _, ?_⟩
      rw [upd_ne X _ (show d17 ≠ d18 from n1), upd_same, upd_ne X _ (show d19 ≠ d18 from (Ne.symm n6)), upd_ne X _ (show d20 ≠ d18 from (Ne.symm n7)), upd_ne X _ (show d7 ≠ d18 from (Ne.symm n8)), upd_ne X _ (show d8 ≠ d18 from (Ne.symm n9))]
      exact ⟨hI.low.trans (hB.mono hI.low.size), hI.e0, fun _ => hR, hI.e2, fun h => r2 _ _ _ (hI.e3 h) hB, fun h => by obtain ⟨p, x1, x2, x3⟩ := hI.e4 h; exact ⟨p, x1, x2, x3.later hB⟩, fun h => by obtain ⟨p, x1, x2, x3⟩ := hI.e5 h; exact ⟨p, x1, x2, x3.later hB⟩, hI.ne, by simp, by simp⟩
    | 2, _ =>
      have he : o = o2 := (Option.some.inj ho).symm
      subst he
      have r := l4 w' hI.low
      rw [← hS.eval_out h4] at r
      refine wpOp_of (o := o) rfl k2.2.2.1 ?_
      have e : (execOp a.eval o).run P w' = .ok (.value vy) w' := by
        unfold execOp
        simp only [k2.1]
        simp [r]
      unfold Oper.wp
      rw [e, Oper.upon_value, k2.2.1]
      refine ⟨b0, b1, true, b3, b4, b5, b6, b7, _, rfl, hS.put (d := d19) (by simp) _, ?_⟩
      rw [upd_ne X _ (show d17 ≠ d19 from n2), upd_ne X _ (show d18 ≠ d19 from n6), upd_same, upd_ne X _ (show d20 ≠ d19 from (Ne.symm n10)), upd_ne X _ (show d7 ≠ d19 from (Ne.symm n11)), upd_ne X _ (show d8 ≠ d19 from (Ne.symm n12))]
      exact { hI with e2 := fun _ => rfl }
    | 3, _ =>
      have he : o = o3 := (Option.some.inj ho).symm
      subst he
      have hb : b3 = false := h0
      have hx := hI.e2 (needs_listed hi rfl k3.2.2.1 (i := 2) (by simp))
      have h6 : b6 = false := by
        cases h : b6 with
        | false => rfl
        | true => have := hI.o6 h; simp [hb] at this
      have h7 : b7 = false := by
        cases h : b7 with
        | false => rfl
        | true => have := hI.o7 h; simp [h6] at this
      subst h6 h7
      refine wpOp_of (o := o) rfl k3.2.1 ?_
      unfold Oper.wp
      rw [c3 a ((hS.eval (d := d19) (by simp)).trans hx), Oper.upon_enter]
      refine (own2 w' hI.low).mono ?_
      rintro en w'' ⟨v, rfl, hR, hB⟩
      show ∃ _, _
      rw [k3.1]
      refine ⟨b0, b1, b2, true, b4, b5, false, false, _, rfl, hS.put (d := d20) (by simp) _, ?_⟩
      rw [upd_ne X _ (show d17 ≠ d20 from n3), upd_ne X _ (show d18 ≠ d20 from n7), upd_ne X _ (show d19 ≠ d20 from n10), upd_same, upd_ne X _ (show d7 ≠ d20 from (Ne.symm n13)), upd_ne X _ (show d8 ≠ d20 from (Ne.symm n14))]
      exact ⟨hI.low.trans (hB.mono hI.low.size), hI.e0, fun h => r1 _ _ _ (hI.e1 h) hB, hI.e2, fun _ => hR, fun h => by obtain ⟨p, x1, x2, x3⟩ := hI.e4 h; exact ⟨p, x1, x2, x3.later hB⟩, fun h => by obtain ⟨p, x1, x2, x3⟩ := hI.e5 h; exact ⟨p, x1, x2, x3.later hB⟩, hI.ne, by simp, by simp⟩
    | 4, _ =>
      have he : o = o4 := (Option.some.inj ho).symm
      subst he
      have hb : b4 = false := h0
      have h6 : b6 = false := by
        cases h : b6 with
        | false => rfl
        | true => have := hI.o6 h; simp [hb] at this
      have h7 : b7 = false := by
        cases h : b7 with
        | false => rfl
        | true => have := hI.o7 h; simp [h6] at this
      subst h6 h7
      have hB : Below w'.heap.size w' (w'.alloc (.cells z ty)) := (Below.refl _ _).alloc (Nat.le_refl _) _
      refine wpOp_of (o := o) rfl k4.2.2.1 ?_
      have e : (execOp a.eval o).run P w' = .ok (.value (.pointer (some ⟨w'.heap.size, 0, none⟩))) (w'.alloc (.cells z ty)) := by
        unfold execOp
        simp only [k4.1]
        simp [al]
      unfold Oper.wp
      rw [e, Oper.upon_value, k4.2.1]
      refine ⟨b0, b1, b2, b3, true, b5, false, false, _, rfl, hS.put (d := d7) (by simp) _, ?_⟩
      rw [upd_ne X _ (show d17 ≠ d7 from n4), upd_ne X _ (show d18 ≠ d7 from n8), upd_ne X _ (show d19 ≠ d7 from n11), upd_ne X _ (show d20 ≠ d7 from n13), upd_same, upd_ne X _ (show d8 ≠ d7 from (Ne.symm n15))]
      exact ⟨hI.low.trans (hB.mono hI.low.size), hI.e0, fun h => r1 _ _ _ (hI.e1 h) hB, hI.e2, fun h => r2 _ _ _ (hI.e3 h) hB, fun _ => ⟨_, rfl, hI.low.size, Blk.new _ _ _⟩, fun h => by obtain ⟨p, x1, x2, x3⟩ := hI.e5 h; exact ⟨p, x1, x2, x3.later hB⟩, fun _ h => by
        obtain ⟨p, x1, _, x3⟩ := hI.e5 h
        rw [x1]
        intro hc
        have hp := x3.lt
        injection hc with hc
        injection hc with hc
        injection hc with hc
        omega, by simp, by simp⟩
    | 5, _ =>
      have he : o = o5 := (Option.some.inj ho).symm
      subst he
      have hb : b5 = false := h0
      have h6 : b6 = false := by
        cases h : b6 with
        | false => rfl
        | true => have := hI.o6 h; simp [hb] at this
      have h7 : b7 = false := by
        cases h : b7 with
        | false => rfl
        | true => have := hI.o7 h; simp [h6] at this
      subst h6 h7
      have hB : Below w'.heap.size w' (w'.alloc (.cells z ty)) := (Below.refl _ _).alloc (Nat.le_refl _) _
      refine wpOp_of (o := o) rfl k5.2.2.1 ?_
      have e : (execOp a.eval o).run P w' = .ok (.value (.pointer (some ⟨w'.heap.size, 0, none⟩))) (w'.alloc (.cells z ty)) := by
        unfold execOp
        simp only [k5.1]
        simp [al]
      unfold Oper.wp
      rw [e, Oper.upon_value, k5.2.1]
      refine ⟨b0, b1, b2, b3, b4, true, false, false, _, rfl, hS.put (d := d8) (by simp) _, ?_⟩
      rw [upd_ne X _ (show d17 ≠ d8 from n5), upd_ne X _ (show d18 ≠ d8 from n9), upd_ne X _ (show d19 ≠ d8 from n12), upd_ne X _ (show d20 ≠ d8 from n14), upd_ne X _ (show d7 ≠ d8 from n15), upd_same]
      exact ⟨hI.low.trans (hB.mono hI.low.size), hI.e0, fun h => r1 _ _ _ (hI.e1 h) hB, hI.e2, fun h => r2 _ _ _ (hI.e3 h) hB, fun h => by obtain ⟨p, x1, x2, x3⟩ := hI.e4 h; exact ⟨p, x1, x2, x3.later hB⟩, fun _ => ⟨_, rfl, hI.low.size, Blk.new _ _ _⟩, fun h _ => by
        obtain ⟨p, x1, _, x3⟩ := hI.e4 h
        rw [x1]
        intro hc
        have hp := x3.lt
        injection hc with hc
        injection hc with hc
        injection hc with hc
        omega, by simp, by simp⟩
    | 6, _ =>
      have he : o = o6 := (Option.some.inj ho).symm
      subst he
      have hb : b6 = false := h0
      have L : b1 = true ∧ b3 = true ∧ b4 = true ∧ b5 = true := ⟨needs_listed hi rfl k6.2.2.2.1 (i := 1) (by simp), needs_listed hi rfl k6.2.2.2.1 (i := 3) (by simp), needs_listed hi rfl k6.2.2.2.1 (i := 4) (by simp), needs_listed hi rfl k6.2.2.2.1 (i := 5) (by simp)⟩
      obtain ⟨rfl, rfl, rfl, rfl⟩ := L
      have h7 : b7 = false := by
        cases h : b7 with
        | false => rfl
        | true => have := hI.o7 h; simp [hb] at this
      subst hb h7
      obtain ⟨p, p1, p2, p3⟩ := hI.e4 rfl
      obtain ⟨q, q1, q2, q3⟩ := hI.e5 rfl
      have hpq : p ≠ q := by rintro rfl; exact hI.ne rfl rfl (p1.trans q1.symm)
      simp only [Bool.false_eq_true, if_false] at p3 q3
      obtain ⟨w'', r, hB, hR⟩ := st1 _ w' _ (hI.e1 rfl) p3
      have e : (execOp a.eval o).run P w' = .ok .skip w'' := by
        unfold execOp
        simp only [k6.1, hS.eval (d := d7) (by simp), hS.eval (d := d18) (by simp), p1]
        simp [r]
      refine wpOp_of (o := o) rfl k6.2.2.1 ?_
      unfold Oper.wp
      rw [e, Oper.upon_skip, k6.2.1]
      refine ⟨b0, true, b2, true, true, true, true, false, X, rfl, hS, ?_⟩
      exact ⟨hI.low.trans (hR.below (by rintro b rfl; exact p2) hI.low.size), hI.e0, fun h => s1 _ _ _ _ _ (hI.e1 h) p3 hR, hI.e2, fun h => s2 _ _ _ _ _ (hI.e3 h) p3 hR,
        fun _ => ⟨p, p1, p2, hB⟩, fun _ => ⟨q, q1, q2, hR.blk q3 (Ne.symm hpq)⟩, hI.ne, by simp, by simp⟩
    | 7, _ =>
      have he : o = o7 := (Option.some.inj ho).symm
      subst he
      have hb : b7 = false := h0
      have L : b1 = true ∧ b3 = true ∧ b4 = true ∧ b5 = true := hI.o6 (needs_listed hi rfl k7.2.2.2.1 (i := 6) (by simp))
      obtain ⟨rfl, rfl, rfl, rfl⟩ := L
      have h6 : b6 = true := needs_listed hi rfl k7.2.2.2.1 (i := 6) (by simp)
      subst hb h6
      obtain ⟨p, p1, p2, p3⟩ := hI.e4 rfl
      obtain ⟨q, q1, q2, q3⟩ := hI.e5 rfl
      have hpq : p ≠ q := by rintro rfl; exact hI.ne rfl rfl (p1.trans q1.symm)
      simp only [Bool.false_eq_true, if_false, if_true] at p3 q3
      obtain ⟨w'', r, hB, hR⟩ := st2 _ w' _ (hI.e3 rfl) q3
      have e : (execOp a.eval o).run P w' = .ok .skip w'' := by
        unfold execOp
        simp only [k7.1, hS.eval (d := d8) (by simp), hS.eval (d := d20) (by simp), q1]
        simp [r]
      refine wpOp_of (o := o) rfl k7.2.2.1 ?_
      unfold Oper.wp
      rw [e, Oper.upon_skip, k7.2.1]
      refine ⟨b0, true, b2, true, true, true, true, true, X, rfl, hS, ?_⟩
      exact ⟨hI.low.trans (hR.below (by rintro b rfl; exact q2) hI.low.size), hI.e0, fun h => s1 _ _ _ _ _ (hI.e1 h) q3 hR, hI.e2, fun h => s2 _ _ _ _ _ (hI.e3 h) q3 hR,
        fun _ => ⟨p, p1, p2, hR.blk p3 hpq⟩, fun _ => ⟨q, q1, q2, hB⟩, hI.ne, by simp, by simp⟩
    | j + 8, h => omega
end Go.Proofs.Kit

