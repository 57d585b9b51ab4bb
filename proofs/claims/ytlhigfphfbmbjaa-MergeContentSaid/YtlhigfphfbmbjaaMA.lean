import Derived.Test.YtlhigfphfbmbjaaKit
import Derived.Orders
import Derived.Test.YtlhigfphfbmbjaaM2
import Derived.Test.YtlhigfphfbmbjaaN13
import Derived.Laws.EntriesVeiled
import Derived.Test.YtlhigfphfbmbjaaM0
/- A region that draws its order, by one invariant: whatever operation comes up, the invariant holds behind it. No program is named here. -/
namespace Go.Proofs.Kit
open Go.RowKit
section
variable {P : Program} {ops : Array Oper} {Q : Exit → Act → World → Prop} {md : Region.Mode}
/-- One more has come up. -/
def upd (L : Nat → Bool) (i : Nat) : Nat → Bool := fun j => if j = i then true else L j
theorem upd_same (L : Nat → Bool) (i : Nat) : upd L i i = true := if_pos rfl
theorem upd_ne (L : Nat → Bool) {i j : Nat} (h : j ≠ i) : upd L i j = L j := if_neg h
def lst (listed : Array Bool) : Nat → Bool := fun j => listed.getD j false
theorem lst_set {listed : Array Bool} {i : Nat} (hi : i < listed.size) : lst (listed.setIfInBounds i true) = upd (lst listed) i := by
  funext j
  unfold lst upd
  by_cases h : j = i
  · subst h
    simp [hi]
  · rw [if_neg h]
    simp [Array.getElem?_setIfInBounds_ne (Ne.symm h)]
def cntF (l : List Bool) : Nat := l.count false
theorem ready_none {listed : Array Bool} (hs : listed.size = ops.size) (hlow : ∀ (i : Nat) (o : Oper), ops[i]? = some o → ∀ e ∈ o.after, e.on < i) (h : Region.ready md ops listed = []) : ∀ i, i < ops.size → lst listed i = true := by
  intro i
  induction i using Nat.strongRecOn with
  | _ i ih =>
    intro hi
    cases hc : lst listed i with
    | true => rfl
    | false =>
      have hm : i ∈ Region.ready md ops listed := by
        rw [mem_ready]
        refine ⟨?_, ops[i], Array.getElem?_eq_getElem hi, fun e he _ => ih e.on (hlow i _ (Array.getElem?_eq_getElem hi) e he) (by have := hlow i _ (Array.getElem?_eq_getElem hi) e he; omega)⟩
        unfold lst at hc
        rw [← hs] at hi
        simp [hi] at hc ⊢
        exact hc
      rw [h] at hm
      cases hm
theorem wpAny_inv {Inv : (Nat → Bool) → Act → World → Prop} (hlow : ∀ (i : Nat) (o : Oper), ops[i]? = some o → ∀ e ∈ o.after, e.on < i)
    (hstep : ∀ (L : Nat → Bool) (a : Act) (w : World) (i : Nat) (o : Oper), Inv L a w → L i = false → ops[i]? = some o → (∀ e ∈ o.after, Region.binds md e = true → L e.on = true) → if Region.wanted o (yielded ops a.tmps) then o.wp P a w (fun a' w' => Inv (upd L i) a' w') Q else Inv (upd L i) (a.put o.dst undef) w)
    (hdone : ∀ (L : Nat → Bool) (a : Act) (w : World), Inv L a w → (∀ i, i < ops.size → L i = true) → Q .normal a w) :
    ∀ (fuel : Nat) (listed : Array Bool) (a : Act) (w : World), listed.size = ops.size → cntF listed.toList ≤ fuel → Inv (lst listed) a w → wpAny P md ops Q fuel listed a w
  | 0, listed, a, w, hs, hc, hi => by
    have hall : Region.ready md ops listed = [] := by
      apply List.eq_nil_iff_forall_not_mem.2
      intro j hj
      obtain ⟨h1, _⟩ := mem_ready.1 hj
      have hm : false ∈ listed.toList := by
        by_cases hjs : j < listed.size
        · simp [hjs] at h1
          have := Array.getElem_mem hjs
          rw [h1] at this
          simpa using this
        · simp [Array.getElem?_eq_none (Nat.le_of_not_lt hjs)] at h1
      have := List.count_pos_iff.2 hm
      unfold cntF at hc
      omega
    exact ⟨hall, hdone _ _ _ hi (ready_none hs hlow hall)⟩
  | fuel + 1, listed, a, w, hs, hc, hi => by
    refine ⟨fun hall => hdone _ _ _ hi (ready_none hs hlow hall), fun j hj => ?_⟩
    obtain ⟨h1, o, ho, h2⟩ := mem_ready.1 hj
    have hjo : j < ops.size := (Array.getElem?_eq_some_iff.1 ho).1
    have hjs : j < listed.size := by omega
    have hjf : listed[j] = false := by simpa [hjs] using h1
    have hL : lst listed j = false := by unfold lst; simp [hjs, hjf]
    have hcnt : cntF (listed.setIfInBounds j true).toList ≤ fuel := by
      unfold cntF at hc ⊢
      rw [Array.toList_setIfInBounds, List.count_set (by simpa using hjs)]
      have hp : 0 < listed.toList.count false := List.count_pos_iff.2 (by rw [← hjf]; simp)
      simp only [Array.getElem_toList, hjf, beq_self_eq_true, if_true]
      have : ((true : Bool) == false) = false := rfl
      simp only [this, Bool.false_eq_true, if_false]
      omega
    have hk := hstep (lst listed) a w j o hi hL ho (fun e he hb => h2 e he hb)
    unfold wpOp
    rw [ho]
    simp only
    split
    · rename_i hw
      rw [if_pos hw] at hk
      refine .inl (Oper.wp_mono (fun a' w' h => ?_) hk)
      exact wpAny_inv hlow hstep hdone fuel _ a' w' (by simpa using hs) hcnt (by rw [lst_set hjs]; exact h)
    · rename_i hw
      rw [if_neg hw] at hk
      exact wpAny_inv hlow hstep hdone fuel _ _ w (by simpa using hs) hcnt (by rw [lst_set hjs]; exact hk)
def lowB (ops : Array Oper) : Bool := (List.range ops.size).all fun i => ((ops[i]?).map fun o => o.after.all fun e => decide (e.on < i)).getD true
theorem lowB_spec {ops : Array Oper} (h : lowB ops = true) : ∀ (i : Nat) (o : Oper), ops[i]? = some o → ∀ e ∈ o.after, e.on < i := by
  intro i o ho e he
  unfold lowB at h
  rw [List.all_eq_true] at h
  have := h i (List.mem_range.2 (Array.getElem?_eq_some_iff.1 ho).1)
  rw [ho] at this
  simp only [Option.map_some, Option.getD_some, Array.all_eq_true_iff_forall_mem, decide_eq_true_eq] at this
  exact this e he
/-- The law. -/
theorem wp_region_inv {id : Nat} {a : Act} {w : World} (hm : P.follows .mixedOrders = true) {Inv : (Nat → Bool) → Act → World → Prop} (hl : lowB ops = true)
    (h0 : Inv (fun _ => false) a w.drew)
    (hstep : ∀ (L : Nat → Bool) (a : Act) (w : World) (i : Nat) (o : Oper), Inv L a w → L i = false → ops[i]? = some o → (∀ e ∈ o.after, Region.binds .any e = true → L e.on = true) → if Region.wanted o (yielded ops a.tmps) then o.wp P a w (fun a' w' => Inv (upd L i) a' w') Q else Inv (upd L i) (a.put o.dst undef) w)
    (hdone : ∀ (L : Nat → Bool) (a : Act) (w : World), Inv L a w → (∀ i, i < ops.size → L i = true) → Q .normal a w) : (Code.region id ops true).wp P Q a w := by
  refine wp_region_any hm (wpAny_inv (lowB_spec hl) hstep hdone _ _ _ _ (by simp) ?_ ?_)
  · unfold cntF
    exact Nat.le_trans (List.count_le_length) (by simp)
  · have : lst (Array.replicate ops.size false) = fun _ => false := by
      funext j
      unfold lst
      by_cases hj : j < ops.size <;> simp [hj]
    rw [this]
    exact h0
end
end Go.Proofs.Kit


/- merge.along, saidBy: whether a pair stands in a row, asked in order alone; what both tiers say of it. -/
namespace Go.Proofs.Kit
open Go.RowKit
/-- Where one stands in a row of this length. -/
structure AL (ti tp : TypeId) (X : World) (bi br : Nat) (v : Value) (l : List Pr) (k : Nat) : Prop where
  i : Blk X bi #[.int .i64 (k : Int)] ti
  r : Blk X br #[v] tp
  le : k ≤ l.length
/-- All ahead of it is less. -/
def Beh (l : List Pr) (k : Nat) (p : Pr) : Prop := ∀ i (h : i < l.length), i < k → lt2 l[i] p
theorem Beh.zero (l : List Pr) (p : Pr) : Beh l 0 p := fun _ _ h => absurd h (Nat.not_lt_zero _)
theorem Beh.next {l : List Pr} {k : Nat} {p : Pr} (h : Beh l k p) (hk : k < l.length) (hl : lt2 l[k] p) : Beh l (k + 1) p := fun i a b => by
  by_cases e : i = k
  · subst e; exact hl
  · exact h i a (by omega)
theorem Beh.mono {l : List Pr} {k : Nat} {p q : Pr} (h : Beh l k p) (hpq : lt2 p q) : Beh l k q := fun i a b => lt2_trans (h i a b) hpq
/-- Whether the pair stands in the row: at that place, or not at all. -/
theorem Beh.mem {l : List Pr} {k : Nat} {p : Pr} (h : Beh l k p) (hr : Run l) (hk : ∀ hk : k < l.length, ¬ lt2 l[k] p) : p ∈ l ↔ ∃ hk : k < l.length, l[k] = p := by
  constructor
  · intro hp
    obtain ⟨i, hi, e⟩ := List.getElem_of_mem hp
    have h1 : ¬ i < k := fun c => by have := h i hi c; rw [e] at this; exact lt2_irrefl _ this
    have h2 : k < l.length := by omega
    refine ⟨h2, ?_⟩
    by_cases e2 : k = i
    · subst e2; exact e
    · have := hr.at h2 hi (by omega)
      rw [e] at this
      exact (hk h2 this).elim
  · rintro ⟨a, rfl⟩
    exact List.getElem_mem a
theorem SegP.but {w w' : World} {v : Value} {l : List Pr} {bi : Nat} {k : Int} {t : TypeId} (h : SegP w v l) (hi : Blk w bi #[.int .i64 k] t) (hb : But bi w w') : SegP w' v l := by
  refine ⟨h.1, ?_⟩
  rcases h.2 with ⟨h1, h2⟩ | ⟨b, f, cap, h1, h2, h3, h4, h5⟩
  · exact .inl ⟨h1, h2⟩
  · refine .inr ⟨b, f, cap, h1, h2, h3, Nat.lt_of_lt_of_le h4 hb.size, ?_⟩
    intro i hi'
    obtain ⟨c0, c1⟩ := h5 i hi'
    have hne : b ≠ bi := by
      rintro rfl
      rw [hi.cell] at c0 c1
      cases hf : f + i * 2 with
      | zero => rw [hf] at c0; simp at c0
      | succ q => rw [hf] at c0; simp at c0
    have hs := hb.same b hne h4
    exact ⟨by rw [← c0]; unfold World.cell?; rw [hs], by rw [← c1]; unfold World.cell?; rw [hs]⟩
end Go.Proofs.Kit
namespace Go.Proofs.Ytlhigfphfbmbjaa
open Go.RowKit Go.Proofs.Kit Go.Shelf
set_option maxRecDepth 100000 in
set_option maxHeartbeats 1000000 in
theorem along_any (o : Option Addr) (n c : Nat) (w : World) : Calls Try.prog 111 #[.slice o n c] w fun e w' => e = .returned (.func (.func 119) #[] #[.pointer (some ⟨w.heap.size + 1, 0, none⟩), .pointer (some ⟨w.heap.size, 0, none⟩)]) ∧
    Blk w' (w.heap.size + 1) #[.int .i64 0] 3 ∧ Blk w' w.heap.size #[.slice o n c] 22 ∧ Gr w w' := by
  have hmf : ∀ (fn : Fn) (first cap : Array Value) (w : World), (Instr.makeFunc fn first cap).run Try.prog w = .ok (.func fn first cap) w := fun _ _ _ _ => rfl
  go_enter Try.func111, Try.ntmps111
  go_wp2
  go_ret
  exact ⟨rfl, by have := Blk.new (w.alloc (.cells #[.slice o n c] 22)) #[.int .i64 0] 3; simpa using this, (Blk.new _ _ _).alloc _, (Gr.alloc _ _).trans (Gr.alloc _ _)⟩
set_option maxRecDepth 100000 in
set_option maxHeartbeats 8000000 in
theorem along1_any (bi br : Nat) (v : Value) (l : List Pr) (k : Nat) (p1 p2 : Int) (w : World) (h : AL 3 22 w bi br v l k) (hs : SegP w v l) (hr : Run l) (hb : Beh l k (p1, p2)) (hl : l.length ≤ 1000000) (r : Bool) (hrr : r = decide ((p1, p2) ∈ l)) :
    Calls Try.prog 119 #[PV p1 p2, .pointer (some ⟨bi, 0, none⟩), .pointer (some ⟨br, 0, none⟩)] w fun e w' => ∃ k', e = .returned (.bool r) ∧ AL 3 22 w' bi br v l k' ∧ Beh l k' (p1, p2) ∧ But bi w w' := by
  have hmix := mixed
  obtain ⟨o, c, rfl, hc, hm, _⟩ := hs.shape
  obtain ⟨n, hn⟩ : ∃ n, n = l.length := ⟨_, rfl⟩
  have hbr : br ≠ bi := fun e => by have h1 := h.i; have h2 := h.r; rw [e] at h2; exact absurd (Blk.ne h1 h2 (by decide)) (by simp)
  have hkn : k ≤ n := by rw [hn]; exact h.le
  rw [← hn] at hs hc hl h ⊢
  have HN := Lib.hid hn
  have HS := Lib.hid hs
  have HR := Lib.hid hr
  have HRR := Lib.hid hrr
  have HB := Lib.hid hb
  have HAL := Lib.hid h
  have HSW := Lib.hid (fun W (hb : But bi w W) => hs.but h.i hb)
  have lbi := h.i.lt
  have lbr := h.r.lt
  clear hs hr hrr hb hn h
  go_enter Try.func119, Try.ntmps119
  go_wp2
  have hb0 : Hid (But bi w (w.alloc (.cells #[.int .u64 p1, .int .u64 p2] 53))) := Lib.hid ((But.refl _ _).alloc _)
  have hp0 : Hid (Blk (w.alloc (.cells #[.int .u64 p1, .int .u64 p2] 53)) w.heap.size #[.int .u64 p1, .int .u64 p2] 53) := Lib.hid (Blk.new _ _ _)
  have hi0 : Hid (Blk (w.alloc (.cells #[.int .u64 p1, .int .u64 p2] 53)) bi #[.int .i64 (k : Int)] 3) := Lib.hid (HAL.out.i.alloc _)
  go_loopg [5] (n + 1) (fun kx _ wr => ∃ j : Nat, j ≤ n ∧ n - j < kx ∧ Hid (Beh l j (p1, p2)) ∧ Hid (But bi w wr) ∧ Hid (Blk wr w.heap.size #[.int .u64 p1, .int .u64 p2] 53) ∧ Hid (Blk wr bi #[.int .i64 (j : Int)] 3))
  case atStart => exact ⟨k, hkn, by omega, HB, hb0, hp0, hi0⟩
  case round =>
    obtain ⟨j, hj, hkx, HBJ, HBT, HP, HI⟩ := hrel
    have i0 := HI.out.cell 0
    have p0 := HP.out.cell 0
    have p0' := HP.out.cell 1
    have r0 := (HBT.out.blk HAL.out.r hbr).cell 0
    simp only [List.getElem?_toArray, List.getElem?_cons_zero, List.getElem?_cons_succ] at i0 p0 p0' r0
    have P0 : ∀ n os, (Sort.grow (wr.drewN n) os).cell? ⟨w.heap.size, 0, none⟩ = some (.int .u64 p1) := fun n os => cell_grown HP.out.lt p0 n os
    have P1 : ∀ n os, (Sort.grow (wr.drewN n) os).cell? ⟨w.heap.size, 1, none⟩ = some (.int .u64 p2) := fun n os => cell_grown HP.out.lt p0' n os
    have I0 : ∀ n os, (Sort.grow (wr.drewN n) os).cell? ⟨bi, 0, none⟩ = some (.int .i64 (j : Int)) := fun n os => cell_grown HI.out.lt i0 n os
    have R0 : ∀ q os, (Sort.grow (wr.drewN q) os).cell? ⟨br, 0, none⟩ = some (.slice o n c) := fun q os => cell_grown (HBT.out.blk HAL.out.r hbr).lt r0 q os
    by_cases hlt : j < n
    · have hjl : j < l.length := by have := HN.out; omega
      obtain ⟨b, f, rfl, lb0, hx⟩ := (HSW.out _ HBT.out).has hjl
      obtain ⟨d0, d1⟩ := hx j hjl
      obtain ⟨x, hx'⟩ : ∃ x, x = l[j] := ⟨_, rfl⟩
      rw [← hx'] at d0 d1
      have HX := Lib.hid hx'
      obtain ⟨x1, x2⟩ := x
      simp only at d0 d1
      have D0 : ∀ n os, (Sort.grow (wr.drewN n) os).cell? ⟨b, f + j * 2, none⟩ = some (.int .u64 x1) := fun n os => cell_grown lb0 d0 n os
      have D1 : ∀ n os, (Sort.grow (wr.drewN n) os).cell? ⟨b, f + j * 2 + 1, none⟩ = some (.int .u64 x2) := fun n os => cell_grown lb0 d1 n os
      obtain ⟨t, ht⟩ : ∃ t, t = cf2 (x1, x2) (p1, p2) := ⟨_, rfl⟩
      have HT := Lib.hid ht
      have hlt' : (j : Int) < (n : Int) := by omega
      clear hx hx' ht
      go_wp2
      go_quiet_grown ((go_at_call 45; refine Calls.gr_of (compare_at _ _ _ _ t HT.out _)))
      have hgr := Gr.grown wr nq osq
      obtain ⟨wq, hwq⟩ : ∃ wq, wq = Sort.grow (wr.drewN nq) osq := ⟨_, rfl⟩
      rw [← hwq] at hgr ⊢
      have hgb := hgr.below
      have HI1 := Lib.hid (HI.out.later hgb)
      have HP1 := Lib.hid (HP.out.later hgb)
      have HBT1 := Lib.hid (HBT.out.later hgb)
      have i0 := HI1.out.cell 0
      have p0 := HP1.out.cell 0
      have p0' := HP1.out.cell 1
      have r0 := (HBT1.out.blk HAL.out.r hbr).cell 0
      have li := HI1.out.lt
      have fi := HI1.out.frozen 0
      simp only [List.getElem?_toArray, List.getElem?_cons_zero, List.getElem?_cons_succ] at i0 p0 p0' r0
      have d0 := D0 nq osq
      have d1 := D1 nq osq
      rw [← hwq] at d0 d1
      clear P0 P1 I0 R0 D0 D1 hwq hgr hgb lb0
      by_cases hneg : t < 0
      · have t1 : decide (t < 0) = true := decide_eq_true hneg
        have HBJ2 := Lib.hid (HBJ.out.next hjl (by rw [← HX.out]; exact (cf2_neg _ _).1 (by rw [← HT.out]; exact hneg)))
        rw [t1]
        clear hneg d0 d1 p0 p0' r0
        go_wp2
        go_roundg (n - j)
        case measure => omega
        case rel =>
          refine ⟨j + 1, by omega, by omega, HBJ2, Lib.hid (HBT1.out.set 0 _), Lib.hid (HP1.out.other (by simp; omega) _), Lib.hid ?_⟩
          have := HI1.out.set 0 (.int .i64 ((j : Int) + 1))
          simpa using this
      · have t1 : decide (t < 0) = false := decide_eq_false hneg
        have hmem := HBJ.out.mem HR.out (fun a => by rw [← HX.out]; intro c; exact hneg (by rw [HT.out]; exact (cf2_neg _ _).2 c))
        have hr2 : r = (decide (x1 = p1) && decide (x2 = p2)) := by
          rw [HRR.out, ← Bool.decide_and]
          congr 1
          rw [hmem]
          apply propext
          constructor
          · rintro ⟨a, e⟩
            rw [← HX.out] at e
            injection e with e1 e2
            exact ⟨e1, e2⟩
          · rintro ⟨e1, e2⟩
            exact ⟨hjl, by rw [← HX.out, e1, e2]⟩
        rw [t1]
        have hfin : ∀ N, AL 3 22 (wq.drewN N) bi br (.slice (some ⟨b, f, none⟩) n c) l j ∧ Beh l j (p1, p2) ∧ But bi w (wq.drewN N) := fun N => ⟨⟨HI1.out.drewN _, (HBT1.out.blk HAL.out.r hbr).drewN _, by have := HN.out; omega⟩, HBJ.out, HBT1.out.drewN _⟩
        have HF := Lib.hid hfin
        clear hneg hmem hfin
        by_cases hxy : x1 = p1 ∧ x2 = p2
        · obtain ⟨rfl, rfl⟩ := hxy
          obtain rfl : r = true := by rw [hr2]; simp
          clear hr2
          go_wp2
          go_quiet (fail)
          go_wp2
          go_ret
          exact ⟨j, rfl, HF.out _⟩
        · obtain rfl : r = false := by
            rw [hr2, ← Bool.decide_and]
            exact decide_eq_false hxy
          have t1 : ((x1 == p1) && (x2 == p2)) = false := by
            rw [Bool.and_eq_false_iff]
            by_cases h1 : x1 = p1
            · exact .inr (by simp; exact fun h2 => hxy ⟨h1, h2⟩)
            · exact .inl (by simp; exact h1)
          clear hr2
          by_cases h1 : x1 = p1
          · have h2 : ¬ x2 = p2 := fun h2 => hxy ⟨h1, h2⟩
            have t2 : (x1 == p1) = true := by simpa using h1
            have t3 : (x2 == p2) = false := by simpa using h2
            have t4 : (x1 != p1) = false := by simpa using h1
            have t5 : (x2 != p2) = true := by simpa using h2
            clear h1 h2 hxy
            go_wp2
            go_quiet (fail)
            go_wp2
            go_ret
            exact ⟨j, rfl, HF.out _⟩
          · have t2 : (x1 == p1) = false := by simpa using h1
            have t4 : (x1 != p1) = true := by simpa using h1
            clear h1 hxy
            go_wp2
            go_quiet (fail)
            go_wp2
            go_ret
            exact ⟨j, rfl, HF.out _⟩
    · have hjn : j = n := by omega
      have hlt' : decide ((j : Int) < (n : Int)) = false := decide_eq_false (by omega)
      have hlt2 : decide (j < n) = false := decide_eq_false hlt
      have hno : r = false := by
        rw [HRR.out]
        refine decide_eq_false fun c => ?_
        obtain ⟨a, _⟩ := (HBJ.out.mem HR.out (fun a => by have := HN.out; omega)).1 c
        have := HN.out
        omega
      subst hno
      go_wp2
      go_quiet (fail)
      go_wp2
      go_quiet (fail)
      go_wp2
      go_ret
      exact ⟨j, rfl, ⟨(HI.out.drewN _).drewN _, ((HBT.out.blk HAL.out.r hbr).drewN _).drewN _, by have := HN.out; omega⟩, HBJ.out, (HBT.out.drewN _).drewN _⟩
end Go.Proofs.Ytlhigfphfbmbjaa


/- merge.saidBy: three rows, each asked along; whatever order they are laid in. -/
namespace Go.Proofs.Ytlhigfphfbmbjaa
open Go.RowKit Go.Proofs.Kit Go.Shelf
/-- A row that is asked along, from its beginning on. -/
def FN (w0 w : World) (v f : Value) (i : Nat) : Prop := ∃ r, f = .func (.func 119) #[] #[.pointer (some ⟨i, 0, none⟩), .pointer (some ⟨r, 0, none⟩)] ∧ Blk w i #[.int .i64 0] 3 ∧ Blk w r #[v] 22 ∧ w0.heap.size ≤ i
theorem FN.later {w0 w w' : World} {v f : Value} {i : Nat} (h : FN w0 w v f i) (hb : Below w.heap.size w w') : FN w0 w' v f i := by
  obtain ⟨r, h1, h2, h3, h4⟩ := h
  exact ⟨r, h1, h2.later hb, h3.later hb, h4⟩
theorem FN.lt {w0 w : World} {v f : Value} {i : Nat} (h : FN w0 w v f i) : i < w.heap.size := by
  obtain ⟨r, h1, h2, h3, h4⟩ := h
  exact h2.lt
theorem FN.set {w0 w : World} {v f : Value} {i b : Nat} {vs : Array Value} (h : FN w0 w v f i) (hb : Blk w b vs 102) (u : Value) : FN w0 (w.setCell ⟨b, 0, none⟩ u) v f i := by
  obtain ⟨r, h1, h2, h3, h4⟩ := h
  exact ⟨r, h1, h2.other (p := ⟨b, 0, none⟩) (h2.ne hb (by decide)) u, h3.other (p := ⟨b, 0, none⟩) (h3.ne hb (by decide)) u, h4⟩
/-- What holds while they are laid. -/
structure SBI (w0 : World) (bx by' : Nat) (xa xb ya yb : Value) (L : Nat → Bool) (w : World) (t5 t6 t7 t8 t9 t10 t11 t12 t13 t14 t15 t16 : Value) (b5 b6 b7 i1 i2 i3 : Nat) : Prop where
  low : Below w0.heap.size w0 w
  kx : Blk w bx #[xa, xb] 24
  ky : Blk w by' #[ya, yb] 24
  h8 : L 0 = true → t8 = .pointer (some ⟨by', 0, none⟩)
  h9 : L 1 = true → t9 = ya
  h10 : L 2 = true → FN w0 w ya t10 i1
  h11 : L 3 = true → t11 = .pointer (some ⟨by', 1, none⟩)
  h12 : L 4 = true → t12 = yb
  h13 : L 5 = true → FN w0 w yb t13 i2 ∧ i1 < i2
  h14 : L 6 = true → t14 = .pointer (some ⟨bx, 0, none⟩)
  h15 : L 7 = true → t15 = xa
  h16 : L 8 = true → FN w0 w xa t16 i3 ∧ i2 < i3
  h5 : L 9 = true → t5 = .pointer (some ⟨b5, 0, none⟩) ∧ w0.heap.size ≤ b5 ∧ Blk w b5 #[if L 12 then t10 else Value.nilFunc] 102
  h6 : L 10 = true → t6 = .pointer (some ⟨b6, 0, none⟩) ∧ w0.heap.size ≤ b6 ∧ Blk w b6 #[if L 13 then t13 else Value.nilFunc] 102
  h7 : L 11 = true → t7 = .pointer (some ⟨b7, 0, none⟩) ∧ w0.heap.size ≤ b7 ∧ Blk w b7 #[if L 14 then t16 else Value.nilFunc] 102
  n56 : L 9 = true → L 10 = true → b5 ≠ b6
  n57 : L 9 = true → L 11 = true → b5 ≠ b7
  n67 : L 10 = true → L 11 = true → b6 ≠ b7
  s12 : L 12 = true → L 9 = true ∧ L 2 = true
  s13 : L 13 = true → L 10 = true ∧ L 5 = true
  s14 : L 14 = true → L 11 = true ∧ L 8 = true
  s5 : L 5 = true → L 2 = true
  s8 : L 8 = true → L 5 = true
def SBV (w0 : World) (bx by' : Nat) (xa xb ya yb : Value) (L : Nat → Bool) (a : Act) (X : World) : Prop :=
  ∃ t5 t6 t7 t8 t9 t10 t11 t12 t13 t14 t15 t16 b5 b6 b7 i1 i2 i3, a = { tmps := #[.agg #[xa, xb], .agg #[ya, yb], .pointer (some ⟨bx, 0, none⟩), .pointer (some ⟨by', 0, none⟩), Value.nilFunc, t5, t6, t7, t8, t9, t10, t11, t12, t13, t14, t15, t16, undef], defers := [] } ∧ SBI w0 bx by' xa xb ya yb L X t5 t6 t7 t8 t9 t10 t11 t12 t13 t14 t15 t16 b5 b6 b7 i1 i2 i3
set_option maxRecDepth 100000 in
set_option maxHeartbeats 16000000 in
theorem saidBy_any (x y : Ti) (w : World) :
    Calls Try.prog 98 #[.agg #[x.av, x.bv], .agg #[y.av, y.bv]] w fun e w' => ∃ b5 b6 b7 i1 i2 i3 f1 f2 f3, e = .returned (.func (.func 112) #[] #[.pointer (some ⟨b5, 0, none⟩), .pointer (some ⟨b6, 0, none⟩), .pointer (some ⟨b7, 0, none⟩)]) ∧
      (w.heap.size ≤ b5 ∧ w.heap.size ≤ b6 ∧ w.heap.size ≤ b7) ∧ Blk w' b5 #[f1] 102 ∧ Blk w' b6 #[f2] 102 ∧ Blk w' b7 #[f3] 102 ∧ FN w w' y.av f1 i1 ∧ FN w w' y.bv f2 i2 ∧ FN w w' x.av f3 i3 ∧ i1 < i2 ∧ i2 < i3 ∧ Below w.heap.size w w' := by
  have hmix := mixed
  have hmf : ∀ (fn : Fn) (first cap : Array Value) (w : World), (Instr.makeFunc fn first cap).run Try.prog w = .ok (.func fn first cap) w := fun _ _ _ _ => rfl
  obtain ⟨ao, an, ac, bo, bn, bc⟩ := x
  obtain ⟨ao', an', ac', bo', bn', bc'⟩ := y
  simp only [Ti.av, Ti.bv]
  go_enter Try.func98, Try.ntmps98
  go_wp2_with fail
  obtain ⟨W1, hW1⟩ : ∃ W1, W1 = (w.alloc (.cells #[.slice ao an ac, .slice bo bn bc] 24)).alloc (.cells #[.slice ao' an' ac', .slice bo' bn' bc'] 24) := ⟨_, rfl⟩
  have G1 : Gr w W1 := by rw [hW1]; exact (Gr.alloc _ _).trans (Gr.alloc _ _)
  have k0 : Blk W1 w.heap.size #[.slice ao an ac, .slice bo bn bc] 24 := by rw [hW1]; exact (Blk.new _ _ _).alloc _
  have k1 : Blk W1 (w.heap.size + 1) #[.slice ao' an' ac', .slice bo' bn' bc'] 24 := by
    rw [hW1]
    have := Blk.new (w.alloc (.cells #[.slice ao an ac, .slice bo bn bc] 24)) #[.slice ao' an' ac', .slice bo' bn' bc'] 24
    simpa using this
  rw [← hW1]
  clear hW1
  refine wp_region_inv hmix (Inv := SBV w w.heap.size (w.heap.size + 1) (.slice ao an ac) (.slice bo bn bc) (.slice ao' an' ac') (.slice bo' bn' bc')) (by kernel_rfl) ?h0 ?hstep ?hdone
  case h0 =>
    exact ⟨undef, undef, undef, undef, undef, undef, undef, undef, undef, undef, undef, undef, 0, 0, 0, 0, 0, 0, rfl, ⟨G1.below.drew, k0.drew, k1.drew, nofun, nofun, nofun, nofun, nofun, nofun, nofun, nofun, nofun, nofun, nofun, nofun, nofun, nofun, nofun, nofun, nofun, nofun, nofun, nofun⟩⟩
  case hdone =>
    rintro L a X ⟨t5, t6, t7, t8, t9, t10, t11, t12, t13, t14, t15, t16, b5, b6, b7, i1, i2, i3, rfl, h⟩ hall
    obtain ⟨e5, g5, k5⟩ := h.h5 (hall 9 (by decide))
    obtain ⟨e6, g6, k6⟩ := h.h6 (hall 10 (by decide))
    obtain ⟨e7, g7, k7⟩ := h.h7 (hall 11 (by decide))
    rw [if_pos (hall 12 (by decide))] at k5
    rw [if_pos (hall 13 (by decide))] at k6
    rw [if_pos (hall 14 (by decide))] at k7
    have hA := h.h10 (hall 2 (by decide))
    obtain ⟨hB, lt1⟩ := h.h13 (hall 5 (by decide))
    obtain ⟨hC, lt2⟩ := h.h16 (hall 8 (by decide))
    have hlow := h.low
    subst e5 e6 e7
    clear h hall
    go_wp2
    go_ret
    exact ⟨_, _, _, _, _, _, _, _, _, rfl, ⟨g5, g6, g7⟩, k5, k6, k7, hA, hB, hC, lt1, lt2, hlow⟩
  case hstep =>
    clear G1 k0 k1
    rintro L a X i o ⟨t5, t6, t7, t8, t9, t10, t11, t12, t13, t14, t15, t16, b5, b6, b7, i1, i2, i3, rfl, h⟩ hL ho hp
    have hi : i < 15 := (Array.getElem?_eq_some_iff.1 ho).1
    match i, hi, hL, ho, hp with
    | 0, _, hL, ho, hp =>
      simp only [List.getElem?_toArray, List.getElem?_cons_zero, Option.some.injEq] at ho
      subst ho
      rw [if_pos (by simp [Region.wanted])]
      go_simp
      exact ⟨_, _, _, _, _, _, _, _, _, _, _, _, b5, b6, b7, i1, i2, i3, rfl, ⟨h.low, h.kx, h.ky, fun _ => rfl, h.h9, h.h10, h.h11, h.h12, h.h13, h.h14, h.h15, h.h16, h.h5, h.h6, h.h7, h.n56, h.n57, h.n67, h.s12, h.s13, h.s14, h.s5, h.s8⟩⟩
    | 1, _, hL, ho, hp =>
      simp only [List.getElem?_toArray, List.getElem?_cons_zero, List.getElem?_cons_succ, Option.some.injEq] at ho
      subst ho
      have p0 : L 0 = true := hp ⟨0, .data⟩ (by simp) rfl
      rw [if_pos (by simp [Region.wanted])]
      obtain rfl := h.h8 p0
      have c0 := h.ky.cell 0
      simp only [List.getElem?_toArray, List.getElem?_cons_zero] at c0
      go_simp
      exact ⟨_, _, _, _, _, _, _, _, _, _, _, _, b5, b6, b7, i1, i2, i3, rfl, ⟨h.low, h.kx, h.ky, h.h8, fun _ => rfl, h.h10, h.h11, h.h12, h.h13, h.h14, h.h15, h.h16, h.h5, h.h6, h.h7, h.n56, h.n57, h.n67, h.s12, h.s13, h.s14, h.s5, h.s8⟩⟩
    | 2, _, hL, ho, hp =>
      simp only [List.getElem?_toArray, List.getElem?_cons_zero, List.getElem?_cons_succ, Option.some.injEq] at ho
      subst ho
      have p1 : L 1 = true := hp ⟨1, .data⟩ (by simp) rfl
      have n12 : L 12 = false := by
        cases c : L 12 with
        | false => rfl
        | true => exact absurd (h.s12 c).2 (by rw [hL]; decide)
      rw [if_pos (by simp [Region.wanted])]
      obtain rfl := h.h9 p1
      go_simp
      go_at_call 111
      (with_reducible refine (along_any _ _ _ _).mono ?_)
      rintro e X2 ⟨rfl, hi, hr, gX⟩
      have gb := gX.below
      have hsz := h.low.size
      have hlow2 := below_later h.low gb
      exact ⟨_, _, _, _, _, _, _, _, _, _, _, _, b5, b6, b7, X.heap.size + 1, i2, i3, rfl, ⟨hlow2, h.kx.later gb, h.ky.later gb, h.h8, h.h9, fun _ => ⟨_, rfl, hi, hr, by omega⟩, h.h11, h.h12, fun e => absurd (h.s5 e) (by rw [hL]; decide), h.h14, h.h15, fun e => ⟨(h.h16 e).1.later gb, (h.h16 e).2⟩, fun e => ⟨(h.h5 e).1, (h.h5 e).2.1, by rw [show upd L 2 12 = L 12 from rfl, n12]; have hz := (h.h5 e).2.2.later gb; rwa [n12] at hz⟩, fun e => ⟨(h.h6 e).1, (h.h6 e).2.1, (h.h6 e).2.2.later gb⟩, fun e => ⟨(h.h7 e).1, (h.h7 e).2.1, (h.h7 e).2.2.later gb⟩, h.n56, h.n57, h.n67, fun e => ⟨(h.s12 e).1, rfl⟩, h.s13, h.s14, fun _ => rfl, h.s8⟩⟩
    | 3, _, hL, ho, hp =>
      simp only [List.getElem?_toArray, List.getElem?_cons_zero, List.getElem?_cons_succ, Option.some.injEq] at ho
      subst ho
      rw [if_pos (by simp [Region.wanted])]
      go_simp
      exact ⟨_, _, _, _, _, _, _, _, _, _, _, _, b5, b6, b7, i1, i2, i3, rfl, ⟨h.low, h.kx, h.ky, h.h8, h.h9, h.h10, fun _ => rfl, h.h12, h.h13, h.h14, h.h15, h.h16, h.h5, h.h6, h.h7, h.n56, h.n57, h.n67, h.s12, h.s13, h.s14, h.s5, h.s8⟩⟩
    | 4, _, hL, ho, hp =>
      simp only [List.getElem?_toArray, List.getElem?_cons_zero, List.getElem?_cons_succ, Option.some.injEq] at ho
      subst ho
      have p3 : L 3 = true := hp ⟨3, .data⟩ (by simp) rfl
      rw [if_pos (by simp [Region.wanted])]
      obtain rfl := h.h11 p3
      have c0 := h.ky.cell 1
      simp only [List.getElem?_toArray, List.getElem?_cons_zero, List.getElem?_cons_succ] at c0
      go_simp
      exact ⟨_, _, _, _, _, _, _, _, _, _, _, _, b5, b6, b7, i1, i2, i3, rfl, ⟨h.low, h.kx, h.ky, h.h8, h.h9, h.h10, h.h11, fun _ => rfl, h.h13, h.h14, h.h15, h.h16, h.h5, h.h6, h.h7, h.n56, h.n57, h.n67, h.s12, h.s13, h.s14, h.s5, h.s8⟩⟩
    | 5, _, hL, ho, hp =>
      simp only [List.getElem?_toArray, List.getElem?_cons_zero, List.getElem?_cons_succ, Option.some.injEq] at ho
      subst ho
      have p4 : L 4 = true := hp ⟨4, .data⟩ (by simp) rfl
      have q2 : L 2 = true := hp ⟨2, .chain⟩ (by simp) rfl
      have n13 : L 13 = false := by
        cases c : L 13 with
        | false => rfl
        | true => exact absurd (h.s13 c).2 (by rw [hL]; decide)
      rw [if_pos (by simp [Region.wanted])]
      obtain rfl := h.h12 p4
      go_simp
      go_at_call 111
      (with_reducible refine (along_any _ _ _ _).mono ?_)
      rintro e X2 ⟨rfl, hi, hr, gX⟩
      have gb := gX.below
      have hsz := h.low.size
      have hlow2 := below_later h.low gb
      have hq := (h.h10 q2).lt
      exact ⟨_, _, _, _, _, _, _, _, _, _, _, _, b5, b6, b7, i1, X.heap.size + 1, i3, rfl, ⟨hlow2, h.kx.later gb, h.ky.later gb, h.h8, h.h9, fun e => (h.h10 e).later gb, h.h11, h.h12, fun _ => ⟨⟨_, rfl, hi, hr, by omega⟩, by omega⟩, h.h14, h.h15, fun e => absurd (h.s8 e) (by rw [hL]; decide), fun e => ⟨(h.h5 e).1, (h.h5 e).2.1, (h.h5 e).2.2.later gb⟩, fun e => ⟨(h.h6 e).1, (h.h6 e).2.1, by rw [show upd L 5 13 = L 13 from rfl, n13]; have hz := (h.h6 e).2.2.later gb; rwa [n13] at hz⟩, fun e => ⟨(h.h7 e).1, (h.h7 e).2.1, (h.h7 e).2.2.later gb⟩, h.n56, h.n57, h.n67, h.s12, fun e => ⟨(h.s13 e).1, rfl⟩, h.s14, fun _ => q2, fun _ => rfl⟩⟩
    | 6, _, hL, ho, hp =>
      simp only [List.getElem?_toArray, List.getElem?_cons_zero, List.getElem?_cons_succ, Option.some.injEq] at ho
      subst ho
      rw [if_pos (by simp [Region.wanted])]
      go_simp
      exact ⟨_, _, _, _, _, _, _, _, _, _, _, _, b5, b6, b7, i1, i2, i3, rfl, ⟨h.low, h.kx, h.ky, h.h8, h.h9, h.h10, h.h11, h.h12, h.h13, fun _ => rfl, h.h15, h.h16, h.h5, h.h6, h.h7, h.n56, h.n57, h.n67, h.s12, h.s13, h.s14, h.s5, h.s8⟩⟩
    | 7, _, hL, ho, hp =>
      simp only [List.getElem?_toArray, List.getElem?_cons_zero, List.getElem?_cons_succ, Option.some.injEq] at ho
      subst ho
      have p6 : L 6 = true := hp ⟨6, .data⟩ (by simp) rfl
      rw [if_pos (by simp [Region.wanted])]
      obtain rfl := h.h14 p6
      have c0 := h.kx.cell 0
      simp only [List.getElem?_toArray, List.getElem?_cons_zero] at c0
      go_simp
      exact ⟨_, _, _, _, _, _, _, _, _, _, _, _, b5, b6, b7, i1, i2, i3, rfl, ⟨h.low, h.kx, h.ky, h.h8, h.h9, h.h10, h.h11, h.h12, h.h13, h.h14, fun _ => rfl, h.h16, h.h5, h.h6, h.h7, h.n56, h.n57, h.n67, h.s12, h.s13, h.s14, h.s5, h.s8⟩⟩
    | 8, _, hL, ho, hp =>
      simp only [List.getElem?_toArray, List.getElem?_cons_zero, List.getElem?_cons_succ, Option.some.injEq] at ho
      subst ho
      have p7 : L 7 = true := hp ⟨7, .data⟩ (by simp) rfl
      have q5 : L 5 = true := hp ⟨5, .chain⟩ (by simp) rfl
      have n14 : L 14 = false := by
        cases c : L 14 with
        | false => rfl
        | true => exact absurd (h.s14 c).2 (by rw [hL]; decide)
      rw [if_pos (by simp [Region.wanted])]
      obtain rfl := h.h15 p7
      go_simp
      go_at_call 111
      (with_reducible refine (along_any _ _ _ _).mono ?_)
      rintro e X2 ⟨rfl, hi, hr, gX⟩
      have gb := gX.below
      have hsz := h.low.size
      have hlow2 := below_later h.low gb
      have hq := (h.h13 q5).1.lt
      exact ⟨_, _, _, _, _, _, _, _, _, _, _, _, b5, b6, b7, i1, i2, X.heap.size + 1, rfl, ⟨hlow2, h.kx.later gb, h.ky.later gb, h.h8, h.h9, fun e => (h.h10 e).later gb, h.h11, h.h12, fun e => ⟨(h.h13 e).1.later gb, (h.h13 e).2⟩, h.h14, h.h15, fun _ => ⟨⟨_, rfl, hi, hr, by omega⟩, by omega⟩, fun e => ⟨(h.h5 e).1, (h.h5 e).2.1, (h.h5 e).2.2.later gb⟩, fun e => ⟨(h.h6 e).1, (h.h6 e).2.1, (h.h6 e).2.2.later gb⟩, fun e => ⟨(h.h7 e).1, (h.h7 e).2.1, by rw [show upd L 8 14 = L 14 from rfl, n14]; have hz := (h.h7 e).2.2.later gb; rwa [n14] at hz⟩, h.n56, h.n57, h.n67, h.s12, h.s13, fun e => ⟨(h.s14 e).1, rfl⟩, h.s5, fun _ => q5⟩⟩
    | 9, _, hL, ho, hp =>
      simp only [List.getElem?_toArray, List.getElem?_cons_zero, List.getElem?_cons_succ, Option.some.injEq] at ho
      subst ho
      rw [if_pos (by simp [Region.wanted])]
      go_simp
      have gb := (Gr.alloc X (.cells #[Value.nilFunc] 102)).below
      have hsz := h.low.size
      have hlow2 := below_later h.low gb
      exact ⟨_, _, _, _, _, _, _, _, _, _, _, _, X.heap.size, b6, b7, i1, i2, i3, rfl, ⟨hlow2, h.kx.later gb, h.ky.later gb, h.h8, h.h9, fun e => (h.h10 e).later gb, h.h11, h.h12, fun e => ⟨(h.h13 e).1.later gb, (h.h13 e).2⟩, h.h14, h.h15, fun e => ⟨(h.h16 e).1.later gb, (h.h16 e).2⟩, fun _ => ⟨rfl, hsz, by have : L 12 = false := (by cases c : L 12 with | false => rfl | true => exact absurd (h.s12 c).1 (by rw [hL]; decide)); rw [show upd L 9 12 = L 12 from rfl, this]; exact Blk.new _ _ _⟩, fun e => ⟨(h.h6 e).1, (h.h6 e).2.1, (h.h6 e).2.2.later gb⟩, fun e => ⟨(h.h7 e).1, (h.h7 e).2.1, (h.h7 e).2.2.later gb⟩, fun _ e => by have := (h.h6 e).2.2.lt; omega, fun _ e => by have := (h.h7 e).2.2.lt; omega, h.n67, fun e => ⟨rfl, (h.s12 e).2⟩, h.s13, h.s14, h.s5, h.s8⟩⟩
    | 10, _, hL, ho, hp =>
      simp only [List.getElem?_toArray, List.getElem?_cons_zero, List.getElem?_cons_succ, Option.some.injEq] at ho
      subst ho
      rw [if_pos (by simp [Region.wanted])]
      go_simp
      have gb := (Gr.alloc X (.cells #[Value.nilFunc] 102)).below
      have hsz := h.low.size
      have hlow2 := below_later h.low gb
      exact ⟨_, _, _, _, _, _, _, _, _, _, _, _, b5, X.heap.size, b7, i1, i2, i3, rfl, ⟨hlow2, h.kx.later gb, h.ky.later gb, h.h8, h.h9, fun e => (h.h10 e).later gb, h.h11, h.h12, fun e => ⟨(h.h13 e).1.later gb, (h.h13 e).2⟩, h.h14, h.h15, fun e => ⟨(h.h16 e).1.later gb, (h.h16 e).2⟩, fun e => ⟨(h.h5 e).1, (h.h5 e).2.1, (h.h5 e).2.2.later gb⟩, fun _ => ⟨rfl, hsz, by have : L 13 = false := (by cases c : L 13 with | false => rfl | true => exact absurd (h.s13 c).1 (by rw [hL]; decide)); rw [show upd L 10 13 = L 13 from rfl, this]; exact Blk.new _ _ _⟩, fun e => ⟨(h.h7 e).1, (h.h7 e).2.1, (h.h7 e).2.2.later gb⟩, fun e _ => by have := (h.h5 e).2.2.lt; omega, h.n57, fun _ e => by have := (h.h7 e).2.2.lt; omega, h.s12, fun e => ⟨rfl, (h.s13 e).2⟩, h.s14, h.s5, h.s8⟩⟩
    | 11, _, hL, ho, hp =>
      simp only [List.getElem?_toArray, List.getElem?_cons_zero, List.getElem?_cons_succ, Option.some.injEq] at ho
      subst ho
      rw [if_pos (by simp [Region.wanted])]
      go_simp
      have gb := (Gr.alloc X (.cells #[Value.nilFunc] 102)).below
      have hsz := h.low.size
      have hlow2 := below_later h.low gb
      exact ⟨_, _, _, _, _, _, _, _, _, _, _, _, b5, b6, X.heap.size, i1, i2, i3, rfl, ⟨hlow2, h.kx.later gb, h.ky.later gb, h.h8, h.h9, fun e => (h.h10 e).later gb, h.h11, h.h12, fun e => ⟨(h.h13 e).1.later gb, (h.h13 e).2⟩, h.h14, h.h15, fun e => ⟨(h.h16 e).1.later gb, (h.h16 e).2⟩, fun e => ⟨(h.h5 e).1, (h.h5 e).2.1, (h.h5 e).2.2.later gb⟩, fun e => ⟨(h.h6 e).1, (h.h6 e).2.1, (h.h6 e).2.2.later gb⟩, fun _ => ⟨rfl, hsz, by have : L 14 = false := (by cases c : L 14 with | false => rfl | true => exact absurd (h.s14 c).1 (by rw [hL]; decide)); rw [show upd L 11 14 = L 14 from rfl, this]; exact Blk.new _ _ _⟩, h.n56, fun e _ => by have := (h.h5 e).2.2.lt; omega, fun e _ => by have := (h.h6 e).2.2.lt; omega, h.s12, h.s13, fun e => ⟨rfl, (h.s14 e).2⟩, h.s5, h.s8⟩⟩
    | 12, _, hL, ho, hp =>
      simp only [List.getElem?_toArray, List.getElem?_cons_zero, List.getElem?_cons_succ, Option.some.injEq] at ho
      subst ho
      have p9 : L 9 = true := hp ⟨9, .data⟩ (by simp) rfl
      have r2 : L 2 = true := hp ⟨2, .data⟩ (by simp) rfl
      rw [if_pos (by simp [Region.wanted])]
      obtain ⟨rfl, hge, hbk⟩ := h.h5 p9
      rw [if_neg (by rw [hL]; decide)] at hbk
      obtain ⟨rr, ee, _, _, _⟩ := h.h10 r2
      subst ee
      have f0 := hbk.frozen 0
      have l0 := hbk.lt
      have c0 := hbk.cell 0
      simp only [List.getElem?_toArray, List.getElem?_cons_zero] at c0
      go_simp
      exact ⟨_, _, _, _, _, _, _, _, _, _, _, _, b5, b6, b7, i1, i2, i3, rfl, ⟨(h.low.setCell (p := ⟨b5, 0, none⟩) hge _), h.kx.other (p := ⟨b5, 0, none⟩) (h.kx.ne hbk (by decide)) _, h.ky.other (p := ⟨b5, 0, none⟩) (h.ky.ne hbk (by decide)) _, h.h8, h.h9, fun e => (h.h10 e).set hbk _, h.h11, h.h12, fun e => ⟨(h.h13 e).1.set hbk _, (h.h13 e).2⟩, h.h14, h.h15, fun e => ⟨(h.h16 e).1.set hbk _, (h.h16 e).2⟩, fun _ => ⟨rfl, hge, by have := hbk.set 0 (.func (.func 119) #[] #[.pointer (some ⟨i1, 0, none⟩), .pointer (some ⟨rr, 0, none⟩)]); simpa [upd] using this⟩, fun e => ⟨(h.h6 e).1, (h.h6 e).2.1, (h.h6 e).2.2.other (p := ⟨b5, 0, none⟩) (Ne.symm (h.n56 p9 e)) _⟩, fun e => ⟨(h.h7 e).1, (h.h7 e).2.1, (h.h7 e).2.2.other (p := ⟨b5, 0, none⟩) (Ne.symm (h.n57 p9 e)) _⟩, h.n56, h.n57, h.n67, fun _ => ⟨p9, r2⟩, h.s13, h.s14, h.s5, h.s8⟩⟩
    | 13, _, hL, ho, hp =>
      simp only [List.getElem?_toArray, List.getElem?_cons_zero, List.getElem?_cons_succ, Option.some.injEq] at ho
      subst ho
      have p10 : L 10 = true := hp ⟨10, .data⟩ (by simp) rfl
      have r5 : L 5 = true := hp ⟨5, .data⟩ (by simp) rfl
      rw [if_pos (by simp [Region.wanted])]
      obtain ⟨rfl, hge, hbk⟩ := h.h6 p10
      rw [if_neg (by rw [hL]; decide)] at hbk
      obtain ⟨rr, ee, _, _, _⟩ := (h.h13 r5).1
      subst ee
      have f0 := hbk.frozen 0
      have l0 := hbk.lt
      have c0 := hbk.cell 0
      simp only [List.getElem?_toArray, List.getElem?_cons_zero] at c0
      go_simp
      exact ⟨_, _, _, _, _, _, _, _, _, _, _, _, b5, b6, b7, i1, i2, i3, rfl, ⟨(h.low.setCell (p := ⟨b6, 0, none⟩) hge _), h.kx.other (p := ⟨b6, 0, none⟩) (h.kx.ne hbk (by decide)) _, h.ky.other (p := ⟨b6, 0, none⟩) (h.ky.ne hbk (by decide)) _, h.h8, h.h9, fun e => (h.h10 e).set hbk _, h.h11, h.h12, fun e => ⟨(h.h13 e).1.set hbk _, (h.h13 e).2⟩, h.h14, h.h15, fun e => ⟨(h.h16 e).1.set hbk _, (h.h16 e).2⟩, fun e => ⟨(h.h5 e).1, (h.h5 e).2.1, (h.h5 e).2.2.other (p := ⟨b6, 0, none⟩) (h.n56 e p10) _⟩, fun _ => ⟨rfl, hge, by have := hbk.set 0 (.func (.func 119) #[] #[.pointer (some ⟨i2, 0, none⟩), .pointer (some ⟨rr, 0, none⟩)]); simpa [upd] using this⟩, fun e => ⟨(h.h7 e).1, (h.h7 e).2.1, (h.h7 e).2.2.other (p := ⟨b6, 0, none⟩) (Ne.symm (h.n67 p10 e)) _⟩, h.n56, h.n57, h.n67, h.s12, fun _ => ⟨p10, r5⟩, h.s14, h.s5, h.s8⟩⟩
    | 14, _, hL, ho, hp =>
      simp only [List.getElem?_toArray, List.getElem?_cons_zero, List.getElem?_cons_succ, Option.some.injEq] at ho
      subst ho
      have p11 : L 11 = true := hp ⟨11, .data⟩ (by simp) rfl
      have r8 : L 8 = true := hp ⟨8, .data⟩ (by simp) rfl
      rw [if_pos (by simp [Region.wanted])]
      obtain ⟨rfl, hge, hbk⟩ := h.h7 p11
      rw [if_neg (by rw [hL]; decide)] at hbk
      obtain ⟨rr, ee, _, _, _⟩ := (h.h16 r8).1
      subst ee
      have f0 := hbk.frozen 0
      have l0 := hbk.lt
      have c0 := hbk.cell 0
      simp only [List.getElem?_toArray, List.getElem?_cons_zero] at c0
      go_simp
      exact ⟨_, _, _, _, _, _, _, _, _, _, _, _, b5, b6, b7, i1, i2, i3, rfl, ⟨(h.low.setCell (p := ⟨b7, 0, none⟩) hge _), h.kx.other (p := ⟨b7, 0, none⟩) (h.kx.ne hbk (by decide)) _, h.ky.other (p := ⟨b7, 0, none⟩) (h.ky.ne hbk (by decide)) _, h.h8, h.h9, fun e => (h.h10 e).set hbk _, h.h11, h.h12, fun e => ⟨(h.h13 e).1.set hbk _, (h.h13 e).2⟩, h.h14, h.h15, fun e => ⟨(h.h16 e).1.set hbk _, (h.h16 e).2⟩, fun e => ⟨(h.h5 e).1, (h.h5 e).2.1, (h.h5 e).2.2.other (p := ⟨b7, 0, none⟩) (h.n57 e p11) _⟩, fun e => ⟨(h.h6 e).1, (h.h6 e).2.1, (h.h6 e).2.2.other (p := ⟨b7, 0, none⟩) (h.n67 e p11) _⟩, fun _ => ⟨rfl, hge, by have := hbk.set 0 (.func (.func 119) #[] #[.pointer (some ⟨i3, 0, none⟩), .pointer (some ⟨rr, 0, none⟩)]); simpa [upd] using this⟩, h.n56, h.n57, h.n67, h.s12, h.s13, fun _ => ⟨p11, r8⟩, h.s5, h.s8⟩⟩
end Go.Proofs.Ytlhigfphfbmbjaa


/- merge.saidBy's closure: what both tiers say of a pair. -/
namespace Go.Proofs.Kit
open Go.RowKit
/-- All lies as it lay, but for numbers' cells from lo on. -/
structure TI (ti : TypeId) (lo : Nat) (w w' : World) : Prop where
  os : w'.os = w.os
  tape : w'.tape = w.tape
  output : w'.output = w.output
  size : w.heap.size ≤ w'.heap.size
  same : ∀ k, k < w.heap.size → (k < lo ∨ ∀ vs f, w.heap[k]? ≠ some (.cells vs ti f)) → w'.heap[k]? = w.heap[k]?
section
variable {ti : TypeId} {lo : Nat} {w w1 w' : World}
theorem TI.trans (h : TI ti lo w w1) (k : TI ti lo w1 w') : TI ti lo w w' :=
  ⟨k.os.trans h.os, k.tape.trans h.tape, k.output.trans h.output, Nat.le_trans h.size k.size, fun g hg hc => by
    have e := h.same g hg hc
    refine (k.same g (Nat.lt_of_lt_of_le hg h.size) ?_).trans e
    rcases hc with c | c
    · exact .inl c
    · exact .inr (by rw [e]; exact c)⟩
theorem TI.of_below (h : Below w.heap.size w w') : TI ti lo w w' := ⟨h.os, h.tape, h.output, h.size, fun g hg _ => h.block g hg⟩
theorem TI.of_but {bi : Nat} {vs : Array Value} (h : But bi w w') (hb : Blk w bi vs ti) (hl : lo ≤ bi) : TI ti lo w w' :=
  ⟨h.os, h.tape, h.output, h.size, fun g hg hc => h.same g (by
    rintro rfl
    rcases hc with c | c
    · omega
    · exact c _ _ hb) hg⟩
theorem TI.below (h : TI ti lo w w') (hl : lo ≤ w.heap.size) : Below lo w w' := ⟨h.os, h.tape, h.output, h.size, fun g hg => h.same g (by omega) (.inl hg)⟩
theorem TI.blk {b : Nat} {vs : Array Value} {t : TypeId} (h : TI ti lo w w') (hb : Blk w b vs t) (ht : t ≠ ti) : Blk w' b vs t :=
  (h.same b hb.lt (.inr fun us f e => by rw [show w.heap[b]? = _ from hb] at e; injection e with e; injection e with _ e2 _; exact ht e2)).trans hb
theorem TI.ownP {t : TypeId} {B : Nat} {v : Value} {l : List Pr} (h : TI ti lo w w') (ho : OwnP t B w v l) (ht : t ≠ ti) : OwnP t B w' v l := by
  refine ho.same fun g hg => ?_
  rcases ho.2.2 with ⟨rfl, _⟩ | ⟨g', cap, cur, rfl, _, hb, _⟩
  · simp [Value.ownBlock] at hg
  · simp [Value.ownBlock] at hg
    subst hg
    exact (h.same g' (Array.getElem?_eq_some_iff.1 hb).1 (.inr fun us f e => by rw [hb] at e; injection e with e; injection e with _ e2 _; exact ht e2))
end
theorem AL.later {ti tp : TypeId} {w w' : World} {bi br k : Nat} {v : Value} {l : List Pr} (h : AL ti tp w bi br v l k) (hb : Below w.heap.size w w') : AL ti tp w' bi br v l k := ⟨h.i.later hb, h.r.later hb, h.le⟩
theorem AL.but {ti tp : TypeId} {w w' : World} {bi br k b : Nat} {v : Value} {l : List Pr} {z : Int} (h : AL ti tp w bi br v l k) (hb : But b w w') (hz : Blk w b #[.int .i64 z] ti) (hne : bi ≠ b) (ht : tp ≠ ti) : AL ti tp w' bi br v l k :=
  ⟨hb.blk h.i hne, hb.blk h.r (h.r.ne hz ht), h.le⟩
/-- Where saidBy's parts lie. -/
structure SBA where
  b1 : Nat
  b2 : Nat
  b3 : Nat
  i1 : Nat
  r1 : Nat
  i2 : Nat
  r2 : Nat
  i3 : Nat
  r3 : Nat
end Go.Proofs.Kit
namespace Go.Proofs.Ytlhigfphfbmbjaa
open Go.RowKit Go.Proofs.Kit Go.Shelf
abbrev alF (i r : Nat) : Value := .func (.func 119) #[] #[.pointer (some ⟨i, 0, none⟩), .pointer (some ⟨r, 0, none⟩)]
/-- saidBy's closure, asked as far as this. -/
structure SBS (lo : Nat) (s : SBA) (v1 v2 v3 : Value) (t u : Tr) (w : World) (k1 k2 k3 : Nat) : Prop where
  b1 : Blk w s.b1 #[alF s.i1 s.r1] 102
  b2 : Blk w s.b2 #[alF s.i2 s.r2] 102
  b3 : Blk w s.b3 #[alF s.i3 s.r3] 102
  a1 : AL 3 22 w s.i1 s.r1 v1 u.1 k1
  a2 : AL 3 22 w s.i2 s.r2 v2 u.2 k2
  a3 : AL 3 22 w s.i3 s.r3 v3 t.1 k3
  l1 : lo ≤ s.i1
  l2 : s.i1 < s.i2
  l3 : s.i2 < s.i3
theorem SBS.later {lo : Nat} {s : SBA} {v1 v2 v3 : Value} {t u : Tr} {w w' : World} {k1 k2 k3 : Nat} (h : SBS lo s v1 v2 v3 t u w k1 k2 k3) (hb : Below w.heap.size w w') : SBS lo s v1 v2 v3 t u w' k1 k2 k3 :=
  ⟨h.b1.later hb, h.b2.later hb, h.b3.later hb, h.a1.later hb, h.a2.later hb, h.a3.later hb, h.l1, h.l2, h.l3⟩
theorem SBS.one {lo : Nat} {s : SBA} {v1 v2 v3 : Value} {t u : Tr} {w w' : World} {k1 k2 k3 k : Nat} (h : SBS lo s v1 v2 v3 t u w k1 k2 k3) (hb : But s.i1 w w') (ha : AL 3 22 w' s.i1 s.r1 v1 u.1 k) : SBS lo s v1 v2 v3 t u w' k k2 k3 :=
  ⟨hb.blk h.b1 (h.b1.ne h.a1.i (by decide)), hb.blk h.b2 (h.b2.ne h.a1.i (by decide)), hb.blk h.b3 (h.b3.ne h.a1.i (by decide)), ha, h.a2.but hb h.a1.i (by have := h.l2; omega) (by decide), h.a3.but hb h.a1.i (by have := h.l2; have := h.l3; omega) (by decide), h.l1, h.l2, h.l3⟩
theorem SBS.two {lo : Nat} {s : SBA} {v1 v2 v3 : Value} {t u : Tr} {w w' : World} {k1 k2 k3 k : Nat} (h : SBS lo s v1 v2 v3 t u w k1 k2 k3) (hb : But s.i2 w w') (ha : AL 3 22 w' s.i2 s.r2 v2 u.2 k) : SBS lo s v1 v2 v3 t u w' k1 k k3 :=
  ⟨hb.blk h.b1 (h.b1.ne h.a2.i (by decide)), hb.blk h.b2 (h.b2.ne h.a2.i (by decide)), hb.blk h.b3 (h.b3.ne h.a2.i (by decide)), h.a1.but hb h.a2.i (by have := h.l2; omega) (by decide), ha, h.a3.but hb h.a2.i (by have := h.l3; omega) (by decide), h.l1, h.l2, h.l3⟩
theorem SBS.three {lo : Nat} {s : SBA} {v1 v2 v3 : Value} {t u : Tr} {w w' : World} {k1 k2 k3 k : Nat} (h : SBS lo s v1 v2 v3 t u w k1 k2 k3) (hb : But s.i3 w w') (ha : AL 3 22 w' s.i3 s.r3 v3 t.1 k) : SBS lo s v1 v2 v3 t u w' k1 k2 k :=
  ⟨hb.blk h.b1 (h.b1.ne h.a3.i (by decide)), hb.blk h.b2 (h.b2.ne h.a3.i (by decide)), hb.blk h.b3 (h.b3.ne h.a3.i (by decide)), h.a1.but hb h.a3.i (by have := h.l2; have := h.l3; omega) (by decide), h.a2.but hb h.a3.i (by have := h.l3; omega) (by decide), ha, h.l1, h.l2, h.l3⟩
/-- What is asked of the three rows. -/
structure SBR (v1 v2 v3 : Value) (t u : Tr) (w : World) : Prop where
  s1 : SegP w v1 u.1
  s2 : SegP w v2 u.2
  s3 : SegP w v3 t.1
  r1 : Run u.1
  r2 : Run u.2
  r3 : Run t.1
  n1 : u.1.length ≤ 1000000
  n2 : u.2.length ≤ 1000000
  n3 : t.1.length ≤ 1000000
theorem SBR.but {v1 v2 v3 : Value} {t u : Tr} {w w' : World} {b : Nat} {z : Int} (h : SBR v1 v2 v3 t u w) (hz : Blk w b #[.int .i64 z] 3) (hb : But b w w') : SBR v1 v2 v3 t u w' :=
  ⟨h.s1.but hz hb, h.s2.but hz hb, h.s3.but hz hb, h.r1, h.r2, h.r3, h.n1, h.n2, h.n3⟩
theorem SBR.later {v1 v2 v3 : Value} {t u : Tr} {w w' : World} (h : SBR v1 v2 v3 t u w) (hb : Below w.heap.size w w') : SBR v1 v2 v3 t u w' :=
  ⟨h.s1.later hb, h.s2.later hb, h.s3.later hb, h.r1, h.r2, h.r3, h.n1, h.n2, h.n3⟩
theorem SBR.low {v1 v2 v3 : Value} {t u : Tr} {w w' : World} {B : Nat} (h : SBR v1 v2 v3 t u w) (hb : Below B w w') (hB : w.heap.size ≤ B) : SBR v1 v2 v3 t u w' :=
  ⟨h.s1.below hb hB, h.s2.below hb hB, h.s3.below hb hB, h.r1, h.r2, h.r3, h.n1, h.n2, h.n3⟩
/-- All that has been passed is less. -/
structure BB (t u : Tr) (k1 k2 k3 : Nat) (p : Pr) : Prop where
  b1 : Beh u.1 k1 p
  b2 : Beh u.2 k2 p
  b3 : Beh t.1 k3 p
theorem BB.mono {t u : Tr} {k1 k2 k3 : Nat} {p q : Pr} (h : BB t u k1 k2 k3 p) (hpq : lt2 p q) : BB t u k1 k2 k3 q := ⟨h.b1.mono hpq, h.b2.mono hpq, h.b3.mono hpq⟩
set_option maxRecDepth 100000 in
set_option maxHeartbeats 8000000 in
theorem saidBy1_any (lo : Nat) (s : SBA) (v1 v2 v3 : Value) (t u : Tr) (w : World) (k1 k2 k3 : Nat) (p1 p2 : Int) (h : SBS lo s v1 v2 v3 t u w k1 k2 k3) (hr : SBR v1 v2 v3 t u w) (hb : BB t u k1 k2 k3 (p1, p2)) (r : Bool) (hrr : r = sayB t u (p1, p2)) :
    Calls Try.prog 112 #[PV p1 p2, .pointer (some ⟨s.b1, 0, none⟩), .pointer (some ⟨s.b2, 0, none⟩), .pointer (some ⟨s.b3, 0, none⟩)] w fun e w' => ∃ k1' k2' k3', e = .returned (.bool r) ∧ SBS lo s v1 v2 v3 t u w' k1' k2' k3' ∧ BB t u k1' k2' k3' (p1, p2) ∧ TI 3 lo w w' := by
  obtain ⟨q1, hq1⟩ : ∃ q, q = decide ((p1, p2) ∈ u.1) := ⟨_, rfl⟩
  obtain ⟨q2, hq2⟩ : ∃ q, q = decide ((p1, p2) ∈ u.2) := ⟨_, rfl⟩
  obtain ⟨q3, hq3⟩ : ∃ q, q = decide ((p1, p2) ∈ t.1) := ⟨_, rfl⟩
  have hr' : r = (q1 || (!q2 && q3)) := by rw [hrr, hq1, hq2, hq3]; rfl
  have HS := Lib.hid h
  have HR := Lib.hid hr
  have HB := Lib.hid hb
  have HQ1 := Lib.hid hq1
  have HQ2 := Lib.hid hq2
  have HQ3 := Lib.hid hq3
  have c1 := h.b1.cell 0
  have lb1 := h.b1.lt
  simp only [List.getElem?_toArray, List.getElem?_cons_zero] at c1
  clear h hr hb hq1 hq2 hq3 hrr
  go_enter Try.func112, Try.ntmps112
  go_wp2_with fail
  have gA := (Gr.alloc w (.cells #[.int .u64 p1, .int .u64 p2] 53)).below
  have T1 := Lib.hid (TI.of_below (ti := 3) (lo := lo) gA)
  have S1 := Lib.hid (HS.out.later gA)
  have R1 := Lib.hid (HR.out.later gA)
  refine (along1_any s.i1 s.r1 v1 u.1 k1 p1 p2 _ S1.out.a1 R1.out.s1 R1.out.r1 HB.out.b1 R1.out.n1 q1 HQ1.out).mono ?_
  rintro e w1 ⟨k1', rfl, A1, B1, U1⟩
  have S2 := Lib.hid (S1.out.one U1 A1)
  have R2 := Lib.hid (R1.out.but S1.out.a1.i U1)
  have T2 := Lib.hid (T1.out.trans (TI.of_but U1 S1.out.a1.i S1.out.l1))
  have HB1 := Lib.hid B1
  have kp := Blk.new w #[.int .u64 p1, .int .u64 p2] 53
  have kp2 := U1.blk kp (kp.ne S1.out.a1.i (by decide))
  have p0 := kp2.cell 0
  have p0' := kp2.cell 1
  have lp := kp2.lt
  have c2 := S2.out.b2.cell 0
  have lb2 := S2.out.b2.lt
  simp only [List.getElem?_toArray, List.getElem?_cons_zero, List.getElem?_cons_succ] at c2 p0 p0'
  have KP := Lib.hid kp2
  clear gA A1 B1 U1 c1 lb1 kp kp2 T1 S1 R1
  cases q1
  · go_wp2_with fail
    refine (along1_any s.i2 s.r2 v2 u.2 k2 p1 p2 _ S2.out.a2 R2.out.s2 R2.out.r2 HB.out.b2 R2.out.n2 q2 HQ2.out).mono ?_
    rintro e w2 ⟨k2', rfl, A2, B2, U2⟩
    have S3 := Lib.hid (S2.out.two U2 A2)
    have R3 := Lib.hid (R2.out.but S2.out.a2.i U2)
    have T3 := Lib.hid (T2.out.trans (TI.of_but U2 S2.out.a2.i (by have := S2.out.l1; have := S2.out.l2; omega)))
    have HB2 := Lib.hid B2
    have kp3 := U2.blk KP.out (KP.out.ne S2.out.a2.i (by decide))
    have p0 := kp3.cell 0
    have p0' := kp3.cell 1
    have lp := kp3.lt
    have c3 := S3.out.b3.cell 0
    have lb3 := S3.out.b3.lt
    simp only [List.getElem?_toArray, List.getElem?_cons_zero, List.getElem?_cons_succ] at c3 p0 p0'
    clear A2 B2 U2 c2 lb2 kp3 KP
    cases q2
    · go_wp2_with fail
      refine (along1_any s.i3 s.r3 v3 t.1 k3 p1 p2 _ S3.out.a3 R3.out.s3 R3.out.r3 HB.out.b3 R3.out.n3 q3 HQ3.out).mono ?_
      rintro e w3 ⟨k3', rfl, A3, B3, U3⟩
      have S4 := Lib.hid (S3.out.three U3 A3)
      have T4 := Lib.hid (T3.out.trans (TI.of_but U3 S3.out.a3.i (by have := S3.out.l1; have := S3.out.l2; have := S3.out.l3; omega)))
      have HB3 := Lib.hid B3
      have hre : r = q3 := by rw [hr']; rfl
      clear hr'
      subst hre
      clear A3 B3 U3 c3 lb3
      go_wp2
      go_ret
      exact ⟨_, _, _, rfl, S4.out, ⟨HB1.out, HB2.out, HB3.out⟩, T4.out⟩
    · have hre : r = false := by rw [hr']; rfl
      clear hr'
      subst hre
      go_wp2
      go_ret
      exact ⟨_, _, _, rfl, S3.out, ⟨HB1.out, HB2.out, HB.out.b3⟩, T3.out⟩
  · have hre : r = true := by rw [hr']; rfl
    clear hr'
    subst hre
    go_wp2
    go_ret
    exact ⟨_, _, _, rfl, S2.out, ⟨HB1.out, HB.out.b2, HB.out.b3⟩, T2.out⟩
end Go.Proofs.Ytlhigfphfbmbjaa

