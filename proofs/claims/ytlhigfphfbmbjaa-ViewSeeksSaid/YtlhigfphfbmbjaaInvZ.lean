/- A region that draws its order, by one invariant: whatever operation comes up, the invariant holds behind it. No program is named here. -/
import Derived.Test.YtlhigfphfbmbjaaKit
import Derived.Orders
namespace Go.Proofs.Kit
open Go.RowKit
section
variable {P : Program} {ops : Array Oper} {Q : Exit → Act → World → Prop} {md : Region.Mode}
/-- One more has come up. -/
def upd (L : Nat → Bool) (i : Nat) : Nat → Bool := fun j => if j = i then true else L j
theorem upd_same (L : Nat → Bool) (i : Nat) : upd L i i = true := if_pos rfl
theorem upd_ne (L : Nat → Bool) {i j : Nat} (h : j ≠ i) : upd L i j = L j := if_neg h
def lst (listed : Array Bool) : Nat → Bool := fun j => listed.getD j false
theorem lst_set {listed : Array Bool} {i : Nat} (hi : i < listed.size) : lst (listed.setIfInBounds i true) = upd (lst listed) i := by
  funext j
  unfold lst upd
  by_cases h : j = i
  · subst h
    simp [hi]
  · rw [if_neg h]
    simp [Array.getElem?_setIfInBounds_ne (Ne.symm h)]
def cntF (l : List Bool) : Nat := l.count false
theorem ready_none {listed : Array Bool} (hs : listed.size = ops.size) (hlow : ∀ (i : Nat) (o : Oper), ops[i]? = some o → ∀ e ∈ o.after, e.on < i) (h : Region.ready md ops listed = []) : ∀ i, i < ops.size → lst listed i = true := by
  intro i
  induction i using Nat.strongRecOn with
  | _ i ih =>
    intro hi
    cases hc : lst listed i with
    | true => rfl
    | false =>
      have hm : i ∈ Region.ready md ops listed := by
        rw [mem_ready]
        refine ⟨?_, ops[i], Array.getElem?_eq_getElem hi, fun e he _ => ih e.on (hlow i _ (Array.getElem?_eq_getElem hi) e he) (by have := hlow i _ (Array.getElem?_eq_getElem hi) e he; omega)⟩
        unfold lst at hc
        rw [← hs] at hi
        simp [hi] at hc ⊢
        exact hc
      rw [h] at hm
      cases hm
theorem wpAny_inv {Inv : (Nat → Bool) → Act → World → Prop} (hlow : ∀ (i : Nat) (o : Oper), ops[i]? = some o → ∀ e ∈ o.after, e.on < i)
    (hstep : ∀ (L : Nat → Bool) (a : Act) (w : World) (i : Nat) (o : Oper), Inv L a w → L i = false → ops[i]? = some o → (∀ e ∈ o.after, Region.binds md e = true → L e.on = true) → if Region.wanted o (yielded ops a.tmps) then o.wp P a w (fun a' w' => Inv (upd L i) a' w') Q else Inv (upd L i) (a.put o.dst undef) w)
    (hdone : ∀ (L : Nat → Bool) (a : Act) (w : World), Inv L a w → (∀ i, i < ops.size → L i = true) → Q .normal a w) :
    ∀ (fuel : Nat) (listed : Array Bool) (a : Act) (w : World), listed.size = ops.size → cntF listed.toList ≤ fuel → Inv (lst listed) a w → wpAny P md ops Q fuel listed a w
  | 0, listed, a, w, hs, hc, hi => by
    have hall : Region.ready md ops listed = [] := by
      apply List.eq_nil_iff_forall_not_mem.2
      intro j hj
      obtain ⟨h1, _⟩ := mem_ready.1 hj
      have hm : false ∈ listed.toList := by
        by_cases hjs : j < listed.size
        · simp [hjs] at h1
          have := Array.getElem_mem hjs
          rw [h1] at this
          simpa using this
        · simp [Array.getElem?_eq_none (Nat.le_of_not_lt hjs)] at h1
      have := List.count_pos_iff.2 hm
      unfold cntF at hc
      omega
    exact ⟨hall, hdone _ _ _ hi (ready_none hs hlow hall)⟩
  | fuel + 1, listed, a, w, hs, hc, hi => by
    refine ⟨fun hall => hdone _ _ _ hi (ready_none hs hlow hall), fun j hj => ?_⟩
    obtain ⟨h1, o, ho, h2⟩ := mem_ready.1 hj
    have hjo : j < ops.size := (Array.getElem?_eq_some_iff.1 ho).1
    have hjs : j < listed.size := by omega
    have hjf : listed[j] = false := by simpa [hjs] using h1
    have hL : lst listed j = false := by unfold lst; simp [hjs, hjf]
    have hcnt : cntF (listed.setIfInBounds j true).toList ≤ fuel := by
      unfold cntF at hc ⊢
      rw [Array.toList_setIfInBounds, List.count_set (by simpa using hjs)]
      have hp : 0 < listed.toList.count false := List.count_pos_iff.2 (by rw [← hjf]; simp)
      simp only [Array.getElem_toList, hjf, beq_self_eq_true, if_true]
      have : ((true : Bool) == false) = false := rfl
      simp only [this, Bool.false_eq_true, if_false]
      omega
    have hk := hstep (lst listed) a w j o hi hL ho (fun e he hb => h2 e he hb)
    unfold wpOp
    rw [ho]
    simp only
    split
    · rename_i hw
      rw [if_pos hw] at hk
      refine .inl (Oper.wp_mono (fun a' w' h => ?_) hk)
      exact wpAny_inv hlow hstep hdone fuel _ a' w' (by simpa using hs) hcnt (by rw [lst_set hjs]; exact h)
    · rename_i hw
      rw [if_neg hw] at hk
      exact wpAny_inv hlow hstep hdone fuel _ _ w (by simpa using hs) hcnt (by rw [lst_set hjs]; exact hk)
def lowB (ops : Array Oper) : Bool := (List.range ops.size).all fun i => ((ops[i]?).map fun o => o.after.all fun e => decide (e.on < i)).getD true
theorem lowB_spec {ops : Array Oper} (h : lowB ops = true) : ∀ (i : Nat) (o : Oper), ops[i]? = some o → ∀ e ∈ o.after, e.on < i := by
  intro i o ho e he
  unfold lowB at h
  rw [List.all_eq_true] at h
  have := h i (List.mem_range.2 (Array.getElem?_eq_some_iff.1 ho).1)
  rw [ho] at this
  simp only [Option.map_some, Option.getD_some, Array.all_eq_true_iff_forall_mem, decide_eq_true_eq] at this
  exact this e he
/-- The law. -/
theorem wp_region_inv {id : Nat} {a : Act} {w : World} (hm : P.follows .mixedOrders = true) {Inv : (Nat → Bool) → Act → World → Prop} (hl : lowB ops = true)
    (h0 : Inv (fun _ => false) a w.drew)
    (hstep : ∀ (L : Nat → Bool) (a : Act) (w : World) (i : Nat) (o : Oper), Inv L a w → L i = false → ops[i]? = some o → (∀ e ∈ o.after, Region.binds .any e = true → L e.on = true) → if Region.wanted o (yielded ops a.tmps) then o.wp P a w (fun a' w' => Inv (upd L i) a' w') Q else Inv (upd L i) (a.put o.dst undef) w)
    (hdone : ∀ (L : Nat → Bool) (a : Act) (w : World), Inv L a w → (∀ i, i < ops.size → L i = true) → Q .normal a w) : (Code.region id ops true).wp P Q a w := by
  refine wp_region_any hm (wpAny_inv (lowB_spec hl) hstep hdone _ _ _ _ (by simp) ?_ ?_)
  · unfold cntF
    exact Nat.le_trans (List.count_le_length) (by simp)
  · have : lst (Array.replicate ops.size false) = fun _ => false := by
      funext j
      unfold lst
      by_cases hj : j < ops.size <;> simp [hj]
    rw [this]
    exact h0
end
end Go.Proofs.Kit

