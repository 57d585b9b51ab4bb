/- The reference of stage 7: what Of's loop keeps. No program is named here. -/
import Derived.Test.YtjfnhjmdgfkgnaaU6
import Derived.Test.YtjfnhjmdgfkgnaaU9
namespace Go.Proofs.Kit
open Go.RowKit
theorem cu_count (k : Int) : ∀ l : List Pr, cu l k = cl l k + l.countP fun x => decide (x.1 = k)
  | [] => rfl
  | x :: t => by
    have := cu_count k t
    unfold cu cl at this ⊢
    simp only [List.countP_cons]
    rw [this]
    by_cases h1 : x.1 < k
    · have h2 : x.1 ≤ k := by omega
      have h3 : ¬ x.1 = k := by omega
      simp [h1, h2, h3]
      omega
    · by_cases h3 : x.1 = k
      · simp [h3]
        omega
      · have h2 : ¬ x.1 ≤ k := by omega
        simp [h1, h2, h3]
/-- The branches of a run's first pairs, each as it will be in the end. -/
def zb (l : List Pr) (k : Nat) : List Br := bofK l (dd ((l.map (·.1)).take k))
theorem zb_zero (l : List Pr) : zb l 0 = [] := rfl
theorem zb_all (l : List Pr) : zb l l.length = bof l := by
  unfold zb bof
  rw [List.take_of_length_le (by simp)]
theorem zb_len (l : List Pr) (k : Nat) : (zb l k).length ≤ l.length := by
  unfold zb bofK
  rw [List.length_map]
  have h1 := dd_len ((l.map (·.1)).take k)
  rw [List.length_take, List.length_map] at h1
  omega
theorem zb_same {l : List Pr} (hr : Run l) {k : Nat} (hk : k < l.length) (h0 : 0 < k) (h : ¬ (l[k - 1]'(by omega)).1 < l[k].1) : zb l (k + 1) = zb l k := by
  unfold zb
  have hle := run_key hr (i := k - 1) (j := k) (by omega) hk (by omega)
  rw [dd_take_succ (by omega) (by simpa using hk), if_pos (by simp; omega)]
theorem zb_new {l : List Pr} (hr : Run l) {k : Nat} (hk : k < l.length) (h : 0 < k → (l[k - 1]'(by omega)).1 < l[k].1) :
    zb l (k + 1) = zb l k ++ [(l[k].1, (k : Int), ((k + l.countP fun x => decide (x.1 = l[k].1) : Nat) : Int))] := by
  have hcl : cl l l[k].1 = k := by
    have e : l = l.take k ++ l.drop k := (List.take_append_drop k l).symm
    have h1 : cl (l.take k) l[k].1 = (l.take k).length := cl_all (fun x hx => by
      obtain ⟨i, hi, rfl⟩ := List.getElem_of_mem hx
      rw [List.length_take] at hi
      rw [List.getElem_take]
      have h2 := run_key hr (i := i) (j := k - 1) (by omega) (by omega) (by omega)
      have h3 := h (by omega)
      omega)
    have h2 : cl (l.drop k) l[k].1 = 0 := cl_no (fun x hx => by
      obtain ⟨i, hi, rfl⟩ := List.getElem_of_mem hx
      rw [List.length_drop] at hi
      rw [List.getElem_drop]
      exact run_key hr hk (by omega) (by omega))
    have h3 := cl_app (l.take k) (l.drop k) l[k].1
    rw [List.take_append_drop, h1, h2, List.length_take] at h3
    omega
  have hcu := cu_count l[k].1 l
  rw [hcl] at hcu
  have hd : dd ((l.map (·.1)).take (k + 1)) = dd ((l.map (·.1)).take k) ++ [l[k].1] := by
    by_cases h0 : k = 0
    · subst h0
      cases l with
      | nil => simp at hk
      | cons x t => simp [dd]
    · rw [dd_take_succ (by omega) (by simpa using hk), if_neg (by have := h (by omega); simp; omega)]
      simp
  unfold zb
  rw [hd]
  unfold bofK
  rw [List.map_append, List.map_cons, List.map_nil, hcl, hcu]

theorem Owns.grownR {k : IntKind} {t t' : TypeId} {B B' : Nat} {w w' : World} {v va : Value} {l : List Int} {m : List Br} (h : Owns k t B w v l) (ha : OwnR t' B' w va m) (ht : t ≠ t') (hg : w.grownBy w' va.ownBlock) : Owns k t B w' v l := by
  refine h.same fun g hgv => hg.block g (h.lt g hgv).2 fun e => ?_
  rcases h.2 with ⟨rfl, _⟩ | ⟨g', cap, cur, rfl, _, hb, _⟩
  · simp [Value.ownBlock] at hgv
  · simp [Value.ownBlock] at hgv
    subst hgv
    exact ha.ne_blk (vs := cur) (t' := t) hb (fun e => ht e.symm) e.symm
theorem OwnR.grownI {k : IntKind} {t t' : TypeId} {B B' : Nat} {w w' : World} {v va : Value} {l : List Br} {m : List Int} (h : OwnR t B w v l) (ha : Owns k t' B' w va m) (ht : t ≠ t') (hg : w.grownBy w' va.ownBlock) : OwnR t B w' v l := by
  refine h.same fun g hgv => hg.block g (h.lt g hgv).2 fun e => ?_
  rcases h.2.2 with ⟨rfl, _⟩ | ⟨g', cap, cur, rfl, _, hb, _⟩
  · simp [Value.ownBlock] at hgv
  · simp [Value.ownBlock] at hgv
    subst hgv
    exact ha.ne_blk (vs := cur) (t' := t) hb (fun e => ht e.symm) e.symm
/-- append onto a row of integers, and what else stays. -/
theorem wpList_append_segG {P : Program} {w : World} {ops : Array Oper} {rest : List Oper} {o : Oper} {a : Act} {Q : Exit → Act → World → Prop} (hgd : o.guard = none) (s x : Operand) (t : TypeId)
    (ho : o.op = .call { callee := .builtin .append, args := #[s, x], argTypes := #[t, t] }) (k : IntKind)
    (base : Nat) (e : TypeId) (i : TypeInfo) (z : Value) (bytes : Nat) (ht : P.underlying t = some (.slice e)) (hi : P.info? e = some i) (hz : i.zero = some z) (hsize : i.size = 1) (hby : i.bytes = bytes) (hzs : z.cells.size = 1)
    (v : Value) (l : List Int) (hs : a.eval s = v) (hown : Owns k e base w v l) (vx : Value) (m : List Int) (hx : a.eval x = vx) (hm : Seg k w vx m)
    (h63 : l.length + m.length ≤ 9223372036854775807) (hbytes : (l.length + m.length) * bytes ≤ 140737488355328) (hbase : base ≤ w.heap.size)
    (h : ∀ v' w', Owns k e base w' v' (l ++ m) → Below base w w' → w.grownBy w' v.ownBlock → wpList P ops Q rest (a.put o.dst v') w') : wpList P ops Q (o :: rest) a w := by
  rcases hm.2 with ⟨rfl, rfl⟩ | ⟨b, f, c, rfl, h2, h3, h4, h5⟩
  · exact wpList_append_own_none hgd s x t ho base e i 1 ht hi v _ _ hs hown hx (h v w (by simpa using hown) (Below.refl _ _) (World.grownBy.refl _ _))
  · refine wpList_append_own w hgd s x t ho base e i z 1 bytes ht hi hz hsize hby hzs (by decide) v _ _ hs hown ⟨b, f, none⟩ m.length c (m.map (Value.int k)) hx (by simp) ?_ (ints_oneCell _ _) (by unfold maxLen; omega) hbytes hbase ?_
    · intro j u hj
      have hj' : j < m.length := by have := (List.getElem?_eq_some_iff.1 hj).1; simpa using this
      rw [Addr.add_lit, h5 j hj', ← hj]
      simp [hj']
    · intro v' w' hO hG _
      refine h v' w' ?_ ((Below.refl _ _).grown hG hbase (fun g hg => (hown.lt g hg).1)) hG
      unfold Owns
      rw [List.length_append, List.map_append]
      exact hO
/-- What holds between two rounds: two boxes, and two rows of the call's own. -/
structure ZI (tT tB tU : TypeId) (w : World) (vb vl : Value) (bs : List Br) (ls : List Int) (W : World) : Prop where
  r : Blk W w.heap.size #[.slice none 0 0, .slice none 0 0] tT
  x : Blk W (w.heap.size + 1) #[vb, vl] tT
  b : OwnR tB w.heap.size W vb bs
  l : Owns .u64 tU w.heap.size W vl ls
  low : Below w.heap.size w W
section
variable {tT tB tU : TypeId} {w W W' : World} {vb vl v' : Value} {bs bs' : List Br} {ls ls' : List Int}
theorem ZI.later (h : ZI tT tB tU w vb vl bs ls W) (hb : Below W.heap.size W W') : ZI tT tB tU w vb vl bs ls W' := ⟨h.r.later hb, h.x.later hb, h.b.later hb, h.l.later hb, below_later h.low hb⟩
theorem ZI.growB (h : ZI tT tB tU w vb vl bs ls W) (hO : OwnR tB w.heap.size W' v' bs') (hg : W.grownBy W' vb.ownBlock) (hb : Below w.heap.size W W') (h1 : tB ≠ tT) (h2 : tU ≠ tT) (h3 : tU ≠ tB) :
    ZI tT tB tU w v' vl bs' ls (W'.setCell ⟨w.heap.size + 1, 0, none⟩ v') := by
  have hx := h.x.grown hg (h.b.ne_blk h.x h1)
  have hr := h.r.grown hg (h.b.ne_blk h.r h1)
  have hl := h.l.grownR h.b h3 hg
  refine ⟨hr.other (by simp) _, by simpa using hx.set 0 v', hO.other (hO.ne_blk hx h1) 0 v', hl.oth (hl.ne_blk hx h2) 0 v', (h.low.trans hb).setCell (by simp) _⟩
theorem ZI.growL (h : ZI tT tB tU w vb vl bs ls W) (hO : Owns .u64 tU w.heap.size W' v' ls') (hg : W.grownBy W' vl.ownBlock) (hb : Below w.heap.size W W') (h1 : tB ≠ tT) (h2 : tU ≠ tT) (h3 : tB ≠ tU) :
    ZI tT tB tU w vb v' bs ls' (W'.setCell ⟨w.heap.size + 1, 1, none⟩ v') := by
  have hx := h.x.grown hg (h.l.ne_blk h.x h2)
  have hr := h.r.grown hg (h.l.ne_blk h.r h2)
  have hB := h.b.grownI h.l h3 hg
  refine ⟨hr.other (by simp) _, by simpa using hx.set 1 v', hB.other (hB.ne_blk hx h1) 1 v', hO.oth (hO.ne_blk hx h2) 1 v', (h.low.trans hb).setCell (by simp) _⟩
end
end Go.Proofs.Kit

