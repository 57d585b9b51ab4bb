import Derived.Test.YtlhigfphfbmbjaaZA
import Derived.Deep.DeepAppendRoom
/- view.queue's Push and Pop. -/
namespace Go.Proofs.Kit
open Go.RowKit
theorem ob9 {o : Option Addr} {m n c c' g : Nat} (h : Value.ownBlock (.slice o m c) = some g) : Value.ownBlock (.slice o n c') = some g := by
  cases o with
  | none => exact h
  | some a => exact h
theorem Rq.ob {o : Option Addr} {k n c : Nat} (h : Rq o k) : Value.ownBlock (.slice o n c) = some k := by
  obtain ⟨x, rfl, rfl⟩ := h
  rfl
theorem Rq.of {o : Option Addr} {k n c : Nat} (h : Value.ownBlock (.slice o n c) = some k) : Rq o k := by
  cases o with
  | none => cases h
  | some a => injection h with h; exact ⟨a, rfl, h⟩
theorem Ow.upto9 {t : TypeId} {B : Nat} {w : World} {o : Option Addr} {m n c : Nat} {l : List Value} (h : Ow t B w (.slice o m c) l) (hm : m = l.length) (hn : n ≤ m) : Ow t B w (.slice o n c) (l.take n) := by
  have hl : (l.take n).length = n := by simp; omega
  rcases h.2 with ⟨h1, h2⟩ | ⟨g, cap, cur, h1, hg, hb, k1, k2, k3, k4⟩
  · injection h1 with e1 e2 e3
    subst e1 e3
    obtain rfl : n = 0 := by omega
    exact ⟨by simp, .inl ⟨rfl, by simp⟩⟩
  · injection h1 with e1 e2 e3
    subst e1 e3
    refine ⟨by simp, .inr ⟨g, c, cur, by rw [hl], hg, hb, by omega, k2, k3, ?_⟩⟩
    rw [hl, Nat.mul_one]
    rw [Nat.mul_one] at k4
    rw [← k4, List.take_take, Nat.min_eq_left (by omega)]
/-- append of one that lies in a block onto a row of the call's own, as a step of a region that draws its order: where there is room, the row stays; else it lies behind all. -/
theorem step_append_9 {P : Program} {ops : Array Oper} {w : World} {o : Oper} {a : Act} {K : Act → World → Prop} {Q : Exit → Act → World → Prop} {E : Prop} (hgd : o.guard = none) (s x : Operand) (t : TypeId)
    (ho : o.op = .call { callee := .builtin .append, args := #[s, x], argTypes := #[t, t] })
    (base : Nat) (e : TypeId) (i : TypeInfo) (z : Value) (bytes : Nat) (ht : P.underlying t = some (.slice e)) (hi : P.info? e = some i) (hz : i.zero = some z) (hsize : i.size = 1) (hby : i.bytes = bytes) (hzs : z.cells.size = 1)
    (oo : Option Addr) (cc : Nat) (n : Nat) (l : List Value) (hn : n = l.length) (hs : a.eval s = .slice oo n cc) (hown : Ow e base w (.slice oo n cc) l) (b c : Nat) (u : Value) (hx : a.eval x = .slice (some ⟨b, 0, none⟩) 1 c) (hu : w.cell? ⟨b, 0, none⟩ = some u) (hu1 : u.oneCell' = true)
    (h63 : n + 1 ≤ 1000000) (hbytes : (n + 1) * bytes ≤ 140737488355328) (hbase : base ≤ w.heap.size)
    (h : ∀ o' c' w', Ow e base w' (.slice o' (n + 1) c') (l ++ [u]) → w.grownBy w' (Value.ownBlock (.slice oo n cc)) → ((n < cc ∧ o' = oo ∧ c' = cc) ∨ (cc ≤ n ∧ Value.ownBlock (.slice o' (n + 1) c') = some w.heap.size)) → K (a.put o.dst (.slice o' (n + 1) c')) w') : if Region.wanted o (yielded ops a.tmps) = true then Oper.wp P o a w K Q else E := by
  rw [if_pos (by simp [Region.wanted, hgd])]
  subst hby
  have hnews : ∀ j v, [u][j]? = some v → w.cell? ((⟨b, 0, none⟩ : Addr).add j) = some v := by
    intro j v hj
    have hj' : j = 0 := by have := (List.getElem?_eq_some_iff.1 hj).1; simp at this; omega
    subst hj'
    simp at hj
    subst hj
    rw [Addr.add_lit]
    exact hu
  have h1 : ∀ v ∈ [u], v.oneCell' = true := by simpa using hu1
  have hown' : w.ownsRow base e 1 (.slice oo n cc) n l := by have h := hown; unfold Ow at h; rw [← hn] at h; exact h
  by_cases hroom : n + 1 ≤ cc
  · rcases hown'.2 with ⟨h0, _⟩ | ⟨g, cap, cur, hv, _⟩
    · injection h0 with _ h2 h3
      omega
    · injection hv with e1 e2 e3
      subst e1
      obtain ⟨w', hr, hO, hG⟩ := run_append_own_spare (P := P) w base t o.type e i 1 ht hi hsize g n cc l hown' ⟨b, 0, none⟩ 1 c [u] rfl hnews h1 hroom
      unfold Oper.wp execOp
      simp only [ho, resolve, invoke, builtin, Sem.run_bind, Sem.run_pure, Result.andThen_ok, List.map_toArray, List.map_cons, List.map_nil, hs, hx, hr]
      refine h _ _ w' ?_ hG (.inl ⟨by omega, rfl, rfl⟩)
      unfold Ow
      rw [List.length_append, ← hn]
      exact hO
  · obtain ⟨v', w', hr, hO, hG, _⟩ := run_append_own (P := P) w base t o.type e i z 1 i.bytes ht hi hz hsize rfl hzs (by decide) _ _ _ hown' ⟨b, 0, none⟩ 1 c [u] rfl hnews h1 (by unfold maxLen; omega) hbytes hbase
    have hw : v'.ownBlock = some w.heap.size := by
      rcases hown'.2 with ⟨h0, hn0⟩ | ⟨g, cap, cur, hv, hbg, hg, hnc, hcm, hcs, htake⟩
      · have hl0 : l = [] := List.eq_nil_of_length_eq_zero (by omega)
        subst hl0
        have hb1 : i.bytes ≤ 140737488355328 := by rw [hn0] at hbytes; omega
        have hr0 := run_append_nil (P := P) w t o.type e i z ht hi hz ⟨b, 0, none⟩ 1 c [u] (by simp [hsize]) hnews (by omega) (by omega) (by omega)
        rw [h0] at hr
        rw [hr0] at hr
        injection hr with e1 _
        rw [← e1]
        rfl
      · injection hv with e1 e2 e3
        subst e1 e3
        have holds : ∀ j v, l[j]? = some v → w.cell? ((⟨g, 0, none⟩ : Addr).add j) = some v := hown'.cells (g := g) rfl
        have hr0 := run_append_grow (P := P) w t o.type e i z ht hi hz ⟨g, 0, none⟩ n cc l (by rw [hsize]; omega) holds ⟨b, 0, none⟩ 1 c [u] (by simp [hsize]) hnews (by omega) (by omega) (growslice_fits (by omega) hbytes)
        rw [hr0] at hr
        injection hr with e1 _
        rw [← e1]
        rfl
    have hsh : ∃ o' c', v' = .slice o' (n + 1) c' := by
      rcases hO.2 with ⟨_, h2⟩ | ⟨g, cap, cur, hv, _⟩
      · omega
      · exact ⟨_, _, hv⟩
    obtain ⟨o', c', rfl⟩ := hsh
    unfold Oper.wp execOp
    simp only [ho, resolve, invoke, builtin, Sem.run_bind, Sem.run_pure, Result.andThen_ok, List.map_toArray, List.map_cons, List.map_nil, hs, hx, hr]
    refine h _ _ w' ?_ hG (.inr ⟨by omega, hw⟩)
    unfold Ow
    rw [List.length_append, ← hn]
    exact hO
end Go.Proofs.Kit
namespace Go.Proofs.Ytlhigfphfbmbjaa
open Go.RowKit Go.Proofs.Kit Go.Shelf
section
variable {tv : TypeId} {rlo lo hi : Nat} {w w' : World} {a c : Nat} {o : Option Addr} {xs : List Nd}
/-- The row of pointers and the box written anew: what else there is stays. -/
theorem VW.put {w1 : World} {o' : Option Addr} {c' hi' : Nat} {ys : List Nd} (h : VW tv rlo lo hi w a c o xs) (hh : hi ≤ hi') (ht : hi' ≤ w1.heap.size) (hg : w.grownBy w1 (Value.ownBlock (.slice o xs.length c)))
    (hr : Ow 109 lo w1 (.slice o' ys.length c') (ys.map fun x => ptr9 x.b)) (hq : ∀ g, Value.ownBlock (.slice o' ys.length c') = some g → g < hi')
    (hnr : ∀ x ∈ ys, NdR rlo hi w x) (hnm : ∀ x ∈ ys, NdM lo hi w x) (hd : (ys.map Nd.b).Nodup) (hf : ys.length ≤ 1000) :
    VW tv rlo lo hi' (w1.setCell ⟨a, 0, none⟩ (.slice o' ys.length c')) a c' o' ys ∧ ButR (Fq a o) w (w1.setCell ⟨a, 0, none⟩ (.slice o' ys.length c')) := by
  have hne : ∀ (b : Nat) vs t, Blk w b vs t → t ≠ 109 → Value.ownBlock (.slice o xs.length c) ≠ some b := fun b vs t hb ht => h.row.ne_blk hb (Ne.symm ht)
  have hb1 : Blk w1 a #[.slice o xs.length c] tv := (hg.block a h.blk.lt (fun e => hne a _ _ h.blk h.tne.2.2 e.symm)).trans h.blk
  have hO : ∀ k vs t, Blk w k vs t → t ≠ 109 → t ≠ tv → (w1.setCell ⟨a, 0, none⟩ (.slice o' ys.length c')).heap[k]? = w.heap[k]? := fun k vs t hb h1 h2 => by
    have hka : k ≠ a := by
      rintro rfl
      have e := (show w.heap[k]? = _ from hb).symm.trans h.blk
      injection e with e
      injection e with _ e _
      exact h2 e
    exact (Below.heap_setCell _ _ _ k hka).trans (hg.block k hb.lt (fun e => hne k _ _ hb h1 e.symm))
  refine ⟨⟨h.tne, ?_, h.alo, Nat.lt_of_lt_of_le h.ahi hh, ?_, hq, fun x hx => ?_, fun x hx => ?_, hd, by simpa using ht, h.low, hf⟩, ?_⟩
  · simpa using hb1.set 0 (.slice o' ys.length c')
  · refine hr.same fun g e => Below.heap_setCell _ _ _ g ?_
    rintro rfl
    exact hr.ne_blk hb1 (Ne.symm h.tne.2.2) e
  · obtain ⟨vs, hb⟩ := (hnr x hx).blk
    have := (hnr x hx).keep (hO _ _ _ hb (by decide) (Ne.symm h.tne.1))
    exact ⟨this.rlo, Nat.lt_of_lt_of_le this.rhi hh, this.blk, this.cells, this.pos, this.le, this.max⟩
  · have := (hnm x hx).keep (hO _ _ _ (hnm x hx).blk (by decide) (Ne.symm h.tne.2.1))
    exact ⟨this.lo, Nat.lt_of_lt_of_le this.hi hh, this.blk⟩
  · refine ButR.set ?_ _ _ (fun _ => .inl rfl)
    refine ⟨hg.os, hg.tape, hg.output, hg.size, fun k hk hs => hg.block k hs (fun e => hk (.inr (Rq.of e.symm)))⟩
theorem VW.grown {w1 : World} {n b : Nat} (h : VW tv rlo lo hi w a c o xs) (hn : n = xs.length) (hg : (w.drew.alloc (.cells #[ptr9 b] 109)).grownBy w1 (Value.ownBlock (.slice o n c))) : Blk w1 a #[.slice o n c] tv := by
  subst hn
  have hb : Blk (w.drew.alloc (.cells #[ptr9 b] 109)) a #[.slice o xs.length c] tv := h.blk.alloc _
  exact (hg.block a hb.lt (fun e => h.row.ne_blk h.blk (Ne.symm h.tne.2.2) e.symm)).trans hb
theorem VW.pushed {w1 : World} {o' : Option Addr} {c' : Nat} (h : VW tv rlo lo hi w a c o xs) (x : Nd) (hr : NdR rlo hi w x) (hm : NdM lo hi w x) (hd : x.b ∉ xs.map Nd.b) (hf : xs.length + 1 ≤ 1000)
    (hO : Ow 109 lo w1 (.slice o' (xs.length + 1) c') (xs.map (fun x => ptr9 x.b) ++ [ptr9 x.b])) (hg : (w.drew.alloc (.cells #[ptr9 x.b] 109)).grownBy w1 (Value.ownBlock (.slice o xs.length c)))
    (hw : (xs.length < c ∧ o' = o ∧ c' = c) ∨ (c ≤ xs.length ∧ Value.ownBlock (.slice o' (xs.length + 1) c') = some (w.drew.alloc (.cells #[ptr9 x.b] 109)).heap.size)) :
    ∃ hi' o'' c'', VW tv rlo lo hi' (w1.setCell ⟨a, 0, none⟩ (.slice o' (xs.length + 1) c')) a c'' o'' (xs ++ [x]) ∧ ((xs.length < c ∧ hi' = hi) ∨ (c ≤ xs.length ∧ hi' = (w1.setCell ⟨a, 0, none⟩ (.slice o' (xs.length + 1) c')).heap.size)) ∧ hi ≤ hi' ∧ ButR (Fq a o) w (w1.setCell ⟨a, 0, none⟩ (.slice o' (xs.length + 1) c')) ∧ (∀ k, Rq o'' k → k < w.heap.size → Rq o k) := by
  have hgr : Gr w (w.drew.alloc (.cells #[ptr9 x.b] 109)) := (Gr.drew w).trans (Gr.alloc _ _)
  have h0 := h.gr hgr
  have htop : hi ≤ w1.heap.size := Nat.le_trans h0.top hg.size
  have hlen : (xs ++ [x]).length = xs.length + 1 := by simp
  have hmap : (xs ++ [x]).map (fun x => ptr9 x.b) = xs.map (fun x => ptr9 x.b) ++ [ptr9 x.b] := by simp
  have hdd : ((xs ++ [x]).map Nd.b).Nodup := by
    rw [List.map_append, List.map_singleton, List.nodup_append]
    refine ⟨h.dif, by simp, fun y hy z hz e => ?_⟩
    simp at hz
    subst hz
    exact hd (e ▸ hy)
  have hnr : ∀ y ∈ xs ++ [x], NdR rlo hi (w.drew.alloc (.cells #[ptr9 x.b] 109)) y := fun y hy => by
    rcases List.mem_append.1 hy with k | k
    · exact h0.nr y k
    · simp at k
      subst k
      exact hr.keep (hgr.below.block _ (Nat.lt_of_lt_of_le hr.rhi h.top))
  have hnm : ∀ y ∈ xs ++ [x], NdM lo hi (w.drew.alloc (.cells #[ptr9 x.b] 109)) y := fun y hy => by
    rcases List.mem_append.1 hy with k | k
    · exact h0.nm y k
    · simp at k
      subst k
      exact hm.keep (hgr.below.block _ (Nat.lt_of_lt_of_le hm.hi h.top))
  have key : ∀ hi', hi ≤ hi' → hi' ≤ w1.heap.size → (∀ g, Value.ownBlock (.slice o' (xs.length + 1) c') = some g → g < hi') → VW tv rlo lo hi' (w1.setCell ⟨a, 0, none⟩ (.slice o' (xs.length + 1) c')) a c' o' (xs ++ [x]) ∧ ButR (Fq a o) w (w1.setCell ⟨a, 0, none⟩ (.slice o' (xs.length + 1) c')) := fun hi' k1 k2 k3 => by
    have := h0.put (o' := o') (c' := c') (ys := xs ++ [x]) k1 k2 hg (by rw [hlen, hmap]; exact hO) (by rw [hlen]; exact k3) hnr hnm hdd (by rw [hlen]; exact hf)
    rw [hlen] at this
    exact ⟨this.1, (ButR.of_below hgr.below).trans this.2⟩
  rcases hw with ⟨k1, rfl, rfl⟩ | ⟨k1, k2⟩
  · obtain ⟨q1, q2⟩ := key hi (Nat.le_refl _) htop (fun g e => h.qhi g (ob9 e))
    exact ⟨hi, _, _, q1, .inl ⟨k1, rfl⟩, Nat.le_refl _, q2, fun k hk _ => hk⟩
  · obtain ⟨q1, q2⟩ := key w1.heap.size htop (Nat.le_refl _) (fun g e => (hO.ge g e).2)
    refine ⟨w1.heap.size, _, _, q1, .inr ⟨k1, by simp⟩, htop, q2, fun k hk hs => ?_⟩
    have e := k2.symm.trans (hk.ob (n := xs.length + 1) (c := c'))
    injection e with e
    simp at e
    omega
theorem infoH : ∃ i, Try.prog.info? 109 = some i ∧ i.zero = some (.pointer none) ∧ i.size = 1 ∧ i.bytes = 8 := info_parts (by kernel_rfl)
theorem asH (v : Value) (w : World) : Sem.run Try.prog (Instr.typeAssert (.iface 109 v) 20 109 false) w = .ok v w := by kernel_rfl
set_option maxRecDepth 100000 in
set_option maxHeartbeats 4000000 in
theorem vpush_any (h : VW tv rlo lo hi w a c o xs) (x : Nd) (hr : NdR rlo hi w x) (hm : NdM lo hi w x) (hd : x.b ∉ xs.map Nd.b) (hf : xs.length + 1 ≤ 1000) :
    Calls Try.prog 158 #[ptr9 a, .iface 109 (ptr9 x.b)] w fun e w' => e = .returned (.tuple #[]) ∧ ∃ hi' o' c', VW tv rlo lo hi' w' a c' o' (xs ++ [x]) ∧ ((xs.length < c ∧ hi' = hi) ∨ (c ≤ xs.length ∧ hi' = w'.heap.size)) ∧ hi ≤ hi' ∧ ButR (Fq a o) w w' ∧ (∀ k, Rq o' k → k < w.heap.size → Rq o k) := by
  have hmix := mixed
  obtain ⟨i0, hi, hz0, hz1, hz2⟩ := infoH
  have HV := Lib.hid h
  have HX := Lib.hid (And.intro hr (And.intro hm hd))
  have d0 := h.cell
  have f0 := h.blk.frozen 0
  obtain ⟨n, hn⟩ : ∃ n, n = xs.length := ⟨_, rfl⟩
  rw [← hn] at d0 hf
  obtain ⟨bx, hbx⟩ : ∃ bx, bx = x.b := ⟨_, rfl⟩
  rw [← hbx]
  have HN := Lib.hid (And.intro hn hbx)
  have hal := h.blk.lt
  have hta := asH
  clear h hr hm hd hn hbx
  go_enter Try.func158, Try.ntmps158
  go_region_law (
    refine step_append_9 rfl _ _ 95 (by rfl) lo 109 i0 (.pointer none) 8 Try.underlying95 hi hz0 hz1 hz2 rfl o c n (xs.map fun x => ptr9 x.b) (by rw [List.length_map]; exact HN.out.1) (by rfl) (by have := (HV.out.row.drew.alloc (.cells #[ptr9 bx] 109)); rw [← HN.out.1] at this; exact this) w.heap.size _ (ptr9 bx) (by rfl) (((Blk.new w.drew #[ptr9 bx] 109).cell 0).trans rfl) (by rfl) (by omega) (by omega) (by have := HV.out.top; have := HV.out.alo; have := HV.out.ahi; simp; omega) ?_; intro o' c' w3 hO3 hg3 hw3; have hk3 := HV.out.grown HN.out.1 hg3; have d3 := hk3.cell 0; have f3 := hk3.frozen 0; have hl3 := hk3.lt; clear hk3; have HP := Lib.hid (And.intro hO3 (And.intro hg3 hw3)); clear hO3 hg3 hw3)
  all_goals
    go_wp2
    go_end0
    refine ⟨rfl, ?_⟩
    have h1 := HN.out.1
    have h2 := HN.out.2
    subst h1 h2
    exact HV.out.pushed x HX.out.1 HX.out.2.1 HX.out.2.2 hf HP.out.1 HP.out.2.1 HP.out.2.2
theorem VW.popped {n g : Nat} (h : VW tv rlo lo hi w a c (some ⟨g, 0, none⟩) xs) (hn : xs.length = n + 1) :
    VW tv rlo lo hi ((w.setCell ⟨g, n, none⟩ (.pointer none)).setCell ⟨a, 0, none⟩ (.slice (some ⟨g, 0, none⟩) n c)) a c (some ⟨g, 0, none⟩) (xs.take n) ∧ ButR (Fq a (some ⟨g, 0, none⟩)) w ((w.setCell ⟨g, n, none⟩ (.pointer none)).setCell ⟨a, 0, none⟩ (.slice (some ⟨g, 0, none⟩) n c)) := by
  have hl : (xs.take n).length = n := by simp; omega
  have hg : w.grownBy (w.setCell ⟨g, n, none⟩ (.pointer none)) (Value.ownBlock (.slice (some ⟨g, 0, none⟩) xs.length c)) :=
    ⟨rfl, rfl, rfl, by simp, fun k hk e => Below.heap_setCell _ _ _ k (by rintro rfl; exact e rfl)⟩
  obtain ⟨g1, c1, e1, _, _, _, _, _, _, r1⟩ := h.row.set (i := n) (by rw [List.length_map]; omega) (.pointer none)
  injection e1 with e1 _ _
  injection e1 with e1
  injection e1 with e1
  subst e1
  have r2 := r1.upto9 (n := n) (by simp) (by omega)
  have := h.put (w1 := w.setCell ⟨g, n, none⟩ (.pointer none)) (o' := some ⟨g, 0, none⟩) (c' := c) (hi' := hi) (ys := xs.take n) (Nat.le_refl _) (by simpa using h.top) hg (by
    rw [hl, List.map_take]
    have e : ((xs.map fun x => ptr9 x.b).set n (.pointer none)).take n = (xs.map fun x => ptr9 x.b).take n := by rw [List.take_set, List.set_eq_of_length_le (by simp; omega)]
    rwa [e] at r2)
    (fun k e => h.qhi k (ob9 e)) (fun x hx => h.nr x (List.mem_of_mem_take hx)) (fun x hx => h.nm x (List.mem_of_mem_take hx)) (h.dif.sublist ((List.take_sublist n xs).map _)) (by have := h.few; omega)
  rw [hl] at this
  exact this
set_option maxRecDepth 100000 in
set_option maxHeartbeats 4000000 in
theorem vpop_any (h : VW tv rlo lo hi w a c o xs) (n : Nat) (hn : xs.length = n + 1) :
    Calls Try.prog 157 #[ptr9 a] w fun e w' => e = .returned (.iface 109 (ptr9 (xs[n]'(by omega)).b)) ∧ VW tv rlo lo hi w' a c o (xs.take n) ∧ ButR (Fq a o) w w' := by
  obtain ⟨g, rfl, hg1, hg2, hnc, hcm, hcell⟩ := h.q (by omega)
  have HV := Lib.hid (h.popped hn)
  have d0 := h.cell
  have f0 := h.blk.frozen 0
  obtain ⟨d1, f1⟩ := hcell n (by omega)
  have hag : a ≠ g := fun e => h.row.ne_blk h.blk (Ne.symm h.tne.2.2) (by rw [e]; rfl)
  have hb1 : Blk (w.setCell ⟨g, n, none⟩ (.pointer none)) a #[.slice (some ⟨g, 0, none⟩) xs.length c] tv := h.blk.other hag _
  have d2 := (hb1.cell 0).trans rfl
  have f2 := hb1.frozen 0
  rw [hn] at d0 d2 hnc
  have hfew := h.few
  obtain ⟨bx, hbx⟩ : ∃ bx, bx = (xs[n]'(by omega)).b := ⟨_, rfl⟩
  rw [← hbx] at d1 ⊢
  have hnf : n ≤ 1000 := by omega
  clear h hcell hb1 hag hbx hfew
  go_enter Try.func157, Try.ntmps157
  go_wp2
  go_ret
  exact ⟨rfl, HV.out.1, HV.out.2⟩
end
end Go.Proofs.Ytlhigfphfbmbjaa


/- container/heap.Push and Pop; heads.put, take and first. -/
namespace Go.Proofs.Ytlhigfphfbmbjaa
open Go.RowKit Go.Proofs.Kit Go.Shelf
section
variable {tv : TypeId} {rlo lo hi : Nat} {w w' : World} {a c : Nat} {o : Option Addr} {xs : List Nd}
/-- Pushed: where there is room it lies where it lay. -/
structure Pd (tv : TypeId) (rlo lo hi : Nat) (w w' : World) (a c : Nat) (o : Option Addr) (xs zs : List Nd) (hi' c' : Nat) (o' : Option Addr) (ys : List Nd) : Prop where
  v : VW tv rlo lo hi' w' a c' o' ys
  perm : ys.Perm zs
  hp : Hp ys
  room : (xs.length < c ∧ hi' = hi) ∨ (c ≤ xs.length ∧ hi' ≤ w'.heap.size)
  le : hi ≤ hi'
  fr : ButR (Fq a o) w w'
set_option maxRecDepth 100000 in
set_option maxHeartbeats 4000000 in
theorem hpush_any (h : VW tv rlo lo hi w a c o xs) (hp : Hp xs) (x : Nd) (hr : NdR rlo hi w x) (hm : NdM lo hi w x) (hd : x.b ∉ xs.map Nd.b) (hf : xs.length + 1 ≤ 1000) :
    Calls Try.prog 107 #[.iface 147 (ptr9 a), .iface 109 (ptr9 x.b)] w fun e w' => e = .returned (.tuple #[]) ∧ ∃ hi' c' o' ys, Pd tv rlo lo hi w w' a c o xs (x :: xs) hi' c' o' ys := by
  have mP := met_push a
  have HP := Lib.hid (vpush_any h x hr hm hd hf)
  have HV := Lib.hid (And.intro h hp)
  clear h hr hm hd hp
  go_enter Try.func107, Try.ntmps107
  go_wp2_with fail
  refine (HP.out).mono ?_
  rintro e w1 ⟨rfl, hi', o', c', h1, h2, h3, h4, h5⟩
  have mL := met_len a _ w1 h1.cell
  have hlen : (xs ++ [x]).length = xs.length + 1 := by simp
  rw [hlen] at mL
  obtain ⟨n, hn⟩ : ∃ n, n = xs.length := ⟨_, rfl⟩
  rw [← hn] at mL
  have HU := Lib.hid (up_any h1 n (by rw [hn]; exact HpU.snoc HV.out.2 x))
  have H1 := Lib.hid (And.intro h1 (And.intro h2 (And.intro h3 (And.intro h4 h5))))
  have HN := Lib.hid hn
  have hnf : n ≤ 1000 := by omega
  clear h1 h2 h3 h4 h5 hlen hn
  go_wp2_with (first | (go_at_call 154; refine vlen_at.mono ?_; rintro e w2 ⟨rfl, rfl⟩) | (go_at_call 117; refine (HU.out).mono ?_; rintro e w3 ⟨rfl, ys, k1, k2, k3, k4⟩; have HK := Lib.hid (And.intro k1 (And.intro k2 (And.intro k3 k4))); clear k1 k2 k3 k4))
  go_end0
  refine ⟨rfl, hi', c', o', ys, HK.out.1, HK.out.2.1.trans (List.perm_append_comm.trans (.refl _)), HK.out.2.2.1, ?_, H1.out.2.2.1, ?_⟩
  · rcases H1.out.2.1 with h | h
    · exact .inl h
    · exact .inr ⟨h.1, by rw [h.2]; exact HK.out.2.2.2.size⟩
  · refine H1.out.2.2.2.1.trans' HK.out.2.2.2 fun k hk hs => .inr (H1.out.2.2.2.2 k hk hs)
theorem popped_perm {xs ys : List Nd} {n : Nat} (hl : xs.length = n + 1) (hp : ys.Perm (sw9 xs 0 n (by omega) (by omega))) (hk : ∀ k, n ≤ k → ys[k]? = (sw9 xs 0 n (by omega) (by omega))[k]?) (hy : n < ys.length) : ys[n] = xs[0]'(by omega) ∧ ((xs[0]'(by omega)) :: ys.take n).Perm xs := by
  have e : ys[n] = xs[0]'(by omega) := by
    have h1 := hk n (Nat.le_refl _)
    rw [List.getElem?_eq_getElem hy, List.getElem?_eq_getElem (by rw [sw9_len]; omega), sw9_get n (by omega), if_pos rfl] at h1
    injection h1
  refine ⟨e, ?_⟩
  have h2 : ys = ys.take n ++ [ys[n]] := by
    rw [List.take_append_getElem hy, List.take_of_length_le]
    have := hp.length_eq
    rw [sw9_len] at this
    omega
  have h3 : ((xs[0]'(by omega)) :: ys.take n).Perm ys := by
    rw [← e]
    conv => rhs; rw [h2]
    exact (List.perm_append_comm (l₁ := [ys[n]]) (l₂ := ys.take n))
  exact h3.trans (hp.trans sw9_perm)
set_option maxRecDepth 100000 in
set_option maxHeartbeats 4000000 in
theorem hpop_any (h : VW tv rlo lo hi w a c o xs) (hp : Hp xs) (hl : 0 < xs.length) :
    Calls Try.prog 108 #[.iface 147 (ptr9 a)] w fun e w' => e = .returned (.iface 109 (ptr9 (xs[0]).b)) ∧ ∃ ys, VW tv rlo lo hi w' a c o ys ∧ (xs[0] :: ys).Perm xs ∧ Hp ys ∧ ButR (Fq a o) w w' := by
  have mP := met_pop a
  obtain ⟨n, hn⟩ : ∃ n, xs.length = n + 1 := ⟨xs.length - 1, by omega⟩
  have hnf : n ≤ 1000 := by have := h.few; omega
  have mL := met_len a _ w h.cell
  rw [hn] at mL
  have mS := met_swap a _ w h.cell
  rw [hn] at mS
  have HSW := Lib.hid (vswap_at h hn.symm 0 n hl (by omega) (iv := 0) (jv := (n : Int)) rfl rfl)
  have HV := Lib.hid (And.intro h (hp.pop hn))
  have HN := Lib.hid hn
  clear h hp
  go_enter Try.func108, Try.ntmps108
  go_wp2_with (first | (go_at_call 154; refine vlen_at.mono ?_; rintro e w2 ⟨rfl, rfl⟩) | (go_at_call 156; refine (HSW.out).mono ?_; rintro e w1 ⟨rfl, v1, b1⟩; have HD := Lib.hid (down_any v1 n HV.out.2); have HB1 := Lib.hid b1; clear v1 b1) | (go_at_call 118; refine (HD.out).mono ?_; rintro e w2 ⟨bb, rfl, ys, k1, k2, k3, k4, k5⟩; have HPP := Lib.hid (vpop_any k1 n (by rw [k2.length_eq, sw9_len]; exact HN.out)); have HK := Lib.hid (And.intro k2 (And.intro k3 (And.intro k4 k5))); clear k1 k3 k4 k5) | (go_at_call 157; refine (HPP.out).mono ?_; rintro e w3 ⟨rfl, v3, b3⟩; have HV3 := Lib.hid (And.intro v3 b3); clear v3 b3))
  go_ret
  have hlen := HN.out
  have hyl := HK.out.1.length_eq
  rw [sw9_len] at hyl
  obtain ⟨e1, e2⟩ := popped_perm HN.out HK.out.1 HK.out.2.2.1 (by omega)
  refine ⟨by rw [e1]; rfl, _, HV3.out.1, e2, HK.out.2.1, ?_⟩
  exact ((HB1.out.mono fun _ => .inr).trans (HK.out.2.2.2.mono fun _ => .inr)).trans HV3.out.2
theorem asH2 (v : Value) (w : World) : Sem.run Try.prog (Instr.typeAssert (.iface 109 v) 20 109 false) w = .ok v w := asH v w
set_option maxRecDepth 100000 in
set_option maxHeartbeats 2000000 in
theorem take_any (h : VW tv rlo lo hi w a c o xs) (hp : Hp xs) (hl : 0 < xs.length) :
    Calls Try.prog 92 #[ptr9 a] w fun e w' => e = .returned (ptr9 (xs[0]).b) ∧ ∃ ys, VW tv rlo lo hi w' a c o ys ∧ (xs[0] :: ys).Perm xs ∧ Hp ys ∧ ButR (Fq a o) w w' := by
  have HP := Lib.hid (hpop_any h hp hl)
  have hta := asH
  clear h hp
  go_enter Try.func92, Try.ntmps92
  go_wp2_with (go_at_call 108; refine (HP.out).mono ?_; rintro e w1 ⟨rfl, ys, k1, k2, k3, k4⟩; have HK := Lib.hid (And.intro k1 (And.intro k2 (And.intro k3 k4))); clear k1 k2 k3 k4)
  go_ret
  exact ⟨rfl, _, HK.out⟩
set_option maxRecDepth 100000 in
set_option maxHeartbeats 2000000 in
theorem put_any (h : VW tv rlo lo hi w a c o xs) (hp : Hp xs) (x : Nd) (hr : NdR rlo hi w x) (hm : NdM lo hi w x) (hd : x.b ∉ xs.map Nd.b) (hf : xs.length + 1 ≤ 1000) :
    Calls Try.prog 91 #[ptr9 a, ptr9 x.b] w fun e w' => e = .returned (.tuple #[]) ∧ ∃ hi' c' o' ys, Pd tv rlo lo hi w w' a c o xs (x :: xs) hi' c' o' ys := by
  have HP := Lib.hid (hpush_any h hp x hr hm hd hf)
  have d0 : w.cell? ⟨x.b, 0, none⟩ = some x.rv := (hm.blk.cell 0).trans rfl
  have hpos := hr.pos
  clear h hp hr hm hd
  obtain ⟨bx, rb, off, cap, row, tier, adds⟩ := x
  simp only [Nd.rv] at d0 hpos HP ⊢
  obtain ⟨n, hn⟩ : ∃ n, n = row.length := ⟨_, rfl⟩
  rw [← hn] at d0 hpos
  clear hn
  go_enter Try.func91, Try.ntmps91
  go_wp2_with (go_at_call 107; refine (HP.out).mono ?_; rintro e w1 ⟨rfl, k1⟩; have HK := Lib.hid k1; clear k1)
  go_end0
  exact ⟨rfl, HK.out⟩
set_option maxRecDepth 100000 in
/-- A row that is gone through is put nowhere. -/
theorem put_none (bx : Nat) (ro : Option Addr) (rc : Nat) (t b : Value) (tt : TypeId) (hb : Blk w bx #[.slice ro 0 rc, t, b] tt) : Calls Try.prog 91 #[ptr9 a, ptr9 bx] w fun e w' => e = .returned (.tuple #[]) ∧ w = w' := by
  have d0 : w.cell? ⟨bx, 0, none⟩ = some (.slice ro 0 rc) := (hb.cell 0).trans rfl
  clear hb
  go_enter Try.func91, Try.ntmps91
  go_wp2
  go_end0
  exact ⟨rfl, rfl⟩
theorem new_pair (w : World) (x y : Int) : (w.alloc (.cells #[.int .u64 x, .int .u64 y] 53)).cell? ⟨w.heap.size, 0, none⟩ = some (.int .u64 x) ∧ (w.alloc (.cells #[.int .u64 x, .int .u64 y] 53)).cell? ⟨w.heap.size, 1, none⟩ = some (.int .u64 y) :=
  ⟨((Blk.new w _ _).cell 0).trans rfl, ((Blk.new w _ _).cell 1).trans rfl⟩
set_option maxRecDepth 100000 in
set_option maxHeartbeats 2000000 in
theorem first_some (h : VW tv rlo lo hi w a c o xs) (hl : 0 < xs.length) :
    Calls Try.prog 69 #[ptr9 a] w fun e w' => e = .returned (.tuple #[PV (xs[0]).p.1 (xs[0]).p.2, .bool true]) ∧ Gr w w' := by
  obtain ⟨g, rfl, hg1, hg2, hnc, hcm, hcell⟩ := h.q hl
  have d0 := h.cell
  have d1 := (hcell 0 hl).1
  have xr := h.nr xs[0] (List.getElem_mem hl)
  have xm := h.nm xs[0] (List.getElem_mem hl)
  have d2 : w.cell? ⟨(xs[0]).b, 0, none⟩ = some (xs[0]).rv := (xm.blk.cell 0).trans rfl
  obtain ⟨d3, d4⟩ := xr.hd
  have hpos := xr.pos
  have la := h.blk.lt
  have lg := Nat.lt_of_lt_of_le hg2 h.top
  have lb := xm.blk.lt
  have lr := Nat.lt_of_lt_of_le xr.rhi h.top
  obtain ⟨x, hx⟩ : ∃ x, x = xs[0] := ⟨_, rfl⟩
  rw [← hx] at d1 d2 d3 d4 hpos lb lr ⊢
  obtain ⟨n, hn⟩ : ∃ n, n = xs.length := ⟨_, rfl⟩
  rw [← hn] at d0 hnc hl
  obtain ⟨q, hq⟩ : ∃ q, q = x.p := ⟨_, rfl⟩
  rw [← hq] at d3 d4 ⊢
  clear h hcell xr xm hx hn hq
  obtain ⟨bx, rb, off, cap, row, tier, adds⟩ := x
  simp only [Nd.rv] at d1 d2 d3 d4 hpos lb lr ⊢
  obtain ⟨m, hm⟩ : ∃ m, m = row.length := ⟨_, rfl⟩
  rw [← hm] at d2 hpos
  clear hm
  obtain ⟨p1, p2⟩ := q
  go_enter Try.func69, Try.ntmps69
  go_wp2
  obtain ⟨r0, r1⟩ := new_pair w p1 p2
  exact bodyPost_ret (v := .tuple #[PV p1 p2, .bool true]) (by simp [results, Try.results69, go_sem, r0, r1]) rfl ⟨rfl, Gr.alloc _ _⟩
set_option maxRecDepth 100000 in
theorem first_none (h : VW tv rlo lo hi w a c o []) :
    Calls Try.prog 69 #[ptr9 a] w fun e w' => e = .returned (.tuple #[PV 0 0, .bool false]) ∧ Gr w w' := by
  have d0 := h.cell
  have la := h.blk.lt
  simp only [List.length_nil] at d0
  clear h
  go_enter Try.func69, Try.ntmps69
  go_wp2
  obtain ⟨r0, r1⟩ := new_pair w 0 0
  exact bodyPost_ret (v := .tuple #[PV 0 0, .bool false]) (by simp [results, Try.results69, go_sem, r0, r1]) rfl ⟨rfl, Gr.alloc _ _⟩
end
end Go.Proofs.Ytlhigfphfbmbjaa

