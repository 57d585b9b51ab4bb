import Derived.Test.YtlhigfphfbmbjaaW2
import Derived.Test.YtlhigfphfbmbjaaJ1
import Derived.Test.YtlhigfphfbmbjaaN3
import Derived.BigQuiet
/- View: plain facts: heads of rows, heaps of them. No program is named here. -/
namespace Go.Proofs.Kit
open Go.RowKit
/-- A head as it lies: its block; its row's block, offset and capacity; what is left of the row; its tier; whether that tier adds the row's pairs. -/
structure Nd where
  b : Nat
  rb : Nat
  off : Nat
  cap : Nat
  row : List Pr
  tier : Nat
  adds : Bool
def Nd.p (x : Nd) : Pr := x.row.headD (0, 0)
/-- Nothing of y comes ahead of x. -/
def le9 (x y : Nd) : Prop := lt2 x.p y.p ∨ (x.p = y.p ∧ y.tier ≤ x.tier)
def less9 (x y : Nd) : Bool := decide (cf2 x.p y.p < 0) || (decide (cf2 x.p y.p = 0) && decide (y.tier < x.tier))
theorem less9_no {x y : Nd} (h : less9 x y = false) : le9 y x := by
  unfold less9 at h
  simp only [Bool.or_eq_false_iff, Bool.and_eq_false_iff, decide_eq_false_iff_not, cf2_neg, cf2_zero] at h
  rcases lt2_tri x.p y.p with k | k | k
  · exact (h.1 k).elim
  · refine .inr ⟨k.symm, ?_⟩
    rcases h.2 with c | c
    · exact (c k).elim
    · omega
  · exact .inl k
theorem less9_yes {x y : Nd} (h : less9 x y = true) : le9 x y := by
  unfold less9 at h
  simp only [Bool.or_eq_true, Bool.and_eq_true, decide_eq_true_eq, cf2_neg, cf2_zero] at h
  rcases h with h | ⟨h, k⟩
  · exact .inl h
  · exact .inr ⟨h, by omega⟩
theorem le9_refl (x : Nd) : le9 x x := .inr ⟨rfl, Nat.le_refl _⟩
theorem le9_trans {x y z : Nd} (h : le9 x y) (k : le9 y z) : le9 x z := by
  rcases h with h | ⟨h, h'⟩ <;> rcases k with k | ⟨k, k'⟩
  · exact .inl (lt2_trans h k)
  · exact .inl (k ▸ h)
  · exact .inl (h ▸ k)
  · exact .inr ⟨h.trans k, Nat.le_trans k' h'⟩
/-- Above each one stands one that does not come behind it. -/
def Hp (l : List Nd) : Prop := ∀ i (h : i < l.length), 0 < i → le9 (l[(i - 1) / 2]'(by omega)) l[i]
theorem Hp.nil : Hp [] := fun i h _ => by simp at h
theorem Hp.root {l : List Nd} (h : Hp l) : ∀ i (hi : i < l.length), le9 (l[0]'(by omega)) l[i] := by
  intro i
  induction i using Nat.strongRecOn with
  | _ i ih =>
    intro hi
    by_cases e : i = 0
    · subst e; exact le9_refl _
    · exact le9_trans (ih ((i - 1) / 2) (by omega) (by omega)) (h i hi (by omega))
theorem Hp.min {x : Nd} {l : List Nd} (h : Hp (x :: l)) : ∀ y ∈ x :: l, le9 x y := by
  intro y hy
  obtain ⟨i, hi, rfl⟩ := List.getElem_of_mem hy
  exact h.root i hi
/-- Two of them in each other's place. -/
def sw9 (l : List Nd) (i j : Nat) (hi : i < l.length) (hj : j < l.length) : List Nd := (l.set i l[j]).set j l[i]
section
variable {l : List Nd} {i j : Nat} {hi : i < l.length} {hj : j < l.length}
theorem sw9_len : (sw9 l i j hi hj).length = l.length := by simp [sw9]
theorem sw9_perm : (sw9 l i j hi hj).Perm l := List.set_set_perm hi hj
theorem sw9_get (k : Nat) (hk : k < l.length) : (sw9 l i j hi hj)[k]'(by rw [sw9_len]; exact hk) = if k = j then l[i] else if k = i then l[j] else l[k] := by
  simp only [sw9, List.getElem_set]
  by_cases e : j = k
  · subst e; simp
  · have e' : ¬ k = j := fun c => e c.symm
    rw [if_neg e, if_neg e']
    by_cases f : i = k
    · subst f; simp
    · rw [if_neg f, if_neg (fun c => f c.symm)]
end
/-- A heap, but that the one at j may have to go up. -/
structure HpU (l : List Nd) (j : Nat) : Prop where
  lt : j < l.length
  all : ∀ i (h : i < l.length), 0 < i → i ≠ j → le9 (l[(i - 1) / 2]'(by omega)) l[i]
  over : ∀ i (h : i < l.length), 0 < i → (i - 1) / 2 = j → 0 < j → le9 (l[(j - 1) / 2]'(by omega)) l[i]
theorem HpU.snoc {l : List Nd} (h : Hp l) (x : Nd) : HpU (l ++ [x]) l.length where
  lt := by simp
  all i hi h0 hn := by
    have h1 : i < l.length := by simp at hi; omega
    rw [List.getElem_append_left h1, List.getElem_append_left (by omega)]
    exact h i h1 h0
  over i hi h0 e _ := by simp at hi; omega
theorem HpU.stop {l : List Nd} {j : Nat} (h : HpU l j) (hs : 0 < j → le9 (l[(j - 1) / 2]'(by have := h.lt; omega)) (l[j]'h.lt)) : Hp l := by
  intro i hi h0
  by_cases e : i = j
  · subst e; exact hs h0
  · exact h.all i hi h0 e
theorem HpU.go {l : List Nd} {j : Nat} (h : HpU l j) (h0 : 0 < j) (hs : le9 (l[j]'h.lt) (l[(j - 1) / 2]'(by have := h.lt; omega))) : HpU (sw9 l ((j - 1) / 2) j (by have := h.lt; omega) h.lt) ((j - 1) / 2) := by
  have hlt := h.lt
  refine ⟨by rw [sw9_len]; omega, fun i hi hi0 hne => ?_, fun i hi hi0 he hp => ?_⟩
  · rw [sw9_len] at hi
    rw [sw9_get i hi, sw9_get ((i - 1) / 2) (by omega)]
    by_cases e : i = j
    · subst e
      rw [if_pos rfl, if_neg (by omega), if_pos rfl]
      exact hs
    · rw [if_neg e, if_neg hne]
      by_cases c : (i - 1) / 2 = j
      · rw [if_pos c]
        exact h.over i hi hi0 c h0
      · rw [if_neg c]
        by_cases d : (i - 1) / 2 = (j - 1) / 2
        · rw [if_pos d]
          have := h.all i hi hi0 e
          simp only [d] at this
          exact le9_trans hs this
        · rw [if_neg d]
          exact h.all i hi hi0 e
  · rw [sw9_len] at hi
    rw [sw9_get i hi, sw9_get (((j - 1) / 2 - 1) / 2) (by omega)]
    rw [if_neg (show ¬ ((j - 1) / 2 - 1) / 2 = j by omega), if_neg (show ¬ ((j - 1) / 2 - 1) / 2 = (j - 1) / 2 by omega)]
    have h1 := h.all ((j - 1) / 2) (by omega) hp (by omega)
    by_cases e : i = j
    · rw [if_pos e]; exact h1
    · rw [if_neg e, if_neg (by omega)]
      have h2 := h.all i hi hi0 e
      simp only [he] at h2
      exact le9_trans h1 h2
/-- The first n of these are a heap, but that the one at i may have to go down. -/
structure HpD (l : List Nd) (n i : Nat) : Prop where
  le : n ≤ l.length
  all : ∀ k (h : k < n), 0 < k → (k - 1) / 2 ≠ i → le9 (l[(k - 1) / 2]'(by omega)) (l[k]'(by omega))
  over : ∀ k (_ : k < n) (_ : 0 < k) (_ : (k - 1) / 2 = i), 0 < i → le9 (l[(i - 1) / 2]'(by omega)) (l[k]'(by omega))
theorem HpD.stop {l : List Nd} {n i : Nat} (h : HpD l n i) (hs : ∀ k (_ : k < n) (_ : 0 < k) (_ : (k - 1) / 2 = i), le9 (l[i]'(by have := h.le; omega)) (l[k]'(by have := h.le; omega))) : Hp (l.take n) := by
  have hle := h.le
  intro k hk h0
  rw [List.length_take] at hk
  rw [List.getElem_take, List.getElem_take]
  by_cases e : (k - 1) / 2 = i
  · have := hs k (by omega) h0 e
    simp only [e]
    exact this
  · exact h.all k (by omega) h0 e
theorem HpD.go {l : List Nd} {n i j : Nat} (h : HpD l n i) (hj : j < n) (hj0 : 0 < j) (hji : (j - 1) / 2 = i) (hs : le9 (l[j]'(by have := h.le; omega)) (l[i]'(by have := h.le; omega)))
    (ho : ∀ k (_ : k < n) (_ : 0 < k) (_ : (k - 1) / 2 = i), le9 (l[j]'(by have := h.le; omega)) (l[k]'(by have := h.le; omega))) : HpD (sw9 l i j (by have := h.le; omega) (by have := h.le; omega)) n j := by
  have hle := h.le
  refine ⟨by rw [sw9_len]; exact hle, fun k hk h0 hne => ?_, fun k hk h0 he _ => ?_⟩
  · rw [sw9_get k (by omega), sw9_get ((k - 1) / 2) (by omega), if_neg hne]
    by_cases c : (k - 1) / 2 = i
    · rw [if_pos c]
      by_cases e : k = j
      · subst e; rw [if_pos rfl]; exact hs
      · rw [if_neg e, if_neg (by omega)]
        exact ho k hk h0 c
    · rw [if_neg c]
      by_cases e : k = j
      · subst e; omega
      · rw [if_neg e]
        by_cases d : k = i
        · rw [if_pos d]
          have := h.over j hj hj0 hji (by omega)
          simp only [← d] at this
          exact this
        · rw [if_neg d]
          exact h.all k hk h0 c
  · rw [sw9_get k (by omega), sw9_get ((j - 1) / 2) (by omega)]
    rw [if_neg (show ¬ k = j by omega), if_neg (show ¬ k = i by omega), if_neg (show ¬ (j - 1) / 2 = j by omega), if_pos hji]
    have := h.all k hk h0 (by omega)
    simp only [he] at this
    exact this
/-- The last one in the first one's place: all but it are a heap, but for the first. -/
theorem Hp.pop {l : List Nd} {n : Nat} (h : Hp l) (hl : l.length = n + 1) : HpD (sw9 l 0 n (by omega) (by omega)) n 0 := by
  refine ⟨by rw [sw9_len]; omega, fun k hk h0 hne => ?_, fun k _ _ _ c => absurd c (by omega)⟩
  rw [sw9_get k (by omega), sw9_get ((k - 1) / 2) (by omega)]
  rw [if_neg (show ¬ k = n by omega), if_neg (show ¬ k = 0 by omega), if_neg (show ¬ (k - 1) / 2 = n by omega), if_neg hne]
  exact h k (by omega) h0
end Go.Proofs.Kit


/- View as it lies: a box that holds a queue of heads, each with what is left of its row. -/
namespace Go.Proofs.Kit
open Go.RowKit
abbrev Nd.rv (x : Nd) : Value := .slice (some ⟨x.rb, x.off, none⟩) x.row.length x.cap
abbrev ptr9 (b : Nat) : Value := .pointer (some ⟨b, 0, none⟩)
/-- These blocks alone part. -/
abbrev Mid (lo hi : Nat) : World → World → Prop := ButR fun k => lo ≤ k ∧ k < hi
theorem Mid.below' {lo hi : Nat} {w w' : World} (h : Mid lo hi w w') (hl : lo ≤ w.heap.size) : Below lo w w' := h.below (fun _ k => k.1) hl
theorem Mid.of_gr {lo hi : Nat} {w w' : World} (h : Gr w w') : Mid lo hi w w' := .of_below h.below
theorem Mid.gr {lo hi : Nat} {w w1 w' : World} (h : Mid lo hi w w1) (k : Gr w1 w') : Mid lo hi w w' := h.later k.below
theorem ButR.gr9 {R : Nat → Prop} {w w1 w' : World} (h : ButR R w w1) (k : Gr w1 w') : ButR R w w' := h.later k.below
/-- The block of a row. -/
def Rq (o : Option Addr) : Nat → Prop := fun k => ∃ x, o = some x ∧ x.block = k
/-- .. or the box that holds its slice. -/
def Fq (a : Nat) (o : Option Addr) : Nat → Prop := fun k => k = a ∨ Rq o k
end Go.Proofs.Kit
namespace Go.Proofs.Ytlhigfphfbmbjaa
open Go.RowKit Go.Proofs.Kit
/-- What is left of a head's row, as it lies. -/
structure NdR (rlo hi : Nat) (w : World) (x : Nd) : Prop where
  rlo : rlo ≤ x.rb
  rhi : x.rb < hi
  blk : ∃ vs, Blk w x.rb vs 53
  cells : PCells w x.rb x.off x.row
  pos : 0 < x.row.length
  le : x.row.length ≤ x.cap
  max : x.cap ≤ 4611686018427387903
structure NdM (lo hi : Nat) (w : World) (x : Nd) : Prop where
  lo : lo ≤ x.b
  hi : x.b < hi
  blk : Blk w x.b #[x.rv, .int .i64 x.tier, .bool x.adds] 111
section
variable {rlo lo hi : Nat} {w w' : World} {x : Nd}
theorem NdR.keep (h : NdR rlo hi w x) (hs : w'.heap[x.rb]? = w.heap[x.rb]?) : NdR rlo hi w' x := by
  obtain ⟨vs, hb⟩ := h.blk
  refine ⟨h.rlo, h.rhi, ⟨vs, hs.trans hb⟩, fun i hi => ?_, h.pos, h.le, h.max⟩
  have := h.cells i hi
  exact ⟨(World.cell?_of_block (a := ⟨x.rb, x.off + i * 2, none⟩) hs).trans this.1, (World.cell?_of_block (a := ⟨x.rb, x.off + i * 2 + 1, none⟩) hs).trans this.2⟩
theorem NdM.keep (h : NdM lo hi w x) (hs : w'.heap[x.b]? = w.heap[x.b]?) : NdM lo hi w' x := ⟨h.lo, h.hi, hs.trans h.blk⟩
theorem NdR.seg (h : NdR rlo hi w x) : SegP w x.rv x.row := by
  obtain ⟨vs, hb⟩ := h.blk
  exact ⟨Nat.le_trans h.le h.max, .inr ⟨x.rb, x.off, x.cap, rfl, h.le, by have := h.max; omega, hb.lt, h.cells⟩⟩
theorem NdR.hd (h : NdR rlo hi w x) : w.cell? ⟨x.rb, x.off, none⟩ = some (.int .u64 x.p.1) ∧ w.cell? ⟨x.rb, x.off + 1, none⟩ = some (.int .u64 x.p.2) := by
  have h1 := h.cells 0 h.pos
  have h2 : x.row[0]'h.pos = x.p := by
    unfold Nd.p
    rw [List.headD_eq_head?_getD, List.head?_eq_getElem?, List.getElem?_eq_getElem h.pos]
    rfl
  rw [h2] at h1
  simpa using h1
end
/-- A queue of these heads, in the box a, which holds a value of type tv. -/
structure VW (tv : TypeId) (rlo lo hi : Nat) (w : World) (a c : Nat) (o : Option Addr) (xs : List Nd) : Prop where
  tne : tv ≠ 53 ∧ tv ≠ 111 ∧ tv ≠ 109
  blk : Blk w a #[.slice o xs.length c] tv
  alo : lo ≤ a
  ahi : a < hi
  row : Ow 109 lo w (.slice o xs.length c) (xs.map fun x => ptr9 x.b)
  qhi : ∀ g, Value.ownBlock (.slice o xs.length c) = some g → g < hi
  nr : ∀ x ∈ xs, NdR rlo hi w x
  nm : ∀ x ∈ xs, NdM lo hi w x
  dif : (xs.map Nd.b).Nodup
  top : hi ≤ w.heap.size
  low : rlo ≤ lo
  few : xs.length ≤ 1000
section
variable {tv : TypeId} {rlo lo hi : Nat} {w w' : World} {a c : Nat} {o : Option Addr} {xs : List Nd}
theorem VW.keep (h : VW tv rlo lo hi w a c o xs) (hs : ∀ k, rlo ≤ k → k < hi → w'.heap[k]? = w.heap[k]?) (hz : w.heap.size ≤ w'.heap.size) : VW tv rlo lo hi w' a c o xs where
  tne := h.tne
  blk := (hs a (Nat.le_trans h.low h.alo) h.ahi).trans h.blk
  alo := h.alo
  ahi := h.ahi
  row := h.row.same fun g hg => hs g (Nat.le_trans h.low (h.row.ge g hg).1) (h.qhi g hg)
  qhi := h.qhi
  nr x hx := (h.nr x hx).keep (hs _ (h.nr x hx).rlo (h.nr x hx).rhi)
  nm x hx := (h.nm x hx).keep (hs _ (Nat.le_trans h.low (h.nm x hx).lo) (h.nm x hx).hi)
  dif := h.dif
  top := Nat.le_trans h.top hz
  low := h.low
  few := h.few
theorem VW.later (h : VW tv rlo lo hi w a c o xs) (hb : Below w.heap.size w w') : VW tv rlo lo hi w' a c o xs := h.keep (fun k _ hk => hb.block k (Nat.lt_of_lt_of_le hk h.top)) hb.size
theorem VW.below (h : VW tv rlo lo hi w a c o xs) {B : Nat} (hb : Below B w w') (hB : hi ≤ B) : VW tv rlo lo hi w' a c o xs := h.keep (fun k _ hk => hb.block k (Nat.lt_of_lt_of_le hk hB)) hb.size
theorem VW.gr (h : VW tv rlo lo hi w a c o xs) (hb : Gr w w') : VW tv rlo lo hi w' a c o xs := h.later hb.below
theorem VW.rq (h : VW tv rlo lo hi w a c o xs) (k : Nat) (hk : Rq o k) : lo ≤ k ∧ k < hi := by
  obtain ⟨x, rfl, rfl⟩ := hk
  exact ⟨(h.row.ge _ rfl).1, h.qhi _ rfl⟩
theorem VW.mid (h : VW tv rlo lo hi w a c o xs) {w1 w2 : World} (hb : ButR (Rq o) w1 w2) : Mid lo hi w1 w2 := hb.mono fun k hk => h.rq k hk
theorem VW.fq (h : VW tv rlo lo hi w a c o xs) (k : Nat) (hk : Fq a o k) : lo ≤ k ∧ k < hi := by
  rcases hk with rfl | hk
  · exact ⟨h.alo, h.ahi⟩
  · exact h.rq k hk
theorem VW.midF (h : VW tv rlo lo hi w a c o xs) {w1 w2 : World} (hb : ButR (Fq a o) w1 w2) : Mid lo hi w1 w2 := hb.mono fun k hk => h.fq k hk
/-- What is written when one is taken leaves the heads as they lie. -/
theorem VW.heads (h : VW tv rlo lo hi w a c o xs) (hb : ButR (Fq a o) w w') {x : Nd} (hx : x ∈ xs) : NdR rlo hi w' x ∧ NdM lo hi w' x := by
  have hne : ∀ (b : Nat) vs t, Blk w b vs t → t ≠ 109 → t ≠ tv → ¬ Fq a o b := fun b vs t hk h1 h2 e => by
    rcases e with rfl | ⟨y, rfl, rfl⟩
    · have e := (show w.heap[b]? = _ from hk).symm.trans h.blk
      injection e with e
      injection e with _ e _
      exact h2 e
    · exact h.row.ne_blk hk (Ne.symm h1) rfl
  have hr := h.nr x hx
  have hm := h.nm x hx
  obtain ⟨vs, hv⟩ := hr.blk
  exact ⟨hr.keep (hb.same _ (hne _ _ _ hv (by decide) (Ne.symm h.tne.1)) hv.lt), hm.keep (hb.same _ (hne _ _ _ hm.blk (by decide) (Ne.symm h.tne.2.1)) hm.blk.lt)⟩
/-- A store into a head that is none of these. -/
theorem VW.other (h : VW tv rlo lo hi w a c o xs) {x : Nd} (hm : NdM lo hi w x) (hx : x.b ∉ xs.map Nd.b) (v : Value) : VW tv rlo lo hi (w.setCell ⟨x.b, 0, none⟩ v) a c o xs ∧ Mid lo hi w (w.setCell ⟨x.b, 0, none⟩ v) ∧ Blk (w.setCell ⟨x.b, 0, none⟩ v) x.b #[v, .int .i64 x.tier, .bool x.adds] 111 := by
  have hO : ∀ k, k ≠ x.b → (w.setCell ⟨x.b, 0, none⟩ v).heap[k]? = w.heap[k]? := fun k hk => Below.heap_setCell _ _ _ k hk
  have hT : ∀ k vs t, Blk w k vs t → t ≠ 111 → k ≠ x.b := fun k vs t hk ht e => by
    subst e
    have e := (show w.heap[x.b]? = _ from hk).symm.trans hm.blk
    injection e with e
    injection e with _ e _
    exact ht e
  refine ⟨⟨h.tne, (hO _ (hT _ _ _ h.blk h.tne.2.1)).trans h.blk, h.alo, h.ahi, ?_, h.qhi, fun y hy => ?_, fun y hy => ?_, h.dif, by simpa using h.top, h.low, h.few⟩, (ButR.refl _ w).set _ _ (fun _ => ⟨hm.lo, hm.hi⟩), ?_⟩
  · refine h.row.same fun g hg => hO g ?_
    rintro rfl
    exact h.row.ne_blk hm.blk (by decide) hg
  · obtain ⟨vs, hv⟩ := (h.nr y hy).blk
    exact (h.nr y hy).keep (hO _ (hT _ _ _ hv (by decide)))
  · exact (h.nm y hy).keep (hO _ (fun e => hx (e ▸ List.mem_map.2 ⟨y, hy, rfl⟩)))
  · simpa using hm.blk.set 0 v
/-- The queue's row, where it is not empty. -/
theorem VW.q (h : VW tv rlo lo hi w a c o xs) (hn : 0 < xs.length) : ∃ g, o = some ⟨g, 0, none⟩ ∧ lo ≤ g ∧ g < hi ∧ xs.length ≤ c ∧ c ≤ 9223372036854775807 ∧ ∀ i (hi : i < xs.length), w.cell? ⟨g, i, none⟩ = some (ptr9 xs[i].b) ∧ w.frozen? ⟨g, i, none⟩ = false := by
  have h0 : 0 < (xs.map fun x => ptr9 x.b).length := by simpa using hn
  obtain ⟨g, cap, e, h1, h2, h3, h4, _⟩ := h.row.set h0 (.bool true)
  injection e with e1 e2 e3
  subst e1 e3
  refine ⟨g, rfl, h3, h.qhi g rfl, by simpa using h1, h2, fun i hi => ?_⟩
  obtain ⟨g', cap', e', _, _, _, _, h5, h6, _⟩ := h.row.set (i := i) (by simpa using hi) (.bool true)
  injection e' with e1 e2 e3
  injection e1 with e1
  injection e1 with e1
  subst e1
  exact ⟨by simpa using h5, h6⟩
end
theorem run_load9 {P : Program} {w : World} {p : Addr} {v : Value} (h : w.cell? p = some v) : Sem.run P (load p) w = .ok v w := by
  simp [load, Sem.run, h]
theorem met_fn {α : Type} {P : Program} {w : World} {p : Addr} {v : Value} (h : w.cell? p = some v) (f : α) : Sem.run P (do let v ← load p; pure (f, v)) w = .ok (f, v) w := by
  rw [Sem.run_bind, run_load9 h]
  rfl
theorem met_len (a : Nat) (q : Value) (w : World) (h : w.cell? ⟨a, 0, none⟩ = some q) : Sem.run Try.prog (method 303 147 (ptr9 a) "Len") w = .ok (154, q) w :=
  (show Sem.run Try.prog (method 303 147 (ptr9 a) "Len") w = Sem.run Try.prog (do let v ← load ⟨a, 0, none⟩; pure (154, v)) w by kernel_rfl).trans (met_fn h _)
theorem met_less (a : Nat) (q : Value) (w : World) (h : w.cell? ⟨a, 0, none⟩ = some q) : Sem.run Try.prog (method 303 147 (ptr9 a) "Less") w = .ok (155, q) w :=
  (show Sem.run Try.prog (method 303 147 (ptr9 a) "Less") w = Sem.run Try.prog (do let v ← load ⟨a, 0, none⟩; pure (155, v)) w by kernel_rfl).trans (met_fn h _)
theorem met_swap (a : Nat) (q : Value) (w : World) (h : w.cell? ⟨a, 0, none⟩ = some q) : Sem.run Try.prog (method 303 147 (ptr9 a) "Swap") w = .ok (156, q) w :=
  (show Sem.run Try.prog (method 303 147 (ptr9 a) "Swap") w = Sem.run Try.prog (do let v ← load ⟨a, 0, none⟩; pure (156, v)) w by kernel_rfl).trans (met_fn h _)
theorem met_push (a : Nat) (w : World) : Sem.run Try.prog (method 303 147 (ptr9 a) "Push") w = .ok (158, ptr9 a) w := by kernel_rfl
theorem met_pop (a : Nat) (w : World) : Sem.run Try.prog (method 303 147 (ptr9 a) "Pop") w = .ok (157, ptr9 a) w := by kernel_rfl
end Go.Proofs.Ytlhigfphfbmbjaa


/- view.queue's methods: Len, Less, Swap. -/
namespace Go.Proofs.Ytlhigfphfbmbjaa
open Go.RowKit Go.Proofs.Kit Go.Shelf
set_option maxRecDepth 100000 in
theorem vlen_any (o : Option Addr) (n c : Nat) (w : World) : Calls Try.prog 154 #[.slice o n c] w fun e w' => e = .returned (.int .i64 (n : Int)) ∧ w = w' := by
  go_enter Try.func154, Try.ntmps154
  go_wp2
  go_ret
  exact ⟨rfl, rfl⟩
set_option maxRecDepth 100000 in
set_option maxHeartbeats 4000000 in
theorem vless_any {tv : TypeId} {rlo lo hi : Nat} {w : World} {a c : Nat} {o : Option Addr} {xs : List Nd} (h : VW tv rlo lo hi w a c o xs) (i j : Nat) (hi : i < xs.length) (hj : j < xs.length) :
    Calls Try.prog 155 #[.slice o xs.length c, .int .i64 (i : Int), .int .i64 (j : Int)] w fun e w' => e = .returned (.bool (less9 xs[i] xs[j])) ∧ Gr w w' := by
  have hmix := mixed
  obtain ⟨g, rfl, hg1, hg2, hnc, hcm, hcell⟩ := h.q (by omega)
  have hgs : g < w.heap.size := Nat.lt_of_lt_of_le hg2 h.top
  have xr := h.nr xs[i] (List.getElem_mem hi)
  have xm := h.nm xs[i] (List.getElem_mem hi)
  have yr := h.nr xs[j] (List.getElem_mem hj)
  have ym := h.nm xs[j] (List.getElem_mem hj)
  have q1 := fun n os => cell_grown hgs (hcell i hi).1 n os
  have q2 := fun n os => cell_grown hgs (hcell j hj).1 n os
  have bxl := Nat.lt_of_lt_of_le xm.hi h.top
  have byl := Nat.lt_of_lt_of_le ym.hi h.top
  have rx := Nat.lt_of_lt_of_le xr.rhi h.top
  have ry := Nat.lt_of_lt_of_le yr.rhi h.top
  have x0 := fun n os => cell_grown bxl (show w.cell? ⟨xs[i].b, 0, none⟩ = some xs[i].rv from (xm.blk.cell 0).trans rfl) n os
  have x1 := fun n os => cell_grown bxl (show w.cell? ⟨xs[i].b, 1, none⟩ = some (.int .i64 xs[i].tier) from (xm.blk.cell 1).trans rfl) n os
  have y0 := fun n os => cell_grown byl (show w.cell? ⟨xs[j].b, 0, none⟩ = some xs[j].rv from (ym.blk.cell 0).trans rfl) n os
  have y1 := fun n os => cell_grown byl (show w.cell? ⟨xs[j].b, 1, none⟩ = some (.int .i64 xs[j].tier) from (ym.blk.cell 1).trans rfl) n os
  have x2 := fun n os => cell_grown rx xr.hd.1 n os
  have x3 := fun n os => cell_grown rx xr.hd.2 n os
  have y2 := fun n os => cell_grown ry yr.hd.1 n os
  have y3 := fun n os => cell_grown ry yr.hd.2 n os
  have px := xr.pos
  have py := yr.pos
  unfold less9
  obtain ⟨x, hx⟩ : ∃ x, x = xs[i] := ⟨_, rfl⟩
  obtain ⟨y, hy⟩ : ∃ y, y = xs[j] := ⟨_, rfl⟩
  rw [← hx] at x0 x1 x2 x3 q1 px ⊢
  rw [← hy] at y0 y1 y2 y3 q2 py ⊢
  obtain ⟨n, hn⟩ : ∃ n, n = xs.length := ⟨_, rfl⟩
  rw [← hn] at hi hj hnc ⊢
  obtain ⟨bx, rbx, ox, cx, lx, tx, adx⟩ := x
  obtain ⟨bY, rby, oy, cy, ly, ty, ady⟩ := y
  simp only [Nd.rv] at x0 x1 x2 x3 q1 px y0 y1 y2 y3 q2 py ⊢
  obtain ⟨xp, hxp⟩ : ∃ xp, xp = Nd.p ⟨bx, rbx, ox, cx, lx, tx, adx⟩ := ⟨_, rfl⟩
  obtain ⟨yp, hyp⟩ : ∃ yp, yp = Nd.p ⟨bY, rby, oy, cy, ly, ty, ady⟩ := ⟨_, rfl⟩
  rw [← hxp] at x2 x3 ⊢
  rw [← hyp] at y2 y3 ⊢
  obtain ⟨nx, hnx⟩ : ∃ nx, nx = lx.length := ⟨_, rfl⟩
  obtain ⟨ny, hny⟩ : ∃ ny, ny = ly.length := ⟨_, rfl⟩
  rw [← hnx] at x0 px
  rw [← hny] at y0 py
  clear hx hy hn hxp hyp hnx hny h xr xm yr ym hcell hg1 hg2 bxl byl rx ry hgs
  obtain ⟨p1, p2⟩ := xp
  obtain ⟨r1, r2⟩ := yp
  obtain ⟨t, ht⟩ : ∃ t, t = cf2 (p1, p2) (r1, r2) := ⟨_, rfl⟩
  rw [← ht]
  have HT := Lib.hid ht
  clear ht
  by_cases h0 : t < 0
  · have k0 : decide (t < 0) = true := decide_eq_true h0
    rw [k0]
    go_enter Try.func155, Try.ntmps155
    go_wp2
    go_quiet_grown ((go_at_call 45; refine Calls.gr_of (compare_at _ _ _ _ t HT.out _)))
    go_wp2
    go_quiet (fail)
    go_wp2
    go_ret
    exact ⟨rfl, (Gr.grown _ _ _).trans (Gr.drewN _ _)⟩
  · have k0 : decide (t < 0) = false := decide_eq_false h0
    by_cases h1 : t = 0
    · subst h1
      have k1 : decide ((0 : Int) = 0) = true := by decide
      rw [k0, k1, Bool.false_or, Bool.true_and]
      go_enter Try.func155, Try.ntmps155
      go_wp2
      go_quiet_grown ((go_at_call 45; refine Calls.gr_of (compare_at _ _ _ _ 0 HT.out _)))
      go_wp2
      go_quiet (fail)
      go_wp2
      go_ret
      exact ⟨rfl, (Gr.grown _ _ _).trans (Gr.drewN _ _)⟩
    · have k1 : (t == 0) = false := by simpa using h1
      have k2 : decide (t = 0) = false := decide_eq_false h1
      rw [k0, k2]
      go_enter Try.func155, Try.ntmps155
      go_wp2
      go_quiet_grown ((go_at_call 45; refine Calls.gr_of (compare_at _ _ _ _ t HT.out _)))
      go_wp2
      go_quiet (fail)
      go_wp2
      go_ret
      exact ⟨rfl, (Gr.grown _ _ _).trans (Gr.drewN _ _)⟩
theorem VW.swap {tv : TypeId} {rlo lo hi : Nat} {w : World} {a c : Nat} {o : Option Addr} {xs : List Nd} (h : VW tv rlo lo hi w a c o xs) (i j : Nat) (hi' : i < xs.length) (hj : j < xs.length) {g : Nat} (hg : o = some ⟨g, 0, none⟩) :
    VW tv rlo lo hi ((w.setCell ⟨g, i, none⟩ (ptr9 xs[j].b)).setCell ⟨g, j, none⟩ (ptr9 xs[i].b)) a c o (sw9 xs i j hi' hj) ∧ ButR (Rq o) w ((w.setCell ⟨g, i, none⟩ (ptr9 xs[j].b)).setCell ⟨g, j, none⟩ (ptr9 xs[i].b)) := by
  subst hg
  have hM : ButR (Rq (some ⟨g, 0, none⟩)) w ((w.setCell ⟨g, i, none⟩ (ptr9 xs[j].b)).setCell ⟨g, j, none⟩ (ptr9 xs[i].b)) := ((ButR.refl _ w).set _ _ (fun _ => ⟨_, rfl, rfl⟩)).set _ _ (fun _ => ⟨_, rfl, rfl⟩)
  have hO : ∀ k, k ≠ g → ((w.setCell ⟨g, i, none⟩ (ptr9 xs[j].b)).setCell ⟨g, j, none⟩ (ptr9 xs[i].b)).heap[k]? = w.heap[k]? := fun k hk => (Below.heap_setCell _ _ _ k hk).trans (Below.heap_setCell _ _ _ k hk)
  have hne : ∀ (b : Nat) vs t, Blk w b vs t → t ≠ 109 → b ≠ g := fun b vs t hb ht e => h.row.ne_blk hb (Ne.symm ht) (by rw [e]; rfl)
  have hm : (sw9 xs i j hi' hj).map (fun x => ptr9 x.b) = ((xs.map fun x => ptr9 x.b).set i (ptr9 xs[j].b)).set j (ptr9 xs[i].b) := by simp [sw9, List.map_set]
  have hp := sw9_perm (l := xs) (i := i) (j := j) (hi := hi') (hj := hj)
  refine ⟨⟨h.tne, ?_, h.alo, h.ahi, ?_, by rw [sw9_len]; exact h.qhi, fun x hx => ?_, fun x hx => ?_, (hp.map _).nodup_iff.2 h.dif, by simpa using h.top, h.low, by rw [sw9_len]; exact h.few⟩, hM⟩
  · rw [sw9_len]
    exact (hO a (hne a _ _ h.blk h.tne.2.2)).trans h.blk
  · obtain ⟨g1, c1, e1, _, _, _, _, _, _, r1⟩ := h.row.set (i := i) (by simpa using hi') (ptr9 xs[j].b)
    injection e1 with e1 _ _
    injection e1 with e1
    injection e1 with e1
    subst e1
    obtain ⟨g2, c2, e2, _, _, _, _, _, _, r2⟩ := r1.set (i := j) (by simpa using hj) (ptr9 xs[i].b)
    injection e2 with e2 _ _
    injection e2 with e2
    injection e2 with e2
    subst e2
    rw [hm, sw9_len]
    exact r2
  · have := h.nr x (hp.mem_iff.1 hx)
    obtain ⟨vs, hb⟩ := this.blk
    exact this.keep (hO _ (hne _ _ _ hb (by decide)))
  · have := h.nm x (hp.mem_iff.1 hx)
    exact this.keep (hO _ (hne _ _ _ this.blk (by decide)))
set_option maxRecDepth 100000 in
set_option maxHeartbeats 4000000 in
theorem vswap_any {tv : TypeId} {rlo lo hi : Nat} {w : World} {a c : Nat} {o : Option Addr} {xs : List Nd} (h : VW tv rlo lo hi w a c o xs) (i j : Nat) (hi' : i < xs.length) (hj : j < xs.length) :
    Calls Try.prog 156 #[.slice o xs.length c, .int .i64 (i : Int), .int .i64 (j : Int)] w fun e w' => e = .returned (.tuple #[]) ∧ VW tv rlo lo hi w' a c o (sw9 xs i j hi' hj) ∧ ButR (Rq o) w w' := by
  have hmix := mixed
  obtain ⟨g, rfl, hg1, hg2, hnc, hcm, hcell⟩ := h.q (by omega)
  have HV := Lib.hid (h.swap i j hi' hj rfl)
  obtain ⟨q1, f1⟩ := hcell i hi'
  obtain ⟨q2, f2⟩ := hcell j hj
  obtain ⟨z, q3, f3⟩ : ∃ z, (w.setCell ⟨g, i, none⟩ (ptr9 xs[j].b)).cell? ⟨g, j, none⟩ = some z ∧ (w.setCell ⟨g, i, none⟩ (ptr9 xs[j].b)).frozen? ⟨g, j, none⟩ = false := by
    obtain ⟨g1, c1, e1, _, _, _, _, _, _, r1⟩ := h.row.set (i := i) (by simpa using hi') (ptr9 xs[j].b)
    injection e1 with e1 _ _
    injection e1 with e1
    injection e1 with e1
    subst e1
    obtain ⟨g2, c2, e2, _, _, _, _, k5, k6, _⟩ := r1.set (i := j) (by simpa using hj) (.bool true)
    injection e2 with e2 _ _
    injection e2 with e2
    injection e2 with e2
    subst e2
    exact ⟨_, k5, k6⟩
  obtain ⟨n, hn⟩ : ∃ n, n = xs.length := ⟨_, rfl⟩
  obtain ⟨bx, hbx⟩ : ∃ bx, bx = xs[i].b := ⟨_, rfl⟩
  obtain ⟨bY, hbY⟩ : ∃ bY, bY = xs[j].b := ⟨_, rfl⟩
  obtain ⟨ys, hys⟩ : ∃ ys, ys = sw9 xs i j hi' hj := ⟨_, rfl⟩
  rw [← hys, ← hbx, ← hbY] at HV
  rw [← hbx] at q1
  rw [← hbY] at q2 q3 f3
  have ki : i < n := hn ▸ hi'
  have kj : j < n := hn ▸ hj
  have kc : n ≤ c := hn ▸ hnc
  rw [← hys, ← hn]
  clear h hcell hg1 hg2 hnc hi' hj hn hbx hbY hys
  go_enter Try.func156, Try.ntmps156
  go_region
  all_goals
    go_wp2
    go_end0
    exact ⟨rfl, HV.out.1.gr (Gr.drew _), ButR.gr9 HV.out.2 (Gr.drew _)⟩
theorem vless_at {tv : TypeId} {rlo lo hi : Nat} {w : World} {a c : Nat} {o : Option Addr} {xs : List Nd} (h : VW tv rlo lo hi w a c o xs) {n : Nat} (hn : n = xs.length) (i j : Nat) (hi : i < xs.length) (hj : j < xs.length) {iv jv : Int} (hiv : iv = (i : Int)) (hjv : jv = (j : Int)) {t : Bool} (ht : t = less9 xs[i] xs[j]) :
    Calls Try.prog 155 #[.slice o n c, .int .i64 iv, .int .i64 jv] w fun e w' => e = .returned (.bool t) ∧ Gr w w' := by
  subst hn hiv hjv ht
  exact vless_any h i j hi hj
theorem vswap_at {tv : TypeId} {rlo lo hi : Nat} {w : World} {a c : Nat} {o : Option Addr} {xs : List Nd} (h : VW tv rlo lo hi w a c o xs) {n : Nat} (hn : n = xs.length) (i j : Nat) (hi' : i < xs.length) (hj : j < xs.length) {iv jv : Int} (hiv : iv = (i : Int)) (hjv : jv = (j : Int)) :
    Calls Try.prog 156 #[.slice o n c, .int .i64 iv, .int .i64 jv] w fun e w' => e = .returned (.tuple #[]) ∧ VW tv rlo lo hi w' a c o (sw9 xs i j hi' hj) ∧ ButR (Rq o) w w' := by
  subst hn hiv hjv
  exact vswap_any h i j hi' hj
theorem vlen_at {o : Option Addr} {n c : Nat} {w : World} : Calls Try.prog 154 #[.slice o n c] w fun e w' => e = .returned (.int .i64 (n : Int)) ∧ w = w' := vlen_any o n c w
end Go.Proofs.Ytlhigfphfbmbjaa


/- container/heap.up and down, over a queue of heads. -/
namespace Go.Proofs.Ytlhigfphfbmbjaa
open Go.RowKit Go.Proofs.Kit Go.Shelf
section
variable {tv : TypeId} {rlo lo hi : Nat} {w w' : World} {a c : Nat} {o : Option Addr} {xs : List Nd}
theorem VW.cell (h : VW tv rlo lo hi w a c o xs) : w.cell? ⟨a, 0, none⟩ = some (.slice o xs.length c) := (h.blk.cell 0).trans rfl
set_option maxRecDepth 100000 in
set_option maxHeartbeats 4000000 in
theorem up_any (h : VW tv rlo lo hi w a c o xs) (j : Nat) (hu : HpU xs j) :
    Calls Try.prog 117 #[.iface 147 (ptr9 a), .int .i64 (j : Int)] w fun e w' => e = .returned (.tuple #[]) ∧ ∃ ys, VW tv rlo lo hi w' a c o ys ∧ ys.Perm xs ∧ Hp ys ∧ ButR (Rq o) w w' := by
  have HV := Lib.hid (And.intro h hu)
  have hlen : xs.length ≤ 9223372036854775807 := by have := h.row.len; simpa using this
  have HL := Lib.hid hlen
  clear h hu hlen
  go_enter Try.func117, Try.ntmps117
  go_wp2
  go_loopw [1] (fun s1 wr => ∃ (k : Nat) (ys : List Nd), s1 = .int .i64 (k : Int) ∧ Hid (VW tv rlo lo hi wr a c o ys ∧ ys.Perm xs ∧ HpU ys k ∧ ButR (Rq o) w wr)) (fun s1 _ => (intOf s1).toNat)
  case atStart => exact ⟨j, xs, rfl, Lib.hid ⟨HV.out.1, .refl _, HV.out.2, ButR.refl _ _⟩⟩
  case round =>
    obtain ⟨k, ys, rfl, HR⟩ := hrel
    obtain ⟨n, hn⟩ : ∃ n, n = ys.length := ⟨_, rfl⟩
    have hnl : n ≤ 9223372036854775807 := by rw [hn, HR.out.2.1.length_eq]; exact HL.out
    have hkn : k < n := by rw [hn]; exact HR.out.2.2.1.lt
    have HN := Lib.hid hn
    cases k with
    | zero =>
      go_wp2
      go_end0
      exact ⟨rfl, ys, HR.out.1, HR.out.2.1, HR.out.2.2.1.stop (fun h => by omega), HR.out.2.2.2⟩
    | succ m =>
      have q1 : ((m + 1 : Nat) : Int) - 1 = (m : Int) := by omega
      have mL := met_less a _ wr HR.out.1.cell
      rw [← hn] at mL
      have hp : m / 2 < ys.length := by omega
      have hq : m + 1 < ys.length := by omega
      obtain ⟨t, ht⟩ : ∃ t, t = less9 ys[m + 1] ys[m / 2] := ⟨_, rfl⟩
      have HT := Lib.hid ht
      have HLS := Lib.hid (vless_at HR.out.1 hn (m + 1) (m / 2) hq hp (iv := (m : Int) + 1) (jv := (m : Int) / 2) (by omega) (by omega) ht)
      have HSW := Lib.hid (fun w1 (g : Gr wr w1) => vswap_at (HR.out.1.gr g) hn (m / 2) (m + 1) hp hq (iv := (m : Int) / 2) (jv := (m : Int) + 1) (by omega) (by omega))
      have HMS := Lib.hid (fun w1 (g : Gr wr w1) => by have := met_swap a _ w1 (HR.out.1.gr g).cell; rw [← hn] at this; exact this)
      clear hn ht
      have k1 : ((m : Int) / 2 == (m : Int) + 1) = false := by simp; omega
      cases t with
      | false =>
        go_wp2_with (go_at_call 155; refine (HLS.out).mono ?_; rintro e w1 ⟨rfl, g1⟩)
        go_end0
        exact ⟨rfl, ys, HR.out.1.gr g1, HR.out.2.1, HR.out.2.2.1.stop (fun _ => less9_no HT.out.symm), ButR.gr9 HR.out.2.2.2 g1⟩
      | true =>
        go_wp2_with (first | (go_at_call 155; refine (HLS.out).mono ?_; rintro e w1 ⟨rfl, g1⟩; have mS := HMS.out w1 g1; have HG := Lib.hid g1; clear g1) | (go_at_call 156; refine (HSW.out _ HG.out).mono ?_; rintro e w2 ⟨rfl, v2, m2⟩; have HV2 := Lib.hid (And.intro v2 m2); clear v2 m2))
        go_roundw
        case rel => exact ⟨m / 2, _, by go_num, Lib.hid ⟨HV2.out.1, sw9_perm.trans HR.out.2.1, HR.out.2.2.1.go (by omega) (less9_yes HT.out.symm), (ButR.gr9 HR.out.2.2.2 HG.out).trans HV2.out.2⟩⟩
        case measure => simp [intOf]; omega
theorem sw9_out {l : List Nd} {i j k : Nat} {hi : i < l.length} {hj : j < l.length} (h1 : k ≠ i) (h2 : k ≠ j) : (sw9 l i j hi hj)[k]? = l[k]? := by
  simp [sw9, Ne.symm h1, Ne.symm h2]
theorem VW.small (h : VW tv rlo lo hi w a c o xs) : xs.length ≤ 4611686018427387903 := by
  have := h.few
  omega
set_option maxRecDepth 100000 in
set_option maxHeartbeats 8000000 in
theorem down_any (h : VW tv rlo lo hi w a c o xs) (n : Nat) (hd : HpD xs n 0) :
    Calls Try.prog 118 #[.iface 147 (ptr9 a), .int .i64 0, .int .i64 (n : Int)] w fun e w' => ∃ b, e = .returned (.bool b) ∧ ∃ ys, VW tv rlo lo hi w' a c o ys ∧ ys.Perm xs ∧ Hp (ys.take n) ∧ (∀ k, n ≤ k → ys[k]? = xs[k]?) ∧ ButR (Rq o) w w' := by
  have HV := Lib.hid (And.intro h hd)
  obtain ⟨z, hz⟩ : ∃ z, z = xs.length := ⟨_, rfl⟩
  have hzl : z ≤ 4611686018427387903 := by rw [hz]; exact h.small
  have hnz : n ≤ z := by rw [hz]; exact hd.le
  have HZ := Lib.hid hz
  clear h hd hz
  go_enter Try.func118, Try.ntmps118
  go_wp2
  go_loopw [7] (fun s7 wr => ∃ (i : Nat) (ys : List Nd), s7 = .int .i64 (i : Int) ∧ (i < n ∨ i = 0) ∧ Hid (VW tv rlo lo hi wr a c o ys ∧ ys.Perm xs ∧ HpD ys n i ∧ (∀ k, n ≤ k → ys[k]? = xs[k]?) ∧ ButR (Rq o) w wr)) (fun s7 _ => n - (intOf s7).toNat)
  case atStart => exact ⟨0, xs, rfl, .inr rfl, Lib.hid ⟨HV.out.1, .refl _, HV.out.2, fun _ _ => rfl, ButR.refl _ _⟩⟩
  case round =>
    obtain ⟨i, ys, rfl, hin, HR⟩ := hrel
    by_cases hout : n ≤ 2 * i + 1
    · have k1 : decide ((n : Int) ≤ 2 * (i : Int) + 1) = true := decide_eq_true (by omega)
      go_wp2
      go_ret
      exact ⟨_, rfl, ys, HR.out.1, HR.out.2.1, HR.out.2.2.1.stop (fun k _ _ _ => by omega), HR.out.2.2.2.1, HR.out.2.2.2.2⟩
    · have hyl : ys.length = z := by rw [HR.out.2.1.length_eq]; exact HZ.out.symm
      have hi : i < ys.length := by omega
      have h1 : 2 * i + 1 < ys.length := by omega
      have k1 : decide ((n : Int) ≤ 2 * (i : Int) + 1) = false := decide_eq_false (by omega)
      have k0 : decide (2 * (i : Int) + 1 < 0) = false := decide_eq_false (by omega)
      have HML := Lib.hid (fun w1 (g : Gr wr w1) => by have := met_less a _ w1 (HR.out.1.gr g).cell; rw [hyl] at this; exact this)
      have HMS := Lib.hid (fun w1 (g : Gr wr w1) => by have := met_swap a _ w1 (HR.out.1.gr g).cell; rw [hyl] at this; exact this)
      have mL := HML.out wr (Gr.refl _)
      by_cases h2 : 2 * i + 2 < n
      · have h2' : 2 * i + 2 < ys.length := by omega
        have k2 : decide (2 * (i : Int) + 1 + 1 < (n : Int)) = true := decide_eq_true (by omega)
        obtain ⟨t, ht⟩ : ∃ t, t = less9 ys[2 * i + 2] ys[2 * i + 1] := ⟨_, rfl⟩
        have HL1 := Lib.hid (vless_at HR.out.1 hyl.symm (2 * i + 2) (2 * i + 1) h2' h1 (iv := 2 * (i : Int) + 1 + 1) (jv := 2 * (i : Int) + 1) (by omega) (by omega) ht)
        have HT := Lib.hid ht
        clear ht
        cases t with
        | true =>
          have HKID := Lib.hid (show ∀ k (_ : k < n) (_ : 0 < k) (_ : (k - 1) / 2 = i), le9 ys[2 * i + 2] (ys[k]'(by omega)) from fun k hk hk0 hki => by
            rcases (show k = 2 * i + 1 ∨ k = 2 * i + 2 by omega) with rfl | rfl
            · exact less9_yes HT.out.symm
            · exact le9_refl _)
          obtain ⟨u, hu⟩ : ∃ u, u = less9 ys[2 * i + 2] ys[i] := ⟨_, rfl⟩
          have HL2 := Lib.hid (fun w1 (g : Gr wr w1) => vless_at (HR.out.1.gr g) hyl.symm (2 * i + 2) i h2' hi (iv := 2 * (i : Int) + 1 + 1) (jv := (i : Int)) (by omega) (by omega) hu)
          have HSW := Lib.hid (fun w1 (g : Gr wr w1) => vswap_at (HR.out.1.gr g) hyl.symm i (2 * i + 2) hi h2' (iv := (i : Int)) (jv := 2 * (i : Int) + 1 + 1) (by omega) (by omega))
          have HU := Lib.hid hu
          have HYL := Lib.hid hyl
          clear hu
          cases u with
          | false =>
            go_wp2_with (first | (go_at_call 155; with_reducible refine (HL1.out).mono ?_; rintro e w1 ⟨rfl, g1⟩; have mL := HML.out w1 g1; have HG1 := Lib.hid g1; clear g1) | (go_at_call 155; with_reducible refine (HL2.out _ HG1.out).mono ?_; rintro e w2 ⟨rfl, g2⟩; have HG := Lib.hid (HG1.out.trans g2); have mS := HMS.out w2 HG.out; clear g2))
            go_ret
            exact ⟨_, rfl, ys, HR.out.1.gr HG.out, HR.out.2.1, HR.out.2.2.1.stop (fun k hk hk0 hki => le9_trans (less9_no HU.out.symm) (HKID.out k hk hk0 hki)), HR.out.2.2.2.1, ButR.gr9 HR.out.2.2.2.2 HG.out⟩
          | true =>
            go_wp2_with (first | (go_at_call 155; with_reducible refine (HL1.out).mono ?_; rintro e w1 ⟨rfl, g1⟩; have mL := HML.out w1 g1; have HG1 := Lib.hid g1; clear g1) | (go_at_call 155; with_reducible refine (HL2.out _ HG1.out).mono ?_; rintro e w2 ⟨rfl, g2⟩; have HG := Lib.hid (HG1.out.trans g2); have mS := HMS.out w2 HG.out; clear g2) | (go_at_call 156; refine (HSW.out _ HG.out).mono ?_; rintro e w3 ⟨rfl, v2, m2⟩; have HV2 := Lib.hid (And.intro v2 m2); clear v2 m2))
            go_roundw
            case rel =>
              have hyl := HYL.out
              exact ⟨2 * i + 2, _, by go_num, .inl (by omega), Lib.hid ⟨HV2.out.1, sw9_perm.trans HR.out.2.1, HR.out.2.2.1.go (by omega) (by omega) (by omega) (less9_yes HU.out.symm) HKID.out, fun k hk => (sw9_out (by omega) (by omega)).trans (HR.out.2.2.2.1 k hk), (ButR.gr9 HR.out.2.2.2.2 HG.out).trans HV2.out.2⟩⟩
            case measure => simp [intOf]; omega
        | false =>
          have HKID := Lib.hid (show ∀ k (_ : k < n) (_ : 0 < k) (_ : (k - 1) / 2 = i), le9 ys[2 * i + 1] (ys[k]'(by omega)) from fun k hk hk0 hki => by
            rcases (show k = 2 * i + 1 ∨ k = 2 * i + 2 by omega) with rfl | rfl
            · exact le9_refl _
            · exact less9_no HT.out.symm)
          obtain ⟨u, hu⟩ : ∃ u, u = less9 ys[2 * i + 1] ys[i] := ⟨_, rfl⟩
          have HL2 := Lib.hid (fun w1 (g : Gr wr w1) => vless_at (HR.out.1.gr g) hyl.symm (2 * i + 1) i h1 hi (iv := 2 * (i : Int) + 1) (jv := (i : Int)) (by omega) (by omega) hu)
          have HSW := Lib.hid (fun w1 (g : Gr wr w1) => vswap_at (HR.out.1.gr g) hyl.symm i (2 * i + 1) hi h1 (iv := (i : Int)) (jv := 2 * (i : Int) + 1) (by omega) (by omega))
          have HU := Lib.hid hu
          have HYL := Lib.hid hyl
          clear hu
          cases u with
          | false =>
            go_wp2_with (first | (go_at_call 155; with_reducible refine (HL1.out).mono ?_; rintro e w1 ⟨rfl, g1⟩; have mL := HML.out w1 g1; have HG1 := Lib.hid g1; clear g1) | (go_at_call 155; with_reducible refine (HL2.out _ HG1.out).mono ?_; rintro e w2 ⟨rfl, g2⟩; have HG := Lib.hid (HG1.out.trans g2); have mS := HMS.out w2 HG.out; clear g2))
            go_ret
            exact ⟨_, rfl, ys, HR.out.1.gr HG.out, HR.out.2.1, HR.out.2.2.1.stop (fun k hk hk0 hki => le9_trans (less9_no HU.out.symm) (HKID.out k hk hk0 hki)), HR.out.2.2.2.1, ButR.gr9 HR.out.2.2.2.2 HG.out⟩
          | true =>
            go_wp2_with (first | (go_at_call 155; with_reducible refine (HL1.out).mono ?_; rintro e w1 ⟨rfl, g1⟩; have mL := HML.out w1 g1; have HG1 := Lib.hid g1; clear g1) | (go_at_call 155; with_reducible refine (HL2.out _ HG1.out).mono ?_; rintro e w2 ⟨rfl, g2⟩; have HG := Lib.hid (HG1.out.trans g2); have mS := HMS.out w2 HG.out; clear g2) | (go_at_call 156; refine (HSW.out _ HG.out).mono ?_; rintro e w3 ⟨rfl, v2, m2⟩; have HV2 := Lib.hid (And.intro v2 m2); clear v2 m2))
            go_roundw
            case rel =>
              have hyl := HYL.out
              exact ⟨2 * i + 1, _, by go_num, .inl (by omega), Lib.hid ⟨HV2.out.1, sw9_perm.trans HR.out.2.1, HR.out.2.2.1.go (by omega) (by omega) (by omega) (less9_yes HU.out.symm) HKID.out, fun k hk => (sw9_out (by omega) (by omega)).trans (HR.out.2.2.2.1 k hk), (ButR.gr9 HR.out.2.2.2.2 HG.out).trans HV2.out.2⟩⟩
            case measure => simp [intOf]; omega
      · have k2 : decide (2 * (i : Int) + 1 + 1 < (n : Int)) = false := decide_eq_false (by omega)
        have HKID := Lib.hid (show ∀ k (_ : k < n) (_ : 0 < k) (_ : (k - 1) / 2 = i), le9 ys[2 * i + 1] (ys[k]'(by omega)) from fun k hk hk0 hki => by
          obtain rfl : k = 2 * i + 1 := by omega
          exact le9_refl _)
        obtain ⟨u, hu⟩ : ∃ u, u = less9 ys[2 * i + 1] ys[i] := ⟨_, rfl⟩
        have HL2 := Lib.hid (fun w1 (g : Gr wr w1) => vless_at (HR.out.1.gr g) hyl.symm (2 * i + 1) i h1 hi (iv := 2 * (i : Int) + 1) (jv := (i : Int)) (by omega) (by omega) hu)
        have HSW := Lib.hid (fun w1 (g : Gr wr w1) => vswap_at (HR.out.1.gr g) hyl.symm i (2 * i + 1) hi h1 (iv := (i : Int)) (jv := 2 * (i : Int) + 1) (by omega) (by omega))
        have HU := Lib.hid hu
        have HYL := Lib.hid hyl
        clear hu
        cases u with
        | false =>
          go_wp2_with (first | (go_at_call 155; with_reducible refine (HL2.out _ (Gr.refl _)).mono ?_; rintro e w2 ⟨rfl, g2⟩; have HG := Lib.hid (g2); have mS := HMS.out w2 HG.out; clear g2))
          go_ret
          exact ⟨_, rfl, ys, HR.out.1.gr HG.out, HR.out.2.1, HR.out.2.2.1.stop (fun k hk hk0 hki => le9_trans (less9_no HU.out.symm) (HKID.out k hk hk0 hki)), HR.out.2.2.2.1, ButR.gr9 HR.out.2.2.2.2 HG.out⟩
        | true =>
          go_wp2_with (first | (go_at_call 155; with_reducible refine (HL2.out _ (Gr.refl _)).mono ?_; rintro e w2 ⟨rfl, g2⟩; have HG := Lib.hid (g2); have mS := HMS.out w2 HG.out; clear g2) | (go_at_call 156; refine (HSW.out _ HG.out).mono ?_; rintro e w3 ⟨rfl, v2, m2⟩; have HV2 := Lib.hid (And.intro v2 m2); clear v2 m2))
          go_roundw
          case rel =>
            have hyl := HYL.out
            exact ⟨2 * i + 1, _, by go_num, .inl (by omega), Lib.hid ⟨HV2.out.1, sw9_perm.trans HR.out.2.1, HR.out.2.2.1.go (by omega) (by omega) (by omega) (less9_yes HU.out.symm) HKID.out, fun k hk => (sw9_out (by omega) (by omega)).trans (HR.out.2.2.2.1 k hk), (ButR.gr9 HR.out.2.2.2.2 HG.out).trans HV2.out.2⟩⟩
          case measure => simp [intOf]; omega
end
end Go.Proofs.Ytlhigfphfbmbjaa

