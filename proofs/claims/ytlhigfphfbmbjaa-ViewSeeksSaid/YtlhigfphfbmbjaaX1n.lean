/- Slices of whatever elements of several cells, as lists; rows of them that a call owns; arguments. No program is named here. -/
import Derived.Test.YtlhigfphfbmbjaaN2
namespace Go.Proofs.Kit
open Go.RowKit

/-- How elements lie in memory. -/
structure Enc (α : Type) where
  k : Nat
  f : α → List Value
  len : ∀ x, (f x).length = k
  one : ∀ x, ∀ u ∈ f x, u.oneCell' = true
  pos : 0 < k
section
variable {α : Type} {E : Enc α}
def flatE (E : Enc α) : List α → List Value
  | [] => []
  | x :: t => E.f x ++ flatE E t
theorem flatE_length : ∀ l : List α, (flatE E l).length = l.length * E.k
  | [] => by simp [flatE]
  | x :: t => by rw [flatE, List.length_append, E.len, flatE_length t, List.length_cons, Nat.add_mul, Nat.one_mul, Nat.add_comm]
theorem flatE_get : ∀ (l : List α) (i j : Nat) (h : i < l.length), j < E.k → (flatE E l)[i * E.k + j]? = (E.f l[i])[j]?
  | x :: t, 0, j, _, hj => by
    rw [flatE, Nat.zero_mul, Nat.zero_add, List.getElem?_append_left (by rw [E.len]; exact hj)]
    rfl
  | x :: t, i + 1, j, h, hj => by
    rw [flatE, List.getElem?_append_right (by rw [E.len, Nat.add_mul]; omega), E.len]
    have := flatE_get t i j (by simpa using h) hj
    rw [show (i + 1) * E.k + j - E.k = i * E.k + j by rw [Nat.add_mul]; omega, this]
    rfl
theorem flatE_one : ∀ (l : List α) (u : Value), u ∈ flatE E l → u.oneCell' = true
  | x :: t, u, h => by
    rw [flatE, List.mem_append] at h
    rcases h with h | h
    · exact E.one x u h
    · exact flatE_one t u h
theorem flatE_append : ∀ (a b : List α), flatE E (a ++ b) = flatE E a ++ flatE E b
  | [], _ => rfl
  | p :: t, b => by simp [flatE, flatE_append t b]
theorem flatE_take : ∀ (l : List α) (n : Nat), flatE E (l.take n) = (flatE E l).take (n * E.k)
  | [], n => by simp [flatE]
  | x :: t, 0 => by simp [flatE]
  | x :: t, n + 1 => by
    have h1 : List.take (E.k + n * E.k) (E.f x) = E.f x := List.take_of_length_le (by rw [E.len]; omega)
    rw [List.take_succ_cons, flatE, flatE, flatE_take t n, Nat.add_mul, Nat.one_mul, Nat.add_comm, List.take_append, h1, E.len, Nat.add_sub_cancel_left]

/-- The cells from off on in block b are these elements. -/
def ECells (E : Enc α) (w : World) (b off : Nat) (l : List α) : Prop :=
  ∀ i (h : i < l.length) j v, (E.f l[i])[j]? = some v → w.cell? ⟨b, off + i * E.k + j, none⟩ = some v
/-- In the world w the value v is a slice of these elements. -/
def SegE (E : Enc α) (w : World) (v : Value) (l : List α) : Prop :=
  l.length * E.k ≤ 9223372036854775807 ∧ ((v = .slice none 0 0 ∧ l = []) ∨ ∃ b off cap, v = .slice (some ⟨b, off, none⟩) l.length cap ∧ l.length ≤ cap ∧ cap ≤ 9223372036854775807 ∧ b < w.heap.size ∧ ECells E w b off l)
variable {w w' : World} {v : Value} {l : List α}
theorem len_mul (E : Enc α) (n : Nat) : n ≤ n * E.k := Nat.le_mul_of_pos_right _ E.pos
theorem ECells.below {b off B : Nat} (h : ECells E w b off l) (hb : Below B w w') (hB : b < B) : ECells E w' b off l := fun i hi j u hu => (hb.cell (p := ⟨b, off + i * E.k + j, none⟩) hB).trans (h i hi j u hu)
theorem SegE.len (h : SegE E w v l) : l.length ≤ 9223372036854775807 := Nat.le_trans (len_mul E _) h.1
theorem SegE.below {B : Nat} (h : SegE E w v l) (hb : Below B w w') (hB : w.heap.size ≤ B) : SegE E w' v l := by
  refine ⟨h.1, ?_⟩
  rcases h.2 with h | ⟨b, off, cap, h1, h2, h3, h4, h5⟩
  · exact .inl h
  · exact .inr ⟨b, off, cap, h1, h2, h3, Nat.lt_of_lt_of_le h4 hb.size, h5.below hb (Nat.lt_of_lt_of_le h4 hB)⟩
theorem SegE.later (h : SegE E w v l) (hb : Below w.heap.size w w') : SegE E w' v l := h.below hb (Nat.le_refl _)
theorem SegE.gr (h : SegE E w v l) (hb : Gr w w') : SegE E w' v l := h.later hb.below
theorem SegE.alloc (h : SegE E w v l) (o : Obj) : SegE E (w.alloc o) v l := h.later ((Below.refl _ _).alloc (Nat.le_refl _) _)
theorem SegE.drew (h : SegE E w v l) : SegE E w.drew v l := h.later (Below.refl _ _).drew
theorem SegE.drewN (h : SegE E w v l) (n : Nat) : SegE E (w.drewN n) v l := h.later (below_drN (Below.refl _ _) n)
theorem SegE.nil (E : Enc α) (w : World) : SegE E w (.slice none 0 0) [] := ⟨by simp, .inl ⟨rfl, rfl⟩⟩
theorem SegE.shape (h : SegE E w v l) : ∃ o cap, v = .slice o l.length cap ∧ l.length ≤ cap ∧ cap ≤ 9223372036854775807 ∧ (l = [] ∨ ∃ b off, o = some ⟨b, off, none⟩ ∧ b < w.heap.size ∧ ECells E w b off l) := by
  rcases h.2 with ⟨rfl, rfl⟩ | ⟨b, off, cap, rfl, h2, h3, h4, h5⟩
  · exact ⟨none, 0, rfl, by simp, by simp, .inl rfl⟩
  · exact ⟨_, cap, rfl, h2, h3, .inr ⟨b, off, rfl, h4, h5⟩⟩
theorem SegE.has {o : Option Addr} {n c i : Nat} (h : SegE E w (.slice o n c) l) (hi : i < l.length) : ∃ b f, o = some ⟨b, f, none⟩ ∧ l.length = n ∧ n ≤ c ∧ c ≤ 9223372036854775807 ∧ b < w.heap.size ∧ ECells E w b f l := by
  rcases h.2 with ⟨h1, rfl⟩ | ⟨b, f, cap, h1, h2, h3, h4, h5⟩
  · simp at hi
  · injection h1 with e1 e2 e3
    subst e2 e3
    exact ⟨b, f, e1, rfl, h2, h3, h4, h5⟩
/-- A slice of a whole block. -/
theorem SegE.of_blk {b cap : Nat} {vs : Array Value} {t : TypeId} (hb : Blk w b vs t) (hl : l.length ≤ cap) (hc : cap * E.k ≤ 9223372036854775807) (hv : vs.toList.take (l.length * E.k) = flatE E l) : SegE E w (.slice (some ⟨b, 0, none⟩) l.length cap) l := by
  have hcl := len_mul E cap
  refine ⟨Nat.le_trans (Nat.mul_le_mul_right _ hl) hc, .inr ⟨b, 0, cap, rfl, hl, by omega, hb.lt, fun i hi j u hu => ?_⟩⟩
  have hj : j < E.k := by have := (List.getElem?_eq_some_iff.1 hu).1; rwa [E.len] at this
  have hf := flatE_get l i j hi hj
  have hlt : i * E.k + j < l.length * E.k := by
    have : (i + 1) * E.k ≤ l.length * E.k := Nat.mul_le_mul_right _ hi
    rw [Nat.add_mul] at this
    omega
  rw [← hv, List.getElem?_take_of_lt hlt, hu] at hf
  rw [hb.cell, Nat.zero_add]
  simpa using hf

/-- A slice of these elements that lies in a row of the call's own, not below B. -/
def OwnE (E : Enc α) (t : TypeId) (B : Nat) (w : World) (v : Value) (l : List α) : Prop := l.length * E.k ≤ 9223372036854775807 ∧ w.ownsRow B t E.k v l.length (flatE E l)
variable {t : TypeId} {B : Nat}
theorem OwnE.nil (E : Enc α) (t : TypeId) (B : Nat) (w : World) : OwnE E t B w (.slice none 0 0) [] := ⟨by simp, World.ownsRow_nil w B t E.k⟩
theorem OwnE.seg (h : OwnE E t B w v l) : SegE E w v l := by
  refine ⟨h.1, ?_⟩
  rcases h.2.2 with ⟨h1, h2⟩ | ⟨g, cap, cur, rfl, hg, hb, h1, h2, h3, h4⟩
  · exact .inl ⟨h1, List.length_eq_zero_iff.1 h2⟩
  · refine .inr ⟨g, 0, cap, rfl, h1, by unfold maxLen at h2; omega, (Blk.lt (t := t) hb), fun i hi j u hu => ?_⟩
    have hj : j < E.k := by have := (List.getElem?_eq_some_iff.1 hu).1; rwa [E.len] at this
    have hf := flatE_get l i j hi hj
    have hlt : i * E.k + j < l.length * E.k := by
      have : (i + 1) * E.k ≤ l.length * E.k := Nat.mul_le_mul_right _ hi
      rw [Nat.add_mul] at this
      omega
    rw [← h4, List.getElem?_take_of_lt hlt, hu] at hf
    rw [Blk.cell (t := t) hb, Nat.zero_add]
    simpa using hf
theorem OwnE.shape (h : OwnE E t B w v l) : ∃ o cap, v = .slice o l.length cap := by
  rcases h.2.2 with ⟨h1, h2⟩ | ⟨g, cap, cur, rfl, _⟩
  · exact ⟨none, 0, by rw [h2]; exact h1⟩
  · exact ⟨_, _, rfl⟩
theorem OwnE.lt (h : OwnE E t B w v l) : ∀ k, v.ownBlock = some k → B ≤ k ∧ k < w.heap.size := h.2.lt
theorem OwnE.mono {B' : Nat} (h : OwnE E t B w v l) (hB : B' ≤ B) : OwnE E t B' w v l := by
  refine ⟨h.1, h.2.1, ?_⟩
  rcases h.2.2 with h | ⟨g, cap, cur, h1, hg, h⟩
  · exact .inl h
  · exact .inr ⟨g, cap, cur, h1, Nat.le_trans hB hg, h⟩
theorem OwnE.same (h : OwnE E t B w v l) (hs : ∀ g, v.ownBlock = some g → w'.heap[g]? = w.heap[g]?) : OwnE E t B w' v l := by
  refine ⟨h.1, h.2.1, ?_⟩
  rcases h.2.2 with h | ⟨g, cap, cur, rfl, hg, hb, h⟩
  · exact .inl h
  · exact .inr ⟨g, cap, cur, rfl, hg, (hs g rfl).trans hb, h⟩
theorem OwnE.later (h : OwnE E t B w v l) (hb : Below w.heap.size w w') : OwnE E t B w' v l := h.same fun g hg => hb.block g (h.lt g hg).2
theorem OwnE.gr (h : OwnE E t B w v l) (hb : Gr w w') : OwnE E t B w' v l := h.later hb.below
theorem OwnE.drew (h : OwnE E t B w v l) : OwnE E t B w.drew v l := h
theorem OwnE.drewN (h : OwnE E t B w v l) (n : Nat) : OwnE E t B (w.drewN n) v l := h
theorem OwnE.alloc (h : OwnE E t B w v l) (o : Obj) : OwnE E t B (w.alloc o) v l := h.later ((Below.refl _ _).alloc (Nat.le_refl _) _)
theorem OwnE.ne_blk {b : Nat} {vs : Array Value} {t' : TypeId} (h : OwnE E t B w v l) (hb : Blk w b vs t') (ht : t ≠ t') : v.ownBlock ≠ some b := by
  intro e
  rcases h.2.2 with ⟨rfl, _⟩ | ⟨g, cap, cur, rfl, hg, hh, _⟩
  · simp [Value.ownBlock] at e
  · simp [Value.ownBlock] at e
    subst e
    rw [show w.heap[g]? = _ from hb] at hh
    injection hh with hh
    injection hh with _ h2 _
    exact ht h2.symm
theorem OwnE.other (h : OwnE E t B w v l) {g : Nat} (hg : v.ownBlock ≠ some g) (j : Nat) (u : Value) : OwnE E t B (w.setCell ⟨g, j, none⟩ u) v l := h.same fun g' hg' => Below.heap_setCell _ _ _ _ (fun e => hg (by rw [hg', e]))
theorem OwnE.of_blk {g cap : Nat} {cur : Array Value} (hB : B ≤ g) (hb : Blk w g cur t) (hl : l.length ≤ cap) (hm : cap * E.k ≤ 9223372036854775807) (hs : cur.size = cap * E.k) (ht : cur.toList.take (l.length * E.k) = flatE E l) : OwnE E t B w (.slice (some ⟨g, 0, none⟩) l.length cap) l :=
  ⟨Nat.le_trans (Nat.mul_le_mul_right _ hl) hm, flatE_length l, .inr ⟨g, cap, cur, rfl, hB, hb, hl, by have := len_mul E cap; unfold maxLen; omega, hs, ht⟩⟩
/-- A slice of a new block. -/
theorem OwnE.new {vs : Array Value} (hB : B ≤ w.heap.size) (hv : vs = (flatE E l).toArray) (hm : l.length * E.k ≤ 9223372036854775807) : OwnE E t B (w.alloc (.cells vs t)) (.slice (some ⟨w.heap.size, 0, none⟩) l.length l.length) l := by
  subst hv
  exact OwnE.of_blk hB (Blk.new _ _ _) (Nat.le_refl _) hm (by simp [flatE_length]) (by rw [List.take_of_length_le]; simp [flatE_length])
/-- append of a slice of elements onto a row of the call's own. -/
theorem wpList_append_segE {P : Program} {w : World} {ops : Array Oper} {rest : List Oper} {o : Oper} {a : Act} {Q : Exit → Act → World → Prop} (hgd : o.guard = none) (s x : Operand) (t : TypeId)
    (ho : o.op = .call { callee := .builtin .append, args := #[s, x], argTypes := #[t, t] })
    (base : Nat) (e : TypeId) (i : TypeInfo) (z : Value) (bytes : Nat) (ht : P.underlying t = some (.slice e)) (hi : P.info? e = some i) (hz : i.zero = some z) (hsize : i.size = E.k) (hby : i.bytes = bytes) (hzs : z.cells.size = E.k)
    (v : Value) (l : List α) (hs : a.eval s = v) (hown : OwnE E e base w v l) (vx : Value) (m : List α) (hx : a.eval x = vx) (hm : SegE E w vx m)
    (h63 : (l.length + m.length) * E.k ≤ 9223372036854775807) (hbytes : (l.length + m.length) * bytes ≤ 140737488355328) (hbase : base ≤ w.heap.size)
    (h : ∀ v' w', OwnE E e base w' v' (l ++ m) → Below base w w' → w.grownBy w' v.ownBlock → wpList P ops Q rest (a.put o.dst v') w') : wpList P ops Q (o :: rest) a w := by
  have hlen := len_mul E (l.length + m.length)
  rcases hm.2 with ⟨rfl, rfl⟩ | ⟨b, f, c, rfl, h2, h3, h4, h5⟩
  · exact wpList_append_own_none hgd s x t ho base e i E.k ht hi v _ _ hs hown.2 hx (h v w (by simpa using hown) (Below.refl _ _) (World.grownBy.refl _ _))
  · refine wpList_append_own w hgd s x t ho base e i z E.k bytes ht hi hz hsize hby hzs E.pos v _ _ hs hown.2 ⟨b, f, none⟩ m.length c (flatE E m) hx (flatE_length m) ?_ (flatE_one m) (by unfold maxLen; omega) hbytes hbase ?_
    · intro j u hj
      have hjn : j < m.length * E.k := by have := (List.getElem?_eq_some_iff.1 hj).1; rwa [flatE_length] at this
      have hk : j / E.k < m.length := Nat.div_lt_of_lt_mul (by rw [Nat.mul_comm]; exact hjn)
      have hr : j % E.k < E.k := Nat.mod_lt _ E.pos
      have hq : j / E.k * E.k + j % E.k = j := by rw [Nat.mul_comm]; exact Nat.div_add_mod _ _
      have hf := flatE_get (E := E) m _ _ hk hr
      rw [hq, hj] at hf
      rw [Addr.add_lit]
      have := h5 _ hk _ u hf.symm
      rw [show f + j / E.k * E.k + j % E.k = f + j by omega] at this
      exact this
    · intro v' w' hO hG _
      refine h v' w' ⟨by rw [List.length_append]; exact h63, ?_⟩ ((Below.refl _ _).grown hG hbase (fun g hg => (hown.lt g hg).1)) hG
      rw [List.length_append, flatE_append]
      exact hO

/-- An argument that is a slice of elements. -/
def ArgE (E : Enc α) (w : World) (o : Option Addr) (c : Nat) (l : List α) : Prop := (o = none ∧ l = [] ∧ c = 0) ∨ ∃ a, o = some a ∧ ∀ i (h : i < l.length) j u, (E.f l[i])[j]? = some u → w.cell? (a.add (i * E.k + j)) = some u
theorem ArgE.later {o : Option Addr} {c : Nat} (h : ArgE E w o c l) (hb : Below w.heap.size w w') : ArgE E w' o c l := by
  rcases h with h | ⟨a, rfl, h⟩
  · exact .inl h
  · refine .inr ⟨a, rfl, fun i hi j u hu => ?_⟩
    have := h i hi j u hu
    exact (hb.cell (World.block_lt_of_cell? _ _ this)).trans this
end
end Go.Proofs.Kit

