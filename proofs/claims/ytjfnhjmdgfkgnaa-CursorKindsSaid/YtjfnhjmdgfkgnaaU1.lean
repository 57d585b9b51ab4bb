/- Slices of branches as lists, and rows of branches that a call owns: no program is named here. -/
import Derived.Test.YtjfnhjmdgfkgnaaN1
namespace Go.Proofs.Kit
open Go.RowKit

/-- A branch: its key, from where, and to where. -/
abbrev Br := Int × Int × Int
abbrev BV (a b c : Int) : Value := .agg #[.int .u64 a, .int .i64 b, .int .i64 c]
def flat3 : List Br → List Value
  | [] => []
  | p :: t => .int .u64 p.1 :: .int .i64 p.2.1 :: .int .i64 p.2.2 :: flat3 t
theorem flat3_length : ∀ l : List Br, (flat3 l).length = l.length * 3
  | [] => rfl
  | _ :: t => by simp [flat3, flat3_length t]; omega
theorem flat3_get : ∀ (l : List Br) (k : Nat) (h : k < l.length), (flat3 l)[k * 3]? = some (.int .u64 l[k].1) ∧ (flat3 l)[k * 3 + 1]? = some (.int .i64 l[k].2.1) ∧ (flat3 l)[k * 3 + 2]? = some (.int .i64 l[k].2.2)
  | _ :: _, 0, _ => ⟨rfl, rfl, rfl⟩
  | p :: t, k + 1, h => by
    have := flat3_get t k (by simpa using h)
    simpa [flat3, Nat.add_mul] using this
theorem flat3_one : ∀ (l : List Br) (u : Value), u ∈ flat3 l → u.oneCell' = true
  | p :: t, u, h => by
    simp only [flat3, List.mem_cons] at h
    rcases h with rfl | rfl | rfl | h
    · rfl
    · rfl
    · rfl
    · exact flat3_one t u h
theorem flat3_append : ∀ (a b : List Br), flat3 (a ++ b) = flat3 a ++ flat3 b
  | [], _ => rfl
  | p :: t, b => by simp [flat3, flat3_append t b]
/-- A store into the end of a branch. -/
theorem flat3_set : ∀ (l : List Br) (i : Nat) (h : i < l.length) (x : Int), flat3 (l.set i (l[i].1, l[i].2.1, x)) = (flat3 l).set (i * 3 + 2) (.int .i64 x)
  | p :: t, 0, _, x => by simp [flat3]
  | p :: t, i + 1, h, x => by
    have := flat3_set t i (by simpa using h) x
    rw [List.set_cons_succ, flat3, flat3, show (i + 1) * 3 + 2 = i * 3 + 2 + 1 + 1 + 1 by omega]
    simpa [List.set_cons_succ] using this

/-- The cells from off on in block b are these branches. -/
def RCells (w : World) (b off : Nat) (l : List Br) : Prop :=
  ∀ i (h : i < l.length), w.cell? ⟨b, off + i * 3, none⟩ = some (.int .u64 l[i].1) ∧ w.cell? ⟨b, off + i * 3 + 1, none⟩ = some (.int .i64 l[i].2.1) ∧ w.cell? ⟨b, off + i * 3 + 2, none⟩ = some (.int .i64 l[i].2.2)
/-- In the world w the value v is a slice of these branches. -/
def SegR (w : World) (v : Value) (l : List Br) : Prop :=
  l.length ≤ 3074457345618258602 ∧ ((v = .slice none 0 0 ∧ l = []) ∨ ∃ b off cap, v = .slice (some ⟨b, off, none⟩) l.length cap ∧ l.length ≤ cap ∧ cap ≤ 9223372036854775807 ∧ b < w.heap.size ∧ RCells w b off l)
section
variable {w w' : World} {v : Value} {l : List Br}
theorem RCells.below {b off B : Nat} (h : RCells w b off l) (hb : Below B w w') (hB : b < B) : RCells w' b off l := fun i hi =>
  ⟨(hb.cell (p := ⟨b, off + i * 3, none⟩) hB).trans (h i hi).1, (hb.cell (p := ⟨b, off + i * 3 + 1, none⟩) hB).trans (h i hi).2.1, (hb.cell (p := ⟨b, off + i * 3 + 2, none⟩) hB).trans (h i hi).2.2⟩
theorem SegR.below {B : Nat} (h : SegR w v l) (hb : Below B w w') (hB : w.heap.size ≤ B) : SegR w' v l := by
  refine ⟨h.1, ?_⟩
  rcases h.2 with h | ⟨b, off, cap, h1, h2, h3, h4, h5⟩
  · exact .inl h
  · exact .inr ⟨b, off, cap, h1, h2, h3, Nat.lt_of_lt_of_le h4 hb.size, h5.below hb (Nat.lt_of_lt_of_le h4 hB)⟩
theorem SegR.later (h : SegR w v l) (hb : Below w.heap.size w w') : SegR w' v l := h.below hb (Nat.le_refl _)
theorem SegR.alloc (h : SegR w v l) (o : Obj) : SegR (w.alloc o) v l := h.later ((Below.refl _ _).alloc (Nat.le_refl _) _)
theorem SegR.drew (h : SegR w v l) : SegR w.drew v l := h.later (Below.refl _ _).drew
theorem SegR.drewN (h : SegR w v l) (n : Nat) : SegR (w.drewN n) v l := h.later (below_drN (Below.refl _ _) n)
theorem SegR.nil (w : World) : SegR w (.slice none 0 0) [] := ⟨by simp, .inl ⟨rfl, rfl⟩⟩
/-- What a slice's value looks like. -/
theorem SegR.shape (h : SegR w v l) : ∃ o cap, v = .slice o l.length cap ∧ l.length ≤ cap ∧ cap ≤ 9223372036854775807 ∧ (l = [] ∨ ∃ b off, o = some ⟨b, off, none⟩ ∧ b < w.heap.size ∧ RCells w b off l) := by
  rcases h.2 with ⟨rfl, rfl⟩ | ⟨b, off, cap, rfl, h2, h3, h4, h5⟩
  · exact ⟨none, 0, rfl, by simp, by simp, .inl rfl⟩
  · exact ⟨_, cap, rfl, h2, h3, .inr ⟨b, off, rfl, h4, h5⟩⟩
theorem SegR.has {o : Option Addr} {n c i : Nat} (h : SegR w (.slice o n c) l) (hi : i < l.length) : ∃ b f, o = some ⟨b, f, none⟩ ∧ l.length = n ∧ n ≤ c ∧ c ≤ 9223372036854775807 ∧ b < w.heap.size ∧ RCells w b f l := by
  rcases h.2 with ⟨h1, rfl⟩ | ⟨b, f, cap, h1, h2, h3, h4, h5⟩
  · simp at hi
  · injection h1 with e1 e2 e3
    subst e2 e3
    exact ⟨b, f, e1, rfl, h2, h3, h4, h5⟩
theorem RCells.sub {b f p q : Nat} (h : RCells w b f l) (hp : p ≤ q) (hq : q ≤ l.length) : RCells w b (f + p * 3) ((l.drop p).take (q - p)) := fun i hi => by
  have hl : ((l.drop p).take (q - p)).length = q - p := by simp; omega
  have := h (p + i) (by omega)
  rw [show f + p * 3 + i * 3 = f + (p + i) * 3 by omega]
  simpa using this
theorem SegR.sub {b f c c' p q : Nat} (h : SegR w (.slice (some ⟨b, f, none⟩) l.length c) l) (hp : p ≤ q) (hq : q ≤ l.length) (hc : q - p ≤ c') (hc' : c' ≤ 9223372036854775807) : SegR w (.slice (some ⟨b, f + p * 3, none⟩) (q - p) c') ((l.drop p).take (q - p)) := by
  have hl : ((l.drop p).take (q - p)).length = q - p := by simp; omega
  rcases h.2 with ⟨h1, _⟩ | ⟨b', off, cap, h1, h2, h3, h4, h5⟩
  · injection h1 with e1; cases e1
  · injection h1 with e1 _ e3
    injection e1 with e1
    injection e1 with e1 e2 _
    subst e1 e2 e3
    exact ⟨by have := h.1; omega, .inr ⟨b, f + p * 3, c', by rw [hl], by omega, hc', h4, h5.sub hp hq⟩⟩
/-- A slice of a whole block. -/
theorem SegR.of_blk {b cap : Nat} {vs : Array Value} {t : TypeId} (hb : Blk w b vs t) (hl : l.length ≤ cap) (hc : cap ≤ 3074457345618258602) (hv : vs.toList.take (l.length * 3) = flat3 l) : SegR w (.slice (some ⟨b, 0, none⟩) l.length cap) l := by
  refine ⟨by omega, .inr ⟨b, 0, cap, rfl, hl, by omega, hb.lt, fun i hi => ?_⟩⟩
  have hf := flat3_get l i hi
  rw [← hv] at hf
  rw [List.getElem?_take_of_lt (by omega), List.getElem?_take_of_lt (by omega), List.getElem?_take_of_lt (by omega)] at hf
  rw [hb.cell, hb.cell, hb.cell, Nat.zero_add]
  simpa using hf
theorem SegR.one {t : TypeId} (a b c : Int) : SegR (w.alloc (.cells #[.int .u64 a, .int .i64 b, .int .i64 c] t)) (.slice (some ⟨w.heap.size, 0, none⟩) 1 1) [(a, b, c)] :=
  SegR.of_blk (l := [(a, b, c)]) (cap := 1) (Blk.new _ _ _) (by simp) (by omega) (by simp [flat3])
end

/-- A slice of these branches that lies in a row of the call's own, not below B. -/
def OwnR (t : TypeId) (B : Nat) (w : World) (v : Value) (l : List Br) : Prop := l.length ≤ 3074457345618258602 ∧ w.ownsRow B t 3 v l.length (flat3 l)
section
variable {t : TypeId} {B : Nat} {w w' : World} {v : Value} {l : List Br}
theorem OwnR.nil (t : TypeId) (B : Nat) (w : World) : OwnR t B w (.slice none 0 0) [] := ⟨by simp, World.ownsRow_nil w B t 3⟩
theorem OwnR.len (h : OwnR t B w v l) : l.length ≤ 3074457345618258602 := h.1
theorem OwnR.seg (h : OwnR t B w v l) : SegR w v l := by
  refine ⟨h.len, ?_⟩
  rcases h.2.2 with ⟨h1, h2⟩ | ⟨g, cap, cur, rfl, hg, hb, h1, h2, h3, h4⟩
  · exact .inl ⟨h1, List.length_eq_zero_iff.1 h2⟩
  · refine .inr ⟨g, 0, cap, rfl, h1, by unfold maxLen at h2; omega, (Blk.lt (t := t) hb), fun i hi => ?_⟩
    have hf := flat3_get l i hi
    rw [← h4] at hf
    rw [List.getElem?_take_of_lt (by omega), List.getElem?_take_of_lt (by omega), List.getElem?_take_of_lt (by omega)] at hf
    rw [Blk.cell (t := t) hb, Blk.cell (t := t) hb, Blk.cell (t := t) hb, Nat.zero_add]
    simpa using hf
theorem OwnR.shape (h : OwnR t B w v l) : ∃ o cap, v = .slice o l.length cap := by
  rcases h.2.2 with ⟨h1, h2⟩ | ⟨g, cap, cur, rfl, _⟩
  · exact ⟨none, 0, by rw [h2]; exact h1⟩
  · exact ⟨_, _, rfl⟩
theorem OwnR.lt (h : OwnR t B w v l) : ∀ k, v.ownBlock = some k → B ≤ k ∧ k < w.heap.size := h.2.lt
theorem OwnR.mono {B' : Nat} (h : OwnR t B w v l) (hB : B' ≤ B) : OwnR t B' w v l := by
  refine ⟨h.1, h.2.1, ?_⟩
  rcases h.2.2 with h | ⟨g, cap, cur, h1, hg, h⟩
  · exact .inl h
  · exact .inr ⟨g, cap, cur, h1, Nat.le_trans hB hg, h⟩
theorem OwnR.same (h : OwnR t B w v l) (hs : ∀ g, v.ownBlock = some g → w'.heap[g]? = w.heap[g]?) : OwnR t B w' v l := by
  refine ⟨h.1, h.2.1, ?_⟩
  rcases h.2.2 with h | ⟨g, cap, cur, rfl, hg, hb, h⟩
  · exact .inl h
  · exact .inr ⟨g, cap, cur, rfl, hg, (hs g rfl).trans hb, h⟩
theorem OwnR.later (h : OwnR t B w v l) (hb : Below w.heap.size w w') : OwnR t B w' v l := h.same fun g hg => hb.block g (h.lt g hg).2
theorem OwnR.drew (h : OwnR t B w v l) : OwnR t B w.drew v l := h
theorem OwnR.drewN (h : OwnR t B w v l) (n : Nat) : OwnR t B (w.drewN n) v l := h
theorem OwnR.alloc (h : OwnR t B w v l) (o : Obj) : OwnR t B (w.alloc o) v l := h.later ((Below.refl _ _).alloc (Nat.le_refl _) _)
theorem OwnR.ne_blk {b : Nat} {vs : Array Value} {t' : TypeId} (h : OwnR t B w v l) (hb : Blk w b vs t') (ht : t ≠ t') : v.ownBlock ≠ some b := by
  intro e
  rcases h.2.2 with ⟨rfl, _⟩ | ⟨g, cap, cur, rfl, hg, hh, _⟩
  · simp [Value.ownBlock] at e
  · simp [Value.ownBlock] at e
    subst e
    rw [show w.heap[g]? = _ from hb] at hh
    injection hh with hh
    injection hh with _ h2 _
    exact ht h2.symm
theorem OwnR.other (h : OwnR t B w v l) {g : Nat} (hg : v.ownBlock ≠ some g) (j : Nat) (u : Value) : OwnR t B (w.setCell ⟨g, j, none⟩ u) v l := h.same fun g' hg' => Below.heap_setCell _ _ _ _ (fun e => hg (by rw [hg', e]))
/-- Cells of a row, told by its block. -/
theorem OwnR.blk (h : OwnR t B w v l) (hl : 0 < l.length) : ∃ g cap cur, v = .slice (some ⟨g, 0, none⟩) l.length cap ∧ l.length ≤ cap ∧ cap ≤ 9223372036854775807 ∧ cur.size = cap * 3 ∧ B ≤ g ∧ Blk w g cur t ∧ cur.toList.take (l.length * 3) = flat3 l := by
  rcases h.2.2 with ⟨_, h2⟩ | ⟨g, cap, cur, rfl, hg, hb, h1, h2, h3, h4⟩
  · omega
  · exact ⟨g, cap, cur, rfl, h1, by unfold maxLen at h2; omega, h3, hg, hb, h4⟩
theorem OwnR.of_blk {g cap : Nat} {cur : Array Value} (hB : B ≤ g) (hb : Blk w g cur t) (hl : l.length ≤ cap) (hm : cap ≤ 9223372036854775807) (h2 : l.length ≤ 3074457345618258602) (hs : cur.size = cap * 3) (ht : cur.toList.take (l.length * 3) = flat3 l) : OwnR t B w (.slice (some ⟨g, 0, none⟩) l.length cap) l :=
  ⟨h2, flat3_length l, .inr ⟨g, cap, cur, rfl, hB, hb, hl, by unfold maxLen; omega, hs, ht⟩⟩
/-- A store into a branch's end, in the row. -/
theorem OwnR.set {o : Option Addr} {n c i : Nat} (h : OwnR t B w (.slice o n c) l) (hi : i < l.length) (x : Int) : ∃ g, o = some ⟨g, 0, none⟩ ∧ l.length = n ∧ n ≤ c ∧ c ≤ 9223372036854775807 ∧ B ≤ g ∧ g < w.heap.size ∧ RCells w g 0 l ∧ (∀ j, w.frozen? ⟨g, j, none⟩ = false) ∧ OwnR t B (w.setCell ⟨g, i * 3 + 2, none⟩ (.int .i64 x)) (.slice o n c) (l.set i (l[i].1, l[i].2.1, x)) := by
  obtain ⟨g, cap, cur, e, h1, h2, h3, hg, hb, h4⟩ := h.blk (by omega)
  injection e with e1 e2 e3
  subst e1 e2 e3
  refine ⟨g, rfl, rfl, h1, h2, hg, hb.lt, ?_, fun j => hb.frozen j, ?_⟩
  · intro j hj
    have hf := flat3_get l j hj
    rw [← h4] at hf
    rw [List.getElem?_take_of_lt (by omega), List.getElem?_take_of_lt (by omega), List.getElem?_take_of_lt (by omega)] at hf
    rw [hb.cell, hb.cell, hb.cell, Nat.zero_add]
    simpa using hf
  · have := OwnR.of_blk (l := l.set i (l[i].1, l[i].2.1, x)) hg (hb.set (i * 3 + 2) (.int .i64 x)) (cap := c) (by simpa using h1) h2 (by have := h.1; simpa using this) (by simpa using h3) (by
      rw [flat3_set l i hi, List.length_set, ← h4]
      simp only [Array.toList_setIfInBounds, List.take_set])
    simpa using this
end
/-- append of a slice of branches onto a row of the call's own. -/
theorem wpList_append_segR {P : Program} {w : World} {ops : Array Oper} {rest : List Oper} {o : Oper} {a : Act} {Q : Exit → Act → World → Prop} (hgd : o.guard = none) (s x : Operand) (t : TypeId)
    (ho : o.op = .call { callee := .builtin .append, args := #[s, x], argTypes := #[t, t] })
    (base : Nat) (e : TypeId) (i : TypeInfo) (z : Value) (ht : P.underlying t = some (.slice e)) (hi : P.info? e = some i) (hz : i.zero = some z) (hsize : i.size = 3) (hby : i.bytes = 24) (hzs : z.cells.size = 3)
    (v : Value) (l : List Br) (hs : a.eval s = v) (hown : OwnR e base w v l) (vx : Value) (m : List Br) (hx : a.eval x = vx) (hm : SegR w vx m)
    (h63 : l.length + m.length ≤ 5000000000000) (hbase : base ≤ w.heap.size)
    (h : ∀ v' w', OwnR e base w' v' (l ++ m) → Below base w w' → w.grownBy w' v.ownBlock → (m ≠ [] ∨ v ≠ .slice none 0 0 → v' ≠ .slice none 0 0) → wpList P ops Q rest (a.put o.dst v') w') : wpList P ops Q (o :: rest) a w := by
  rcases hm.2 with ⟨rfl, rfl⟩ | ⟨b, f, c, rfl, h2, h3, h4, h5⟩
  · exact wpList_append_own_none hgd s x t ho base e i 3 ht hi v _ _ hs hown.2 hx (h v w (by simpa using hown) (Below.refl _ _) (World.grownBy.refl _ _) (fun h => h.resolve_left (fun h => h rfl)))
  · refine wpList_append_own w hgd s x t ho base e i z 3 24 ht hi hz hsize hby hzs (by decide) v _ _ hs hown.2 ⟨b, f, none⟩ m.length c (flat3 m) hx (flat3_length m) ?_ (flat3_one m) (by unfold maxLen; omega) (by omega) hbase ?_
    · intro j u hj
      have hjn : j < m.length * 3 := by have := (List.getElem?_eq_some_iff.1 hj).1; rwa [flat3_length] at this
      have hk : j / 3 < m.length := by omega
      rw [Addr.add_lit]
      have hf := flat3_get m _ hk
      have hc := h5 _ hk
      have : j = j / 3 * 3 ∨ j = j / 3 * 3 + 1 ∨ j = j / 3 * 3 + 2 := by omega
      rcases this with e | e | e
      · rw [e] at hj ⊢
        rw [hc.1, ← hj, hf.1]
      · rw [e] at hj ⊢
        rw [show f + (j / 3 * 3 + 1) = f + j / 3 * 3 + 1 from rfl, hc.2.1, ← hj, hf.2.1]
      · rw [e] at hj ⊢
        rw [show f + (j / 3 * 3 + 2) = f + j / 3 * 3 + 2 from rfl, hc.2.2, ← hj, hf.2.2]
    · intro v' w' hO hG hn
      refine h v' w' ⟨by rw [List.length_append]; omega, ?_⟩ ((Below.refl _ _).grown hG hbase (fun g hg => (hown.lt g hg).1)) hG ?_
      · rw [List.length_append, flat3_append]
        exact hO
      · intro hh e
        obtain ⟨e1, e2⟩ := hn.1 e
        rcases hh with hh | hh
        · exact hh (List.length_eq_zero_iff.1 e2)
        · exact hh e1
end Go.Proofs.Kit

