/- Slices of whatever elements of one cell, as lists of values; rows that a call owns; worlds that part in some blocks: no program is named here. -/
import Derived.Test.YtlhigfphfbmbjaaSeg
import Derived.Test.YtlhigfphfbmbjaaSegB
import Derived.Laws.CopyOwn
import Derived.Laws.AppendOwnNone
namespace Go.Proofs.Kit
open Go.RowKit

/-- In the world w the value v is a slice of these values, each of one cell. -/
def Sl (w : World) (v : Value) (l : List Value) : Prop :=
  l.length ≤ 9223372036854775807 ∧ ((v = .slice none 0 0 ∧ l = []) ∨ ∃ b off cap, v = .slice (some ⟨b, off, none⟩) l.length cap ∧ l.length ≤ cap ∧ cap ≤ 9223372036854775807 ∧ b < w.heap.size ∧
    ∀ i (h : i < l.length), w.cell? ⟨b, off + i, none⟩ = some l[i])
section
variable {w w' : World} {v : Value} {l : List Value}
theorem Sl.below {B : Nat} (h : Sl w v l) (hb : Below B w w') (hB : w.heap.size ≤ B) : Sl w' v l := by
  refine ⟨h.1, ?_⟩
  rcases h.2 with h | ⟨b, off, cap, h1, h2, h3, h4, h5⟩
  · exact .inl h
  · exact .inr ⟨b, off, cap, h1, h2, h3, Nat.lt_of_lt_of_le h4 hb.size, fun i hi => (hb.cell (p := ⟨b, off + i, none⟩) (Nat.lt_of_lt_of_le h4 hB)).trans (h5 i hi)⟩
theorem Sl.later (h : Sl w v l) (hb : Below w.heap.size w w') : Sl w' v l := h.below hb (Nat.le_refl _)
theorem Sl.alloc (h : Sl w v l) (o : Obj) : Sl (w.alloc o) v l := h.later ((Below.refl _ _).alloc (Nat.le_refl _) _)
theorem Sl.drew (h : Sl w v l) : Sl w.drew v l := h.later (Below.refl _ _).drew
theorem Sl.nil (w : World) : Sl w (.slice none 0 0) [] := ⟨by simp, .inl ⟨rfl, rfl⟩⟩
theorem Sl.shape (h : Sl w v l) : ∃ o cap, v = .slice o l.length cap ∧ l.length ≤ cap ∧ cap ≤ 9223372036854775807 ∧ (l = [] ∨ ∃ b off, o = some ⟨b, off, none⟩ ∧ b < w.heap.size ∧ ∀ i (h : i < l.length), w.cell? ⟨b, off + i, none⟩ = some l[i]) := by
  rcases h.2 with ⟨rfl, rfl⟩ | ⟨b, off, cap, rfl, h2, h3, h4, h5⟩
  · exact ⟨none, 0, rfl, by simp, by simp, .inl rfl⟩
  · exact ⟨_, cap, rfl, h2, h3, .inr ⟨b, off, rfl, h4, h5⟩⟩
theorem Sl.mshape {α : Type} {e : α → Value} {m : List α} (h : Sl w v (m.map e)) : ∃ o cap, v = .slice o m.length cap ∧ m.length ≤ cap ∧ cap ≤ 9223372036854775807 ∧ (m = [] ∨ ∃ b off, o = some ⟨b, off, none⟩ ∧ b < w.heap.size ∧ ∀ i (h : i < m.length), w.cell? ⟨b, off + i, none⟩ = some (e m[i])) := by
  obtain ⟨o, cap, h1, h2, h3, h4⟩ := h.shape
  rw [List.length_map] at h1 h2
  refine ⟨o, cap, h1, h2, h3, ?_⟩
  rcases h4 with h4 | ⟨b, off, h4, h5, h6⟩
  · exact .inl (by simpa using h4)
  · exact .inr ⟨b, off, h4, h5, fun i hi => by have := h6 i (by simpa using hi); rwa [List.getElem_map] at this⟩
/-- A slice's first part. -/
theorem Sl.upto {o : Option Addr} {n c : Nat} (h : Sl w (.slice o l.length c) l) (hn : n ≤ l.length) : Sl w (.slice o n c) (l.take n) := by
  have hl : (l.take n).length = n := by simp; omega
  rcases h.2 with ⟨h1, rfl⟩ | ⟨b, off, cap, h1, h2, h3, h4, h5⟩
  · obtain rfl : n = 0 := by simpa using hn
    exact ⟨by simp, .inl ⟨h1, by simp⟩⟩
  · injection h1 with e1 _ e3
    subst e1 e3
    refine ⟨by have := h.1; omega, .inr ⟨b, off, c, by rw [hl], by omega, h3, h4, fun i hi => ?_⟩⟩
    rw [h5 i (by omega), List.getElem_take]
theorem Sl.sub {b f c p q : Nat} (h : Sl w (.slice (some ⟨b, f, none⟩) l.length c) l) (hp : p ≤ q) (hq : q ≤ l.length) : Sl w (.slice (some ⟨b, f + p, none⟩) (q - p) (c - p)) ((l.drop p).take (q - p)) := by
  have hl : ((l.drop p).take (q - p)).length = q - p := by simp; omega
  rcases h.2 with ⟨h1, _⟩ | ⟨b', off, cap, h1, h2, h3, h4, h5⟩
  · injection h1 with e1; cases e1
  · injection h1 with e1 _ e3
    injection e1 with e1
    injection e1 with e1 e2 _
    subst e1 e2 e3
    refine ⟨by have := h.1; omega, .inr ⟨b, f + p, c - p, by rw [hl], by omega, by omega, h4, fun i hi => ?_⟩⟩
    have := h5 (p + i) (by omega)
    rw [Nat.add_assoc, this]
    simp
theorem Sl.of_blk {b cap : Nat} {vs : Array Value} {t : TypeId} (hb : Blk w b vs t) (hl : l.length ≤ cap) (hc : cap ≤ 9223372036854775807) (hv : vs.toList.take l.length = l) : Sl w (.slice (some ⟨b, 0, none⟩) l.length cap) l := by
  refine ⟨by omega, .inr ⟨b, 0, cap, rfl, hl, hc, hb.lt, fun i hi => ?_⟩⟩
  rw [hb.cell, Nat.zero_add]
  have : (vs.toList.take l.length)[i]? = some l[i] := by rw [hv]; simp [hi]
  rw [List.getElem?_take_of_lt hi] at this
  simpa using this
theorem Seg.sl {k : IntKind} {m : List Int} (h : Seg k w v m) : Sl w v (m.map (Value.int k)) := by
  refine ⟨by simpa using h.1, ?_⟩
  rcases h.2 with ⟨h1, rfl⟩ | ⟨b, off, cap, h1, h2, h3, h4, h5⟩
  · exact .inl ⟨h1, rfl⟩
  · exact .inr ⟨b, off, cap, by simpa using h1, by simpa using h2, h3, h4, fun i hi => by simp only [List.length_map] at hi; rw [List.getElem_map]; exact h5 i hi⟩
theorem Sl.seg {k : IntKind} {m : List Int} (h : Sl w v (m.map (Value.int k))) : Seg k w v m := by
  refine ⟨by simpa using h.1, ?_⟩
  rcases h.2 with ⟨h1, h2⟩ | ⟨b, off, cap, h1, h2, h3, h4, h5⟩
  · exact .inl ⟨h1, by simpa using h2⟩
  · exact .inr ⟨b, off, cap, by simpa using h1, by simpa using h2, h3, h4, fun i hi => by have := h5 i (by simpa using hi); rwa [List.getElem_map] at this⟩
end

/-- A slice of these values that lies in a row of the call's own, not below B. -/
def Ow (t : TypeId) (B : Nat) (w : World) (v : Value) (l : List Value) : Prop := w.ownsRow B t 1 v l.length l
section
variable {t : TypeId} {B : Nat} {w w' : World} {v : Value} {l : List Value}
theorem Ow.nil (t : TypeId) (B : Nat) (w : World) : Ow t B w (.slice none 0 0) [] := World.ownsRow_nil w B t 1
theorem Ow.len (h : Ow t B w v l) : l.length ≤ 9223372036854775807 := by
  rcases h.2 with ⟨_, h⟩ | ⟨g, cap, cur, rfl, hg, hb, h1, h2, h3, h4⟩
  · omega
  · unfold maxLen at h2; omega
theorem Ow.sl (h : Ow t B w v l) : Sl w v l := by
  refine ⟨h.len, ?_⟩
  rcases h.2 with ⟨h1, h2⟩ | ⟨g, cap, cur, rfl, hg, hb, h1, h2, h3, h4⟩
  · exact .inl ⟨h1, List.length_eq_zero_iff.1 h2⟩
  · refine .inr ⟨g, 0, cap, rfl, h1, by unfold maxLen at h2; omega, (Blk.lt (t := t) hb), fun i hi => ?_⟩
    rw [Blk.cell (t := t) hb, Nat.zero_add]
    have : (cur.toList.take l.length)[i]? = some l[i] := by
      rw [Nat.mul_one] at h4; rw [h4]; simp [hi]
    rw [List.getElem?_take_of_lt hi] at this
    simpa using this
theorem Ow.shape (h : Ow t B w v l) : ∃ o cap, v = .slice o l.length cap := by
  rcases h.2 with ⟨h1, h2⟩ | ⟨g, cap, cur, rfl, _⟩
  · exact ⟨none, 0, by rw [h2]; exact h1⟩
  · exact ⟨_, _, rfl⟩
theorem Ow.ne_blk {b : Nat} {vs : Array Value} {t' : TypeId} (h : Ow t B w v l) (hb : Blk w b vs t') (ht : t ≠ t') : v.ownBlock ≠ some b := by
  intro e
  rcases h.2 with ⟨rfl, _⟩ | ⟨g, cap, cur, rfl, hg, hh, _⟩
  · simp [Value.ownBlock] at e
  · simp [Value.ownBlock] at e
    subst e
    rw [show w.heap[g]? = _ from hb] at hh
    injection hh with hh
    injection hh with _ h2 _
    exact ht h2.symm
/-- Rows of two types lie apart. -/
theorem Ow.ne_ow {B' : Nat} {v' : Value} {l' : List Value} {t' : TypeId} (h : Ow t B w v l) (h' : Ow t' B' w v' l') (ht : t ≠ t') (g : Nat) (h1 : v.ownBlock = some g) : v'.ownBlock ≠ some g := by
  intro e
  rcases h'.2 with ⟨rfl, _⟩ | ⟨g', cap, cur, rfl, _, hh, _⟩
  · simp [Value.ownBlock] at e
  · simp [Value.ownBlock] at e
    subst e
    exact h.ne_blk (b := g') (t' := t') hh ht h1
theorem Ow.mono {B' : Nat} (h : Ow t B w v l) (hB : B' ≤ B) : Ow t B' w v l := by
  refine ⟨h.1, ?_⟩
  rcases h.2 with h | ⟨g, cap, cur, h1, hg, h⟩
  · exact .inl h
  · exact .inr ⟨g, cap, cur, h1, Nat.le_trans hB hg, h⟩
theorem Ow.ge (h : Ow t B w v l) (g : Nat) (hg : v.ownBlock = some g) : B ≤ g ∧ g < w.heap.size := h.lt g hg
theorem Ow.same (h : Ow t B w v l) (hs : ∀ g, v.ownBlock = some g → w'.heap[g]? = w.heap[g]?) : Ow t B w' v l := by
  refine ⟨h.1, ?_⟩
  rcases h.2 with h | ⟨g, cap, cur, rfl, hg, hb, h⟩
  · exact .inl h
  · exact .inr ⟨g, cap, cur, rfl, hg, (hs g rfl).trans hb, h⟩
theorem Ow.later (h : Ow t B w v l) (hb : Below w.heap.size w w') : Ow t B w' v l := h.same fun g hg => hb.block g (h.lt g hg).2
theorem Ow.drew (h : Ow t B w v l) : Ow t B w.drew v l := h
theorem Ow.alloc (h : Ow t B w v l) (o : Obj) : Ow t B (w.alloc o) v l := h.later ((Below.refl _ _).alloc (Nat.le_refl _) _)
theorem Ow.new {vs : Array Value} (hB : B ≤ w.heap.size) (hv : vs = l.toArray) (hm : l.length ≤ 9223372036854775807) : Ow t B (w.alloc (.cells vs t)) (.slice (some ⟨w.heap.size, 0, none⟩) l.length l.length) l := by
  subst hv
  refine ⟨by simp, .inr ⟨w.heap.size, l.length, _, rfl, hB, heap_alloc_new w _, Nat.le_refl _, by unfold maxLen; omega, by simp, ?_⟩⟩
  simp [List.take_of_length_le]
/-- A store into the row. -/
theorem Ow.set {i : Nat} (h : Ow t B w v l) (hi : i < l.length) (x : Value) : ∃ g cap, v = .slice (some ⟨g, 0, none⟩) l.length cap ∧ l.length ≤ cap ∧ cap ≤ 9223372036854775807 ∧ B ≤ g ∧ g < w.heap.size ∧ w.cell? ⟨g, i, none⟩ = some l[i] ∧ w.frozen? ⟨g, i, none⟩ = false ∧ Ow t B (w.setCell ⟨g, i, none⟩ x) v (l.set i x) := by
  rcases h.2 with ⟨_, h2⟩ | ⟨g, cap, cur, rfl, hg, hb, h1, h2, h3, h4⟩
  · omega
  · have hb' : Blk w g cur t := hb
    refine ⟨g, cap, rfl, h1, by unfold maxLen at h2; omega, hg, hb'.lt, ?_, hb'.frozen _, ?_⟩
    · rw [hb'.cell]
      have : (cur.toList.take l.length)[i]? = some l[i] := by
        rw [Nat.mul_one] at h4; rw [h4]; simp [hi]
      rw [List.getElem?_take_of_lt hi] at this
      simpa using this
    · refine ⟨by simp, .inr ⟨g, cap, cur.setIfInBounds i x, by simp, hg, hb'.set i _, by simpa using h1, h2, by simpa using h3, ?_⟩⟩
      simp only [List.length_set, Nat.mul_one, Array.toList_setIfInBounds, List.take_set]
      rw [Nat.mul_one] at h4; rw [h4]
theorem Owns.ow {k : IntKind} {m : List Int} (h : Owns k t B w v m) : Ow t B w v (m.map (Value.int k)) := by unfold Owns at h; unfold Ow; simpa using h
theorem Ow.owns {k : IntKind} {m : List Int} (h : Ow t B w v (m.map (Value.int k))) : Owns k t B w v m := by unfold Ow at h; unfold Owns; simpa using h
end

/-! ### Worlds that part in some blocks alone -/
/-- All that lay in w but the blocks R lies in w' as it lay. -/
structure ButR (R : Nat → Prop) (w w' : World) : Prop where
  os : w'.os = w.os
  tape : w'.tape = w.tape
  output : w'.output = w.output
  size : w.heap.size ≤ w'.heap.size
  same : ∀ k, ¬ R k → k < w.heap.size → w'.heap[k]? = w.heap[k]?
section
variable {R : Nat → Prop} {w w1 w' : World}
theorem ButR.refl (R : Nat → Prop) (w : World) : ButR R w w := ⟨rfl, rfl, rfl, Nat.le_refl _, fun _ _ _ => rfl⟩
theorem ButR.trans (h : ButR R w w1) (k : ButR R w1 w') : ButR R w w' :=
  ⟨k.os.trans h.os, k.tape.trans h.tape, k.output.trans h.output, Nat.le_trans h.size k.size, fun i hi hs => (k.same i hi (Nat.lt_of_lt_of_le hs h.size)).trans (h.same i hi hs)⟩
/-- Blocks laid since do not count. -/
theorem ButR.trans' {R' : Nat → Prop} (h : ButR R w w1) (k : ButR R' w1 w') (hR : ∀ b, R' b → b < w.heap.size → R b) : ButR R w w' :=
  ⟨k.os.trans h.os, k.tape.trans h.tape, k.output.trans h.output, Nat.le_trans h.size k.size, fun i hi hs => (k.same i (fun e => hi (hR i e hs)) (Nat.lt_of_lt_of_le hs h.size)).trans (h.same i hi hs)⟩
theorem ButR.of_below (hb : Below w.heap.size w w') : ButR R w w' := ⟨hb.os, hb.tape, hb.output, hb.size, fun k _ hk => hb.block k hk⟩
theorem ButR.later (h : ButR R w w1) (hb : Below w1.heap.size w1 w') : ButR R w w' := h.trans (.of_below hb)
theorem ButR.alloc (h : ButR R w w1) (o : Obj) : ButR R w (w1.alloc o) := h.later ((Below.refl _ _).alloc (Nat.le_refl _) _)
theorem ButR.drew (h : ButR R w w1) : ButR R w w1.drew := ⟨h.os, h.tape, h.output, h.size, h.same⟩
theorem ButR.drewN (h : ButR R w w1) (n : Nat) : ButR R w (w1.drewN n) := ⟨h.os, h.tape, h.output, h.size, h.same⟩
theorem ButR.set (h : ButR R w w1) (p : Addr) (u : Value) (hp : p.block < w.heap.size → R p.block) : ButR R w (w1.setCell p u) :=
  ⟨h.os, h.tape, h.output, by simpa using h.size, fun k hk hs => (Below.heap_setCell w1 p u k (by rintro rfl; exact hk (hp hs))).trans (h.same k hk hs)⟩
theorem ButR.mono {R' : Nat → Prop} (h : ButR R w w') (hR : ∀ b, R b → R' b) : ButR R' w w' := ⟨h.os, h.tape, h.output, h.size, fun k hk hs => h.same k (fun e => hk (hR k e)) hs⟩
theorem ButR.blk {b : Nat} {vs : Array Value} {t : TypeId} (h : ButR R w w') (hb : Blk w b vs t) (hr : ¬ R b) : Blk w' b vs t := (h.same b hr hb.lt).trans hb
theorem ButR.below {B : Nat} (h : ButR R w w') (hr : ∀ b, R b → B ≤ b) (hB : B ≤ w.heap.size) : Below B w w' := ⟨h.os, h.tape, h.output, h.size, fun k hk => h.same k (fun e => by have := hr k e; omega) (by omega)⟩
theorem ButR.sl {v : Value} {l : List Value} (h : ButR R w w') (hs : Sl w v l) (hr : ∀ b, v.ownBlock = some b → ¬ R b) : Sl w' v l := by
  refine ⟨hs.1, ?_⟩
  rcases hs.2 with hs | ⟨b, off, cap, rfl, h2, h3, h4, h5⟩
  · exact .inl hs
  · exact .inr ⟨b, off, cap, rfl, h2, h3, Nat.lt_of_lt_of_le h4 h.size, fun i hi => (World.cell?_of_block (a := ⟨b, off + i, none⟩) (h.same b (hr b rfl) h4)).trans (h5 i hi)⟩
theorem ButR.ow {t : TypeId} {B : Nat} {v : Value} {l : List Value} (h : ButR R w w') (hs : Ow t B w v l) (hr : ∀ b, v.ownBlock = some b → ¬ R b) : Ow t B w' v l :=
  hs.same fun g hg => h.same g (hr g hg) (hs.lt g hg).2
end
/-- append onto a row of the call's own, of whatever slice of values. -/
theorem wpList_append_sl {P : Program} {w : World} {ops : Array Oper} {rest : List Oper} {o : Oper} {a : Act} {Q : Exit → Act → World → Prop} (hgd : o.guard = none) (s x : Operand) (t : TypeId)
    (ho : o.op = .call { callee := .builtin .append, args := #[s, x], argTypes := #[t, t] })
    (base : Nat) (e : TypeId) (i : TypeInfo) (z : Value) (bytes : Nat) (ht : P.underlying t = some (.slice e)) (hi : P.info? e = some i) (hz : i.zero = some z) (hsize : i.size = 1) (hby : i.bytes = bytes) (hzs : z.cells.size = 1)
    (v : Value) (l : List Value) (hs : a.eval s = v) (hown : Ow e base w v l) (vx : Value) (m : List Value) (hx : a.eval x = vx) (hm : Sl w vx m) (hm1 : ∀ y ∈ m, y.oneCell' = true)
    (h63 : l.length + m.length ≤ 9223372036854775807) (hbytes : (l.length + m.length) * bytes ≤ 140737488355328) (hbase : base ≤ w.heap.size)
    (h : ∀ v' w', Ow e base w' v' (l ++ m) → w.grownBy w' v.ownBlock → wpList P ops Q rest (a.put o.dst v') w') : wpList P ops Q (o :: rest) a w := by
  rcases hm.2 with ⟨rfl, rfl⟩ | ⟨b, f, c, rfl, h2, h3, h4, h5⟩
  · exact wpList_append_own_none hgd s x t ho base e i 1 ht hi v _ _ hs hown hx (h v w (by simpa using hown) (World.grownBy.refl _ _))
  · refine wpList_append_own w hgd s x t ho base e i z 1 bytes ht hi hz hsize hby hzs (by decide) v _ _ hs hown ⟨b, f, none⟩ m.length c m hx (by simp) ?_ hm1 (by unfold maxLen; omega) hbytes hbase ?_
    · intro j u hj
      have hj' : j < m.length := (List.getElem?_eq_some_iff.1 hj).1
      rw [Addr.add_lit, h5 j hj', ← hj]
      simp [hj']
    · intro v' w' hO hG _
      refine h v' w' ?_ hG
      unfold Ow
      rw [List.length_append]
      exact hO
theorem ButR.grown {R : Nat → Prop} {w w1 w' : World} {row : Option Nat} (h : ButR R w w1) (hg : w1.grownBy w' row) (hr : ∀ b, row = some b → b < w.heap.size → R b) : ButR R w w' :=
  h.trans' (R' := fun b => row = some b) ⟨hg.os, hg.tape, hg.output, hg.size, fun k hk hs => hg.block k hs (fun e => hk e.symm)⟩ (fun b hb hs => hr b hb hs)
/-- copy over a row of the call's own, of as many. -/
theorem wpList_copy_sl {P : Program} {w : World} {ops : Array Oper} {rest : List Oper} {o : Oper} {a : Act} {Q : Exit → Act → World → Prop} (hgd : o.guard = none) (d s : Operand) (dT sT : TypeId)
    (ho : o.op = .call { callee := .builtin .copy, args := #[d, s], argTypes := #[dT, sT] }) (elem : TypeId) (hu : P.underlying dT = some (.slice elem)) (hsz : (P.info? elem).map (·.size) = some 1)
    (B : Nat) (v : Value) (l0 : List Value) (hown : Ow elem B w v l0) (hd : a.eval d = v) (vx : Value) (l : List Value) (hseg : Sl w vx l) (hs : a.eval s = vx) (hlen : l0.length = l.length) (h1 : ∀ y ∈ l, y.oneCell' = true)
    (h : ∀ w', Ow elem B w' v l → w.grownBy w' v.ownBlock → wpList P ops Q rest (a.put o.dst (.int .i64 l.length)) w') : wpList P ops Q (o :: rest) a w := by
  obtain ⟨so, sc, rfl, hsl, hsc, hsh⟩ := hseg.shape
  by_cases h0 : l = []
  · subst h0
    obtain rfl : l0 = [] := List.length_eq_zero_iff.1 hlen
    obtain ⟨vo, vc, rfl⟩ := hown.shape
    exact wpList_copy_nothing hgd d s dT sT ho elem hu hsz vo so 0 vc 0 sc hd hs rfl (h w hown (World.grownBy.refl _ _))
  · have hpos : 0 < l.length := List.length_pos_iff.2 h0
    obtain ⟨b, f, rfl, hbl, hcells⟩ := hsh.resolve_left h0
    rcases hown.2 with ⟨_, e⟩ | ⟨g, cap, cur, rfl, hg, hb, h2, h3, h4, h5⟩
    · omega
    · refine wpList_copy_own hgd d s dT sT ho elem hu hsz g 0 l0.length cap ⟨b, f, none⟩ l.length sc hd hs cur elem hb l (by rw [hlen]; exact (Nat.min_self _).symm) ?_ (by omega) h1 ?_
      · intro j u hj
        have hj' : j < l.length := (List.getElem?_eq_some_iff.1 hj).1
        rw [Addr.add_lit, hcells j hj', ← hj]
        simp [hj']
      · refine h _ ⟨by simp, .inr ⟨g, cap, _, by rw [hlen], hg, setRow_heap w g _ _ elem _ hb, by omega, h3, ?_, ?_⟩⟩ ⟨rfl, rfl, rfl, by simp [World.setRow], fun k hk hne => setRow_other w g k _ (fun e => hne (by rw [e]; rfl))⟩
        · simp; omega
        · simp
end Go.Proofs.Kit

