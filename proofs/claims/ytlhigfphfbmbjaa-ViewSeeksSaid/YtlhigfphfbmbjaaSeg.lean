/- Slices of integers as lists, rows that a call owns, and worlds that part in one block alone: no program is named here. -/
import Derived.Test.YtlhigfphfbmbjaaKit
import Derived.OwnWalk
namespace Go.Proofs.Kit
open Go.RowKit

theorem below_drN {B : Nat} {w0 w : World} (h : Below B w0 w) (n : Nat) : Below B w0 (w.drewN n) := h.trans ⟨rfl, rfl, rfl, Nat.le_refl _, fun _ _ => rfl⟩
/-- In the world w the value v is a slice of these integers. -/
def Seg (k : IntKind) (w : World) (v : Value) (l : List Int) : Prop :=
  l.length ≤ 9223372036854775807 ∧ ((v = .slice none 0 0 ∧ l = []) ∨ ∃ b off cap, v = .slice (some ⟨b, off, none⟩) l.length cap ∧ l.length ≤ cap ∧ cap ≤ 9223372036854775807 ∧ b < w.heap.size ∧
    ∀ i (h : i < l.length), w.cell? ⟨b, off + i, none⟩ = some (.int k l[i]))
section
variable {k : IntKind} {w w' : World} {v : Value} {l : List Int}
theorem Seg.below {B : Nat} (h : Seg k w v l) (hb : Below B w w') (hB : w.heap.size ≤ B) : Seg k w' v l := by
  refine ⟨h.1, ?_⟩
  rcases h.2 with h | ⟨b, off, cap, h1, h2, h3, h4, h5⟩
  · exact .inl h
  · exact .inr ⟨b, off, cap, h1, h2, h3, Nat.lt_of_lt_of_le h4 hb.size, fun i hi => (hb.cell (p := ⟨b, off + i, none⟩) (Nat.lt_of_lt_of_le h4 hB)).trans (h5 i hi)⟩
theorem Seg.later (h : Seg k w v l) (hb : Below w.heap.size w w') : Seg k w' v l := h.below hb (Nat.le_refl _)
theorem Seg.alloc (h : Seg k w v l) (o : Obj) : Seg k (w.alloc o) v l := h.later ((Below.refl _ _).alloc (Nat.le_refl _) _)
theorem Seg.drew (h : Seg k w v l) : Seg k w.drew v l := h.later (Below.refl _ _).drew
theorem Seg.nil (k : IntKind) (w : World) : Seg k w (.slice none 0 0) [] := ⟨by simp, .inl ⟨rfl, rfl⟩⟩
/-- What a slice's value looks like. -/
theorem Seg.shape (h : Seg k w v l) : ∃ o cap, v = .slice o l.length cap ∧ l.length ≤ cap ∧ cap ≤ 9223372036854775807 ∧ (l = [] ∨ ∃ b off, o = some ⟨b, off, none⟩ ∧ b < w.heap.size ∧ ∀ i (h : i < l.length), w.cell? ⟨b, off + i, none⟩ = some (.int k l[i])) := by
  rcases h.2 with ⟨rfl, rfl⟩ | ⟨b, off, cap, rfl, h2, h3, h4, h5⟩
  · exact ⟨none, 0, rfl, by simp, by simp, .inl rfl⟩
  · exact ⟨_, cap, rfl, h2, h3, .inr ⟨b, off, rfl, h4, h5⟩⟩
theorem Seg.upto {o : Option Addr} {n c : Nat} (h : Seg k w (.slice o l.length c) l) (hn : n ≤ l.length) : Seg k w (.slice o n c) (l.take n) := by
  have hl : (l.take n).length = n := by simp; omega
  rcases h.2 with ⟨h1, rfl⟩ | ⟨b, off, cap, h1, h2, h3, h4, h5⟩
  · obtain rfl : n = 0 := by simpa using hn
    exact ⟨by simp, .inl ⟨h1, by simp⟩⟩
  · injection h1 with e1 _ e3
    subst e1 e3
    refine ⟨by have := h.1; omega, .inr ⟨b, off, c, by rw [hl], by omega, h3, h4, fun i hi => ?_⟩⟩
    rw [h5 i (by omega), List.getElem_take]
theorem Seg.sub {b f c p q : Nat} (h : Seg k w (.slice (some ⟨b, f, none⟩) l.length c) l) (hp : p ≤ q) (hq : q ≤ l.length) : Seg k w (.slice (some ⟨b, f + p, none⟩) (q - p) (c - p)) ((l.drop p).take (q - p)) := by
  have hl : ((l.drop p).take (q - p)).length = q - p := by simp; omega
  rcases h.2 with ⟨h1, _⟩ | ⟨b', off, cap, h1, h2, h3, h4, h5⟩
  · injection h1 with e1; cases e1
  · injection h1 with e1 _ e3
    injection e1 with e1
    injection e1 with e1 e2 _
    subst e1 e2 e3
    refine ⟨by have := h.1; omega, .inr ⟨b, f + p, c - p, by rw [hl], by omega, by omega, h4, fun i hi => ?_⟩⟩
    have := h5 (p + i) (by omega)
    rw [Nat.add_assoc, this]
    simp
/-- A slice of a whole block. -/
theorem Seg.of_blk {b cap : Nat} {vs : Array Value} {t : TypeId} (hb : Blk w b vs t) (hl : l.length ≤ cap) (hc : cap ≤ 9223372036854775807) (hv : vs.toList.take l.length = l.map (Value.int k)) : Seg k w (.slice (some ⟨b, 0, none⟩) l.length cap) l := by
  refine ⟨by omega, .inr ⟨b, 0, cap, rfl, hl, hc, hb.lt, fun i hi => ?_⟩⟩
  rw [hb.cell, Nat.zero_add]
  have : (vs.toList.take l.length)[i]? = some (.int k l[i]) := by rw [hv]; simp [hi]
  rw [List.getElem?_take_of_lt hi] at this
  simpa using this
end

/-- A slice of these integers that lies in a row of the call's own, not below B. -/
def Owns (k : IntKind) (t : TypeId) (B : Nat) (w : World) (v : Value) (l : List Int) : Prop := w.ownsRow B t 1 v l.length (l.map (Value.int k))
section
variable {k : IntKind} {t : TypeId} {B : Nat} {w w' : World} {v : Value} {l : List Int}
theorem Owns.nil (k : IntKind) (t : TypeId) (B : Nat) (w : World) : Owns k t B w (.slice none 0 0) [] := World.ownsRow_nil w B t 1
theorem Owns.len (h : Owns k t B w v l) : l.length ≤ 9223372036854775807 := by
  rcases h.2 with ⟨_, h⟩ | ⟨g, cap, cur, rfl, hg, hb, h1, h2, h3, h4⟩
  · omega
  · unfold maxLen at h2; omega
theorem Owns.seg (h : Owns k t B w v l) : Seg k w v l := by
  refine ⟨h.len, ?_⟩
  rcases h.2 with ⟨h1, h2⟩ | ⟨g, cap, cur, rfl, hg, hb, h1, h2, h3, h4⟩
  · exact .inl ⟨h1, List.length_eq_zero_iff.1 h2⟩
  · refine .inr ⟨g, 0, cap, rfl, h1, by unfold maxLen at h2; omega, (Blk.lt (t := t) hb), fun i hi => ?_⟩
    rw [Blk.cell (t := t) hb, Nat.zero_add]
    have : (cur.toList.take l.length)[i]? = some (.int k l[i]) := by
      rw [Nat.mul_one] at h4; rw [h4]; simp [hi]
    rw [List.getElem?_take_of_lt hi] at this
    simpa using this
theorem Owns.shape (h : Owns k t B w v l) : ∃ o cap, v = .slice o l.length cap := by
  rcases h.2 with ⟨h1, h2⟩ | ⟨g, cap, cur, rfl, _⟩
  · exact ⟨none, 0, by rw [h2]; exact h1⟩
  · exact ⟨_, _, rfl⟩
theorem Owns.ne_blk {b : Nat} {vs : Array Value} {t' : TypeId} (h : Owns k t B w v l) (hb : Blk w b vs t') (ht : t ≠ t') : v.ownBlock ≠ some b := by
  intro e
  rcases h.2 with ⟨rfl, _⟩ | ⟨g, cap, cur, rfl, hg, hh, _⟩
  · simp [Value.ownBlock] at e
  · simp [Value.ownBlock] at e
    subst e
    rw [show w.heap[g]? = _ from hb] at hh
    injection hh with hh
    injection hh with _ h2 _
    exact ht h2.symm
theorem Blk.grown {b : Nat} {vs : Array Value} {t' : TypeId} {row : Option Nat} (hb : Blk w b vs t') (hg : w.grownBy w' row) (hr : row ≠ some b) : Blk w' b vs t' := (hg.block b hb.lt (fun e => hr e.symm)).trans hb
theorem Owns.mono {B' : Nat} (h : Owns k t B w v l) (hB : B' ≤ B) : Owns k t B' w v l := by
  refine ⟨h.1, ?_⟩
  rcases h.2 with h | ⟨g, cap, cur, h1, hg, h⟩
  · exact .inl h
  · exact .inr ⟨g, cap, cur, h1, Nat.le_trans hB hg, h⟩
theorem Owns.same (h : Owns k t B w v l) (hs : ∀ g, v.ownBlock = some g → w'.heap[g]? = w.heap[g]?) : Owns k t B w' v l := by
  refine ⟨h.1, ?_⟩
  rcases h.2 with h | ⟨g, cap, cur, rfl, hg, hb, h⟩
  · exact .inl h
  · exact .inr ⟨g, cap, cur, rfl, hg, (hs g rfl).trans hb, h⟩
theorem Owns.later (h : Owns k t B w v l) (hb : Below w.heap.size w w') : Owns k t B w' v l := h.same fun g hg => hb.block g (h.lt g hg).2
theorem Owns.drew (h : Owns k t B w v l) : Owns k t B w.drew v l := h
theorem Owns.alloc (h : Owns k t B w v l) (o : Obj) : Owns k t B (w.alloc o) v l := h.later ((Below.refl _ _).alloc (Nat.le_refl _) _)
/-- A block of the call's own, laid just now. -/
theorem Owns.new {vs : Array Value} (hB : B ≤ w.heap.size) (hv : vs = (l.map (Value.int k)).toArray) (hm : l.length ≤ 9223372036854775807) : Owns k t B (w.alloc (.cells vs t)) (.slice (some ⟨w.heap.size, 0, none⟩) l.length l.length) l := by
  subst hv
  refine ⟨by simp, .inr ⟨w.heap.size, l.length, _, rfl, hB, heap_alloc_new w _, Nat.le_refl _, by unfold maxLen; omega, by simp, ?_⟩⟩
  simp [List.take_of_length_le]
/-- A store into the row. -/
theorem Owns.set {i : Nat} (h : Owns k t B w v l) (hi : i < l.length) (x : Int) : ∃ g cap, v = .slice (some ⟨g, 0, none⟩) l.length cap ∧ l.length ≤ cap ∧ cap ≤ 9223372036854775807 ∧ B ≤ g ∧ g < w.heap.size ∧ w.cell? ⟨g, i, none⟩ = some (.int k l[i]) ∧ w.frozen? ⟨g, i, none⟩ = false ∧ Owns k t B (w.setCell ⟨g, i, none⟩ (.int k x)) v (l.set i x) := by
  rcases h.2 with ⟨_, h2⟩ | ⟨g, cap, cur, rfl, hg, hb, h1, h2, h3, h4⟩
  · omega
  · have hb' : Blk w g cur t := hb
    refine ⟨g, cap, rfl, h1, by unfold maxLen at h2; omega, hg, hb'.lt, ?_, hb'.frozen _, ?_⟩
    · rw [hb'.cell]
      have : (cur.toList.take l.length)[i]? = some (.int k l[i]) := by
        rw [Nat.mul_one] at h4; rw [h4]; simp [hi]
      rw [List.getElem?_take_of_lt hi] at this
      simpa using this
    · refine ⟨by simp, .inr ⟨g, cap, cur.setIfInBounds i (.int k x), by simp, hg, hb'.set i _, by simpa using h1, h2, by simpa using h3, ?_⟩⟩
      simp only [List.length_set, Nat.mul_one, Array.toList_setIfInBounds, List.take_set, List.map_set]
      rw [Nat.mul_one] at h4; rw [h4]
end

/-! ### Worlds that part in one block alone -/
/-- All that lay in w but block r lies in w' as it lay. -/
structure But (r : Nat) (w w' : World) : Prop where
  os : w'.os = w.os
  tape : w'.tape = w.tape
  output : w'.output = w.output
  size : w.heap.size ≤ w'.heap.size
  same : ∀ k, k ≠ r → k < w.heap.size → w'.heap[k]? = w.heap[k]?
section
variable {r : Nat} {w w1 w' : World}
theorem But.refl (r : Nat) (w : World) : But r w w := ⟨rfl, rfl, rfl, Nat.le_refl _, fun _ _ _ => rfl⟩
theorem But.trans (h : But r w w1) (k : But r w1 w') : But r w w' :=
  ⟨k.os.trans h.os, k.tape.trans h.tape, k.output.trans h.output, Nat.le_trans h.size k.size, fun i hi hs => (k.same i hi (Nat.lt_of_lt_of_le hs h.size)).trans (h.same i hi hs)⟩
theorem But.of_below (hb : Below w.heap.size w w') : But r w w' := ⟨hb.os, hb.tape, hb.output, hb.size, fun k _ hk => hb.block k hk⟩
theorem But.later (h : But r w w1) (hb : Below w1.heap.size w1 w') : But r w w' := h.trans (.of_below hb)
theorem But.low {B : Nat} (h : But r w w1) (hb : Below B w1 w') (hB : w.heap.size ≤ B) : But r w w' :=
  ⟨hb.os.trans h.os, hb.tape.trans h.tape, hb.output.trans h.output, Nat.le_trans h.size hb.size, fun k hk hs => (hb.block k (by omega)).trans (h.same k hk hs)⟩
theorem But.alloc (h : But r w w1) (o : Obj) : But r w (w1.alloc o) := h.later ((Below.refl _ _).alloc (Nat.le_refl _) _)
theorem But.drew (h : But r w w1) : But r w w1.drew := ⟨h.os, h.tape, h.output, h.size, h.same⟩
theorem But.drewN (h : But r w w1) (n : Nat) : But r w (w1.drewN n) := ⟨h.os, h.tape, h.output, h.size, h.same⟩
theorem Blk.drewN {b : Nat} {vs : Array Value} {t : TypeId} (h : Blk w b vs t) (n : Nat) : Blk (w.drewN n) b vs t := h
theorem But.set (h : But r w w1) (i : Nat) (u : Value) : But r w (w1.setCell ⟨r, i, none⟩ u) :=
  h.trans ⟨rfl, rfl, rfl, by simp, fun k hk _ => Below.heap_setCell _ _ _ _ hk⟩
theorem But.blk {b : Nat} {vs : Array Value} {t : TypeId} (h : But r w w') (hb : Blk w b vs t) (hr : b ≠ r) : Blk w' b vs t := (h.same b hr hb.lt).trans hb
theorem But.below {B : Nat} (h : But r w w') (hr : B ≤ r) (hB : B ≤ w.heap.size) : Below B w w' := ⟨h.os, h.tape, h.output, h.size, fun k hk => h.same k (by omega) (by omega)⟩
theorem But.seg {k : IntKind} {v : Value} {l : List Int} (h : But r w w') (hs : Seg k w v l) (hr : ∀ b, v.ownBlock = some b → b ≠ r) : Seg k w' v l := by
  refine ⟨hs.1, ?_⟩
  rcases hs.2 with hs | ⟨b, off, cap, rfl, h2, h3, h4, h5⟩
  · exact .inl hs
  · exact .inr ⟨b, off, cap, rfl, h2, h3, Nat.lt_of_lt_of_le h4 h.size, fun i hi => (World.cell?_of_block (a := ⟨b, off + i, none⟩) (h.same b (hr b rfl) h4)).trans (h5 i hi)⟩
theorem But.own {k : IntKind} {t : TypeId} {B : Nat} {v : Value} {l : List Int} (h : But r w w') (hs : Owns k t B w v l) (hr : r < B) : Owns k t B w' v l :=
  hs.same fun g hg => h.same g (by have := (hs.lt g hg).1; omega) (hs.lt g hg).2
end
end Go.Proofs.Kit

