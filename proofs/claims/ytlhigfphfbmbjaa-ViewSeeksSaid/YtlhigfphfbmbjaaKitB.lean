/- More small laws on blocks of cells: no program is named here. -/
import Derived.Test.YtlhigfphfbmbjaaKit
namespace Go.Proofs.Kit
open Go.RowKit

theorem Blk.two {w : World} {b : Nat} {x y : Value} {t : TypeId} (h : Blk w b #[x, y] t) : w.cell? ⟨b, 0, none⟩ = some x ∧ w.cell? ⟨b, 1, none⟩ = some y ∧ b < w.heap.size := ⟨h.cell 0, h.cell 1, h.lt⟩
theorem Blk.al {w w' : World} {b : Nat} {vs : Array Value} {t : TypeId} {o : Obj} (h : Blk w b vs t) (hb : Below (w.alloc o).heap.size (w.alloc o) w') : Blk w' b vs t := (h.alloc o).later hb
theorem Blk.nw {w w' : World} {vs : Array Value} {t : TypeId} (hb : Below (w.alloc (.cells vs t)).heap.size (w.alloc (.cells vs t)) w') : Blk w' w.heap.size vs t := (Blk.new _ _ _).later hb
theorem below_later {w0 w w' : World} (B : Below w0.heap.size w0 w) (hb : Below w.heap.size w w') : Below w0.heap.size w0 w' := B.trans (hb.mono B.size)
theorem below_al {w0 w w' : World} {o : Obj} (B : Below w0.heap.size w0 w) (hb : Below (w.alloc o).heap.size (w.alloc o) w') : Below w0.heap.size w0 w' := below_later (B.alloc B.size o) hb


/-- Two blocks of two cells each, and what lay below. -/
def Two (w : World) (b1 : Nat) (x1 y1 : Value) (b2 : Nat) (x2 y2 : Value) (t : TypeId) (w' : World) : Prop := Blk w' b1 #[x1, y1] t ∧ Blk w' b2 #[x2, y2] t ∧ Below w.heap.size w w'
section
variable {w w' w'' : World} {b1 b2 : Nat} {x1 y1 x2 y2 : Value} {t : TypeId}
theorem Two.cells (h : Two w b1 x1 y1 b2 x2 y2 t w') : w'.cell? ⟨b1, 0, none⟩ = some x1 ∧ w'.cell? ⟨b1, 1, none⟩ = some y1 ∧ w'.cell? ⟨b2, 0, none⟩ = some x2 ∧ w'.cell? ⟨b2, 1, none⟩ = some y2 ∧ Two w b1 x1 y1 b2 x2 y2 t w' := ⟨h.1.cell 0, h.1.cell 1, h.2.1.cell 0, h.2.1.cell 1, h⟩
theorem Two.drew (h : Two w b1 x1 y1 b2 x2 y2 t w') : Two w b1 x1 y1 b2 x2 y2 t w'.drew := ⟨h.1, h.2.1, h.2.2.drew⟩
theorem Two.later (h : Two w b1 x1 y1 b2 x2 y2 t w') (hb : Below w'.heap.size w' w'') : Two w b1 x1 y1 b2 x2 y2 t w'' := ⟨h.1.later hb, h.2.1.later hb, below_later h.2.2 hb⟩
/-- A block that was laid ahead of a call: it is there behind it, and is none of the two. -/
structure Nw (w : World) (b1 b2 k : Nat) (vs : Array Value) (t : TypeId) (w' : World) : Prop where
  blk : Blk w' k vs t
  n1 : b1 ≠ k
  n2 : b2 ≠ k
  le : w.heap.size ≤ k
theorem Nw.later {k : Nat} {vs : Array Value} {t' : TypeId} (h : Nw w b1 b2 k vs t' w') (hb : Below w'.heap.size w' w'') : Nw w b1 b2 k vs t' w'' := ⟨h.blk.later hb, h.n1, h.n2, h.le⟩
theorem Two.nw {vs : Array Value} {t' : TypeId} (h : Two w b1 x1 y1 b2 x2 y2 t w') (hb : Below (w'.alloc (.cells vs t')).heap.size (w'.alloc (.cells vs t')) w'') : Nw w b1 b2 w'.heap.size vs t' w'' := ⟨Blk.nw hb, Nat.ne_of_lt h.1.lt, Nat.ne_of_lt h.2.1.lt, h.2.2.size⟩
theorem Two.nwd {vs : Array Value} {t' : TypeId} (h : Two w b1 x1 y1 b2 x2 y2 t w') (hb : Below (w'.alloc (.cells vs t')).drew.heap.size (w'.alloc (.cells vs t')).drew w'') : Nw w b1 b2 w'.heap.size vs t' w'' := ⟨(Blk.new _ _ _ |>.drew).later hb, Nat.ne_of_lt h.1.lt, Nat.ne_of_lt h.2.1.lt, h.2.2.size⟩
theorem Two.set {k : Nat} {vs : Array Value} {t' : TypeId} (h : Two w b1 x1 y1 b2 x2 y2 t w') (n : Nw w b1 b2 k vs t' w') (i : Nat) (u : Value) : Two w b1 x1 y1 b2 x2 y2 t (w'.setCell ⟨k, i, none⟩ u) :=
  ⟨h.1.other n.n1 u, h.2.1.other n.n2 u, h.2.2.setCell n.le u⟩
theorem Nw.set {k : Nat} {vs : Array Value} {t' : TypeId} (n : Nw w b1 b2 k vs t' w') (i : Nat) (u : Value) : Nw w b1 b2 k (vs.setIfInBounds i u) t' (w'.setCell ⟨k, i, none⟩ u) := ⟨n.blk.set i u, n.n1, n.n2, n.le⟩
theorem Nw.facts {k : Nat} {x y : Value} {t' : TypeId} (n : Nw w b1 b2 k #[x, y] t' w') : w'.cell? ⟨k, 0, none⟩ = some x ∧ w'.cell? ⟨k, 1, none⟩ = some y ∧ w'.frozen? ⟨k, 0, none⟩ = false ∧ w'.frozen? ⟨k, 1, none⟩ = false ∧ k < w'.heap.size := ⟨n.blk.cell 0, n.blk.cell 1, n.blk.frozen 0, n.blk.frozen 1, n.blk.lt⟩
theorem Two.alloc (h : Two w b1 x1 y1 b2 x2 y2 t w') (o : Obj) : Two w b1 x1 y1 b2 x2 y2 t (w'.alloc o) := ⟨h.1.alloc o, h.2.1.alloc o, h.2.2.alloc h.2.2.size o⟩
end
end Go.Proofs.Kit

