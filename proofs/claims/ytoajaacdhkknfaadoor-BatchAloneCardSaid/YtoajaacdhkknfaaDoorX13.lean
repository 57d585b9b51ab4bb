/- Text. -/
import Derived.Test.YtoajaacdhkknfaaDoorX12
import Derived.Test.YtoajaacdhkknfaaDoorShB
namespace Go.Proofs.Kit
open Go.RowKit
theorem ownsRow_later {w w' : World} {B : Nat} {e : TypeId} {v : Value} {n : Nat} {xs : List Value} (h : w.ownsRow B e 1 v n xs) (hb : Below w.heap.size w w') : w'.ownsRow B e 1 v n xs := by
  have hl := h.lt
  refine ⟨h.1, ?_⟩
  rcases h.2 with h | ⟨g, cap, cur, rfl, hg, hh, h⟩
  · exact .inl h
  · exact .inr ⟨g, cap, cur, rfl, hg, (hb.block g (hl g rfl).2).trans hh, h⟩
theorem builder_later {T e : TypeId} {B b : Nat} {p : Value} {bs : List Value} {w w' : World} (h : Lib.BuilderAt T e B b p bs w) (hb : Below w.heap.size w w') : Lib.BuilderAt T e B b p bs w' := by
  have hlt := h.lt
  obtain ⟨h1, v, h2, h3, h4⟩ := h
  exact ⟨h1, v, (hb.block b hlt).trans h2, ownsRow_later h3 hb, h4⟩
theorem isBuilder_later {T e : TypeId} {B b : Nat} {bs : List Value} {w w' : World} (h : Lib.IsBuilder T e B b bs w) (hb : Below w.heap.size w w') : Lib.IsBuilder T e B b bs w' := h.imp (fun h => builder_later h hb) (fun h => builder_later h hb)
theorem cells_append (a b : List UInt8) : Lib.byteCells (a ++ b) = Lib.byteCells a ++ Lib.byteCells b := by simp [Lib.byteCells]
theorem cells_str (s : ByteArray) : Lib.strCells s = Lib.byteCells (bl s) := by simp [Lib.strCells, Lib.byteCells]
theorem cells_len (a : List UInt8) : (Lib.byteCells a).length = a.length := by simp [Lib.byteCells]
theorem line_len {c : Chg} (h : rightB c = true) : (lineL c).length ≤ 200 := by
  obtain ⟨s1, s2, s3, s4⟩ := sizes_of h
  have hw := word_len c.kind.toNat
  have e1 := bl_len c.key
  have e2 := bl_len c.name
  have e3 := bl_len c.val
  have e4 := bl_len c.to
  unfold lineL
  simp only [List.length_append, List.length_cons]
  have i1 : (if 3 ≤ c.kind then 32 :: bl c.name else []).length ≤ 41 := by split <;> simp only [List.length_cons, List.length_nil] <;> omega
  have i2 : (if c.kind = 5 then 32 :: 34 :: bl c.val ++ [34] else []).length ≤ 43 := by split <;> simp only [List.length_append, List.length_cons, List.length_nil] <;> omega
  have i3 : (if 7 ≤ c.kind then 32 :: bl c.to else []).length ≤ 41 := by split <;> simp only [List.length_cons, List.length_nil] <;> omega
  omega
theorem text_len : ∀ {l : List Chg}, (∀ c ∈ l, rightB c = true) → (textL l).length ≤ 201 * l.length
  | [], _ => by simp [textL]
  | c :: r, h => by
    have h1 := line_len (h c (by simp))
    have h2 := text_len (l := r) (fun d hd => h d (by simp [hd]))
    simp only [textL, List.length_append, List.length_cons]
    omega
def textO (l : List Chg) : ByteArray := if batchE l = 0 then lb (textL l) else noB
end Go.Proofs.Kit
namespace Go.Proofs.YtoajaacdhkknfaaDoor
open Go.RowKit Go.Proofs.Kit Go.Shelf
end Go.Proofs.YtoajaacdhkknfaaDoor

