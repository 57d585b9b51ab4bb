/- Small laws on blocks of cells, on two-word numbers and their sums: no program is named here. -/
import Derived.WalkKit
import Derived.WalkSpells
import Derived.WalkLawsBesides
import Derived.Lib.Hide
import Derived.OneCell
namespace Go.Proofs.Kit
open Go.RowKit

/-- Block b holds just these cells, and nothing of it is frozen. -/
def Blk (w : World) (b : Nat) (vs : Array Value) (t : TypeId) : Prop := w.heap[b]? = some (.cells vs t (0, 0))

theorem Blk.lt {w : World} {b : Nat} {vs : Array Value} {t : TypeId} (h : Blk w b vs t) : b < w.heap.size := (Array.getElem?_eq_some_iff.1 h).1
theorem Blk.cell {w : World} {b : Nat} {vs : Array Value} {t : TypeId} (h : Blk w b vs t) (i : Nat) : w.cell? ⟨b, i, none⟩ = vs[i]? := by simp [World.cell?, show w.heap[b]? = _ from h]
theorem Blk.frozen {w : World} {b : Nat} {vs : Array Value} {t : TypeId} (h : Blk w b vs t) (i : Nat) : w.frozen? ⟨b, i, none⟩ = false := by simp [World.frozen?, show w.heap[b]? = _ from h]
theorem Blk.new (w : World) (vs : Array Value) (t : TypeId) : Blk (w.alloc (.cells vs t)) w.heap.size vs t := by
  show (w.heap.push _)[w.heap.size]? = _
  simp
theorem Blk.alloc {w : World} {b : Nat} {vs : Array Value} {t : TypeId} (h : Blk w b vs t) (o : Obj) : Blk (w.alloc o) b vs t := (Below.heap_alloc w o b h.lt).trans h
theorem Blk.drew {w : World} {b : Nat} {vs : Array Value} {t : TypeId} (h : Blk w b vs t) : Blk w.drew b vs t := h
theorem Blk.other {w : World} {b : Nat} {vs : Array Value} {t : TypeId} (h : Blk w b vs t) {p : Addr} (hp : b ≠ p.block) (u : Value) : Blk (w.setCell p u) b vs t := (Below.heap_setCell w p u b hp).trans h
theorem Blk.set {w : World} {b : Nat} {vs : Array Value} {t : TypeId} (h : Blk w b vs t) (i : Nat) (u : Value) : Blk (w.setCell ⟨b, i, none⟩ u) b (vs.setIfInBounds i u) t := by
  have hlt := h.lt
  have h' : w.heap[b] = .cells vs t (0, 0) := by simpa [Array.getElem?_eq_getElem hlt] using (show w.heap[b]? = _ from h)
  show (w.heap.modify b _)[b]? = _
  rw [Array.getElem?_eq_getElem (by simpa using hlt), Array.getElem_modify_self, h']
  rfl
theorem Blk.below {w w' : World} {B b : Nat} {vs : Array Value} {t : TypeId} (h : Blk w b vs t) (hb : Below B w w') (hlt : b < B) : Blk w' b vs t := (hb.block b hlt).trans h
theorem Blk.later {w w' : World} {b : Nat} {vs : Array Value} {t : TypeId} (h : Blk w b vs t) (hb : Below w.heap.size w w') : Blk w' b vs t := h.below hb h.lt

theorem bodyPost_panic {P : Program} {fn : Func} {R : Ending → World → Prop} {a : Act} {w : World} {chain : List PanicEntry} (hd : a.defers = []) (hR : R (.panicked chain) w) : bodyPost P fn R (.panic chain) a w := ⟨hd, hR⟩

/-! ### Two words as one number -/
def num (p : Int × Int) : Int := p.1 * 18446744073709551616 + p.2
def Big : Int := 340282366920938463463374607431768211456
def hiW (n : Int) : Int := n / 18446744073709551616
def loW (n : Int) : Int := n % 18446744073709551616
/-- a word -/
def Wd (x : Int) : Prop := 0 ≤ x ∧ x < 18446744073709551616
/-- a pair of words -/
def Wp (p : Int × Int) : Prop := Wd p.1 ∧ Wd p.2
def sumN : List (Int × Int) → Int
  | [] => 0
  | p :: t => num p + sumN t

theorem num_pos {p : Int × Int} (h : Wp p) : 0 ≤ num p ∧ num p < Big := by
  obtain ⟨⟨_, _⟩, _, _⟩ := h; unfold num Big; omega
theorem sumN_pos {l : List (Int × Int)} (h : ∀ p ∈ l, Wp p) : 0 ≤ sumN l := by
  induction l with
  | nil => simp [sumN]
  | cons p t ih => have := (num_pos (h p (by simp))).1; have := ih (fun q hq => h q (by simp [hq])); simp only [sumN]; omega
theorem sumN_append (a b : List (Int × Int)) : sumN (a ++ b) = sumN a + sumN b := by
  induction a with
  | nil => simp [sumN]
  | cons p t ih => simp only [List.cons_append, sumN, ih]; omega
theorem sumN_take_succ {l : List (Int × Int)} {k : Nat} (h : k < l.length) : sumN (l.take (k + 1)) = sumN (l.take k) + num l[k] := by
  rw [List.take_succ_eq_append_getElem h, sumN_append]; simp [sumN]
theorem sumN_take_le {l : List (Int × Int)} (h : ∀ p ∈ l, Wp p) (k : Nat) : sumN (l.take k) ≤ sumN l := by
  have e : sumN l = sumN (l.take k) + sumN (l.drop k) := by rw [← sumN_append, List.take_append_drop]
  have := sumN_pos (l := l.drop k) (fun p hp => h p (List.mem_of_mem_drop hp))
  omega

theorem hiW_wd {S : Int} (h0 : 0 ≤ S) (h1 : S < Big) : Wd (hiW S) := by unfold Big at h1; unfold Wd hiW; omega
theorem loW_wd (S : Int) : Wd (loW S) := by unfold Wd loW; omega
theorem num_hl (S : Int) : num (hiW S, loW S) = S := by unfold num hiW loW; omega
theorem hiW_num {p : Int × Int} (h : Wp p) : hiW (num p) = p.1 := by obtain ⟨⟨_, _⟩, _, _⟩ := h; unfold hiW num; omega
theorem loW_num {p : Int × Int} (h : Wp p) : loW (num p) = p.2 := by obtain ⟨⟨_, _⟩, _, _⟩ := h; unfold loW num; omega

theorem add_lo (S a b : Int) : (loW S + b) % 18446744073709551616 = loW (S + num (a, b)) := by unfold loW num; omega
theorem add_hi {S a b : Int} (h0 : 0 ≤ S) (hS : S < Big) (ha : Wd a) (hb : Wd b) (h : S + num (a, b) < Big) : (hiW S + a + (loW S + b) / 18446744073709551616) % 18446744073709551616 = hiW (S + num (a, b)) := by
  obtain ⟨_, _⟩ := ha; obtain ⟨_, _⟩ := hb; unfold hiW loW num Big at *; omega
theorem add_over0 {S a b : Int} (h0 : 0 ≤ S) (hS : S < Big) (ha : Wd a) (hb : Wd b) (h : S + num (a, b) < Big) : (hiW S + a + (loW S + b) / 18446744073709551616) / 18446744073709551616 = 0 := by
  obtain ⟨_, _⟩ := ha; obtain ⟨_, _⟩ := hb; unfold hiW loW num Big at *; omega
theorem add_over1 {S a b : Int} (h0 : 0 ≤ S) (hS : S < Big) (ha : Wd a) (hb : Wd b) (h : ¬ S + num (a, b) < Big) : (hiW S + a + (loW S + b) / 18446744073709551616) / 18446744073709551616 = 1 := by
  obtain ⟨_, _⟩ := ha; obtain ⟨_, _⟩ := hb; unfold hiW loW num Big at *; omega
theorem carry_01 {S b : Int} (hb : Wd b) : 0 ≤ (loW S + b) / 18446744073709551616 ∧ (loW S + b) / 18446744073709551616 ≤ 1 := by
  obtain ⟨_, _⟩ := hb; unfold loW; omega
end Go.Proofs.Kit

