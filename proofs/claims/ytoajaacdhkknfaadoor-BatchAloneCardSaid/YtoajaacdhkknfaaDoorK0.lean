/- What a kind of names allows, byte by byte. No program is named here. -/
import Derived.Test.YtoajaacdhkknfaaDoorJ0
import Derived.Test.YtoajaacdhkknfaaDoorJ2
import Derived.Laws.RangeString
import Derived.Laws.RangeAny
namespace Go.Proofs.Kit
open Go.RowKit

/-- A byte of a key. -/
def keyN (c : Nat) : Bool := (decide (97 ≤ c) && decide (c ≤ 122)) || (decide (48 ≤ c) && decide (c ≤ 57)) || decide (c = 95)
/-- A byte of a value. -/
def valN (c : Nat) : Bool := decide (32 ≤ c) && decide (c ≤ 126) && decide (c ≠ 34) && decide (c ≠ 92)
/-- A byte of a kind's names. -/
def okN (v : Bool) (c : Nat) : Bool := if v then valN c else keyN c
theorem okN_high (v : Bool) {c : Nat} (h : 128 ≤ c) : okN v c = false := by
  cases v
  · simp [okN, keyN]; omega
  · simp [okN, valN]; omega
def allB (v : Bool) (s : ByteArray) : Bool := s.data.toList.all fun b => okN v b.toNat
theorem allB_take (v : Bool) (s : ByteArray) (k : Nat) (h : k < s.size) : ((s.data.toList.take (k + 1)).all fun b => okN v b.toNat) = (((s.data.toList.take k).all fun b => okN v b.toNat) && okN v s[k].toNat) := by
  have : s.data.toList.take (k + 1) = s.data.toList.take k ++ [s[k]] := by
    rw [List.take_succ_eq_append_getElem (by simpa using h)]; rfl
  rw [this]
  simp
theorem allB_false {v : Bool} {s : ByteArray} {k : Nat} (h : k < s.size) (hd : okN v s[k].toNat = false) : allB v s = false := by
  unfold allB
  rw [List.all_eq_false]
  exact ⟨s[k], by rw [ByteArray.getElem_eq_getElem_data]; exact List.getElem_mem (by simpa using h), by simp [hd]⟩
/-- Is it a name of the kind? -/
def mayB (k : Int) (s : ByteArray) : Bool := (decide (0 ≤ k) && decide (k < 4) && (decide (1 ≤ s.size) && decide (s.size ≤ 32) && allB false s)) || (decide (k = 4) && (decide (s.size ≤ 40) && allB true s))
theorem mayB_size {k : Int} {s : ByteArray} (h : mayB k s = true) : s.size ≤ 40 := by
  simp [mayB] at h
  omega
theorem mayB_kind {k : Int} {s : ByteArray} (h : mayB k s = true) : 0 ≤ k ∧ k < 5 := by
  simp [mayB] at h
  omega
/-- A dictionary that may be. -/
structure DGood (hs : ByteArray → Nat) (T : Nat → List ByteArray) (S : Nat → List Int) : Prop where
  good : ∀ k, k < 5 → Good hs (T k) (S k)
  few : ∀ k, k < 5 → (T k).length ≤ 128
  may : ∀ k, k < 5 → ∀ s ∈ T k, mayB (k : Int) s = true
/-- One kind's part turned. -/
def upd {α : Type} (f : Nat → α) (k : Nat) (x : α) : Nat → α := fun i => if i = k then x else f i
@[simp] theorem upd_same {α : Type} (f : Nat → α) (k : Nat) (x : α) : upd f k x k = x := by simp [upd]
theorem upd_ne {α : Type} (f : Nat → α) {k i : Nat} (x : α) (h : i ≠ k) : upd f k x i = f i := by simp [upd, h]
/-- The cells of a dictionary. -/
def dcs (a b : Nat → Value) : Array Value := #[a 0, b 0, a 1, b 1, a 2, b 2, a 3, b 3, a 4, b 4]
theorem five {k : Nat} (h : k < 5) : k = 0 ∨ k = 1 ∨ k = 2 ∨ k = 3 ∨ k = 4 := by omega
theorem dcs_fst (a b : Nat → Value) {k : Nat} (h : k < 5) : (dcs a b)[k * 2]? = some (a k) := by
  rcases five h with rfl | rfl | rfl | rfl | rfl <;> rfl
theorem dcs_snd (a b : Nat → Value) {k : Nat} (h : k < 5) : (dcs a b)[k * 2 + 1]? = some (b k) := by
  rcases five h with rfl | rfl | rfl | rfl | rfl <;> rfl
theorem dcs_set_fst (a b : Nat → Value) {k : Nat} (h : k < 5) (x : Value) : (dcs a b).setIfInBounds (k * 2) x = dcs (upd a k x) b := by
  rcases five h with rfl | rfl | rfl | rfl | rfl <;> rfl
theorem dcs_set_snd (a b : Nat → Value) {k : Nat} (h : k < 5) (x : Value) : (dcs a b).setIfInBounds (k * 2 + 1) x = dcs a (upd b k x) := by
  rcases five h with rfl | rfl | rfl | rfl | rfl <;> rfl
/-- A dictionary's tables read as lists. -/
def DSl (w : World) (a b : Nat → Value) (T : Nat → List ByteArray) (S : Nat → List Int) : Prop := ∀ k, Sl w (a k) ((T k).map Value.string) ∧ Sl w (b k) ((S k).map (Value.int .i64))
theorem DSl.gr {w w' : World} {a b : Nat → Value} {T : Nat → List ByteArray} {S : Nat → List Int} (h : DSl w a b T S) (g : Gr w w') : DSl w' a b T S := fun k => ⟨(h k).1.gr g, (h k).2.gr g⟩
theorem DSl.later {w w' : World} {a b : Nat → Value} {T : Nat → List ByteArray} {S : Nat → List Int} (h : DSl w a b T S) (g : Below w.heap.size w w') : DSl w' a b T S := fun k => ⟨(h k).1.later g, (h k).2.later g⟩
theorem DSl.alloc {w : World} {a b : Nat → Value} {T : Nat → List ByteArray} {S : Nat → List Int} (h : DSl w a b T S) (o : Obj) : DSl (w.alloc o) a b T S := h.gr (Gr.alloc _ _)
/-- How long they may be. -/
structure DLim (T : Nat → List ByteArray) (S : Nat → List Int) : Prop where
  t : ∀ k, (T k).length ≤ 10000
  s : ∀ k, (S k).length ≤ 10000
  z : ∀ k, ∀ s ∈ T k, s.size ≤ 9223372036854775807
end Go.Proofs.Kit

