/- Worlds with some blocks and draws behind them. No program is named here. -/
import Derived.Test.YtoajaacdhkknfaaDoorJ1
import Derived.Deep.QuietTactic
import Derived.BigQuiet
import Derived.Shelf.SlSortCmp.QuietGrown
import Derived.Lib.Strings
namespace Go.Proofs.Kit
open Go.RowKit
/-! Texts that are alike -/
theorem str_beq (x y : ByteArray) : (x.toList == y.toList) = decide (x = y) := by
  rw [Lib.toList_data, Lib.toList_data]
  rw [Bool.eq_iff_iff, beq_iff_eq, decide_eq_true_eq]
  refine ⟨fun e => ?_, fun e => by rw [e]⟩
  cases x
  cases y
  simp only [ByteArray.mk.injEq]
  exact Array.toList_inj.1 e
theorem eq_s {x y : ByteArray} (h : x = y) : (x.toList == y.toList) = true := by rw [str_beq]; simpa using h
theorem ne_s {x y : ByteArray} (h : ¬ x = y) : (x.toList == y.toList) = false := by rw [str_beq]; simpa using h
theorem eq_i {x y : Int} (h : x = y) : (x != y) = false := by simpa using h
theorem ne_i {x y : Int} (h : ¬ x = y) : (x != y) = true := by simpa using h
/-- w' is w after some draws. -/
def Dr (w w' : World) : Prop := ∃ m, w' = w.drewN m
theorem Dr.refl (w : World) : Dr w w := ⟨0, rfl⟩
theorem Dr.drewN (w : World) (n : Nat) : Dr w (w.drewN n) := ⟨n, rfl⟩
theorem Dr.drew (w : World) : Dr w w.drew := ⟨1, rfl⟩
theorem Dr.trans {w w1 w2 : World} (h : Dr w w1) (k : Dr w1 w2) : Dr w w2 := by
  obtain ⟨a, rfl⟩ := h
  obtain ⟨b, rfl⟩ := k
  exact ⟨a + b, World.drewN_drewN _ _ _⟩
theorem Dr.cell {w w' : World} (h : Dr w w') (p : Addr) : w'.cell? p = w.cell? p := by obtain ⟨m, rfl⟩ := h; rfl
theorem Dr.below {w w' : World} (h : Dr w w') {B : Nat} : Below B w w' := by obtain ⟨m, rfl⟩ := h; exact ⟨rfl, rfl, rfl, Nat.le_refl _, fun _ _ => rfl⟩
/-- w' is w after some draws, with some blocks behind it. -/
def Gr (w w' : World) : Prop := ∃ q os', w' = Sort.grow (w.drewN q) os'
theorem Gr.refl (w : World) : Gr w w := ⟨0, #[], by rw [Sort.grow_empty]; rfl⟩
theorem Gr.trans {w w1 w2 : World} (h : Gr w w1) (k : Gr w1 w2) : Gr w w2 := by
  obtain ⟨q, os, rfl⟩ := h
  obtain ⟨q', os', rfl⟩ := k
  exact ⟨q + q', os ++ os', by show Sort.grow (Sort.grow ((w.drewN q).drewN q') os) os' = _; rw [Sort.grow_grow, World.drewN_drewN]⟩
theorem Gr.alloc (w : World) (o : Obj) : Gr w (w.alloc o) := ⟨0, #[o], by rw [Sort.alloc_eq_grow]; rfl⟩
theorem Gr.grown (w : World) (n : Nat) (os : Array Obj) : Gr w (Sort.grow (w.drewN n) os) := ⟨n, os, rfl⟩
theorem Gr.drew (w : World) : Gr w w.drew := ⟨1, #[], by rw [Sort.grow_empty]; rfl⟩
theorem Gr.drewN (w : World) (n : Nat) : Gr w (w.drewN n) := ⟨n, #[], by rw [Sort.grow_empty]⟩
theorem Gr.of_dr {w w' : World} (h : Dr w w') : Gr w w' := by obtain ⟨n, rfl⟩ := h; exact Gr.drewN w n
theorem Gr.below {w w' : World} (h : Gr w w') : Below w.heap.size w w' := by
  obtain ⟨q, os, rfl⟩ := h
  exact ⟨rfl, rfl, rfl, by simp, fun k hk => Sort.heap_grow_old _ _ (by simpa using hk)⟩
theorem Gr.of_below {w w' : World} (h : Below w.heap.size w w') (hd : w.drawn ≤ w'.drawn) : Gr w w' := by
  refine ⟨w'.drawn - w.drawn, (w'.heap.toList.drop w.heap.size).toArray, ?_⟩
  obtain ⟨h1, h2, h3, h4, h5⟩ := h
  have e : w'.heap = w.heap ++ (w'.heap.toList.drop w.heap.size).toArray := by
    apply Array.ext_getElem?
    intro i
    by_cases c : i < w.heap.size
    · rw [Array.getElem?_append_left c, h5 i c]
    · rw [Array.getElem?_append_right (by omega)]
      simp [show w.heap.size + (i - w.heap.size) = i by omega]
  obtain ⟨hp, tp, dr, os, ou⟩ := w
  obtain ⟨hp', tp', dr', os', ou'⟩ := w'
  simp only at h1 h2 h3 e hd
  subst h1 h2 h3
  simp only [Sort.grow, World.drewN]
  rw [← e, show dr + (dr' - dr) = dr' by omega]
theorem Gr.drawn {w w' : World} (h : Gr w w') : w.drawn ≤ w'.drawn := by
  obtain ⟨q, os, rfl⟩ := h
  simp [Sort.grow, World.drewN]
theorem Calls.gr_of {P : Program} {f : FuncId} {args : Array Value} {w : World} {n : Nat} {os : Array Obj} {v : Value}
    (h : Calls P f args (Sort.grow (w.drewN n) os) fun e w' => e = .returned v ∧ Gr (Sort.grow (w.drewN n) os) w') : Calls P f args (Sort.grow (w.drewN n) os) fun e w'' => e = .returned v ∧ ∃ p : GrownBy, w'' = Sort.grow (w.drewN p.n) p.os :=
  Calls.grown_of h
theorem Sl.gr {w w' : World} {v : Value} {l : List Value} (h : Sl w v l) (k : Gr w w') : Sl w' v l := h.later k.below
theorem Ow.gr {t : TypeId} {B : Nat} {w w' : World} {v : Value} {l : List Value} (h : Ow t B w v l) (k : Gr w w') : Ow t B w' v l := h.later k.below
theorem Blk.gr {w w' : World} {b : Nat} {vs : Array Value} {t : TypeId} (h : Blk w b vs t) (k : Gr w w') : Blk w' b vs t := h.later k.below
theorem below_gr {w0 w w' : World} {B : Nat} (h : Below B w0 w) (k : Gr w w') (hB : B ≤ w.heap.size) : Below B w0 w' := h.trans (k.below.mono hB)
end Go.Proofs.Kit

