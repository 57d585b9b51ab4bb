/- slices.SortFunc by wide.Compare: the same numbers, put in order, in the same block. -/
import Derived.Test.YtfknocgmobddmaaO1
import Derived.Shelf.SlSortCmp.SmallK
namespace Go.Proofs.Ytfknocgmobddmaa
open Go.RowKit Go.Proofs.Kit Go.Shelf Go.Lib

theorem heap_sorted (w : World) (g n : Nat) (d : Array (Int × Int)) (os : Array Obj) (k : Nat) (hk : k < w.heap.size) (hg : k ≠ g) : (sortWorldK encW 2 w g 0 n d os).heap[k]? = w.heap[k]? := by
  show ((w.heap.modify g _) ++ os)[k]? = _
  rw [Array.getElem?_append_left (by simpa using hk), Array.getElem?_modify, if_neg (fun h => hg h.symm)]
theorem blk_sorted (w : World) (g n : Nat) (d : Array (Int × Int)) (os : Array Obj) {cur : Array Value} (hb : Blk w g cur 26) : ∃ cur', Blk (sortWorldK encW 2 w g 0 n d os) g cur' 26 := by
  have h : (sortWorldK encW 2 w g 0 n d os).heap[g]? = some (.cells (Sort.putCells id 0 (Sort.flatK encW 2 d) cur) 26 (0, 0)) := by
    show ((w.heap.modify g _) ++ os)[g]? = _
    rw [Array.getElem?_append_left (by simpa using hb.lt), Array.getElem?_modify, if_pos rfl, show w.heap[g]? = _ from hb]
    rfl
  exact ⟨_, h⟩
theorem below_sorted (w : World) (B g n : Nat) (d : Array (Int × Int)) (os : Array Obj) (hB : B ≤ g) (hg : g < w.heap.size) : Below B w (sortWorldK encW 2 w g 0 n d os) := by
  refine ⟨rfl, rfl, rfl, ?_, fun k hk => heap_sorted w g n d os k (by omega) (by omega)⟩
  show w.heap.size ≤ ((w.heap.modify g _) ++ os).size
  simp
theorem holds_sorted (w : World) (g n : Nat) (d d0 : Array (Int × Int)) (os : Array Obj) (hg : g < w.heap.size) (h0 : Sort.HoldsK encW 2 w g 0 d0) (hs : d.size = d0.size) : Sort.HoldsK encW 2 (sortWorldK encW 2 w g 0 n d os) g 0 d := by
  unfold sortWorldK
  refine Sort.holdsK_grow _ _ _ _ _ _ _ ?_ (Sort.holdsK_putRowK _ _ _ _ _ d0 _ (Sort.holdsK_ahead _ _ _ _ _ _ _ h0) hs)
  show g < (w.heap.modify g _).size
  simpa using hg

theorem sort_own (B : Nat) (v : Value) (l : List (Int × Int)) (w : World) (h12 : l.length ≤ 12) (hv : OwnW B w v l) :
    Calls Try.prog 31 #[v, .func (.func 15) #[] #[]] w fun e w' => e = .returned (.tuple #[]) ∧ ∃ l' : List (Int × Int), l'.Perm l ∧ OwnW B w' v l' ∧ Below B w w' ∧ ∀ b vs t, (∀ n c, v ≠ .slice (some ⟨b, 0, none⟩) n c) → Blk w b vs t → Blk w' b vs t := by
  rcases hv with ⟨rfl, rfl⟩ | ⟨g, cap, cur, rfl, hB, hb, hc⟩
  · refine (AnyF.slices_SortFunc_none Try.sortW none 0 _ w).mono ?_
    rintro e w' ⟨rfl, rfl⟩
    exact ⟨rfl, [], .nil, .inl ⟨rfl, rfl⟩, Below.refl _ _, fun _ _ _ _ h => h⟩
  · have eg : ∀ args w, (callFunc 15 args).run Try.prog w = .ok (.enter 15 args) w := enters_of Try.func15 (by kernel_rfl) rfl
    have hH := holds_blk hb hc
    refine (AnyQ.slices_SortFunc_small_sorted Try.sortW 2 Try.isAgg26 Try.sizeOf26 encW (fun _ => rfl) (fun x v hv => by simp [encW] at hv; rcases hv with rfl | rfl <;> rfl) cfW 15 #[] swoW g 0 cap l.toArray w eg (fun _ _ _ _ x y => compare_lays x y _) hH hb.lt (by simpa using h12) len_any).mono ?_
    rintro e w' ⟨rfl, d', n, os, hp, _, rfl⟩
    have hs : d'.size = l.length := by simpa using hp.1
    have hperm : d'.toList.Perm l := by
      have := hp.2.2
      rw [Array.extract_eq_self_of_le (by rw [hp.1]; exact Nat.le_refl _), Array.extract_eq_self_of_le (Nat.le_refl _)] at this
      simpa using this
    have hH' := holds_sorted w g n d' _ os hb.lt hH (by simpa using hs)
    obtain ⟨cur', hb'⟩ := blk_sorted w g n d' os hb
    have hbel := below_sorted w B g n d' os hB hb.lt
    refine ⟨rfl, d'.toList, hperm, .inr ⟨g, cap, cur', by simp [hs], hB, hb', fun k hk => ?_⟩, hbel, fun b vs t hne hbb => (heap_sorted w g n d' os b hbb.lt (fun h => hne l.length cap (by rw [h]))).trans hbb⟩
    have hk' : k < d'.size := by simpa using hk
    have e0 := (hH'.cell (i := k) (c := 0) hk' (by decide)).1
    have e1 := (hH'.cell (i := k) (c := 1) hk' (by decide)).1
    rw [hb'.cell, getElem!_pos d' k hk'] at e0 e1
    constructor
    · simpa [encW] using e0
    · simpa [encW] using e1
end Go.Proofs.Ytfknocgmobddmaa
