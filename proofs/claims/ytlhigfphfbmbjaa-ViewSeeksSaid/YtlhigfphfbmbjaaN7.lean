/- slices.SortFunc by run.Compare: the same pairs, put in order, in the same block; run.ordered. -/
import Derived.Test.YtlhigfphfbmbjaaSfP
import Derived.Test.YtlhigfphfbmbjaaN4
namespace Go.Proofs.Ytlhigfphfbmbjaa
open Go.RowKit Go.Proofs.Kit Go.Shelf Go.Lib

def encP (x : Pr) : List Value := [.int .u64 x.1, .int .u64 x.2]
theorem compare_lays (x y : Pr) (W : World) : Calls Try.prog 45 #[.agg #[.int .u64 x.1, .int .u64 x.2], .agg #[.int .u64 y.1, .int .u64 y.2]] W fun e w' => e = .returned (.int .i64 (cf2 x y)) ∧ ∃ q os', w' = Sort.grow (W.drewN q) os' := compare_any x.1 x.2 y.1 y.2 W
theorem swoP : Sort.SWO (ltOf cf2) where
  irrefl x := by simp [ltOf]; have := (cf2_zero x x).2 rfl; omega
  trans x y z h1 h2 := by
    simp only [ltOf, decide_eq_true_eq] at *
    exact (cf2_neg _ _).2 (lt2_trans ((cf2_neg _ _).1 h1) ((cf2_neg _ _).1 h2))
  ntrans x y z h1 h2 := by
    simp only [ltOf, decide_eq_false_iff_not] at *
    rw [cf2_neg] at *
    intro h
    rcases not_lt2 h2 with e | e
    · subst e; exact h1 h
    · exact h1 (lt2_trans h e)
theorem holds_blk {w : World} {g cap : Nat} {cur : Array Value} {l : List Pr} (hb : Blk w g cur 53) (_hs : cur.size = cap * 2) (_hl : l.length ≤ cap) (ht : cur.toList.take (l.length * 2) = flat l) :
    Sort.HoldsK encP 2 w g 0 l.toArray := by
  intro j hj
  rw [Sort.size_flatK] at hj
  have hk : j / 2 < l.length := by simp at hj; omega
  have hf := flat_get l _ hk
  rw [← ht] at hf
  rw [List.getElem?_take_of_lt (by omega), List.getElem?_take_of_lt (by omega)] at hf
  refine ⟨?_, hb.frozen _⟩
  rw [hb.cell, Sort.get_flatK _ _ _ _ hj]
  have hd : l.toArray[j / 2]! = l[j / 2] := by simp [hk]
  rw [hd, Nat.zero_add]
  rcases Nat.mod_two_eq_zero_or_one j with h0 | h0
  · have e := hf.1
    rw [show j / 2 * 2 = j by omega] at e
    rw [h0]
    simpa [encP] using e
  · have e := hf.2
    rw [show j / 2 * 2 + 1 = j by omega] at e
    rw [h0]
    simpa [encP] using e
theorem heap_sorted (w : World) (g n : Nat) (d : Array Pr) (os : Array Obj) (k : Nat) (hk : k < w.heap.size) (hg : k ≠ g) : (sortWorldK encP 2 w g 0 n d os).heap[k]? = w.heap[k]? := by
  show ((w.heap.modify g _) ++ os)[k]? = _
  rw [Array.getElem?_append_left (by simpa using hk), Array.getElem?_modify, if_neg (fun h => hg h.symm)]
theorem size_putC (F : Array Value) (cur : Array Value) : (Sort.putCells id 0 F cur).size = cur.size := by
  unfold Sort.putCells
  simp
theorem blk_sorted (w : World) (g n : Nat) (d : Array Pr) (os : Array Obj) {cur : Array Value} (hb : Blk w g cur 53) : ∃ cur', cur'.size = cur.size ∧ Blk (sortWorldK encP 2 w g 0 n d os) g cur' 53 := by
  have h : (sortWorldK encP 2 w g 0 n d os).heap[g]? = some (.cells (Sort.putCells id 0 (Sort.flatK encP 2 d) cur) 53 (0, 0)) := by
    show ((w.heap.modify g _) ++ os)[g]? = _
    rw [Array.getElem?_append_left (by simpa using hb.lt), Array.getElem?_modify, if_pos rfl, show w.heap[g]? = _ from hb]
    rfl
  exact ⟨_, size_putC _ _, h⟩
theorem below_sorted (w : World) (B g n : Nat) (d : Array Pr) (os : Array Obj) (hB : B ≤ g) (hg : g < w.heap.size) : Below B w (sortWorldK encP 2 w g 0 n d os) := by
  refine ⟨rfl, rfl, rfl, ?_, fun k hk => heap_sorted w g n d os k (by omega) (by omega)⟩
  show w.heap.size ≤ ((w.heap.modify g _) ++ os).size
  simp
theorem holds_sorted (w : World) (g n : Nat) (d d0 : Array Pr) (os : Array Obj) (hg : g < w.heap.size) (h0 : Sort.HoldsK encP 2 w g 0 d0) (hs : d.size = d0.size) : Sort.HoldsK encP 2 (sortWorldK encP 2 w g 0 n d os) g 0 d := by
  unfold sortWorldK
  refine Sort.holdsK_grow _ _ _ _ _ _ _ ?_ (Sort.holdsK_putRowK _ _ _ _ _ d0 _ (Sort.holdsK_ahead _ _ _ _ _ _ _ h0) hs)
  show g < (w.heap.modify g _).size
  simpa using hg

/-- In order: no pair stands ahead of a lesser one. -/
def Asc (l : List Pr) : Prop := l.Pairwise fun x y => ¬ lt2 y x
theorem sort_own (B : Nat) (v : Value) (l : List Pr) (w : World) (hv : OwnP 53 B w v l) :
    Calls Try.prog 106 #[v, .func (.func 45) #[] #[]] w fun e w' => e = .returned (.tuple #[]) ∧ ∃ l' : List Pr, l'.Perm l ∧ Asc l' ∧ OwnP 53 B w' v l' ∧ Below B w w' := by
  by_cases h0 : l = []
  · subst h0
    obtain ⟨o, c, rfl⟩ := hv.shape
    refine (AnyF.slices_SortFunc_none Try.sortP o c _ w).mono ?_
    rintro e w' ⟨rfl, rfl⟩
    exact ⟨rfl, [], .nil, .nil, hv, Below.refl _ _⟩
  · have hl62 := hv.1
    obtain ⟨g, cap, cur, rfl, h1, h2, h3, hB, hb, h4⟩ := hv.blk (List.length_pos_iff.2 h0)
    have eg : ∀ args w, (callFunc 45 args).run Try.prog w = .ok (.enter 45 args) w := enters_of Try.func45 (by kernel_rfl) rfl
    have hH := holds_blk hb h3 h1 h4
    refine (AnyQ.slices_SortFunc Try.sortP 2 Try.isAgg53 Try.sizeOf53 encP (fun _ => rfl) (fun x v hv => by simp [encP] at hv; rcases hv with rfl | rfl <;> rfl) cf2 swoP 45 #[] g 0 cap l.toArray w eg (fun _ _ _ _ x y => compare_lays x y _) hH hb.lt (by simp; omega)).mono ?_
    rintro e w' ⟨rfl, d', n, os, hp, hsort, rfl⟩
    have hs : d'.size = l.length := by simpa using hp.1
    have hperm : d'.toList.Perm l := by
      have := hp.2.2
      rw [Array.extract_eq_self_of_le (by rw [hp.1]; exact Nat.le_refl _), Array.extract_eq_self_of_le (Nat.le_refl _)] at this
      simpa using this
    have hH' := holds_sorted w g n d' _ os hb.lt hH (by simpa using hs)
    obtain ⟨cur', hcs, hb'⟩ := blk_sorted w g n d' os hb
    have hbel := below_sorted w B g n d' os hB hb.lt
    refine ⟨rfl, d'.toList, hperm, ?_, ?_, hbel⟩
    · refine List.pairwise_iff_getElem.2 fun i j hi hj hij => ?_
      have hi' : i < d'.size := by simpa using hi
      have hj' : j < d'.size := by simpa using hj
      have := hsort i j (Nat.zero_le _) hij (by simpa [← hs] using hj')
      rw [getElem!_pos d' i hi', getElem!_pos d' j hj', ltOf, decide_eq_false_iff_not, cf2_neg] at this
      simpa using this
    · have hlen : d'.toList.length = l.length := by simpa using hs
      have := OwnP.of_blk (t := 53) (l := d'.toList) (cap := cap) hB hb' (by omega) h2 (by omega) (by omega) (by
        apply List.ext_getElem?
        intro j
        by_cases hj : j < d'.toList.length * 2
        · rw [List.getElem?_take_of_lt hj]
          have hk : j / 2 < d'.size := by simp at hj; omega
          have e0 := (hH'.cell (i := j / 2) (c := 0) hk (by decide)).1
          have e1 := (hH'.cell (i := j / 2) (c := 1) hk (by decide)).1
          rw [hb'.cell, getElem!_pos d' _ hk] at e0 e1
          have hf := flat_get d'.toList (j / 2) (by simpa using hk)
          rcases Nat.mod_two_eq_zero_or_one j with h' | h'
          · have e : j = j / 2 * 2 := by omega
            rw [e, hf.1]
            simpa [encP] using e0
          · have e : j = j / 2 * 2 + 1 := by omega
            rw [e, hf.2]
            simpa [encP] using e1
        · rw [List.getElem?_eq_none (by simp; omega), List.getElem?_eq_none (by rw [flat_length]; omega)])
      rw [hlen] at this
      exact this
end Go.Proofs.Ytlhigfphfbmbjaa

