/- A row of numbers that is sorted in place: how it lies. No program is named here. -/
import Derived.Test.YtbcloahekffjdaaJ1
import Derived.Sort.AssemblyPlain
namespace Go.Proofs.Kit
open Go.RowKit
/-- A row of numbers of the call's own; all else lies as it lay in w0. -/
structure SR (ti : TypeId) (B g n cap : Nat) (w0 : World) (d : Array Int) (w : World) : Prop where
  len : d.size = n
  ow : Ow ti B w (.slice (some ⟨g, 0, none⟩) n cap) (d.toList.map (Value.int .u64))
  but : ButR (· = g) w0 w
section
variable {ti : TypeId} {B g n cap : Nat} {w0 w w' : World} {d : Array Int}
theorem SR.start (h : Ow ti B w (.slice (some ⟨g, 0, none⟩) n cap) (d.toList.map (Value.int .u64))) (hl : d.size = n) : SR ti B g n cap w d w := ⟨hl, h, .refl _ _⟩
theorem SR.later (h : SR ti B g n cap w0 d w) (k : Below w.heap.size w w') : SR ti B g n cap w0 d w' := ⟨h.len, h.ow.later k, h.but.later k⟩
theorem SR.drew (h : SR ti B g n cap w0 d w) : SR ti B g n cap w0 d w.drew := h.later (Below.refl _ _).drew
theorem SR.drewN (h : SR ti B g n cap w0 d w) (m : Nat) : SR ti B g n cap w0 d (w.drewN m) := ⟨h.len, h.ow, h.but.drewN m⟩
theorem SR.alloc (h : SR ti B g n cap w0 d w) (o : Obj) : SR ti B g n cap w0 d (w.alloc o) := h.later ((Below.refl _ _).alloc (Nat.le_refl _) _)
theorem SR.lt (h : SR ti B g n cap w0 d w) : g < w.heap.size := (h.ow.lt g rfl).2
theorem SR.ge (h : SR ti B g n cap w0 d w) : B ≤ g := (h.ow.lt g rfl).1
theorem getE (d : Array Int) {i : Nat} (hi : i < d.size) : d[i]! = d[i] := getElem!_pos d i hi
theorem SR.cell (h : SR ti B g n cap w0 d w) {i : Nat} (hi : i < n) : w.cell? ⟨g, i, none⟩ = some (.int .u64 d[i]!) := by
  have hi' : i < d.size := by rw [h.len]; exact hi
  obtain ⟨g', cap', e, _, _, _, _, h1, _⟩ := h.ow.set (i := i) (by simpa using hi') (.int .u64 0)
  injection e with e1 _ _
  injection e1 with e1
  injection e1 with e1 _ _
  subst e1
  rw [h1, getE d hi']
  simp
theorem SR.frozen (h : SR ti B g n cap w0 d w) {i : Nat} (hi : i < n) : w.frozen? ⟨g, i, none⟩ = false := by
  have hi' : i < d.size := by rw [h.len]; exact hi
  obtain ⟨g', cap', e, _, _, _, _, _, h1, _⟩ := h.ow.set (i := i) (by simpa using hi') (.int .u64 0)
  injection e with e1 _ _
  injection e1 with e1
  injection e1 with e1 _ _
  subst e1
  exact h1
theorem SR.set (h : SR ti B g n cap w0 d w) {i : Nat} (hi : i < n) (x : Int) : SR ti B g n cap w0 (d.setIfInBounds i x) (w.setCell ⟨g, i, none⟩ (.int .u64 x)) := by
  have hi' : i < d.size := by rw [h.len]; exact hi
  refine ⟨by simpa using h.len, ?_, h.but.set _ _ (fun _ => rfl)⟩
  obtain ⟨g', cap', e, _, _, _, _, _, _, h1⟩ := h.ow.set (i := i) (by simpa using hi') (.int .u64 x)
  injection e with e1 _ _
  injection e1 with e1
  injection e1 with e1 _ _
  subst e1
  rwa [Array.toList_setIfInBounds, List.map_set]
theorem SR.swp (h : SR ti B g n cap w0 d w) {i j : Nat} (hi : i < n) (hj : j < n) : SR ti B g n cap w0 (Sort.swp d i j) ((w.setCell ⟨g, i, none⟩ (.int .u64 d[j]!)).setCell ⟨g, j, none⟩ (.int .u64 d[i]!)) := (h.set hi _).set hj _
theorem SR.swpN (h : SR ti B g n cap w0 d w) {i j : Nat} (hi : i < n) (hj : j < n) {x y : Int} (hx : x = d[i]!) (hy : y = d[j]!) (m : Nat) : SR ti B g n cap w0 (Sort.swp d i j) (((w.drewN m).setCell ⟨g, i, none⟩ (.int .u64 y)).setCell ⟨g, j, none⟩ (.int .u64 x)) := by
  subst hx hy
  exact (h.drewN m).swp hi hj
end
/-- Less, at numbers. -/
abbrev ltI : Int → Int → Bool := Sort.ltInt
theorem ltI_t {x y : Int} (h : x < y) : ltI x y = true := by unfold ltI Sort.ltInt; simpa using h
theorem ltI_f {x y : Int} (h : ¬ x < y) : ltI x y = false := by unfold ltI Sort.ltInt; simpa using h
section
variable {d : Array Int}
theorem ins_go {a q : Nat} (ha : a ≤ q) (hl : d[q + 1]! < d[q]!) : Sort.insInner ltI a (q + 1) d = Sort.insInner ltI a q (Sort.swp d (q + 1) q) := by
  rw [Sort.insInner, ltI_t hl, if_pos (by simp; omega)]
theorem ins_stop {a q : Nat} (hl : ¬ d[q + 1]! < d[q]!) : Sort.insInner ltI a (q + 1) d = d := by
  rw [Sort.insInner, ltI_f hl, if_neg (by simp)]
theorem ins_end {a j : Nat} (h : ¬ a < j) : Sort.insInner ltI a j d = d := by
  cases j with
  | zero => rw [Sort.insInner]
  | succ k => rw [Sort.insInner, if_neg (by simp; omega)]
theorem insO_go {a b i : Nat} (h : i < b) : Sort.insOuter ltI a b i d = Sort.insOuter ltI a b (i + 1) (Sort.insInner ltI a i d) := by rw [Sort.insOuter, if_pos h]
theorem insO_end {a b i : Nat} (h : ¬ i < b) : Sort.insOuter ltI a b i d = d := by rw [Sort.insOuter, if_neg h]
theorem sd_end {hi F root : Nat} (h : hi ≤ 2 * root + 1) : Sort.siftDown ltI hi F root d = d := by rw [Sort.siftDown, dif_pos h]
theorem sd_right {hi F root : Nat} (h0 : 2 * root + 2 < hi) (hl : d[F + (2 * root + 1)]! < d[F + (2 * root + 2)]!) (hr : d[F + root]! < d[F + (2 * root + 2)]!) : Sort.siftDown ltI hi F root d = Sort.siftDown ltI hi F (2 * root + 2) (Sort.swp d (F + root) (F + (2 * root + 2))) := by
  rw [Sort.siftDown, dif_neg (by omega), if_pos (by rw [show F + (2 * root + 1) + 1 = F + (2 * root + 2) by omega, ltI_t hl]; simp; omega), ltI_t hr, if_neg (by simp), dif_pos h0]
theorem sd_right_stop {hi F root : Nat} (h0 : 2 * root + 2 < hi) (hl : d[F + (2 * root + 1)]! < d[F + (2 * root + 2)]!) (hr : ¬ d[F + root]! < d[F + (2 * root + 2)]!) : Sort.siftDown ltI hi F root d = d := by
  rw [Sort.siftDown, dif_neg (by omega), if_pos (by rw [show F + (2 * root + 1) + 1 = F + (2 * root + 2) by omega, ltI_t hl]; simp; omega), ltI_f hr, if_pos (by simp)]
theorem sd_left {hi F root : Nat} (h0 : 2 * root + 1 < hi) (hl : ¬ (2 * root + 2 < hi ∧ d[F + (2 * root + 1)]! < d[F + (2 * root + 2)]!)) (hr : d[F + root]! < d[F + (2 * root + 1)]!) : Sort.siftDown ltI hi F root d = Sort.siftDown ltI hi F (2 * root + 1) (Sort.swp d (F + root) (F + (2 * root + 1))) := by
  rw [Sort.siftDown, dif_neg (by omega), if_neg, ltI_t hr, if_neg (by simp)]
  intro h
  rw [Bool.and_eq_true, decide_eq_true_eq, show F + (2 * root + 1) + 1 = F + (2 * root + 2) by omega] at h
  exact hl ⟨h.1, by have := h.2; unfold ltI Sort.ltInt at this; simpa using this⟩
theorem sd_left_stop {hi F root : Nat} (h0 : 2 * root + 1 < hi) (hl : ¬ (2 * root + 2 < hi ∧ d[F + (2 * root + 1)]! < d[F + (2 * root + 2)]!)) (hr : ¬ d[F + root]! < d[F + (2 * root + 1)]!) : Sort.siftDown ltI hi F root d = d := by
  rw [Sort.siftDown, dif_neg (by omega), if_neg, ltI_f hr, if_pos (by simp)]
  intro h
  rw [Bool.and_eq_true, decide_eq_true_eq, show F + (2 * root + 1) + 1 = F + (2 * root + 2) by omega] at h
  exact hl ⟨h.1, by have := h.2; unfold ltI Sort.ltInt at this; simpa using this⟩
theorem size_sift {hi F : Nat} : ∀ (m root : Nat) (d : Array Int), hi - root ≤ m → (Sort.siftDown ltI hi F root d).size = d.size := by
  intro m
  induction m with
  | zero => intro root d h; rw [sd_end (by omega)]
  | succ m ih =>
    intro root d h
    by_cases h0 : hi ≤ 2 * root + 1
    · rw [sd_end h0]
    · by_cases hl : 2 * root + 2 < hi ∧ d[F + (2 * root + 1)]! < d[F + (2 * root + 2)]!
      · by_cases hr : d[F + root]! < d[F + (2 * root + 2)]!
        · rw [sd_right hl.1 hl.2 hr, ih _ _ (by omega), Sort.size_swp]
        · rw [sd_right_stop hl.1 hl.2 hr]
      · by_cases hr : d[F + root]! < d[F + (2 * root + 1)]!
        · rw [sd_left (by omega) hl hr, ih _ _ (by omega), Sort.size_swp]
        · rw [sd_left_stop (by omega) hl hr]
theorem half_start2 (l : Nat) : ((l : Int) - 1).tdiv 2 = (((l - 1) / 2 + 1 : Nat) : Int) - 1 := by
  cases l with
  | zero => rfl
  | succ k => rw [Int.tdiv_eq_ediv_of_nonneg (by omega)]; omega
theorem heapB_go {hi F k : Nat} {d : Array Int} : Sort.heapBuild ltI hi F (k + 1) d = Sort.heapBuild ltI hi F k (Sort.siftDown ltI hi F k d) := rfl
theorem heapP_go {F k : Nat} {d : Array Int} : Sort.heapPop ltI F (k + 1) d = Sort.heapPop ltI F k (Sort.siftDown ltI k F 0 (Sort.swp d F (F + k))) := rfl
end
end Go.Proofs.Kit
