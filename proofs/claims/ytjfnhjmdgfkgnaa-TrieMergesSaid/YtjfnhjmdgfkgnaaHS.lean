/- slices.Sort of numbers. -/
import Derived.Test.YtjfnhjmdgfkgnaaJ1
import Derived.Sort.AssemblyPlain
import Derived.Test.YtjfnhjmdgfkgnaaProg
import Derived.Deep.QuietTactic
import Derived.BigQuiet
import Derived.Deep.CutBlock
import Derived.Shelf.SlSortCmp.Xorshift
import Derived.Test.YtjfnhjmdgfkgnaaShL
/- A row of numbers that is sorted in place: how it lies. No program is named here. -/
namespace Go.Proofs.Kit
open Go.RowKit
/-- A row of numbers of the call's own; all else lies as it lay in w0. -/
structure SR (ti : TypeId) (B g n cap : Nat) (w0 : World) (d : Array Int) (w : World) : Prop where
  len : d.size = n
  ow : Ow ti B w (.slice (some ⟨g, 0, none⟩) n cap) (d.toList.map (Value.int .u64))
  but : ButR (· = g) w0 w
section
variable {ti : TypeId} {B g n cap : Nat} {w0 w w' : World} {d : Array Int}
theorem SR.start (h : Ow ti B w (.slice (some ⟨g, 0, none⟩) n cap) (d.toList.map (Value.int .u64))) (hl : d.size = n) : SR ti B g n cap w d w := ⟨hl, h, .refl _ _⟩
theorem SR.later (h : SR ti B g n cap w0 d w) (k : Below w.heap.size w w') : SR ti B g n cap w0 d w' := ⟨h.len, h.ow.later k, h.but.later k⟩
theorem SR.drew (h : SR ti B g n cap w0 d w) : SR ti B g n cap w0 d w.drew := h.later (Below.refl _ _).drew
theorem SR.drewN (h : SR ti B g n cap w0 d w) (m : Nat) : SR ti B g n cap w0 d (w.drewN m) := ⟨h.len, h.ow, h.but.drewN m⟩
theorem SR.alloc (h : SR ti B g n cap w0 d w) (o : Obj) : SR ti B g n cap w0 d (w.alloc o) := h.later ((Below.refl _ _).alloc (Nat.le_refl _) _)
theorem SR.lt (h : SR ti B g n cap w0 d w) : g < w.heap.size := (h.ow.lt g rfl).2
theorem SR.ge (h : SR ti B g n cap w0 d w) : B ≤ g := (h.ow.lt g rfl).1
theorem getE (d : Array Int) {i : Nat} (hi : i < d.size) : d[i]! = d[i] := getElem!_pos d i hi
theorem SR.cell (h : SR ti B g n cap w0 d w) {i : Nat} (hi : i < n) : w.cell? ⟨g, i, none⟩ = some (.int .u64 d[i]!) := by
  have hi' : i < d.size := by rw [h.len]; exact hi
  obtain ⟨g', cap', e, _, _, _, _, h1, _⟩ := h.ow.set (i := i) (by simpa using hi') (.int .u64 0)
  injection e with e1 _ _
  injection e1 with e1
  injection e1 with e1 _ _
  subst e1
  rw [h1, getE d hi']
  simp
theorem SR.frozen (h : SR ti B g n cap w0 d w) {i : Nat} (hi : i < n) : w.frozen? ⟨g, i, none⟩ = false := by
  have hi' : i < d.size := by rw [h.len]; exact hi
  obtain ⟨g', cap', e, _, _, _, _, _, h1, _⟩ := h.ow.set (i := i) (by simpa using hi') (.int .u64 0)
  injection e with e1 _ _
  injection e1 with e1
  injection e1 with e1 _ _
  subst e1
  exact h1
theorem SR.set (h : SR ti B g n cap w0 d w) {i : Nat} (hi : i < n) (x : Int) : SR ti B g n cap w0 (d.setIfInBounds i x) (w.setCell ⟨g, i, none⟩ (.int .u64 x)) := by
  have hi' : i < d.size := by rw [h.len]; exact hi
  refine ⟨by simpa using h.len, ?_, h.but.set _ _ (fun _ => rfl)⟩
  obtain ⟨g', cap', e, _, _, _, _, _, _, h1⟩ := h.ow.set (i := i) (by simpa using hi') (.int .u64 x)
  injection e with e1 _ _
  injection e1 with e1
  injection e1 with e1 _ _
  subst e1
  rwa [Array.toList_setIfInBounds, List.map_set]
theorem SR.swp (h : SR ti B g n cap w0 d w) {i j : Nat} (hi : i < n) (hj : j < n) : SR ti B g n cap w0 (Sort.swp d i j) ((w.setCell ⟨g, i, none⟩ (.int .u64 d[j]!)).setCell ⟨g, j, none⟩ (.int .u64 d[i]!)) := (h.set hi _).set hj _
theorem SR.swpN (h : SR ti B g n cap w0 d w) {i j : Nat} (hi : i < n) (hj : j < n) {x y : Int} (hx : x = d[i]!) (hy : y = d[j]!) (m : Nat) : SR ti B g n cap w0 (Sort.swp d i j) (((w.drewN m).setCell ⟨g, i, none⟩ (.int .u64 y)).setCell ⟨g, j, none⟩ (.int .u64 x)) := by
  subst hx hy
  exact (h.drewN m).swp hi hj
end
/-- Less, at numbers. -/
abbrev ltI : Int → Int → Bool := Sort.ltInt
theorem ltI_t {x y : Int} (h : x < y) : ltI x y = true := by unfold ltI Sort.ltInt; simpa using h
theorem ltI_f {x y : Int} (h : ¬ x < y) : ltI x y = false := by unfold ltI Sort.ltInt; simpa using h
section
variable {d : Array Int}
theorem ins_go {a q : Nat} (ha : a ≤ q) (hl : d[q + 1]! < d[q]!) : Sort.insInner ltI a (q + 1) d = Sort.insInner ltI a q (Sort.swp d (q + 1) q) := by
  rw [Sort.insInner, ltI_t hl, if_pos (by simp; omega)]
theorem ins_stop {a q : Nat} (hl : ¬ d[q + 1]! < d[q]!) : Sort.insInner ltI a (q + 1) d = d := by
  rw [Sort.insInner, ltI_f hl, if_neg (by simp)]
theorem ins_end {a j : Nat} (h : ¬ a < j) : Sort.insInner ltI a j d = d := by
  cases j with
  | zero => rw [Sort.insInner]
  | succ k => rw [Sort.insInner, if_neg (by simp; omega)]
theorem insO_go {a b i : Nat} (h : i < b) : Sort.insOuter ltI a b i d = Sort.insOuter ltI a b (i + 1) (Sort.insInner ltI a i d) := by rw [Sort.insOuter, if_pos h]
theorem insO_end {a b i : Nat} (h : ¬ i < b) : Sort.insOuter ltI a b i d = d := by rw [Sort.insOuter, if_neg h]
theorem sd_end {hi F root : Nat} (h : hi ≤ 2 * root + 1) : Sort.siftDown ltI hi F root d = d := by rw [Sort.siftDown, dif_pos h]
theorem sd_right {hi F root : Nat} (h0 : 2 * root + 2 < hi) (hl : d[F + (2 * root + 1)]! < d[F + (2 * root + 2)]!) (hr : d[F + root]! < d[F + (2 * root + 2)]!) : Sort.siftDown ltI hi F root d = Sort.siftDown ltI hi F (2 * root + 2) (Sort.swp d (F + root) (F + (2 * root + 2))) := by
  rw [Sort.siftDown, dif_neg (by omega), if_pos (by rw [show F + (2 * root + 1) + 1 = F + (2 * root + 2) by omega, ltI_t hl]; simp; omega), ltI_t hr, if_neg (by simp), dif_pos h0]
theorem sd_right_stop {hi F root : Nat} (h0 : 2 * root + 2 < hi) (hl : d[F + (2 * root + 1)]! < d[F + (2 * root + 2)]!) (hr : ¬ d[F + root]! < d[F + (2 * root + 2)]!) : Sort.siftDown ltI hi F root d = d := by
  rw [Sort.siftDown, dif_neg (by omega), if_pos (by rw [show F + (2 * root + 1) + 1 = F + (2 * root + 2) by omega, ltI_t hl]; simp; omega), ltI_f hr, if_pos (by simp)]
theorem sd_left {hi F root : Nat} (h0 : 2 * root + 1 < hi) (hl : ¬ (2 * root + 2 < hi ∧ d[F + (2 * root + 1)]! < d[F + (2 * root + 2)]!)) (hr : d[F + root]! < d[F + (2 * root + 1)]!) : Sort.siftDown ltI hi F root d = Sort.siftDown ltI hi F (2 * root + 1) (Sort.swp d (F + root) (F + (2 * root + 1))) := by
  rw [Sort.siftDown, dif_neg (by omega), if_neg, ltI_t hr, if_neg (by simp)]
  intro h
  rw [Bool.and_eq_true, decide_eq_true_eq, show F + (2 * root + 1) + 1 = F + (2 * root + 2) by omega] at h
  exact hl ⟨h.1, by have := h.2; unfold ltI Sort.ltInt at this; simpa using this⟩
theorem sd_left_stop {hi F root : Nat} (h0 : 2 * root + 1 < hi) (hl : ¬ (2 * root + 2 < hi ∧ d[F + (2 * root + 1)]! < d[F + (2 * root + 2)]!)) (hr : ¬ d[F + root]! < d[F + (2 * root + 1)]!) : Sort.siftDown ltI hi F root d = d := by
  rw [Sort.siftDown, dif_neg (by omega), if_neg, ltI_f hr, if_pos (by simp)]
  intro h
  rw [Bool.and_eq_true, decide_eq_true_eq, show F + (2 * root + 1) + 1 = F + (2 * root + 2) by omega] at h
  exact hl ⟨h.1, by have := h.2; unfold ltI Sort.ltInt at this; simpa using this⟩
theorem size_sift {hi F : Nat} : ∀ (m root : Nat) (d : Array Int), hi - root ≤ m → (Sort.siftDown ltI hi F root d).size = d.size := by
  intro m
  induction m with
  | zero => intro root d h; rw [sd_end (by omega)]
  | succ m ih =>
    intro root d h
    by_cases h0 : hi ≤ 2 * root + 1
    · rw [sd_end h0]
    · by_cases hl : 2 * root + 2 < hi ∧ d[F + (2 * root + 1)]! < d[F + (2 * root + 2)]!
      · by_cases hr : d[F + root]! < d[F + (2 * root + 2)]!
        · rw [sd_right hl.1 hl.2 hr, ih _ _ (by omega), Sort.size_swp]
        · rw [sd_right_stop hl.1 hl.2 hr]
      · by_cases hr : d[F + root]! < d[F + (2 * root + 1)]!
        · rw [sd_left (by omega) hl hr, ih _ _ (by omega), Sort.size_swp]
        · rw [sd_left_stop (by omega) hl hr]
theorem half_start2 (l : Nat) : ((l : Int) - 1).tdiv 2 = (((l - 1) / 2 + 1 : Nat) : Int) - 1 := by
  cases l with
  | zero => rfl
  | succ k => rw [Int.tdiv_eq_ediv_of_nonneg (by omega)]; omega
theorem heapB_go {hi F k : Nat} {d : Array Int} : Sort.heapBuild ltI hi F (k + 1) d = Sort.heapBuild ltI hi F k (Sort.siftDown ltI hi F k d) := rfl
theorem heapP_go {F k : Nat} {d : Array Int} : Sort.heapPop ltI F (k + 1) d = Sort.heapPop ltI F k (Sort.siftDown ltI k F 0 (Sort.swp d F (F + k))) := rfl
end
end Go.Proofs.Kit


/- cmp.Less at numbers; insertion. -/
namespace Go.Proofs.Ytjfnhjmdgfkgnaa
open Go.RowKit Go.Proofs.Kit
set_option maxRecDepth 100000 in
theorem nan_any (x : Int) (w : World) : Calls Try.prog 121 #[.int .u64 x] w fun e w' => e = .returned (.bool false) ∧ w' = w := by
  have hx : (x != x) = false := by simp
  go_enter Try.func121, Try.ntmps121
  go_wp2
  go_ret
  exact ⟨rfl, rfl⟩
set_option maxRecDepth 100000 in
theorem less_any (x y : Int) (w : World) : Calls Try.prog 108 #[.int .u64 x, .int .u64 y] w fun e w' => e = .returned (.bool (decide (x < y))) ∧ w' = w := by
  go_enter Try.func108, Try.ntmps108
  go_wp2_with (go_at_call 121; refine (nan_any _ _).mono ?_; rintro e w' ⟨rfl, rfl⟩)
  go_ret
  exact ⟨rfl, rfl⟩
theorem less_from {w : World} {nq m : Nat} (x y : Int) : Calls Try.prog 108 #[.int .u64 x, .int .u64 y] (w.drewN (nq + m)) fun e w' => e = .returned (.bool (decide (x < y))) ∧ ∃ k, w' = w.drewN (nq + k) :=
  (less_any x y _).mono fun _ _ ⟨h1, h2⟩ => ⟨h1, m, h2⟩
abbrev SRt (B g n cap : Nat) (w0 : World) (d : Array Int) (w : World) : Prop := SR 52 B g n cap w0 d w
set_option maxRecDepth 100000 in
set_option maxHeartbeats 2000000 in
theorem ins_any (B g n cap a b : Nat) (d : Array Int) (w0 w : World) (h : SRt B g n cap w0 d w) (hab : a ≤ b) (hb : b ≤ n) (hn : n ≤ 1000000) :
    Calls Try.prog 102 #[.slice (some ⟨g, 0, none⟩) n cap, .int .i64 a, .int .i64 b] w fun e w' => e = .returned (.tuple #[]) ∧ SRt B g n cap w0 (Sort.insertionSort ltI d a b) w' := by
  have H := Lib.hid h
  clear h
  go_enter Try.func102, Try.ntmps102
  go_wp2
  go_loopw [6, 7] (fun i _ wr => ∃ (k : Nat) (dk : Array Int), a < k ∧ k ≤ max b (a + 1) ∧ i = .int .i64 (k : Int) ∧ Hid (SRt B g n cap w0 dk wr) ∧ Hid (Sort.insOuter ltI a b k dk = Sort.insertionSort ltI d a b)) (fun i _ _ => b - (intOf i).toNat)
  case atStart => exact ⟨a + 1, d, by omega, by omega, by go_num, H, Lib.hid rfl⟩
  case round =>
    obtain ⟨k, dk, hk, hkb, rfl, HK, HE⟩ := hrel
    clear H
    by_cases hkn : k < b
    · go_wp2
      go_loopw [7] (fun i wq => ∃ (j : Nat) (dj : Array Int), a ≤ j ∧ j ≤ k ∧ i = .int .i64 (j : Int) ∧ Hid (SRt B g n cap w0 dj wq) ∧ Hid (Sort.insInner ltI a j dj = Sort.insInner ltI a k dk)) (fun i _ => (intOf i).toNat)
      case atStart => exact ⟨k, dk, by omega, by omega, rfl, HK, Lib.hid rfl⟩
      case round =>
        obtain ⟨j, dj, haj, hjk, rfl, HJ, HI⟩ := hrel
        clear HK
        by_cases hja : a < j
        · obtain ⟨q, rfl⟩ : ∃ q, j = q + 1 := ⟨j - 1, by omega⟩
          have hja' : decide ((a : Int) < (q : Int) + 1) = true := by rw [decide_eq_true_eq]; omega
          have hja2 : decide (a < q + 1) = true := by rw [decide_eq_true_eq]; omega
          have d1 := HJ.out.cell (i := q + 1) (by omega)
          have d2 := HJ.out.cell (i := q) (by omega)
          have f1 := HJ.out.frozen (i := q + 1) (by omega)
          have f2 := HJ.out.frozen (i := q) (by omega)
          have hg := HJ.out.lt
          obtain ⟨x, hx⟩ : ∃ x, x = dj[q + 1]! := ⟨_, rfl⟩
          obtain ⟨y, hy⟩ : ∃ y, y = dj[q]! := ⟨_, rfl⟩
          rw [← hx] at d1
          rw [← hy] at d2
          have HX := Lib.hid hx
          have HY := Lib.hid hy
          clear hx hy
          by_cases hl : x < y
          · have hd : decide (x < y) = true := by rw [decide_eq_true_eq]; exact hl
            go_wp2
            go_quiet (first | (go_at_call 108; refine Calls.quiet_of_same (less_any _ _ _)))
            go_wp2
            go_region
            all_goals
              go_wp2
              go_roundw
              case rel => exact ⟨q, Sort.swp dj (q + 1) q, by omega, by omega, rfl, Lib.hid (by have := (HJ.out.drewN (nq + 1)).swp (i := q + 1) (j := q) (by omega) (by omega); rwa [← HX.out, ← HY.out] at this), Lib.hid (by rw [← HI.out, ins_go (by omega) (by rw [← HX.out, ← HY.out]; exact hl)])⟩
              case measure => first | (simp [intOf]; done) | (simp [intOf]; omega)
          · have hd : decide (x < y) = false := by rw [decide_eq_false_iff_not]; exact hl
            go_wp2
            go_quiet (first | (go_at_call 108; refine Calls.quiet_of_same (less_any _ _ _)))
            go_wp2
            go_roundw
            case rel => exact ⟨k + 1, dj, by omega, by omega, by go_num, Lib.hid (HJ.out.drewN nq), Lib.hid (by rw [← HE.out, insO_go hkn, ← HI.out, ins_stop (by rw [← HX.out, ← HY.out]; omega)])⟩
            case measure => first | (simp [intOf]; done) | (simp [intOf]; omega)
        · have hja' : decide ((a : Int) < (j : Int)) = false := by rw [decide_eq_false_iff_not]; omega
          have hja2 : decide (a < j) = false := by rw [decide_eq_false_iff_not]; omega
          go_wp2
          go_quiet (first | (go_at_call 108; refine Calls.quiet_of_same (less_any _ _ _)))
          go_wp2
          go_roundw
          case rel => exact ⟨k + 1, dj, by omega, by omega, by go_num, Lib.hid (HJ.out.drewN nq), Lib.hid (by rw [← HE.out, insO_go hkn, ← HI.out, ins_end hja])⟩
          case measure => first | (simp [intOf]; done) | (simp [intOf]; omega)
    · go_wp2
      go_end0
      exact ⟨rfl, by rw [← HE.out, insO_end hkn]; exact HK.out⟩
end Go.Proofs.Ytjfnhjmdgfkgnaa


/- A heap: sifting down, sorting by it. -/
namespace Go.Proofs.Ytjfnhjmdgfkgnaa
open Go.RowKit Go.Proofs.Kit
set_option maxRecDepth 100000 in
set_option maxHeartbeats 4000000 in
theorem sift_any (B g n cap lo hi F : Nat) (d : Array Int) (w0 w : World) (h : SRt B g n cap w0 d w) (hlo : lo ≤ hi) (hb : F + hi ≤ n) (hn : n ≤ 1000000) :
    Calls Try.prog 124 #[.slice (some ⟨g, 0, none⟩) n cap, .int .i64 lo, .int .i64 hi, .int .i64 F] w fun e w' => e = .returned (.tuple #[]) ∧ SRt B g n cap w0 (Sort.siftDown ltI hi F lo d) w' := by
  have H := Lib.hid h
  clear h
  go_enter Try.func124, Try.ntmps124
  go_wp2
  go_loopw [8, 9] (fun r _ wr => ∃ (root : Nat) (dk : Array Int), root ≤ hi ∧ r = .int .i64 (root : Int) ∧ Hid (SRt B g n cap w0 dk wr) ∧ Hid (Sort.siftDown ltI hi F root dk = Sort.siftDown ltI hi F lo d)) (fun r _ _ => hi - (intOf r).toNat)
  case atStart => exact ⟨lo, d, hlo, rfl, H, Lib.hid rfl⟩
  case round =>
    obtain ⟨r, dk, hr, rfl, HK, HE⟩ := hrel
    clear H
    by_cases h0 : hi ≤ 2 * r + 1
    · go_wp2
      go_end0
      exact ⟨rfl, by rw [← HE.out, sd_end h0]; exact HK.out⟩
    · have hg := HK.out.lt
      have dr := HK.out.cell (i := F + r) (by omega)
      have d1 := HK.out.cell (i := F + (2 * r + 1)) (by omega)
      have fr := HK.out.frozen (i := F + r) (by omega)
      have f1 := HK.out.frozen (i := F + (2 * r + 1)) (by omega)
      obtain ⟨x, hx⟩ : ∃ x, x = dk[F + r]! := ⟨_, rfl⟩
      obtain ⟨y, hy⟩ : ∃ y, y = dk[F + (2 * r + 1)]! := ⟨_, rfl⟩
      rw [← hx] at dr
      rw [← hy] at d1
      have HX := Lib.hid hx
      have HY := Lib.hid hy
      clear hx hy
      have hw1 : IntKind.i64.wrap (2 * (r : Int) + 1 + 1) = 2 * (r : Int) + 1 + 1 := by rw [IntKind.wrap_i64]; omega
      have hw2 : IntKind.i64.wrap ((F : Int) + (2 * (r : Int) + 1)) = (F : Int) + (2 * (r : Int) + 1) := by rw [IntKind.wrap_i64]; omega
      have hw3 : IntKind.i64.wrap ((F : Int) + (2 * (r : Int) + 1) + 1) = (F : Int) + (2 * (r : Int) + 1) + 1 := by rw [IntKind.wrap_i64]; omega
      have hw4 : IntKind.i64.wrap ((F : Int) + (r : Int)) = (F : Int) + (r : Int) := by rw [IntKind.wrap_i64]; omega
      have hw5 : IntKind.i64.wrap ((F : Int) + (2 * (r : Int) + 1 + 1)) = (F : Int) + (2 * (r : Int) + 1 + 1) := by rw [IntKind.wrap_i64]; omega
      have p1 : (0 : Int) ≤ (F : Int) + (2 * (r : Int) + 1) := by omega
      have p2 : (F : Int) + (2 * (r : Int) + 1) < (n : Int) := by omega
      have p3 : ((F : Int) + (2 * (r : Int) + 1)).toNat = F + (2 * r + 1) := by omega
      have h0' : decide ((hi : Int) ≤ 2 * (r : Int) + 1) = false := by rw [decide_eq_false_iff_not]; omega
      have p7 : (0 : Int) ≤ (F : Int) + (r : Int) := by omega
      have p8 : (F : Int) + (r : Int) < (n : Int) := by omega
      have p9 : ((F : Int) + (r : Int)).toNat = F + r := by omega
      by_cases h1 : 2 * r + 2 < hi
      · have h1' : decide (2 * (r : Int) + 1 + 1 < (hi : Int)) = true := by rw [decide_eq_true_eq]; omega
        have p4 : (0 : Int) ≤ (F : Int) + (2 * (r : Int) + 1) + 1 := by omega
        have p5 : (F : Int) + (2 * (r : Int) + 1) + 1 < (n : Int) := by omega
        have p6 : ((F : Int) + (2 * (r : Int) + 1) + 1).toNat = F + (2 * r + 2) := by omega
        have q4 : (0 : Int) ≤ (F : Int) + (2 * (r : Int) + 1 + 1) := by omega
        have q5 : (F : Int) + (2 * (r : Int) + 1 + 1) < (n : Int) := by omega
        have q6 : ((F : Int) + (2 * (r : Int) + 1 + 1)).toNat = F + (2 * r + 2) := by omega
        have d2 := HK.out.cell (i := F + (2 * r + 2)) (by omega)
        have f2 := HK.out.frozen (i := F + (2 * r + 2)) (by omega)
        obtain ⟨z, hz⟩ : ∃ z, z = dk[F + (2 * r + 2)]! := ⟨_, rfl⟩
        rw [← hz] at d2
        have HZ := Lib.hid hz
        clear hz
        by_cases hl : y < z
        · have hd : decide (y < z) = true := by rw [decide_eq_true_eq]; exact hl
          by_cases hr2 : x < z
          · have hd2 : decide (x < z) = true := by rw [decide_eq_true_eq]; exact hr2
            go_wp2
            go_quiet (first | (go_at_call 108; refine Calls.quiet_of_same (less_any _ _ _)) | (go_at_call 108; refine less_from _ _))
            go_wp2
            go_quiet (first | (go_at_call 108; refine Calls.quiet_of_same (less_any _ _ _)) | (go_at_call 108; refine less_from _ _))
            go_wp2
            go_region
            all_goals
              go_wp2
              go_roundw
              case rel => exact ⟨2 * r + 2, Sort.swp dk (F + r) (F + (2 * r + 2)), by omega, by go_num, Lib.hid (HK.out.swpN (i := F + r) (j := F + (2 * r + 2)) (by omega) (by omega) HX.out HZ.out _), Lib.hid (by rw [← HE.out, sd_right (d := dk) (root := r) h1 (by rw [← HY.out, ← HZ.out]; omega) (by rw [← HX.out, ← HZ.out]; omega)])⟩
              case measure => first | (simp [intOf]; done) | (simp [intOf]; omega)
          · have hd2 : decide (x < z) = false := by rw [decide_eq_false_iff_not]; exact hr2
            go_wp2
            go_quiet (first | (go_at_call 108; refine Calls.quiet_of_same (less_any _ _ _)) | (go_at_call 108; refine less_from _ _))
            go_wp2
            go_quiet (first | (go_at_call 108; refine Calls.quiet_of_same (less_any _ _ _)) | (go_at_call 108; refine less_from _ _))
            go_wp2
            exact bodyPost_ret (v := .tuple #[]) (by simp [results, Try.results124, go_sem]) rfl ⟨rfl, by rw [← HE.out, sd_right_stop (d := dk) (root := r) h1 (by rw [← HY.out, ← HZ.out]; omega) (by rw [← HX.out, ← HZ.out]; omega)]; exact (HK.out.drewN _).drewN _⟩
        · have hd : decide (y < z) = false := by rw [decide_eq_false_iff_not]; exact hl
          by_cases hr2 : x < y
          · have hd2 : decide (x < y) = true := by rw [decide_eq_true_eq]; exact hr2
            go_wp2
            go_quiet (first | (go_at_call 108; refine Calls.quiet_of_same (less_any _ _ _)) | (go_at_call 108; refine less_from _ _))
            go_wp2
            go_quiet (first | (go_at_call 108; refine Calls.quiet_of_same (less_any _ _ _)) | (go_at_call 108; refine less_from _ _))
            go_wp2
            go_region
            all_goals
              go_wp2
              go_roundw
              case rel => exact ⟨2 * r + 1, Sort.swp dk (F + r) (F + (2 * r + 1)), by omega, by go_num, Lib.hid (HK.out.swpN (i := F + r) (j := F + (2 * r + 1)) (by omega) (by omega) HX.out HY.out _), Lib.hid (by rw [← HE.out, sd_left (d := dk) (root := r) (by omega) (fun e => by have := e.2; rw [← HY.out, ← HZ.out] at this; omega) (by rw [← HX.out, ← HY.out]; omega)])⟩
              case measure => first | (simp [intOf]; done) | (simp [intOf]; omega)
          · have hd2 : decide (x < y) = false := by rw [decide_eq_false_iff_not]; exact hr2
            go_wp2
            go_quiet (first | (go_at_call 108; refine Calls.quiet_of_same (less_any _ _ _)) | (go_at_call 108; refine less_from _ _))
            go_wp2
            go_quiet (first | (go_at_call 108; refine Calls.quiet_of_same (less_any _ _ _)) | (go_at_call 108; refine less_from _ _))
            go_wp2
            exact bodyPost_ret (v := .tuple #[]) (by simp [results, Try.results124, go_sem]) rfl ⟨rfl, by rw [← HE.out, sd_left_stop (d := dk) (root := r) (by omega) (fun e => by have := e.2; rw [← HY.out, ← HZ.out] at this; omega) (by rw [← HX.out, ← HY.out]; omega)]; exact (HK.out.drewN _).drewN _⟩
      · have h1' : decide (2 * (r : Int) + 1 + 1 < (hi : Int)) = false := by rw [decide_eq_false_iff_not]; omega
        by_cases hr2 : x < y
        · have hd2 : decide (x < y) = true := by rw [decide_eq_true_eq]; exact hr2
          go_wp2
          go_quiet (first | (go_at_call 108; refine Calls.quiet_of_same (less_any _ _ _)) | (go_at_call 108; refine less_from _ _))
          go_wp2
          go_quiet (first | (go_at_call 108; refine Calls.quiet_of_same (less_any _ _ _)) | (go_at_call 108; refine less_from _ _))
          go_wp2
          go_region
          all_goals
            go_wp2
            go_roundw
            case rel => exact ⟨2 * r + 1, Sort.swp dk (F + r) (F + (2 * r + 1)), by omega, by go_num, Lib.hid (HK.out.swpN (i := F + r) (j := F + (2 * r + 1)) (by omega) (by omega) HX.out HY.out _), Lib.hid (by rw [← HE.out, sd_left (d := dk) (root := r) (by omega) (fun e => h1 e.1) (by rw [← HX.out, ← HY.out]; omega)])⟩
            case measure => first | (simp [intOf]; done) | (simp [intOf]; omega)
        · have hd2 : decide (x < y) = false := by rw [decide_eq_false_iff_not]; exact hr2
          go_wp2
          go_quiet (first | (go_at_call 108; refine Calls.quiet_of_same (less_any _ _ _)) | (go_at_call 108; refine less_from _ _))
          go_wp2
          go_quiet (first | (go_at_call 108; refine Calls.quiet_of_same (less_any _ _ _)) | (go_at_call 108; refine less_from _ _))
          go_wp2
          exact bodyPost_ret (v := .tuple #[]) (by simp [results, Try.results124, go_sem]) rfl ⟨rfl, by rw [← HE.out, sd_left_stop (d := dk) (root := r) (by omega) (fun e => h1 e.1) (by rw [← HX.out, ← HY.out]; omega)]; exact (HK.out.drewN _).drewN _⟩
end Go.Proofs.Ytjfnhjmdgfkgnaa


/- Sorting by a heap; a part turned round. -/
namespace Go.Proofs.Ytjfnhjmdgfkgnaa
open Go.RowKit Go.Proofs.Kit
set_option maxRecDepth 100000 in
set_option maxHeartbeats 4000000 in
theorem heap_any (B g n cap a b : Nat) (d : Array Int) (w0 w : World) (h : SRt B g n cap w0 d w) (hab : a ≤ b) (hb : b ≤ n) (hn : n ≤ 1000000) :
    Calls Try.prog 103 #[.slice (some ⟨g, 0, none⟩) n cap, .int .i64 a, .int .i64 b] w fun e w' => e = .returned (.tuple #[]) ∧ SRt B g n cap w0 (Sort.heapSort ltI d a b) w' := by
  obtain ⟨l, hl⟩ : ∃ l, l = b - a := ⟨_, rfl⟩
  have H := Lib.hid h
  have hs : Hid (Sort.heapSort ltI d a b = Sort.heapPop ltI a l (Sort.heapBuild ltI l a ((l - 1) / 2 + 1) d)) := Lib.hid (by unfold Sort.heapSort; rw [hl])
  have hlb : a + l ≤ n := by omega
  have hal : (b : Int) - (a : Int) = (l : Int) := by omega
  clear h hab hl
  go_enter Try.func103, Try.ntmps103
  go_wp2
  go_loopw [9] (fun i wr => ∃ (k : Nat) (z : Int) (dk : Array Int), k ≤ (l - 1) / 2 + 1 ∧ i = .int .i64 z ∧ z = (k : Int) - 1 ∧ Hid (SRt B g n cap w0 dk wr) ∧ Hid (Sort.heapBuild ltI l a k dk = Sort.heapBuild ltI l a ((l - 1) / 2 + 1) d)) (fun i _ => (intOf i + 1).toNat)
  case atStart => exact ⟨(l - 1) / 2 + 1, _, d, Nat.le_refl _, rfl, half_start2 _, H, Lib.hid rfl⟩
  case round =>
    obtain ⟨k, z, dk, hk, rfl, hz, HK, HE⟩ := hrel
    clear H
    by_cases h0 : k = 0
    · subst h0
      obtain rfl : z = -1 := by omega
      clear hz
      go_wp2
      go_loopw [10] (fun i wr => ∃ (k : Nat) (z : Int) (dk : Array Int), k ≤ l ∧ i = .int .i64 z ∧ z = (k : Int) - 1 ∧ Hid (SRt B g n cap w0 dk wr) ∧ Hid (Sort.heapPop ltI a k dk = Sort.heapSort ltI d a b)) (fun i _ => (intOf i + 1).toNat)
      case atStart => exact ⟨l, _, dk, Nat.le_refl _, rfl, rfl, HK, Lib.hid (by rw [hs.out, ← HE.out]; rfl)⟩
      case round =>
        obtain ⟨k, z, dk, hk, rfl, hz, HK, HE⟩ := hrel
        by_cases h0 : k = 0
        · subst h0
          obtain rfl : z = -1 := by omega
          clear hz
          go_wp2
          go_end0
          exact ⟨rfl, by rw [← HE.out]; exact HK.out⟩
        · obtain ⟨q, rfl⟩ : ∃ q, k = q + 1 := ⟨k - 1, by omega⟩
          obtain rfl : z = (q : Int) := by omega
          clear hz
          have hg := HK.out.lt
          have d1 := HK.out.cell (i := a) (by omega)
          have d2 := HK.out.cell (i := a + q) (by omega)
          have f1 := HK.out.frozen (i := a) (by omega)
          have f2 := HK.out.frozen (i := a + q) (by omega)
          obtain ⟨x, hx⟩ : ∃ x, x = dk[a]! := ⟨_, rfl⟩
          obtain ⟨y, hy⟩ : ∃ y, y = dk[a + q]! := ⟨_, rfl⟩
          rw [← hx] at d1
          rw [← hy] at d2
          have HX := Lib.hid hx
          have HY := Lib.hid hy
          clear hx hy
          by_cases hq : q = 0
          · subst hq
            clear d2 f2
            go_wp2
            go_region
            all_goals
              go_wp2_with (go_at_call 124; refine (sift_any B g n cap 0 0 a (Sort.swp dk a (a + 0)) w0 _ (HK.out.swpN (by omega) (by omega) HX.out HX.out _) (by omega) (by omega) hn).mono ?_; rintro e w' ⟨rfl, hS⟩)
              go_roundw
              case rel => exact ⟨0, _, _, by omega, rfl, by go_num, Lib.hid hS, Lib.hid (by rw [← HE.out, heapP_go])⟩
              case measure => simp [intOf] <;> omega
          · have hne : a + q ≠ a := by omega
            go_wp2
            go_region
            all_goals
              go_wp2_with (go_at_call 124; refine (sift_any B g n cap 0 q a (Sort.swp dk a (a + q)) w0 _ (HK.out.swpN (by omega) (by omega) HX.out HY.out _) (by omega) (by omega) hn).mono ?_; rintro e w' ⟨rfl, hS⟩)
              go_roundw
              case rel => exact ⟨q, _, _, by omega, rfl, by go_num, Lib.hid hS, Lib.hid (by rw [← HE.out, heapP_go])⟩
              case measure => simp [intOf] <;> omega
    · obtain ⟨q, rfl⟩ : ∃ q, k = q + 1 := ⟨k - 1, by omega⟩
      obtain rfl : z = (q : Int) := by omega
      clear hz
      go_wp2_with (go_at_call 124; refine (sift_any B g n cap q l a dk w0 _ HK.out (by omega) (by omega) hn).mono ?_; rintro e w' ⟨rfl, hS⟩)
      go_roundw
      case rel => exact ⟨q, _, _, by omega, rfl, by go_num, Lib.hid hS, Lib.hid (by rw [← HE.out, heapB_go])⟩
      case measure => simp [intOf] <;> omega
end Go.Proofs.Ytjfnhjmdgfkgnaa


/- What a partition keeps: plain facts. -/
namespace Go.Proofs.Kit
/-- While a part is parted: P holds of all ahead of i, of none behind j; what parts stands first. -/
structure PT (P : Int → Prop) (a b : Nat) (p : Int) (d0 : Array Int) (i j : Nat) (d : Array Int) : Prop where
  perm : Sort.PermIn a b d0 d
  pa : d[a]! = p
  lo : ∀ t, a < t → t < i → P d[t]!
  hi : ∀ t, j < t → t < b → ¬ P d[t]!
  ai : a + 1 ≤ i
  ib : i ≤ b
  aj : a ≤ j
  jb : j < b
  sz : b ≤ d0.size
def PLt (p x : Int) : Prop := x < p
def PNg (p x : Int) : Prop := ¬ p < x
section
variable {P : Int → Prop} {a b i j : Nat} {p : Int} {d0 d : Array Int}
theorem PT.size (h : PT P a b p d0 i j d) : b ≤ d.size := by rw [h.perm.1]; exact h.sz
theorem PT.start {pv : Nat} (ha : a ≤ pv) (hb : pv < b) (hs : b ≤ d0.size) : PT P a b d0[pv]! d0 (a + 1) (b - 1) (Sort.swp d0 a pv) :=
  ⟨Sort.swp_permIn _ _ _ _ _ (Nat.le_refl _) (by omega) ha hb hs, by
    by_cases e : a = pv
    · subst e; exact Sort.swp_right _ _ _ (by omega)
    · exact Sort.swp_left _ _ _ (by omega) e, fun t h1 h2 => by omega, fun t h1 h2 => by omega, Nat.le_refl _, by omega, by omega, by omega, hs⟩
theorem PT.up (h : PT P a b p d0 i j d) (hij : i ≤ j) (hl : P d[i]!) : PT P a b p d0 (i + 1) j d :=
  ⟨h.perm, h.pa, fun t h1 h2 => by
    by_cases e : t = i
    · subst e; exact hl
    · exact h.lo t h1 (by omega), h.hi, by have := h.ai; omega, by have := h.jb; omega, h.aj, h.jb, h.sz⟩
theorem PT.down (h : PT P a b p d0 i j d) (hij : i ≤ j) (hl : ¬ P d[j]!) : PT P a b p d0 i (j - 1) d :=
  ⟨h.perm, h.pa, h.lo, fun t h1 h2 => by
    by_cases e : t = j
    · subst e; exact hl
    · exact h.hi t (by omega) h2, h.ai, h.ib, by have := h.ai; omega, by have := h.jb; omega, h.sz⟩
theorem PT.swap (h : PT P a b p d0 i j d) (hij : i < j) (h1 : ¬ P d[i]!) (h2 : P d[j]!) : PT P a b p d0 (i + 1) (j - 1) (Sort.swp d i j) := by
  have hs := h.size
  have hai := h.ai
  have hjb := h.jb
  refine ⟨Sort.permIn_trans _ _ _ _ _ h.perm (Sort.swp_permIn _ _ _ _ _ (by omega) (by omega) (by omega) (by omega) hs), ?_, ?_, ?_, by omega, by omega, by omega, by omega, h.sz⟩
  · rw [Sort.swp_other _ _ _ _ (by omega) (by omega)]; exact h.pa
  · intro t h3 h4
    by_cases e : t = i
    · subst e; rw [Sort.swp_left _ _ _ (by omega) (by omega)]; exact h2
    · rw [Sort.swp_other _ _ _ _ e (by omega)]; exact h.lo t h3 (by omega)
  · intro t h3 h4
    by_cases e : t = j
    · subst e; rw [Sort.swp_right _ _ _ (by omega)]; exact h1
    · rw [Sort.swp_other _ _ _ _ (by omega) e]; exact h.hi t (by omega) h4
/-- What parts is laid between. -/
theorem PT.exit (h : PT P a b p d0 i j d) (hij : j < i) : Sort.PermIn a b d0 (Sort.swp d j a) ∧ (Sort.swp d j a)[j]! = p ∧ (∀ t, a ≤ t → t < j → P (Sort.swp d j a)[t]!) ∧ ∀ t, j < t → t < b → ¬ P (Sort.swp d j a)[t]! := by
  have hs := h.size
  have hai := h.ai
  have hjb := h.jb
  have haj := h.aj
  refine ⟨Sort.permIn_trans _ _ _ _ _ h.perm (Sort.swp_permIn _ _ _ _ _ haj hjb (Nat.le_refl _) (by omega) hs), ?_, ?_, ?_⟩
  · by_cases e : j = a
    · subst e; rw [Sort.swp_right _ _ _ (by omega)]; exact h.pa
    · rw [Sort.swp_left _ _ _ (by omega) e]; exact h.pa
  · intro t h3 h4
    by_cases e : t = a
    · subst e; rw [Sort.swp_right _ _ _ (by omega)]; exact h.lo j (by omega) hij
    · rw [Sort.swp_other _ _ _ _ (by omega) e]; exact h.lo t (by omega) (by omega)
  · intro t h3 h4
    rw [Sort.swp_other _ _ _ _ (by omega) (by omega)]; exact h.hi t h3 h4
end
end Go.Proofs.Kit


/- Parting a part in equal and greater. -/
namespace Go.Proofs.Ytjfnhjmdgfkgnaa
open Go.RowKit Go.Proofs.Kit
/-- What parting in equal and greater comes to. -/
def PeP (B g n cap a b : Nat) (p : Int) (d0 : Array Int) (w0 : World) (e : Ending) (w' : World) : Prop :=
  ∃ (m : Nat) (d : Array Int), e = .returned (.int .i64 (m : Int)) ∧ a < m ∧ m ≤ b ∧ Sort.PermIn a b d0 d ∧ (∀ t, a ≤ t → t < m → ¬ p < d[t]!) ∧ (∀ t, m ≤ t → t < b → p < d[t]!) ∧ SRt B g n cap w0 d w'
set_option maxRecDepth 100000 in
set_option maxHeartbeats 8000000 in
theorem partEq_any (B g n cap a b pv : Nat) (d0 : Array Int) (w0 w : World) (h : SRt B g n cap w0 d0 w) (ha : a ≤ pv) (hpb : pv < b) (hb : b ≤ n) (hn : n ≤ 1000000) :
    Calls Try.prog 109 #[.slice (some ⟨g, 0, none⟩) n cap, .int .i64 a, .int .i64 b, .int .i64 pv] w (PeP B g n cap a b d0[pv]! d0 w0) := by
  have HK := Lib.hid h
  have hsz : b ≤ d0.size := by rw [h.len]; exact hb
  have hp0 := PT.start (P := PNg d0[pv]!) ha hpb hsz
  obtain ⟨p, hp⟩ : ∃ p, p = d0[pv]! := ⟨_, rfl⟩
  rw [← hp] at hp0 ⊢
  have HP0 := Lib.hid hp0
  clear h hp0 hp
  go_enter Try.func109, Try.ntmps109
  go_upto_region 1 with fail
  go_cut [8] from 11 to 24 (fun s wx => s = .int .i64 0 ∧ Hid (SRt B g n cap w0 (Sort.swp d0 a pv) wx))
  case first =>
    have hg := HK.out.lt
    have d1 := HK.out.cell (i := a) (by omega)
    have d2 := HK.out.cell (i := pv) (by omega)
    have f1 := HK.out.frozen (i := a) (by omega)
    have f2 := HK.out.frozen (i := pv) (by omega)
    obtain ⟨x, hx⟩ : ∃ x, x = d0[a]! := ⟨_, rfl⟩
    obtain ⟨y, hy⟩ : ∃ y, y = d0[pv]! := ⟨_, rfl⟩
    rw [← hx] at d1
    rw [← hy] at d2
    have HX := Lib.hid hx
    have HY := Lib.hid hy
    clear hx hy
    by_cases e : pv = a
    · subst e
      clear d1 f1
      go_wp2
      go_region
      all_goals
        go_wp2
        go_meet
        exact ⟨rfl, Lib.hid (HK.out.swpN (by omega) (by omega) HY.out HY.out _)⟩
    · have hne : a ≠ pv := fun h => e h.symm
      go_wp2
      go_region
      all_goals
        go_wp2
        go_meet
        exact ⟨rfl, Lib.hid (HK.out.swpN (by omega) (by omega) HX.out HY.out _)⟩
  case rest =>
    obtain ⟨rfl, HK1⟩ := hcut
    have hb1 : (1 : Int) ≤ (b : Int) := by omega
    have hbb : (b : Int) - 1 = ((b - 1 : Nat) : Int) := by omega
    go_wp2
    go_loopw [9, 10] (fun s v wr => ∃ (i j : Nat) (d : Array Int), s = .int .i64 (i : Int) ∧ v = .int .i64 (j : Int) ∧ Hid (PT (PNg p) a b p d0 i j d) ∧ Hid (SRt B g n cap w0 d wr)) (fun s v _ => (intOf v + 1 - intOf s).toNat)
    case atStart => exact ⟨a + 1, b - 1, _, by go_num, by first | rfl | rw [hbb], HP0, HK1⟩
    case round =>
      obtain ⟨i1, j1, d, rfl, rfl, HP, HK2⟩ := hrel
      clear HK HK1 HP0
      have HK := HK2
      clear HK2 hbb
      have hjb := HP.out.jb
      have hai := HP.out.ai
      have hib := HP.out.ib
      go_upto_block 2 with fail
      go_cut [9] from 29 to 45 (fun s wx => ∃ i : Nat, s = .int .i64 (i : Int) ∧ i1 ≤ i ∧ Hid (PT (PNg p) a b p d0 i j1 d) ∧ Hid (SRt B g n cap w0 d wx) ∧ Hid (j1 < i ∨ ¬ (PNg p) d[i]!))
      case first =>
        go_wp2
        go_loopw [9] (fun s wr => ∃ i : Nat, s = .int .i64 (i : Int) ∧ i1 ≤ i ∧ i ≤ b ∧ a + 1 ≤ i ∧ Hid (PT (PNg p) a b p d0 i j1 d) ∧ Hid (SRt B g n cap w0 d wr)) (fun s _ => b - (intOf s).toNat)
        case atStart => exact ⟨_, rfl, by omega, HP.out.ib, HP.out.ai, HP, HK⟩
        case round =>
          obtain ⟨i, rfl, hlo, hib, hai, HP, HK⟩ := hrel
          by_cases hij : i ≤ j1
          · have hij1 : decide ((i : Int) ≤ (j1 : Int)) = true := by rw [decide_eq_true_eq]; omega
            have hij2 : decide (i ≤ j1) = true := by rw [decide_eq_true_eq]; omega
            have dx := HK.out.cell (i := i) (by omega)
            have dp := HK.out.cell (i := a) (by omega)
            rw [HP.out.pa] at dp
            obtain ⟨x, hx⟩ : ∃ x, x = d[i]! := ⟨_, rfl⟩
            rw [← hx] at dx
            have HX := Lib.hid hx
            clear hx
            by_cases hl : p < x
            · have hd : decide (p < x) = true := by rw [decide_eq_true_eq]; exact hl
              have HL := Lib.hid hl
              go_wp2
              go_quiet (first | (go_at_call 108; refine Calls.quiet_of_same (less_any _ _ _)) | (go_at_call 108; refine less_from _ _))
              go_wp2
              go_meet
              exact ⟨i, rfl, hlo, HP, Lib.hid (HK.out.drewN _), Lib.hid (.inr (by rw [← HX.out]; exact (fun h => h HL.out)))⟩
            · have hd : decide (p < x) = false := by rw [decide_eq_false_iff_not]; exact hl
              have HL := Lib.hid hl
              go_wp2
              go_quiet (first | (go_at_call 108; refine Calls.quiet_of_same (less_any _ _ _)) | (go_at_call 108; refine less_from _ _))
              go_wp2
              go_roundw
              case rel => exact ⟨i + 1, by go_num, by omega, by omega, by omega, Lib.hid (HP.out.up hij (by rw [← HX.out]; exact (fun h => by have h2 := HL.out; have h3 : p < x := h; omega))), Lib.hid (HK.out.drewN _)⟩
              case measure => simp [intOf]; omega
          · have hij1 : decide ((i : Int) ≤ (j1 : Int)) = false := by rw [decide_eq_false_iff_not]; omega
            have hij2 : decide (i ≤ j1) = false := by rw [decide_eq_false_iff_not]; omega
            go_wp2
            go_quiet (first | (go_at_call 108; refine Calls.quiet_of_same (less_any _ _ _)) | (go_at_call 108; refine less_from _ _))
            go_wp2
            go_meet
            exact ⟨i, rfl, hlo, HP, Lib.hid (HK.out.drewN _), Lib.hid (.inl (by omega))⟩
      case rest =>
        obtain ⟨i2, rfl, hlo, HP2, HK2, HU⟩ := hcut
        clear HP HK hai hib
        have HP := HP2
        have HK := HK2
        clear HP2 HK2
        have hai := HP.out.ai
        have hib := HP.out.ib
        go_upto_block 4 with fail
        go_cut [10] from 46 to 61 (fun s wx => ∃ j : Nat, s = .int .i64 (j : Int) ∧ j ≤ j1 ∧ Hid (PT (PNg p) a b p d0 i2 j d) ∧ Hid (SRt B g n cap w0 d wx) ∧ Hid (j < i2 ∨ (¬ (PNg p) d[i2]! ∧ (PNg p) d[j]!)))
        case first =>
          go_wp2
          go_loopw [10] (fun s wr => ∃ j : Nat, s = .int .i64 (j : Int) ∧ j ≤ j1 ∧ j < b ∧ a + 1 ≤ i2 ∧ Hid (PT (PNg p) a b p d0 i2 j d) ∧ Hid (SRt B g n cap w0 d wr) ∧ Hid (j < i2 ∨ ¬ (PNg p) d[i2]!)) (fun s _ => (intOf s).toNat)
          case atStart => exact ⟨_, rfl, by omega, HP.out.jb, HP.out.ai, HP, HK, HU⟩
          case round =>
            obtain ⟨j, rfl, hhi, hjb, hai, HP, HK, HU⟩ := hrel
            by_cases hij : i2 ≤ j
            · have hij1 : decide ((i2 : Int) ≤ (j : Int)) = true := by rw [decide_eq_true_eq]; omega
              have hij2 : decide (i2 ≤ j) = true := by rw [decide_eq_true_eq]; omega
              have dx := HK.out.cell (i := j) (by omega)
              have dp := HK.out.cell (i := a) (by omega)
              rw [HP.out.pa] at dp
              obtain ⟨x, hx⟩ : ∃ x, x = d[j]! := ⟨_, rfl⟩
              rw [← hx] at dx
              have HX := Lib.hid hx
              clear hx
              by_cases hl : p < x
              · have hd : decide (p < x) = true := by rw [decide_eq_true_eq]; exact hl
                have HL := Lib.hid hl
                go_wp2
                go_quiet (first | (go_at_call 108; refine Calls.quiet_of_same (less_any _ _ _)) | (go_at_call 108; refine less_from _ _))
                go_wp2
                go_roundw
                case rel => exact ⟨j - 1, by go_num, by omega, by omega, by omega, Lib.hid (HP.out.down hij (by rw [← HX.out]; exact (fun h => h HL.out))), Lib.hid (HK.out.drewN _), Lib.hid (HU.out.imp (fun h => by omega) id)⟩
                case measure => simp [intOf]; omega
              · have hd : decide (p < x) = false := by rw [decide_eq_false_iff_not]; exact hl
                have HL := Lib.hid hl
                go_wp2
                go_quiet (first | (go_at_call 108; refine Calls.quiet_of_same (less_any _ _ _)) | (go_at_call 108; refine less_from _ _))
                go_wp2
                go_meet
                exact ⟨j, rfl, hhi, HP, Lib.hid (HK.out.drewN _), Lib.hid (.inr ⟨HU.out.resolve_left (by omega), by rw [← HX.out]; exact (fun h => by have h2 := HL.out; have h3 : p < x := h; omega)⟩)⟩
            · have hij1 : decide ((i2 : Int) ≤ (j : Int)) = false := by rw [decide_eq_false_iff_not]; omega
              have hij2 : decide (i2 ≤ j) = false := by rw [decide_eq_false_iff_not]; omega
              go_wp2
              go_quiet (first | (go_at_call 108; refine Calls.quiet_of_same (less_any _ _ _)) | (go_at_call 108; refine less_from _ _))
              go_wp2
              go_meet
              exact ⟨j, rfl, hhi, HP, Lib.hid (HK.out.drewN _), Lib.hid (.inl (by omega))⟩
        case rest =>
          obtain ⟨j2, rfl, hhi, HP2, HK2, HU2⟩ := hcut
          clear HP HK hai hib hjb HU
          have HP := HP2
          have HK := HK2
          clear HP2 HK2
          have hai := HP.out.ai
          have hib := HP.out.ib
          have hjb := HP.out.jb
          have haj := HP.out.aj
          by_cases hij : j2 < i2
          · have hij1 : decide ((j2 : Int) < (i2 : Int)) = true := by rw [decide_eq_true_eq]; omega
            have hr : a < i2 ∧ i2 ≤ b ∧ Sort.PermIn a b d0 d ∧ (∀ t, a ≤ t → t < i2 → ¬ p < d[t]!) ∧ (∀ t, i2 ≤ t → t < b → p < d[t]!) :=
              ⟨by omega, by omega, HP.out.perm, fun t h1 h2 => by
                by_cases e : t = a
                · subst e; rw [HP.out.pa]; omega
                · exact HP.out.lo t (by omega) h2, fun t h1 h2 => Classical.byContradiction fun h3 => HP.out.hi t (by omega) h2 h3⟩
            have HR := Lib.hid hr
            clear hr
            go_wp2
            exact bodyPost_ret (v := .int .i64 (i2 : Int)) (by simp [results, Try.results109, go_sem]) rfl ⟨i2, d, rfl, HR.out.1, HR.out.2.1, HR.out.2.2.1, fun t h1 h2 => by have := HR.out.2.2.2.1 t h1 h2; omega, HR.out.2.2.2.2, HK.out⟩
          · have hij1 : decide ((j2 : Int) < (i2 : Int)) = false := by rw [decide_eq_false_iff_not]; omega
            have hu := HU2.out.resolve_left hij
            have hne : i2 ≠ j2 := by rintro rfl; exact hu.1 hu.2
            have hg := HK.out.lt
            have d1 := HK.out.cell (i := i2) (by omega)
            have d2 := HK.out.cell (i := j2) (by omega)
            have f1 := HK.out.frozen (i := i2) (by omega)
            have f2 := HK.out.frozen (i := j2) (by omega)
            obtain ⟨x, hx⟩ : ∃ x, x = d[i2]! := ⟨_, rfl⟩
            obtain ⟨y, hy⟩ : ∃ y, y = d[j2]! := ⟨_, rfl⟩
            rw [← hx] at d1
            rw [← hy] at d2
            have HX := Lib.hid hx
            have HY := Lib.hid hy
            have HPS := Lib.hid (HP.out.swap (by omega) hu.1 hu.2)
            have hjj : (j2 : Int) - 1 = ((j2 - 1 : Nat) : Int) := by omega
            clear hx hy hu
            go_wp2
            go_region
            all_goals
              go_wp2
              go_roundw
              case rel => exact ⟨i2 + 1, j2 - 1, _, by go_num, by first | rfl | rw [hjj], HPS, Lib.hid (HK.out.swpN (by omega) (by omega) HX.out HY.out _)⟩
              case measure => simp [intOf]; omega
end Go.Proofs.Ytjfnhjmdgfkgnaa


/- Parting a part in less and not less. -/
namespace Go.Proofs.Ytjfnhjmdgfkgnaa
open Go.RowKit Go.Proofs.Kit
/-- What parting comes to. -/
def PaP (B g n cap a b : Nat) (p : Int) (d0 : Array Int) (w0 : World) (e : Ending) (w' : World) : Prop :=
  ∃ (m : Nat) (ok : Bool) (d : Array Int), e = .returned (.tuple #[.int .i64 (m : Int), .bool ok]) ∧ a ≤ m ∧ m < b ∧ Sort.PermIn a b d0 d ∧ d[m]! = p ∧ (∀ t, a ≤ t → t < m → PLt p d[t]!) ∧ (∀ t, m < t → t < b → ¬ PLt p d[t]!) ∧ Hid (SRt B g n cap w0 d w')
set_option maxRecDepth 100000 in
set_option maxHeartbeats 16000000 in
theorem spart_any (B g n cap a b pv : Nat) (d0 : Array Int) (w0 w : World) (h : SRt B g n cap w0 d0 w) (ha : a ≤ pv) (hpb : pv < b) (hb : b ≤ n) (hn : n ≤ 1000000) :
    Calls Try.prog 110 #[.slice (some ⟨g, 0, none⟩) n cap, .int .i64 a, .int .i64 b, .int .i64 pv] w (PaP B g n cap a b d0[pv]! d0 w0) := by
  have HK := Lib.hid h
  have hsz : b ≤ d0.size := by rw [h.len]; exact hb
  have hp0 := PT.start (P := PLt d0[pv]!) ha hpb hsz
  obtain ⟨p, hp⟩ : ∃ p, p = d0[pv]! := ⟨_, rfl⟩
  rw [← hp] at hp0 ⊢
  have HP0 := Lib.hid hp0
  clear h hp0 hp
  go_enter Try.func110, Try.ntmps110
  go_upto_region 1 with fail
  go_cut [8] from 12 to 25 (fun s wx => s = .int .i64 0 ∧ Hid (SRt B g n cap w0 (Sort.swp d0 a pv) wx))
  case first =>
    have hg := HK.out.lt
    have d1 := HK.out.cell (i := a) (by omega)
    have d2 := HK.out.cell (i := pv) (by omega)
    have f1 := HK.out.frozen (i := a) (by omega)
    have f2 := HK.out.frozen (i := pv) (by omega)
    obtain ⟨x, hx⟩ : ∃ x, x = d0[a]! := ⟨_, rfl⟩
    obtain ⟨y, hy⟩ : ∃ y, y = d0[pv]! := ⟨_, rfl⟩
    rw [← hx] at d1
    rw [← hy] at d2
    have HX := Lib.hid hx
    have HY := Lib.hid hy
    clear hx hy
    by_cases e : pv = a
    · subst e
      clear d1 f1
      go_wp2
      go_region
      all_goals
        go_wp2
        go_meet
        exact ⟨rfl, Lib.hid (HK.out.swpN (by omega) (by omega) HY.out HY.out _)⟩
    · have hne : a ≠ pv := fun h => e h.symm
      go_wp2
      go_region
      all_goals
        go_wp2
        go_meet
        exact ⟨rfl, Lib.hid (HK.out.swpN (by omega) (by omega) HX.out HY.out _)⟩
  case rest =>
    obtain ⟨rfl, HK1⟩ := hcut
    have hb1 : (1 : Int) ≤ (b : Int) := by omega
    have hbb : (b : Int) - 1 = ((b - 1 : Nat) : Int) := by omega
    obtain ⟨d, hd⟩ : ∃ d, d = Sort.swp d0 a pv := ⟨_, rfl⟩
    rw [← hd] at HK1 HP0
    clear hd HK
    have HK := HK1
    have HP := HP0
    clear HK1 HP0
    obtain ⟨j1, hj1⟩ : ∃ j1, j1 = b - 1 := ⟨_, rfl⟩
    obtain ⟨i1, hi1⟩ : ∃ i1, i1 = a + 1 := ⟨_, rfl⟩
    rw [← hj1, ← hi1] at HP
    rw [← hj1] at hbb
    have hii : (a : Int) + 1 = (i1 : Int) := by omega
    have hjb := HP.out.jb
    have hai := HP.out.ai
    have hib := HP.out.ib
    clear hj1 hi1
    go_upto_block 0 with fail
    go_cut [10] from 30 to 45 (fun s wx => ∃ i : Nat, s = .int .i64 (i : Int) ∧ i1 ≤ i ∧ Hid (PT (PLt p) a b p d0 i j1 d) ∧ Hid (SRt B g n cap w0 d wx) ∧ Hid (j1 < i ∨ ¬ (PLt p) d[i]!))
    case first =>
      go_wp2
      go_loopw [10] (fun s wr => ∃ i : Nat, s = .int .i64 (i : Int) ∧ i1 ≤ i ∧ i ≤ b ∧ a + 1 ≤ i ∧ Hid (PT (PLt p) a b p d0 i j1 d) ∧ Hid (SRt B g n cap w0 d wr)) (fun s _ => b - (intOf s).toNat)
      case atStart => exact ⟨_, rfl, by omega, HP.out.ib, HP.out.ai, HP, HK⟩
      case round =>
        obtain ⟨i, rfl, hlo, hib, hai, HP, HK⟩ := hrel
        by_cases hij : i ≤ j1
        · have hij1 : decide ((i : Int) ≤ (j1 : Int)) = true := by rw [decide_eq_true_eq]; omega
          have hij2 : decide (i ≤ j1) = true := by rw [decide_eq_true_eq]; omega
          have dx := HK.out.cell (i := i) (by omega)
          have dp := HK.out.cell (i := a) (by omega)
          rw [HP.out.pa] at dp
          obtain ⟨x, hx⟩ : ∃ x, x = d[i]! := ⟨_, rfl⟩
          rw [← hx] at dx
          have HX := Lib.hid hx
          clear hx
          by_cases hl : x < p
          · have hd : decide (x < p) = true := by rw [decide_eq_true_eq]; exact hl
            have HL := Lib.hid hl
            go_wp2
            go_quiet (first | (go_at_call 108; refine Calls.quiet_of_same (less_any _ _ _)) | (go_at_call 108; refine less_from _ _))
            go_wp2
            go_roundw
            case rel => exact ⟨i + 1, by go_num, by omega, by omega, by omega, Lib.hid (HP.out.up hij (by rw [← HX.out]; exact HL.out)), Lib.hid (HK.out.drewN _)⟩
            case measure => simp [intOf]; omega
          · have hd : decide (x < p) = false := by rw [decide_eq_false_iff_not]; exact hl
            have HL := Lib.hid hl
            go_wp2
            go_quiet (first | (go_at_call 108; refine Calls.quiet_of_same (less_any _ _ _)) | (go_at_call 108; refine less_from _ _))
            go_wp2
            go_meet
            exact ⟨i, rfl, hlo, HP, Lib.hid (HK.out.drewN _), Lib.hid (.inr (by rw [← HX.out]; exact (fun h => by have h2 := HL.out; have h3 : x < p := h; omega)))⟩
        · have hij1 : decide ((i : Int) ≤ (j1 : Int)) = false := by rw [decide_eq_false_iff_not]; omega
          have hij2 : decide (i ≤ j1) = false := by rw [decide_eq_false_iff_not]; omega
          go_wp2
          go_quiet (first | (go_at_call 108; refine Calls.quiet_of_same (less_any _ _ _)) | (go_at_call 108; refine less_from _ _))
          go_wp2
          go_meet
          exact ⟨i, rfl, hlo, HP, Lib.hid (HK.out.drewN _), Lib.hid (.inl (by omega))⟩
    case rest =>
      obtain ⟨i2, rfl, hlo, HP2, HK2, HU⟩ := hcut
      clear HP HK hai hib
      have HP := HP2
      have HK := HK2
      clear HP2 HK2
      have hai := HP.out.ai
      have hib := HP.out.ib
      go_upto_block 2 with fail
      go_cut [11] from 46 to 62 (fun s wx => ∃ j : Nat, s = .int .i64 (j : Int) ∧ j ≤ j1 ∧ Hid (PT (PLt p) a b p d0 i2 j d) ∧ Hid (SRt B g n cap w0 d wx) ∧ Hid (j < i2 ∨ (¬ (PLt p) d[i2]! ∧ (PLt p) d[j]!)))
      case first =>
        go_wp2
        go_loopw [11] (fun s wr => ∃ j : Nat, s = .int .i64 (j : Int) ∧ j ≤ j1 ∧ j < b ∧ a + 1 ≤ i2 ∧ Hid (PT (PLt p) a b p d0 i2 j d) ∧ Hid (SRt B g n cap w0 d wr) ∧ Hid (j < i2 ∨ ¬ (PLt p) d[i2]!)) (fun s _ => (intOf s).toNat)
        case atStart => exact ⟨_, rfl, by omega, HP.out.jb, HP.out.ai, HP, HK, HU⟩
        case round =>
          obtain ⟨j, rfl, hhi, hjb, hai, HP, HK, HU⟩ := hrel
          by_cases hij : i2 ≤ j
          · have hij1 : decide ((i2 : Int) ≤ (j : Int)) = true := by rw [decide_eq_true_eq]; omega
            have hij2 : decide (i2 ≤ j) = true := by rw [decide_eq_true_eq]; omega
            have dx := HK.out.cell (i := j) (by omega)
            have dp := HK.out.cell (i := a) (by omega)
            rw [HP.out.pa] at dp
            obtain ⟨x, hx⟩ : ∃ x, x = d[j]! := ⟨_, rfl⟩
            rw [← hx] at dx
            have HX := Lib.hid hx
            clear hx
            by_cases hl : x < p
            · have hd : decide (x < p) = true := by rw [decide_eq_true_eq]; exact hl
              have HL := Lib.hid hl
              go_wp2
              go_quiet (first | (go_at_call 108; refine Calls.quiet_of_same (less_any _ _ _)) | (go_at_call 108; refine less_from _ _))
              go_wp2
              go_meet
              exact ⟨j, rfl, hhi, HP, Lib.hid (HK.out.drewN _), Lib.hid (.inr ⟨HU.out.resolve_left (by omega), by rw [← HX.out]; exact HL.out⟩)⟩
            · have hd : decide (x < p) = false := by rw [decide_eq_false_iff_not]; exact hl
              have HL := Lib.hid hl
              go_wp2
              go_quiet (first | (go_at_call 108; refine Calls.quiet_of_same (less_any _ _ _)) | (go_at_call 108; refine less_from _ _))
              go_wp2
              go_roundw
              case rel => exact ⟨j - 1, by go_num, by omega, by omega, by omega, Lib.hid (HP.out.down hij (by rw [← HX.out]; exact (fun h => by have h2 := HL.out; have h3 : x < p := h; omega))), Lib.hid (HK.out.drewN _), Lib.hid (HU.out.imp (fun h => by omega) id)⟩
              case measure => simp [intOf]; omega
          · have hij1 : decide ((i2 : Int) ≤ (j : Int)) = false := by rw [decide_eq_false_iff_not]; omega
            have hij2 : decide (i2 ≤ j) = false := by rw [decide_eq_false_iff_not]; omega
            go_wp2
            go_quiet (first | (go_at_call 108; refine Calls.quiet_of_same (less_any _ _ _)) | (go_at_call 108; refine less_from _ _))
            go_wp2
            go_meet
            exact ⟨j, rfl, hhi, HP, Lib.hid (HK.out.drewN _), Lib.hid (.inl (by omega))⟩
      case rest =>
        obtain ⟨j2, rfl, hhi, HP2, HK2, HU2⟩ := hcut
        clear HP HK hai hib hjb HU
        have HP := HP2
        have HK := HK2
        clear HP2 HK2 hii hbb
        have hai := HP.out.ai
        have hib := HP.out.ib
        have hjb := HP.out.jb
        have haj := HP.out.aj
        by_cases hij : j2 < i2
        · have hij1 : decide ((j2 : Int) < (i2 : Int)) = true := by rw [decide_eq_true_eq]; omega
          have HR := Lib.hid (HP.out.exit (by omega : j2 < i2))
          have hg := HK.out.lt
          have d1 := HK.out.cell (i := j2) (by omega)
          have d2 := HK.out.cell (i := a) (by omega)
          have f1 := HK.out.frozen (i := j2) (by omega)
          have f2 := HK.out.frozen (i := a) (by omega)
          obtain ⟨x, hx⟩ : ∃ x, x = d[j2]! := ⟨_, rfl⟩
          obtain ⟨y, hy⟩ : ∃ y, y = d[a]! := ⟨_, rfl⟩
          rw [← hx] at d1
          rw [← hy] at d2
          have HX := Lib.hid hx
          have HY := Lib.hid hy
          clear hx hy
          by_cases e : j2 = a
          · subst e
            clear d2 f2
            go_wp2
            go_region
            all_goals
              go_wp2
              exact bodyPost_ret (v := .tuple #[.int .i64 (j2 : Int), .bool true]) (by simp [results, Try.results110, go_sem]) rfl ⟨j2, true, _, rfl, by omega, by omega, HR.out.1, HR.out.2.1, HR.out.2.2.1, HR.out.2.2.2, Lib.hid (HK.out.swpN (by omega) (by omega) HX.out HX.out _)⟩
          · go_wp2
            go_region
            all_goals
              go_wp2
              exact bodyPost_ret (v := .tuple #[.int .i64 (j2 : Int), .bool true]) (by simp [results, Try.results110, go_sem]) rfl ⟨j2, true, _, rfl, by omega, by omega, HR.out.1, HR.out.2.1, HR.out.2.2.1, HR.out.2.2.2, Lib.hid (HK.out.swpN (by omega) (by omega) HX.out HY.out _)⟩
        · have hij1 : decide ((j2 : Int) < (i2 : Int)) = false := by rw [decide_eq_false_iff_not]; omega
          have hu := HU2.out.resolve_left hij
          have hne : i2 ≠ j2 := by rintro rfl; exact hu.1 hu.2
          have hg := HK.out.lt
          have d1 := HK.out.cell (i := i2) (by omega)
          have d2 := HK.out.cell (i := j2) (by omega)
          have f1 := HK.out.frozen (i := i2) (by omega)
          have f2 := HK.out.frozen (i := j2) (by omega)
          obtain ⟨x, hx⟩ : ∃ x, x = d[i2]! := ⟨_, rfl⟩
          obtain ⟨y, hy⟩ : ∃ y, y = d[j2]! := ⟨_, rfl⟩
          rw [← hx] at d1
          rw [← hy] at d2
          have HX := Lib.hid hx
          have HY := Lib.hid hy
          have HPS := Lib.hid (HP.out.swap (by omega) hu.1 hu.2)
          have hjj : (j2 : Int) - 1 = ((j2 - 1 : Nat) : Int) := by omega
          clear hx hy hu
          go_wp2
          go_region
          all_goals
            go_wp2
            go_loopw [10, 11] (fun s v wr => ∃ (i j : Nat) (d : Array Int), s = .int .i64 (i : Int) ∧ v = .int .i64 (j : Int) ∧ Hid (PT (PLt p) a b p d0 i j d) ∧ Hid (SRt B g n cap w0 d wr)) (fun s v _ => (intOf v + 1 - intOf s).toNat)
            case atStart => exact ⟨i2 + 1, j2 - 1, _, by go_num, by first | rfl | rw [hjj], HPS, Lib.hid (HK.out.swpN (by omega) (by omega) HX.out HY.out _)⟩
            case round =>
              clear HP HK HPS HX HY d1 d2 f1 f2 hne hij hij1 hai hib hjb haj hlo hhi hjj
              obtain ⟨i1, j1, d, rfl, rfl, HP, HK2⟩ := hrel
              have HK := HK2
              clear HK2
              have hjb := HP.out.jb
              have hai := HP.out.ai
              have hib := HP.out.ib
              go_upto_block 6 with fail
              go_cut [10] from 99 to 114 (fun s wx => ∃ i : Nat, s = .int .i64 (i : Int) ∧ i1 ≤ i ∧ Hid (PT (PLt p) a b p d0 i j1 d) ∧ Hid (SRt B g n cap w0 d wx) ∧ Hid (j1 < i ∨ ¬ (PLt p) d[i]!))
              case first =>
                go_wp2
                go_loopw [10] (fun s wr => ∃ i : Nat, s = .int .i64 (i : Int) ∧ i1 ≤ i ∧ i ≤ b ∧ a + 1 ≤ i ∧ Hid (PT (PLt p) a b p d0 i j1 d) ∧ Hid (SRt B g n cap w0 d wr)) (fun s _ => b - (intOf s).toNat)
                case atStart => exact ⟨_, rfl, by omega, HP.out.ib, HP.out.ai, HP, HK⟩
                case round =>
                  obtain ⟨i, rfl, hlo, hib, hai, HP, HK⟩ := hrel
                  by_cases hij : i ≤ j1
                  · have hij1 : decide ((i : Int) ≤ (j1 : Int)) = true := by rw [decide_eq_true_eq]; omega
                    have hij2 : decide (i ≤ j1) = true := by rw [decide_eq_true_eq]; omega
                    have dx := HK.out.cell (i := i) (by omega)
                    have dp := HK.out.cell (i := a) (by omega)
                    rw [HP.out.pa] at dp
                    obtain ⟨x, hx⟩ : ∃ x, x = d[i]! := ⟨_, rfl⟩
                    rw [← hx] at dx
                    have HX := Lib.hid hx
                    clear hx
                    by_cases hl : x < p
                    · have hd : decide (x < p) = true := by rw [decide_eq_true_eq]; exact hl
                      have HL := Lib.hid hl
                      go_wp2
                      go_quiet (first | (go_at_call 108; refine Calls.quiet_of_same (less_any _ _ _)) | (go_at_call 108; refine less_from _ _))
                      go_wp2
                      go_roundw
                      case rel => exact ⟨i + 1, by go_num, by omega, by omega, by omega, Lib.hid (HP.out.up hij (by rw [← HX.out]; exact HL.out)), Lib.hid (HK.out.drewN _)⟩
                      case measure => simp [intOf]; omega
                    · have hd : decide (x < p) = false := by rw [decide_eq_false_iff_not]; exact hl
                      have HL := Lib.hid hl
                      go_wp2
                      go_quiet (first | (go_at_call 108; refine Calls.quiet_of_same (less_any _ _ _)) | (go_at_call 108; refine less_from _ _))
                      go_wp2
                      go_meet
                      exact ⟨i, rfl, hlo, HP, Lib.hid (HK.out.drewN _), Lib.hid (.inr (by rw [← HX.out]; exact (fun h => by have h2 := HL.out; have h3 : x < p := h; omega)))⟩
                  · have hij1 : decide ((i : Int) ≤ (j1 : Int)) = false := by rw [decide_eq_false_iff_not]; omega
                    have hij2 : decide (i ≤ j1) = false := by rw [decide_eq_false_iff_not]; omega
                    go_wp2
                    go_quiet (first | (go_at_call 108; refine Calls.quiet_of_same (less_any _ _ _)) | (go_at_call 108; refine less_from _ _))
                    go_wp2
                    go_meet
                    exact ⟨i, rfl, hlo, HP, Lib.hid (HK.out.drewN _), Lib.hid (.inl (by omega))⟩
              case rest =>
                obtain ⟨i2, rfl, hlo, HP2, HK2, HU⟩ := hcut
                clear HP HK hai hib
                have HP := HP2
                have HK := HK2
                clear HP2 HK2
                have hai := HP.out.ai
                have hib := HP.out.ib
                go_upto_block 8 with fail
                go_cut [11] from 115 to 131 (fun s wx => ∃ j : Nat, s = .int .i64 (j : Int) ∧ j ≤ j1 ∧ Hid (PT (PLt p) a b p d0 i2 j d) ∧ Hid (SRt B g n cap w0 d wx) ∧ Hid (j < i2 ∨ (¬ (PLt p) d[i2]! ∧ (PLt p) d[j]!)))
                case first =>
                  go_wp2
                  go_loopw [11] (fun s wr => ∃ j : Nat, s = .int .i64 (j : Int) ∧ j ≤ j1 ∧ j < b ∧ a + 1 ≤ i2 ∧ Hid (PT (PLt p) a b p d0 i2 j d) ∧ Hid (SRt B g n cap w0 d wr) ∧ Hid (j < i2 ∨ ¬ (PLt p) d[i2]!)) (fun s _ => (intOf s).toNat)
                  case atStart => exact ⟨_, rfl, by omega, HP.out.jb, HP.out.ai, HP, HK, HU⟩
                  case round =>
                    obtain ⟨j, rfl, hhi, hjb, hai, HP, HK, HU⟩ := hrel
                    by_cases hij : i2 ≤ j
                    · have hij1 : decide ((i2 : Int) ≤ (j : Int)) = true := by rw [decide_eq_true_eq]; omega
                      have hij2 : decide (i2 ≤ j) = true := by rw [decide_eq_true_eq]; omega
                      have dx := HK.out.cell (i := j) (by omega)
                      have dp := HK.out.cell (i := a) (by omega)
                      rw [HP.out.pa] at dp
                      obtain ⟨x, hx⟩ : ∃ x, x = d[j]! := ⟨_, rfl⟩
                      rw [← hx] at dx
                      have HX := Lib.hid hx
                      clear hx
                      by_cases hl : x < p
                      · have hd : decide (x < p) = true := by rw [decide_eq_true_eq]; exact hl
                        have HL := Lib.hid hl
                        go_wp2
                        go_quiet (first | (go_at_call 108; refine Calls.quiet_of_same (less_any _ _ _)) | (go_at_call 108; refine less_from _ _))
                        go_wp2
                        go_meet
                        exact ⟨j, rfl, hhi, HP, Lib.hid (HK.out.drewN _), Lib.hid (.inr ⟨HU.out.resolve_left (by omega), by rw [← HX.out]; exact HL.out⟩)⟩
                      · have hd : decide (x < p) = false := by rw [decide_eq_false_iff_not]; exact hl
                        have HL := Lib.hid hl
                        go_wp2
                        go_quiet (first | (go_at_call 108; refine Calls.quiet_of_same (less_any _ _ _)) | (go_at_call 108; refine less_from _ _))
                        go_wp2
                        go_roundw
                        case rel => exact ⟨j - 1, by go_num, by omega, by omega, by omega, Lib.hid (HP.out.down hij (by rw [← HX.out]; exact (fun h => by have h2 := HL.out; have h3 : x < p := h; omega))), Lib.hid (HK.out.drewN _), Lib.hid (HU.out.imp (fun h => by omega) id)⟩
                        case measure => simp [intOf]; omega
                    · have hij1 : decide ((i2 : Int) ≤ (j : Int)) = false := by rw [decide_eq_false_iff_not]; omega
                      have hij2 : decide (i2 ≤ j) = false := by rw [decide_eq_false_iff_not]; omega
                      go_wp2
                      go_quiet (first | (go_at_call 108; refine Calls.quiet_of_same (less_any _ _ _)) | (go_at_call 108; refine less_from _ _))
                      go_wp2
                      go_meet
                      exact ⟨j, rfl, hhi, HP, Lib.hid (HK.out.drewN _), Lib.hid (.inl (by omega))⟩
                case rest =>
                  obtain ⟨j2, rfl, hhi, HP2, HK2, HU2⟩ := hcut
                  clear HP HK hai hib hjb HU
                  have HP := HP2
                  have HK := HK2
                  clear HP2 HK2
                  have hai := HP.out.ai
                  have hib := HP.out.ib
                  have hjb := HP.out.jb
                  have haj := HP.out.aj
                  by_cases hij : j2 < i2
                  · have hij1 : decide ((j2 : Int) < (i2 : Int)) = true := by rw [decide_eq_true_eq]; omega
                    have HR := Lib.hid (HP.out.exit (by omega : j2 < i2))
                    have hg := HK.out.lt
                    have d1 := HK.out.cell (i := j2) (by omega)
                    have d2 := HK.out.cell (i := a) (by omega)
                    have f1 := HK.out.frozen (i := j2) (by omega)
                    have f2 := HK.out.frozen (i := a) (by omega)
                    obtain ⟨x, hx⟩ : ∃ x, x = d[j2]! := ⟨_, rfl⟩
                    obtain ⟨y, hy⟩ : ∃ y, y = d[a]! := ⟨_, rfl⟩
                    rw [← hx] at d1
                    rw [← hy] at d2
                    have HX := Lib.hid hx
                    have HY := Lib.hid hy
                    clear hx hy
                    by_cases e : j2 = a
                    · subst e
                      clear d2 f2
                      go_wp2
                      go_region
                      all_goals
                        go_wp2
                        exact bodyPost_ret (v := .tuple #[.int .i64 (j2 : Int), .bool false]) (by simp [results, Try.results110, go_sem]) rfl ⟨j2, false, _, rfl, by omega, by omega, HR.out.1, HR.out.2.1, HR.out.2.2.1, HR.out.2.2.2, Lib.hid (HK.out.swpN (by omega) (by omega) HX.out HX.out _)⟩
                    · go_wp2
                      go_region
                      all_goals
                        go_wp2
                        exact bodyPost_ret (v := .tuple #[.int .i64 (j2 : Int), .bool false]) (by simp [results, Try.results110, go_sem]) rfl ⟨j2, false, _, rfl, by omega, by omega, HR.out.1, HR.out.2.1, HR.out.2.2.1, HR.out.2.2.2, Lib.hid (HK.out.swpN (by omega) (by omega) HX.out HY.out _)⟩
                  · have hij1 : decide ((j2 : Int) < (i2 : Int)) = false := by rw [decide_eq_false_iff_not]; omega
                    have hu := HU2.out.resolve_left hij
                    have hne : i2 ≠ j2 := by rintro rfl; exact hu.1 hu.2
                    have hg := HK.out.lt
                    have d1 := HK.out.cell (i := i2) (by omega)
                    have d2 := HK.out.cell (i := j2) (by omega)
                    have f1 := HK.out.frozen (i := i2) (by omega)
                    have f2 := HK.out.frozen (i := j2) (by omega)
                    obtain ⟨x, hx⟩ : ∃ x, x = d[i2]! := ⟨_, rfl⟩
                    obtain ⟨y, hy⟩ : ∃ y, y = d[j2]! := ⟨_, rfl⟩
                    rw [← hx] at d1
                    rw [← hy] at d2
                    have HX := Lib.hid hx
                    have HY := Lib.hid hy
                    have HPS := Lib.hid (HP.out.swap (by omega) hu.1 hu.2)
                    have hjj : (j2 : Int) - 1 = ((j2 - 1 : Nat) : Int) := by omega
                    clear hx hy hu
                    go_wp2
                    go_region
                    all_goals
                      go_wp2
                      go_roundw
                      case rel => exact ⟨i2 + 1, j2 - 1, _, by go_num, by first | rfl | rw [hjj], HPS, Lib.hid (HK.out.swpN (by omega) (by omega) HX.out HY.out _)⟩
                      case measure => simp [intOf]; omega
end Go.Proofs.Ytjfnhjmdgfkgnaa


/- A part that may all but be sorted: the library's few insertions. -/
namespace Go.Proofs.Kit
section
variable {d : Array Int}
theorem SR.swpD {ti : TypeId} {B g n cap : Nat} {w0 w : World} (h : SR ti B g n cap w0 d w) {i j : Nat} (hi : i < n) (hj : j < n) {x y : Int} (hx : x = d[i]!) (hy : y = d[j]!) : SR ti B g n cap w0 (Sort.swp d i j) (((w.setCell ⟨g, i, none⟩ (.int .u64 y)).setCell ⟨g, j, none⟩ (.int .u64 x)).drew) := by
  subst hx hy
  exact (h.swp hi hj).drew
theorem scS_go {b q : Nat} (h : q + 1 < b) (hl : ¬ d[q + 1]! < d[q]!) : Sort.scanSorted ltI d b (q + 1) = Sort.scanSorted ltI d b (q + 1 + 1) := by
  rw [Sort.scanSorted, Nat.add_sub_cancel, ltI_f hl, if_pos (by simpa using h)]
theorem scS_stop {b q : Nat} (h : ¬ q + 1 < b ∨ d[q + 1]! < d[q]!) : Sort.scanSorted ltI d b (q + 1) = q + 1 := by
  rw [Sort.scanSorted, Nat.add_sub_cancel]
  rcases h with h | h
  · rw [if_neg (by simp; omega)]
  · rw [ltI_t h, if_neg (by simp)]
theorem shD_zero : Sort.shiftDown ltI 0 d = d := by rw [Sort.shiftDown]
theorem shD_go {q : Nat} (hl : d[q + 1]! < d[q]!) : Sort.shiftDown ltI (q + 1) d = Sort.shiftDown ltI q (Sort.swp d (q + 1) q) := by rw [Sort.shiftDown, ltI_t hl, if_neg (by simp)]
theorem shD_stop {q : Nat} (hl : ¬ d[q + 1]! < d[q]!) : Sort.shiftDown ltI (q + 1) d = d := by rw [Sort.shiftDown, ltI_f hl, if_pos (by simp)]
theorem shU_go {b q : Nat} (h : q + 1 < b) (hl : d[q + 1]! < d[q]!) : Sort.shiftUp ltI b (q + 1) d = Sort.shiftUp ltI b (q + 1 + 1) (Sort.swp d (q + 1) q) := by rw [Sort.shiftUp, if_pos h, Nat.add_sub_cancel, ltI_t hl, if_neg (by simp)]
theorem shU_stop {b q : Nat} (h : ¬ q + 1 < b ∨ ¬ d[q + 1]! < d[q]!) : Sort.shiftUp ltI b (q + 1) d = d := by
  rw [Sort.shiftUp, Nat.add_sub_cancel]
  split
  · next h0 => rw [ltI_f (h.resolve_left (by omega)), if_pos (by simp)]
  · rfl
/-- What one step makes of a part. -/
def pIs (a i : Nat) (d : Array Int) : Array Int := if i - a ≥ 2 then Sort.shiftDown ltI (i - 1) d else d
def pIu (b i : Nat) (d : Array Int) : Array Int := if b - i ≥ 2 then Sort.shiftUp ltI b (i + 1) d else d
theorem pI_true {a b i r : Nat} (h : Sort.scanSorted ltI d b i = b) : Sort.partialIns ltI a b (r + 1) i d = (d, true) := by rw [Sort.partialIns]; simp only []; rw [if_pos h]
theorem pI_short {a b i r k : Nat} (h : Sort.scanSorted ltI d b i = k) (hk : k ≠ b) (h5 : b - a < 50) : Sort.partialIns ltI a b (r + 1) i d = (d, false) := by rw [Sort.partialIns]; simp only []; rw [if_neg (by omega), if_pos h5]
theorem pI_go {a b i r k : Nat} (h : Sort.scanSorted ltI d b i = k) (hk : k ≠ b) (h5 : ¬ b - a < 50) : Sort.partialIns ltI a b (r + 1) i d = Sort.partialIns ltI a b r k (pIu b k (pIs a k (Sort.swp d k (k - 1)))) := by
  subst h
  rw [Sort.partialIns]; simp only []; rw [if_neg hk, if_neg h5]; rfl
end
end Go.Proofs.Kit
namespace Go.Proofs.Ytjfnhjmdgfkgnaa
open Go.RowKit Go.Proofs.Kit
/-- What the few insertions come to. -/
def PiP (B g n cap a b : Nat) (d0 : Array Int) (w0 : World) (e : Ending) (w' : World) : Prop :=
  ∃ (ok : Bool) (d : Array Int), e = .returned (.bool ok) ∧ Sort.partialInsertionSort ltI d0 a b = (d, ok) ∧ Hid (SRt B g n cap w0 d w')
set_option maxRecDepth 100000 in
set_option maxHeartbeats 16000000 in
theorem pins_any (B g n cap a b : Nat) (d0 : Array Int) (w0 w : World) (h : SRt B g n cap w0 d0 w) (hab : a < b) (hb : b ≤ n) (hn : n ≤ 1000000) :
    Calls Try.prog 107 #[.slice (some ⟨g, 0, none⟩) n cap, .int .i64 a, .int .i64 b] w (PiP B g n cap a b d0 w0) := by
  have HK0 := Lib.hid h
  clear h
  go_enter Try.func107, Try.ntmps107
  go_wp2
  go_loopw [7, 8, 9, 10] (fun v s _ _ wr => ∃ (i j r : Nat) (d : Array Int), v = .int .i64 (i : Int) ∧ s = .int .i64 (j : Int) ∧ j + r = 5 ∧ a + 1 ≤ i ∧ i ≤ b ∧ Hid (SRt B g n cap w0 d wr) ∧ Hid (Sort.partialIns ltI a b r i d = Sort.partialInsertionSort ltI d0 a b)) (fun _ s _ _ _ => 5 - (intOf s).toNat)
  case atStart => exact ⟨a + 1, 0, 5, d0, by go_num, rfl, rfl, Nat.le_refl _, by omega, HK0, Lib.hid rfl⟩
  case round =>
    obtain ⟨i1, j, r, d, rfl, rfl, hjr, hai, hib, HK, HE⟩ := hrel
    clear HK0
    by_cases hj : j < 5
    · have hj' : decide ((j : Int) < 5) = true := by rw [decide_eq_true_eq]; omega
      obtain ⟨r, rfl⟩ : ∃ q, r = q + 1 := ⟨r - 1, by omega⟩
      go_upto_block 2 with fail
      go_cut [7] from 17 to 34 (fun s wx => ∃ i : Nat, s = .int .i64 (i : Int) ∧ i1 ≤ i ∧ i ≤ b ∧ Hid (SRt B g n cap w0 d wx) ∧ Hid (Sort.scanSorted ltI d b i1 = i))
      case first =>
        go_wp2
        go_loopw [7] (fun s wr => ∃ i : Nat, s = .int .i64 (i : Int) ∧ i1 ≤ i ∧ i ≤ b ∧ Hid (SRt B g n cap w0 d wr) ∧ Hid (Sort.scanSorted ltI d b i1 = Sort.scanSorted ltI d b i)) (fun s _ => b - (intOf s).toNat)
        case atStart => exact ⟨i1, rfl, Nat.le_refl _, hib, HK, Lib.hid rfl⟩
        case round =>
          obtain ⟨i, rfl, hi1, hi2, HK, HS⟩ := hrel
          obtain ⟨q, rfl⟩ : ∃ q, i = q + 1 := ⟨i - 1, by omega⟩
          by_cases hib2 : q + 1 < b
          · have hij1 : decide ((q : Int) + 1 < (b : Int)) = true := by rw [decide_eq_true_eq]; omega
            have hij2 : decide (q + 1 < b) = true := by rw [decide_eq_true_eq]; omega
            have dx := HK.out.cell (i := q + 1) (by omega)
            have dy := HK.out.cell (i := q) (by omega)
            obtain ⟨x, hx⟩ : ∃ x, x = d[q + 1]! := ⟨_, rfl⟩
            obtain ⟨y, hy⟩ : ∃ y, y = d[q]! := ⟨_, rfl⟩
            rw [← hx] at dx
            rw [← hy] at dy
            have HX := Lib.hid hx
            have HY := Lib.hid hy
            clear hx hy
            by_cases hl : x < y
            · have hd : decide (x < y) = true := by rw [decide_eq_true_eq]; exact hl
              go_wp2
              go_quiet (first | (go_at_call 108; refine Calls.quiet_of_same (less_any _ _ _)) | (go_at_call 108; refine less_from _ _))
              go_wp2
              go_meet
              exact ⟨q + 1, by go_num, hi1, hi2, Lib.hid (HK.out.drewN _), Lib.hid (by rw [HS.out, scS_stop (.inr (by rw [← HX.out, ← HY.out]; exact hl))])⟩
            · have hd : decide (x < y) = false := by rw [decide_eq_false_iff_not]; exact hl
              go_wp2
              go_quiet (first | (go_at_call 108; refine Calls.quiet_of_same (less_any _ _ _)) | (go_at_call 108; refine less_from _ _))
              go_wp2
              go_roundw
              case rel => exact ⟨q + 1 + 1, by go_num, by omega, by omega, Lib.hid (HK.out.drewN _), Lib.hid (by rw [HS.out, scS_go hib2 (by rw [← HX.out, ← HY.out]; omega)])⟩
              case measure => simp [intOf]; omega
          · have hij1 : decide ((q : Int) + 1 < (b : Int)) = false := by rw [decide_eq_false_iff_not]; omega
            have hij2 : decide (q + 1 < b) = false := by rw [decide_eq_false_iff_not]; omega
            go_wp2
            go_quiet (first | (go_at_call 108; refine Calls.quiet_of_same (less_any _ _ _)) | (go_at_call 108; refine less_from _ _))
            go_wp2
            go_meet
            exact ⟨q + 1, by go_num, hi1, hi2, Lib.hid (HK.out.drewN _), Lib.hid (by rw [HS.out, scS_stop (.inl hib2)])⟩
      case rest =>
        obtain ⟨i, rfl, hi1, hi2, HK2, HS⟩ := hcut
        clear HK
        have HK := HK2
        clear HK2
        by_cases hE : i = b
        · have hE1 : ((i : Int) == (b : Int)) = true := by rw [beq_iff_eq]; omega
          have HR := Lib.hid (pI_true (a := a) (r := r) (HS.out.trans hE))
          clear hE
          go_wp2
          exact bodyPost_ret (v := .bool true) (by simp [results, Try.results107, go_sem]) rfl ⟨true, d, rfl, by rw [← HE.out, HR.out], HK⟩
        · have hE1 : ((i : Int) == (b : Int)) = false := by rw [beq_eq_false_iff_ne]; omega
          have hib' : i < b := by omega
          by_cases h50 : b - a < 50
          · have h51 : decide ((b : Int) - (a : Int) < 50) = true := by rw [decide_eq_true_eq]; omega
            go_wp2
            exact bodyPost_ret (v := .bool false) (by simp [results, Try.results107, go_sem]) rfl ⟨false, d, rfl, by rw [← HE.out, pI_short HS.out hE h50], HK⟩
          · have h51 : decide ((b : Int) - (a : Int) < 50) = false := by rw [decide_eq_false_iff_not]; omega
            obtain ⟨q, hq⟩ : ∃ q, i = q + 1 := ⟨i - 1, by omega⟩
            have hiq : (i : Int) - 1 = (q : Int) := by omega
            clear hq
            have HGO := Lib.hid (pI_go (a := a) (r := r) HS.out hE h50)
            have dx := HK.out.cell (i := i) (by omega)
            have dy := HK.out.cell (i := q) (by omega)
            have fx := HK.out.frozen (i := i) (by omega)
            have fy := HK.out.frozen (i := q) (by omega)
            have hg := HK.out.lt
            obtain ⟨x, hx⟩ : ∃ x, x = d[i]! := ⟨_, rfl⟩
            obtain ⟨y, hy⟩ : ∃ y, y = d[q]! := ⟨_, rfl⟩
            rw [← hx] at dx
            rw [← hy] at dy
            have HX := Lib.hid hx
            have HY := Lib.hid hy
            clear hx hy hE
            go_wp2
            go_region
            all_goals
              have HSW := Lib.hid (HK.out.swpD (i := i) (j := q) (by omega) (by omega) HX.out HY.out)
              obtain ⟨d2, hd2⟩ : ∃ d2, d2 = Sort.swp d i q := ⟨_, rfl⟩
              have hgo2 := HGO.out
              rw [show i - 1 = q by omega, ← hd2] at hgo2
              rw [← hd2] at HSW
              have HGO2 := Lib.hid hgo2
              obtain ⟨W2, hW2⟩ : ∃ W2, W2 = ((wc.setCell ⟨g, i, none⟩ (.int .u64 y)).setCell ⟨g, q, none⟩ (.int .u64 x)).drew := ⟨_, rfl⟩
              rw [← hW2] at HSW ⊢
              clear hgo2 hd2 hW2 HX HY dx dy fx fy hg HK HGO
              go_upto_if 61 with (fail)
              go_cut [9, 61] from 62 to 94 (fun _ _ wx => Hid (SRt B g n cap w0 (pIs a i d2) wx))
              case first =>
                by_cases h2 : i - a ≥ 2
                · have HPS : Hid (pIs a i d2 = Sort.shiftDown ltI q d2) := Lib.hid (by unfold pIs; rw [if_pos h2, show i - 1 = q by omega])
                  have h21 : decide (2 ≤ (i : Int) - (a : Int)) = true := by rw [decide_eq_true_eq]; omega
                  go_wp2
                  go_loopw [9] (fun s wr => ∃ (m : Nat) (dm : Array Int), s = .int .i64 (m : Int) ∧ m ≤ q ∧ Hid (SRt B g n cap w0 dm wr) ∧ Hid (Sort.shiftDown ltI m dm = Sort.shiftDown ltI q d2)) (fun s _ => (intOf s).toNat)
                  case atStart => exact ⟨q, d2, by go_num, Nat.le_refl _, HSW, Lib.hid rfl⟩
                  case round =>
                    obtain ⟨m, dm, rfl, hm, HK, HS⟩ := hrel
                    by_cases hm0 : m = 0
                    · subst hm0
                      go_wp2
                      go_meet
                      exact Lib.hid (by rw [HPS.out, ← HS.out, shD_zero]; exact HK.out)
                    · obtain ⟨t, rfl⟩ : ∃ t, m = t + 1 := ⟨m - 1, by omega⟩
                      have dx := HK.out.cell (i := t + 1) (by omega)
                      have dy := HK.out.cell (i := t) (by omega)
                      have fx := HK.out.frozen (i := t + 1) (by omega)
                      have fy := HK.out.frozen (i := t) (by omega)
                      have hg := HK.out.lt
                      obtain ⟨x, hx⟩ : ∃ x, x = dm[t + 1]! := ⟨_, rfl⟩
                      obtain ⟨y, hy⟩ : ∃ y, y = dm[t]! := ⟨_, rfl⟩
                      rw [← hx] at dx
                      rw [← hy] at dy
                      have HX := Lib.hid hx
                      have HY := Lib.hid hy
                      clear hx hy
                      by_cases hl : x < y
                      · have hd : decide (x < y) = true := by rw [decide_eq_true_eq]; exact hl
                        have HL := Lib.hid hl
                        go_wp2
                        go_quiet (first | (go_at_call 108; refine Calls.quiet_of_same (less_any _ _ _)) | (go_at_call 108; refine less_from _ _))
                        go_wp2
                        go_region
                        all_goals
                          go_wp2
                          go_roundw
                          case rel => exact ⟨t, _, by go_num, by omega, Lib.hid (HK.out.swpN (by omega) (by omega) HX.out HY.out _), Lib.hid (by rw [← HS.out, shD_go (by rw [← HX.out, ← HY.out]; exact HL.out)])⟩
                          case measure => first | (simp [intOf]; done) | (simp [intOf]; omega)
                      · have hd : decide (x < y) = false := by rw [decide_eq_false_iff_not]; exact hl
                        have HL := Lib.hid hl
                        go_wp2
                        go_quiet (first | (go_at_call 108; refine Calls.quiet_of_same (less_any _ _ _)) | (go_at_call 108; refine less_from _ _))
                        go_wp2
                        go_meet
                        exact Lib.hid (by rw [HPS.out, ← HS.out, shD_stop (by rw [← HX.out, ← HY.out]; have := HL.out; omega)]; exact HK.out.drewN _)
                · have HPS : Hid (pIs a i d2 = d2) := Lib.hid (by unfold pIs; rw [if_neg h2])
                  have h21 : decide (2 ≤ (i : Int) - (a : Int)) = false := by rw [decide_eq_false_iff_not]; omega
                  go_wp2
                  go_meet
                  exact Lib.hid (by rw [HPS.out]; exact HSW.out)
              case rest =>
                have HK := hcut
                obtain ⟨d3, hd3⟩ : ∃ d3, d3 = pIs a i d2 := ⟨_, rfl⟩
                rw [← hd3] at HK HGO2
                clear hd3 HSW hcut
                have HSW := HK
                by_cases h2 : b - i ≥ 2
                · have HPU : Hid (pIu b i d3 = Sort.shiftUp ltI b (i + 1) d3) := Lib.hid (by unfold pIu; rw [if_pos h2])
                  have h21 : decide (2 ≤ (b : Int) - (i : Int)) = true := by rw [decide_eq_true_eq]; omega
                  go_wp2
                  go_loopw [10] (fun s wr => ∃ (m : Nat) (dm : Array Int), s = .int .i64 (m : Int) ∧ 1 ≤ m ∧ m ≤ b ∧ Hid (SRt B g n cap w0 dm wr) ∧ Hid (Sort.shiftUp ltI b m dm = Sort.shiftUp ltI b (i + 1) d3)) (fun s _ => b - (intOf s).toNat)
                  case atStart => exact ⟨i + 1, d3, by go_num, by omega, by omega, HSW, Lib.hid rfl⟩
                  case round =>
                    obtain ⟨m, dm, rfl, hm0, hm, HK, HS⟩ := hrel
                    obtain ⟨t, rfl⟩ : ∃ t, m = t + 1 := ⟨m - 1, by omega⟩
                    by_cases hm2 : t + 1 < b
                    · have hmm : decide ((t : Int) + 1 < (b : Int)) = true := by rw [decide_eq_true_eq]; omega
                      have dx := HK.out.cell (i := t + 1) (by omega)
                      have dy := HK.out.cell (i := t) (by omega)
                      have fx := HK.out.frozen (i := t + 1) (by omega)
                      have fy := HK.out.frozen (i := t) (by omega)
                      have hg := HK.out.lt
                      obtain ⟨x, hx⟩ : ∃ x, x = dm[t + 1]! := ⟨_, rfl⟩
                      obtain ⟨y, hy⟩ : ∃ y, y = dm[t]! := ⟨_, rfl⟩
                      rw [← hx] at dx
                      rw [← hy] at dy
                      have HX := Lib.hid hx
                      have HY := Lib.hid hy
                      clear hx hy
                      by_cases hl : x < y
                      · have hd : decide (x < y) = true := by rw [decide_eq_true_eq]; exact hl
                        have HL := Lib.hid hl
                        go_wp2
                        go_quiet (first | (go_at_call 108; refine Calls.quiet_of_same (less_any _ _ _)) | (go_at_call 108; refine less_from _ _))
                        go_wp2
                        go_region
                        all_goals
                          go_wp2
                          go_roundw
                          case rel => exact ⟨t + 1 + 1, _, by go_num, by omega, by omega, Lib.hid (HK.out.swpN (by omega) (by omega) HX.out HY.out _), Lib.hid (by rw [← HS.out, shU_go hm2 (by rw [← HX.out, ← HY.out]; exact HL.out)])⟩
                          case measure => first | (simp [intOf]; done) | (simp [intOf]; omega)
                      · have hd : decide (x < y) = false := by rw [decide_eq_false_iff_not]; exact hl
                        have HL := Lib.hid hl
                        go_wp2
                        go_quiet (first | (go_at_call 108; refine Calls.quiet_of_same (less_any _ _ _)) | (go_at_call 108; refine less_from _ _))
                        go_wp2
                        go_roundw
                        case rel => exact ⟨i, j + 1, r, pIu b i d3, by first | rfl | go_num, by go_num, by omega, by omega, by omega, Lib.hid (by rw [HPU.out, ← HS.out, shU_stop (.inr (by rw [← HX.out, ← HY.out]; have := HL.out; omega))]; exact HK.out.drewN _), Lib.hid (by rw [← HE.out, HGO2.out])⟩
                        case measure => simp [intOf]; omega
                    · have hmm : decide ((t : Int) + 1 < (b : Int)) = false := by rw [decide_eq_false_iff_not]; omega
                      go_wp2
                      go_roundw
                      case rel => exact ⟨i, j + 1, r, pIu b i d3, by first | rfl | go_num, by go_num, by omega, by omega, by omega, Lib.hid (by rw [HPU.out, ← HS.out, shU_stop (.inl hm2)]; exact HK.out), Lib.hid (by rw [← HE.out, HGO2.out])⟩
                      case measure => simp [intOf]; omega
                · have HPU : Hid (pIu b i d3 = d3) := Lib.hid (by unfold pIu; rw [if_neg h2])
                  have h21 : decide (2 ≤ (b : Int) - (i : Int)) = false := by rw [decide_eq_false_iff_not]; omega
                  go_wp2
                  go_roundw
                  case rel => exact ⟨i, j + 1, r, pIu b i d3, by first | rfl | go_num, by go_num, by omega, by omega, by omega, Lib.hid (by rw [HPU.out]; exact HSW.out), Lib.hid (by rw [← HE.out, HGO2.out])⟩
                  case measure => simp [intOf]; omega
    · have hj' : decide ((j : Int) < 5) = false := by rw [decide_eq_false_iff_not]; omega
      obtain rfl : r = 0 := by omega
      go_wp2
      exact bodyPost_ret (v := .bool false) (by simp [results, Try.results107, go_sem]) rfl ⟨false, d, rfl, by rw [← HE.out, Sort.partialIns], HK⟩
end Go.Proofs.Ytjfnhjmdgfkgnaa


/- Which pivot: some place within. -/
namespace Go.Proofs.Kit
open Go.RowKit
/-- A row that is sorted, and a number beside it. -/
structure SX (ti tn : TypeId) (B g n cap sb : Nat) (w0 : World) (d : Array Int) (w : World) : Prop where
  sr : SR ti B g n cap w0 d w
  kb : ∃ s : Int, Blk w sb #[.int .i64 s] tn
  new : w0.heap.size ≤ sb
section
variable {ti tn : TypeId} {B g n cap sb : Nat} {w0 w : World} {d : Array Int}
theorem SX.set {s : Int} (h : SR ti B g n cap w0 d w) (hb : Blk w sb #[.int .i64 s] tn) (hn : w0.heap.size ≤ sb) (ht : ti ≠ tn) (m : Nat) (y : Int) : SX ti tn B g n cap sb w0 d ((w.drewN m).setCell ⟨sb, 0, none⟩ (.int .i64 y)) := by
  have hd := h.drewN m
  refine ⟨⟨h.len, hd.ow.same fun g' hg' => Below.heap_setCell _ _ _ _ (by rintro rfl; exact h.ow.ne_blk hb ht hg'), hd.but.set _ _ (fun hl => by simp at hl; omega)⟩, ⟨y, ?_⟩, hn⟩
  have : Blk (w.drewN m) sb #[.int .i64 s] tn := hb
  simpa using this.set 0 (.int .i64 y)
theorem SX.drewN (h : SX ti tn B g n cap sb w0 d w) (m : Nat) : SX ti tn B g n cap sb w0 d (w.drewN m) := ⟨h.sr.drewN m, h.kb, h.new⟩
end
end Go.Proofs.Kit
namespace Go.Proofs.Ytjfnhjmdgfkgnaa
open Go.RowKit Go.Proofs.Kit
abbrev SXt (B g n cap sb : Nat) (w0 : World) (d : Array Int) (w : World) : Prop := SX 52 3 B g n cap sb w0 d w
/-- Two places, in one order or the other. -/
def O2P (B g n cap sb : Nat) (w0 : World) (d : Array Int) (x y : Int) (e : Ending) (w' : World) : Prop :=
  ∃ u v : Int, e = .returned (.tuple #[.int .i64 u, .int .i64 v]) ∧ ((u = x ∧ v = y) ∨ (u = y ∧ v = x)) ∧ Hid (SXt B g n cap sb w0 d w')
set_option maxRecDepth 100000 in
set_option maxHeartbeats 2000000 in
theorem ord2_any (B g n cap sb : Nat) (d : Array Int) (w0 w : World) (h : SXt B g n cap sb w0 d w) (x y : Int) (hx : 0 ≤ x ∧ x < (n : Int)) (hy : 0 ≤ y ∧ y < (n : Int)) :
    Calls Try.prog 134 #[.slice (some ⟨g, 0, none⟩) n cap, .int .i64 x, .int .i64 y, .pointer (some ⟨sb, 0, none⟩)] w (O2P B g n cap sb w0 d x y) := by
  obtain ⟨i, rfl⟩ := Int.eq_ofNat_of_zero_le hx.1
  obtain ⟨j, rfl⟩ := Int.eq_ofNat_of_zero_le hy.1
  have hi : i < n := by omega
  have hj : j < n := by omega
  obtain ⟨s, hs⟩ := h.kb
  have H := Lib.hid h
  have di := h.sr.cell hi
  have dj := h.sr.cell hj
  have ds : w.cell? ⟨sb, 0, none⟩ = some (.int .i64 s) := hs.cell 0
  have fs : w.frozen? ⟨sb, 0, none⟩ = false := hs.frozen 0
  have hl := hs.lt
  have HS := Lib.hid hs
  obtain ⟨u, hu⟩ : ∃ u, u = d[i]! := ⟨_, rfl⟩
  obtain ⟨v, hv⟩ : ∃ v, v = d[j]! := ⟨_, rfl⟩
  rw [← hu] at di
  rw [← hv] at dj
  clear h hs hu hv hx hy
  by_cases hc : v < u
  · have hd : decide (v < u) = true := by rw [decide_eq_true_eq]; exact hc
    go_enter Try.func134, Try.ntmps134
    go_wp2
    go_quiet (first | (go_at_call 108; refine Calls.quiet_of_same (less_any _ _ _)))
    go_wp2
    exact bodyPost_ret (v := .tuple #[.int .i64 (j : Int), .int .i64 (i : Int)]) (by simp [results, Try.results134, go_sem]) rfl ⟨_, _, rfl, .inr ⟨rfl, rfl⟩, Lib.hid (SX.set H.out.sr HS.out H.out.new (by decide) _ _)⟩
  · have hd : decide (v < u) = false := by rw [decide_eq_false_iff_not]; exact hc
    go_enter Try.func134, Try.ntmps134
    go_wp2
    go_quiet (first | (go_at_call 108; refine Calls.quiet_of_same (less_any _ _ _)))
    go_wp2
    exact bodyPost_ret (v := .tuple #[.int .i64 (i : Int), .int .i64 (j : Int)]) (by simp [results, Try.results134, go_sem]) rfl ⟨_, _, rfl, .inl ⟨rfl, rfl⟩, Lib.hid (H.out.drewN _)⟩
/-- One of three places. -/
def M3P (B g n cap sb : Nat) (w0 : World) (d : Array Int) (x y z : Int) (e : Ending) (w' : World) : Prop :=
  ∃ m : Int, e = .returned (.int .i64 m) ∧ (m = x ∨ m = y ∨ m = z) ∧ Hid (SXt B g n cap sb w0 d w')
set_option maxRecDepth 100000 in
set_option maxHeartbeats 2000000 in
theorem med_any (B g n cap sb : Nat) (d : Array Int) (w0 w : World) (h : SXt B g n cap sb w0 d w) (x y z : Int) (hx : 0 ≤ x ∧ x < (n : Int)) (hy : 0 ≤ y ∧ y < (n : Int)) (hz : 0 ≤ z ∧ z < (n : Int)) :
    Calls Try.prog 128 #[.slice (some ⟨g, 0, none⟩) n cap, .int .i64 x, .int .i64 y, .int .i64 z, .pointer (some ⟨sb, 0, none⟩)] w (M3P B g n cap sb w0 d x y z) := by
  have H := Lib.hid h
  clear h
  go_enter Try.func128, Try.ntmps128
  go_wp2_with fail
  refine (ord2_any B g n cap sb d w0 _ H.out x y hx hy).mono ?_
  rintro e w1 ⟨u1, v1, rfl, h1, H1⟩
  have hu1 : 0 ≤ u1 ∧ u1 < (n : Int) := by omega
  have hv1 : 0 ≤ v1 ∧ v1 < (n : Int) := by omega
  have G1 := Lib.hid h1
  clear h1
  go_wp2_with fail
  refine (ord2_any B g n cap sb d w0 _ H1.out v1 z hv1 hz).mono ?_
  rintro e w2 ⟨u2, v2, rfl, h2, H2⟩
  have hu2 : 0 ≤ u2 ∧ u2 < (n : Int) := by omega
  have G2 := Lib.hid h2
  clear h2
  go_wp2_with fail
  refine (ord2_any B g n cap sb d w0 _ H2.out u1 u2 hu1 hu2).mono ?_
  rintro e w3 ⟨u3, v3, rfl, h3, H3⟩
  have G3 := Lib.hid h3
  clear h3
  go_wp2
  exact bodyPost_ret (v := .int .i64 v3) (by simp [results, Try.results128, go_sem]) rfl ⟨_, rfl, by have := G1.out; have := G2.out; have := G3.out; omega, H3⟩
set_option maxRecDepth 100000 in
set_option maxHeartbeats 2000000 in
theorem medA_any (B g n cap sb : Nat) (d : Array Int) (w0 w : World) (h : SXt B g n cap sb w0 d w) (x : Int) (hx : 1 ≤ x ∧ x + 1 < (n : Int)) (hn : n ≤ 1000000) :
    Calls Try.prog 127 #[.slice (some ⟨g, 0, none⟩) n cap, .int .i64 x, .pointer (some ⟨sb, 0, none⟩)] w (M3P B g n cap sb w0 d (x - 1) x (x + 1)) := by
  have H := Lib.hid h
  clear h
  go_enter Try.func127, Try.ntmps127
  go_wp2_with fail
  refine (med_any B g n cap sb d w0 _ H.out (x - 1) x (x + 1) (by omega) (by omega) (by omega)).mono ?_
  rintro e w1 ⟨u1, rfl, h1, H1⟩
  have G1 := Lib.hid h1
  clear h1
  go_wp2
  exact bodyPost_ret (v := .int .i64 u1) (by simp [results, Try.results127, go_sem]) rfl ⟨_, rfl, G1.out, H1⟩
/-- A place within, and a hint. -/
def CpP (B g n cap a b : Nat) (w0 : World) (d : Array Int) (e : Ending) (w' : World) : Prop :=
  ∃ (m : Nat) (t : Int), e = .returned (.tuple #[.int .i64 (m : Int), .int .i64 t]) ∧ a ≤ m ∧ m < b ∧ (t = 0 ∨ t = 1 ∨ t = 2) ∧ Hid (SRt B g n cap w0 d w')
set_option maxRecDepth 100000 in
set_option maxHeartbeats 4000000 in
theorem pivot_any (B g n cap a b : Nat) (d : Array Int) (w0 w : World) (h : SRt B g n cap w0 d w) (hab : a + 12 < b) (hb : b ≤ n) (hn : n ≤ 1000000) :
    Calls Try.prog 105 #[.slice (some ⟨g, 0, none⟩) n cap, .int .i64 a, .int .i64 b] w (CpP B g n cap a b w0 d) := by
  obtain ⟨l, hl⟩ : ∃ l, l = b - a := ⟨_, rfl⟩
  have hal : (b : Int) - (a : Int) = (l : Int) := by omega
  have hq : (l : Int).tdiv 4 = ((l / 4 : Nat) : Int) := by rw [Int.tdiv_eq_ediv_of_nonneg (by omega)]; omega
  obtain ⟨q, hq'⟩ : ∃ q, q = l / 4 := ⟨_, rfl⟩
  rw [← hq'] at hq
  have hq1 : 3 ≤ q := by omega
  have hq2 : 4 * q ≤ l := by omega
  have hlb : a + l = b := by omega
  have hq3 : 13 ≤ l := by omega
  have hsx : SXt B g n cap w.heap.size w0 d (w.alloc (.cells #[.int .i64 0] 3)) := ⟨h.alloc _, ⟨0, Blk.new _ _ _⟩, h.but.size⟩
  have H := Lib.hid hsx
  clear h hsx hl hq'
  have h8 : decide (8 ≤ (l : Int)) = true := by rw [decide_eq_true_eq]; omega
  go_enter Try.func105, Try.ntmps105
  by_cases h50 : 50 ≤ l
  · have h51 : decide (50 ≤ (l : Int)) = true := by rw [decide_eq_true_eq]; omega
    go_wp2_with fail
    refine (medA_any B g n cap w.heap.size d w0 _ H.out ((a : Int) + (q : Int)) (by omega) hn).mono ?_
    rintro e w1 ⟨m1, rfl, h1, H1⟩
    have b1 : (a : Int) ≤ m1 ∧ m1 < (b : Int) := by omega
    clear h1
    go_wp2_with fail
    refine (medA_any B g n cap w.heap.size d w0 _ H1.out ((a : Int) + (q : Int) * 2) (by omega) hn).mono ?_
    rintro e w2 ⟨m2, rfl, h2, H2⟩
    have b2 : (a : Int) ≤ m2 ∧ m2 < (b : Int) := by omega
    clear h2
    go_wp2_with fail
    refine (medA_any B g n cap w.heap.size d w0 _ H2.out ((a : Int) + (q : Int) * 3) (by omega) hn).mono ?_
    rintro e w3 ⟨m3, rfl, h3, H3⟩
    have b3 : (a : Int) ≤ m3 ∧ m3 < (b : Int) := by omega
    clear h3
    go_wp2_with fail
    refine (med_any B g n cap w.heap.size d w0 _ H3.out m1 m2 m3 (by omega) (by omega) (by omega)).mono ?_
    rintro e w4 ⟨m4, rfl, h4, H4⟩
    obtain ⟨m, rfl⟩ := Int.eq_ofNat_of_zero_le (show 0 ≤ m4 by omega)
    have hma : a ≤ m := by omega
    have hmb : m < b := by omega
    obtain ⟨s, hs⟩ := H4.out.kb
    have ds : w4.cell? ⟨w.heap.size, 0, none⟩ = some (.int .i64 s) := hs.cell 0
    clear h4 hs
    by_cases s0 : s = 0
    · subst s0
      go_wp2
      exact bodyPost_ret (v := .tuple #[.int .i64 (m : Int), .int .i64 1]) (by simp [results, Try.results105, go_sem]) rfl ⟨m, 1, rfl, hma, hmb, by omega, Lib.hid H4.out.sr⟩
    · have s0' : (s == 0) = false := by rw [beq_eq_false_iff_ne]; exact s0
      by_cases s1 : s = 12
      · subst s1
        go_wp2
        exact bodyPost_ret (v := .tuple #[.int .i64 (m : Int), .int .i64 2]) (by simp [results, Try.results105, go_sem]) rfl ⟨m, 2, rfl, hma, hmb, by omega, Lib.hid H4.out.sr⟩
      · have s1' : (s == 12) = false := by rw [beq_eq_false_iff_ne]; exact s1
        go_wp2
        exact bodyPost_ret (v := .tuple #[.int .i64 (m : Int), .int .i64 0]) (by simp [results, Try.results105, go_sem]) rfl ⟨m, 0, rfl, hma, hmb, by omega, Lib.hid H4.out.sr⟩
  · have h51 : decide (50 ≤ (l : Int)) = false := by rw [decide_eq_false_iff_not]; omega
    go_wp2_with fail
    refine (med_any B g n cap w.heap.size d w0 _ H.out ((a : Int) + (q : Int)) ((a : Int) + (q : Int) * 2) ((a : Int) + (q : Int) * 3) (by omega) (by omega) (by omega)).mono ?_
    rintro e w4 ⟨m4, rfl, h4, H4⟩
    obtain ⟨m, rfl⟩ := Int.eq_ofNat_of_zero_le (show 0 ≤ m4 by omega)
    have hma : a ≤ m := by omega
    have hmb : m < b := by omega
    obtain ⟨s, hs⟩ := H4.out.kb
    have ds : w4.cell? ⟨w.heap.size, 0, none⟩ = some (.int .i64 s) := hs.cell 0
    clear h4 hs
    by_cases s0 : s = 0
    · subst s0
      go_wp2
      exact bodyPost_ret (v := .tuple #[.int .i64 (m : Int), .int .i64 1]) (by simp [results, Try.results105, go_sem]) rfl ⟨m, 1, rfl, hma, hmb, by omega, Lib.hid H4.out.sr⟩
    · have s0' : (s == 0) = false := by rw [beq_eq_false_iff_ne]; exact s0
      by_cases s1 : s = 12
      · subst s1
        go_wp2
        exact bodyPost_ret (v := .tuple #[.int .i64 (m : Int), .int .i64 2]) (by simp [results, Try.results105, go_sem]) rfl ⟨m, 2, rfl, hma, hmb, by omega, Lib.hid H4.out.sr⟩
      · have s1' : (s == 12) = false := by rw [beq_eq_false_iff_ne]; exact s1
        go_wp2
        exact bodyPost_ret (v := .tuple #[.int .i64 (m : Int), .int .i64 0]) (by simp [results, Try.results105, go_sem]) rfl ⟨m, 0, rfl, hma, hmb, by omega, Lib.hid H4.out.sr⟩
end Go.Proofs.Ytjfnhjmdgfkgnaa


/- Patterns broken: a permutation within. -/
namespace Go.Proofs
open Go.Shelf
def Try.sortU_ren : Go.Shelf.Ren := ⟨fun | 15 => 69 | 28 => 111 | 29 => 112 | 47 => 125 | 48 => 126 | n => n, fun | 0 => 0 | 3 => 3 | 4 => 4 | 5 => 5 | 9 => 9 | 39 => 107 | 53 => 154 | 55 => 32 | 66 => 167 | 76 => 177 | n => n, fun | n => n⟩
theorem Try.sortU48 : SlLaysF0.n48 Try.prog Try.sortU_ren := {
  mixed := by kernel_rfl
  f48 := Try.func126.trans (congrArg some (by kernel_rfl))
  t0 := Try.underlying0
  a0 := Try.isAgg0
  z0 := Try.sizeOf0
  v0 := Try.zeroValue0
  t39 := Try.underlying107
  a39 := Try.isAgg107
  z39 := Try.sizeOf107
  v39 := Try.zeroValue107
  t55 := Try.underlying32
  a55 := Try.isAgg32
  z55 := Try.sizeOf32
  v55 := Try.zeroValue32
  t66 := Try.underlying167
  a66 := Try.isAgg167
  z66 := Try.sizeOf167
  v66 := Try.zeroValue167
  t76 := Try.underlying177
  a76 := Try.isAgg177
  z76 := Try.sizeOf177
  v76 := Try.zeroValue177
}
theorem Try.sortU47 : SlLaysF0.n47 Try.prog Try.sortU_ren := {
  mixed := by kernel_rfl
  f15 := Try.func69.trans (congrArg some (by kernel_rfl))
  f28 := Try.func111.trans (congrArg some (by kernel_rfl))
  f29 := Try.func112.trans (congrArg some (by kernel_rfl))
  f47 := Try.func125.trans (congrArg some (by kernel_rfl))
  t3 := Try.underlying3
  a3 := Try.isAgg3
  z3 := Try.sizeOf3
  v3 := Try.zeroValue3
  t4 := Try.underlying4
  a4 := Try.isAgg4
  z4 := Try.sizeOf4
  v4 := Try.zeroValue4
  t5 := Try.underlying5
  a5 := Try.isAgg5
  z5 := Try.sizeOf5
  v5 := Try.zeroValue5
  t9 := Try.underlying9
  a9 := Try.isAgg9
  z9 := Try.sizeOf9
  v9 := Try.zeroValue9
  t39 := Try.underlying107
  a39 := Try.isAgg107
  z39 := Try.sizeOf107
  v39 := Try.zeroValue107
  t53 := Try.underlying154
  a53 := Try.isAgg154
  z53 := Try.sizeOf154
  v53 := Try.zeroValue154
  t55 := Try.underlying32
  a55 := Try.isAgg32
  z55 := Try.sizeOf32
  v55 := Try.zeroValue32
}
end Go.Proofs
namespace Go.Proofs.Kit
open Go.RowKit
/-- A row that is sorted, and a seed beside it. -/
structure SY (ti tn : TypeId) (B g n cap sb : Nat) (w0 : World) (d : Array Int) (w : World) : Prop where
  sr : SR ti B g n cap w0 d w
  kb : ∃ X : Nat, X < 18446744073709551616 ∧ Blk w sb #[.int .u64 (X : Int)] tn
  new : w0.heap.size ≤ sb
section
variable {ti tn : TypeId} {B g n cap sb : Nat} {w0 w : World} {d : Array Int}
theorem SY.set (h : SY ti tn B g n cap sb w0 d w) (ht : ti ≠ tn) {R : Nat} (hR : R < 18446744073709551616) (m : Nat) : SY ti tn B g n cap sb w0 d ((w.setCell ⟨sb, 0, none⟩ (.int .u64 (R : Int))).drewN m) := by
  obtain ⟨X, hX, hb⟩ := h.kb
  refine ⟨⟨h.sr.len, h.sr.ow.same fun g' hg' => Below.heap_setCell _ _ _ _ (by rintro rfl; exact h.sr.ow.ne_blk hb ht hg'), (h.sr.but.set _ _ (fun hl => by have := h.new; simp at hl; omega)).drewN m⟩, ⟨R, hR, ?_⟩, h.new⟩
  have := hb.set 0 (.int .u64 (R : Int))
  simp only [List.setIfInBounds_toArray, List.set_cons_zero] at this
  exact this
theorem SY.swpD (h : SY ti tn B g n cap sb w0 d w) (ht : ti ≠ tn) {i j : Nat} (hi : i < n) (hj : j < n) {x y : Int} (hx : x = d[i]!) (hy : y = d[j]!) (m : Nat) : SY ti tn B g n cap sb w0 (Sort.swp d i j) (((w.drewN m).setCell ⟨g, i, none⟩ (.int .u64 y)).setCell ⟨g, j, none⟩ (.int .u64 x)) := by
  obtain ⟨X, hX, hb⟩ := h.kb
  have hne : sb ≠ g := fun e => h.sr.ow.ne_blk hb ht (by rw [e]; rfl)
  have hb1 : Blk (w.drewN m) sb #[.int .u64 (X : Int)] tn := hb
  exact ⟨h.sr.swpN hi hj hx hy m, ⟨X, hX, (hb1.other hne _).other hne _⟩, h.new⟩
end
theorem pow_le (l : Nat) (h : 1 ≤ l) : 1 ≤ 1 <<< Sort.bitsLen l ∧ 1 <<< Sort.bitsLen l ≤ 2 * l := by
  unfold Sort.bitsLen
  rw [if_neg (by omega), Nat.one_shiftLeft, Nat.pow_succ]
  have h1 := Nat.log2_self_le (n := l) (by omega)
  have h2 : 0 < 2 ^ l.log2 := Nat.pow_pos (by omega)
  omega
end Go.Proofs.Kit
namespace Go.Proofs.Ytjfnhjmdgfkgnaa
open Go.RowKit Go.Proofs.Kit Go.Shelf
theorem xor_any (sb X : Nat) (hX : X < 18446744073709551616) (w : World) (hc : w.cell? ⟨sb, 0, none⟩ = some (.int .u64 X)) (hf : w.frozen? ⟨sb, 0, none⟩ = false) :
    Calls Try.prog 126 #[.pointer (some ⟨sb, 0, none⟩)] w fun e w' => ∃ R : Nat, e = .returned (.int .u64 (R : Int)) ∧ R < 18446744073709551616 ∧ w' = (w.setCell ⟨sb, 0, none⟩ (.int .u64 (R : Int))).drewN 3 :=
  (AnyF.xorshift_Next Try.sortU48 sb 0 X hX w hc hf).mono fun _ _ ⟨h1, h2⟩ => ⟨_, h1, Sort.xorNextN_lt X hX, h2⟩
theorem pow_any (l : Nat) (hl : l < 4611686018427387904) (w : World) : Calls Try.prog 125 #[.int .i64 (l : Int)] w fun e w' => e = .returned (.int .u64 ((1 <<< Sort.bitsLen l : Nat) : Int)) ∧ w' = w :=
  AnyF.nextPowerOfTwo Try.sortU47 l hl w
abbrev SYt (B g n cap sb : Nat) (w0 : World) (d : Array Int) (w : World) : Prop := SY 52 167 B g n cap sb w0 d w
/-- A permutation within. -/
def BpP (B g n cap a b : Nat) (w0 : World) (d0 : Array Int) (e : Ending) (w' : World) : Prop :=
  ∃ d : Array Int, e = .returned (.tuple #[]) ∧ Sort.PermIn a b d0 d ∧ Hid (SRt B g n cap w0 d w')
set_option maxRecDepth 100000 in
set_option maxHeartbeats 8000000 in
theorem break_any (B g n cap a b : Nat) (d0 : Array Int) (w0 w : World) (h : SRt B g n cap w0 d0 w) (hab : a + 12 < b) (hb : b ≤ n) (hn : n ≤ 1000000) :
    Calls Try.prog 104 #[.slice (some ⟨g, 0, none⟩) n cap, .int .i64 a, .int .i64 b] w (BpP B g n cap a b w0 d0) := by
  have hbs : b ≤ d0.size := by rw [h.len]; exact hb
  obtain ⟨l, hl⟩ : ∃ l, l = b - a := ⟨_, rfl⟩
  have hal : (b : Int) - (a : Int) = (l : Int) := by omega
  have hq : (l : Int).tdiv 4 = ((l / 4 : Nat) : Int) := by rw [Int.tdiv_eq_ediv_of_nonneg (by omega)]; omega
  obtain ⟨q, hq'⟩ : ∃ q, q = l / 4 := ⟨_, rfl⟩
  rw [← hq'] at hq
  have hq1 : 3 ≤ q := by omega
  have hq2 : 4 * q ≤ l := by omega
  have hlb : a + l = b := by omega
  have hq3 : 13 ≤ l := by omega
  obtain ⟨c, hc'⟩ : ∃ c, c = a + q * 2 - 1 := ⟨_, rfl⟩
  have hc : (a : Int) + (q : Int) * 2 - 1 = (c : Int) := by omega
  have hc2 : (a : Int) + (q : Int) * 2 + 1 = (c : Int) + 2 := by omega
  have hwl : IntKind.u64.wrap (l : Int) = (l : Int) := by rw [IntKind.wrap_u64]; omega
  have hpow := pow_any l (by omega)
  have hM := pow_le l (by omega)
  obtain ⟨M, hM'⟩ : ∃ M, M = 1 <<< Sort.bitsLen l := ⟨_, rfl⟩
  rw [← hM'] at hpow hM
  have hsy : SYt B g n cap w.heap.size w0 d0 (w.alloc (.cells #[.int .u64 (l : Int)] 167)) := ⟨h.alloc _, ⟨l, by omega, Blk.new _ _ _⟩, h.but.size⟩
  have H := Lib.hid hsy
  clear h hsy hl hq' hc' hM'
  have h8 : decide (8 ≤ (l : Int)) = true := by rw [decide_eq_true_eq]; omega
  go_enter Try.func104, Try.ntmps104
  go_wp2_with (go_at_call 125; refine (hpow _).mono ?_; rintro e w' ⟨rfl, rfl⟩)
  clear hpow
  go_loopw [9, 10] (fun s _ wr => ∃ (i : Nat) (d : Array Int), c ≤ i ∧ s = .int .i64 (i : Int) ∧ Sort.PermIn a b d0 d ∧ Hid (SYt B g n cap w.heap.size w0 d wr)) (fun s _ _ => c + 3 - (intOf s).toNat)
  case atStart => exact ⟨c, d0, Nat.le_refl _, rfl, Sort.permIn_refl _ _ _, H⟩
  case round =>
    obtain ⟨i, d, hci, rfl, hp, HS⟩ := hrel
    clear H
    by_cases hi : i ≤ c + 2
    · have hi' : decide ((i : Int) ≤ (c : Int) + 2) = true := by rw [decide_eq_true_eq]; omega
      obtain ⟨X, hX, kX⟩ := HS.out.kb
      obtain ⟨wx, hwx⟩ : ∃ wx, wx = wr := ⟨_, rfl⟩
      have hxor0 := xor_any w.heap.size X hX wr (kX.cell 0) (kX.frozen 0)
      have hib : i < b := by omega
      have hia : a ≤ i := by omega
      clear hwx wx kX
      have hxor : Calls Try.prog 126 #[.pointer (some ⟨w.heap.size, 0, none⟩)] wr fun e w' => ∃ O : Nat, e = .returned (.int .u64 (O : Int)) ∧ Hid (O < 18446744073709551616 ∧ SYt B g n cap w.heap.size w0 d w') :=
        hxor0.mono fun e w' ⟨R, h1, h2, h3⟩ => ⟨R, h1, Lib.hid ⟨h2, by rw [h3]; exact HS.out.set (by decide) h2 3⟩⟩
      clear hxor0
      go_wp2_with fail
      refine hxor.mono ?_
      rintro e w2 ⟨R, rfl, HR⟩
      obtain ⟨O, hO⟩ : ∃ O : Nat, O = R &&& (M - 1) := ⟨_, rfl⟩
      have lO : O ≤ M - 1 := by rw [hO]; exact Nat.and_le_right
      have eAnd : bits .and .u64 (R : Int) ((M : Int) - 1) = (O : Int) := by
        rw [show ((M : Int) - 1) = ((M - 1 : Nat) : Int) by omega, bits_and_u64_nat _ _ HR.out.1 (by omega), hO]
      have S2 := Lib.hid HR.out.2
      have hwM : IntKind.u64.wrap ((M : Int) - 1) = (M : Int) - 1 := by rw [IntKind.wrap_u64]; omega
      clear hO HS hxor HR
      by_cases hLO : l ≤ O
      · have hLO' : decide ((l : Int) ≤ (O : Int)) = true := by rw [decide_eq_true_eq]; omega
        have hoi : (a : Int) + ((O : Int) - (l : Int)) = ((a + (O - l) : Nat) : Int) := by omega
        obtain ⟨p, hp0⟩ : ∃ p, p = a + (O - l) := ⟨_, rfl⟩
        rw [← hp0] at hoi
        have hpa : a ≤ p := by omega
        have hpb : p < b := by omega
        have ci := S2.out.sr.cell (i := i) (by omega)
        have cp := S2.out.sr.cell (i := p) (by omega)
        have fi := S2.out.sr.frozen (i := i) (by omega)
        have fp := S2.out.sr.frozen (i := p) (by omega)
        have hgl := S2.out.sr.lt
        obtain ⟨x, hx⟩ : ∃ x, x = d[i]! := ⟨_, rfl⟩
        obtain ⟨y, hy⟩ : ∃ y, y = d[p]! := ⟨_, rfl⟩
        rw [← hx] at ci
        rw [← hy] at cp
        have HX := Lib.hid hx
        have HY := Lib.hid hy
        clear hx hy hp0
        by_cases hip : p = i
        · subst hip
          clear ci fi
          go_wp2
          go_region
          all_goals
            go_wp2
            go_roundw
            case rel => exact ⟨p + 1, _, by omega, by go_num, Sort.permIn_trans _ _ _ _ _ hp (Sort.swp_permIn d a b p p (by omega) (by omega) (by omega) (by omega) (by rw [hp.1]; exact hbs)), Lib.hid (S2.out.swpD (by decide) (by omega) (by omega) HY.out HY.out _)⟩
            case measure => simp [intOf]; omega
        · have hne : i ≠ p := fun e => hip e.symm
          go_wp2
          go_region
          all_goals
            go_wp2
            go_roundw
            case rel => exact ⟨i + 1, _, by omega, by go_num, Sort.permIn_trans _ _ _ _ _ hp (Sort.swp_permIn d a b i p (by omega) (by omega) (by omega) (by omega) (by rw [hp.1]; exact hbs)), Lib.hid (S2.out.swpD (by decide) (by omega) (by omega) HX.out HY.out _)⟩
            case measure => simp [intOf]; omega
      · have hLO' : decide ((l : Int) ≤ (O : Int)) = false := by rw [decide_eq_false_iff_not]; omega
        have hoi : (a : Int) + (O : Int) = ((a + (O) : Nat) : Int) := by omega
        obtain ⟨p, hp0⟩ : ∃ p, p = a + (O) := ⟨_, rfl⟩
        rw [← hp0] at hoi
        have hpa : a ≤ p := by omega
        have hpb : p < b := by omega
        have ci := S2.out.sr.cell (i := i) (by omega)
        have cp := S2.out.sr.cell (i := p) (by omega)
        have fi := S2.out.sr.frozen (i := i) (by omega)
        have fp := S2.out.sr.frozen (i := p) (by omega)
        have hgl := S2.out.sr.lt
        obtain ⟨x, hx⟩ : ∃ x, x = d[i]! := ⟨_, rfl⟩
        obtain ⟨y, hy⟩ : ∃ y, y = d[p]! := ⟨_, rfl⟩
        rw [← hx] at ci
        rw [← hy] at cp
        have HX := Lib.hid hx
        have HY := Lib.hid hy
        clear hx hy hp0
        by_cases hip : p = i
        · subst hip
          clear ci fi
          go_wp2
          go_region
          all_goals
            go_wp2
            go_roundw
            case rel => exact ⟨p + 1, _, by omega, by go_num, Sort.permIn_trans _ _ _ _ _ hp (Sort.swp_permIn d a b p p (by omega) (by omega) (by omega) (by omega) (by rw [hp.1]; exact hbs)), Lib.hid (S2.out.swpD (by decide) (by omega) (by omega) HY.out HY.out _)⟩
            case measure => simp [intOf]; omega
        · have hne : i ≠ p := fun e => hip e.symm
          go_wp2
          go_region
          all_goals
            go_wp2
            go_roundw
            case rel => exact ⟨i + 1, _, by omega, by go_num, Sort.permIn_trans _ _ _ _ _ hp (Sort.swp_permIn d a b i p (by omega) (by omega) (by omega) (by omega) (by rw [hp.1]; exact hbs)), Lib.hid (S2.out.swpD (by decide) (by omega) (by omega) HX.out HY.out _)⟩
            case measure => simp [intOf]; omega
    · have hi' : decide ((i : Int) ≤ (c : Int) + 2) = false := by rw [decide_eq_false_iff_not]; omega
      go_wp2
      go_end0
      exact ⟨d, rfl, hp, Lib.hid HS.out.sr⟩
end Go.Proofs.Ytjfnhjmdgfkgnaa


/- What the sort keeps, round by round: plain facts. -/
namespace Go.Proofs.Kit
/-- A part rises. -/
def Srt (a b : Nat) (d : Array Int) : Prop := ∀ i j, a ≤ i → i < j → j < b → ¬ d[j]! < d[i]!
theorem srt_of {a b : Nat} {d : Array Int} (h : Sort.SortedIn ltI a b d) : Srt a b d := by
  intro i j h1 h2 h3 h4
  have := h i j h1 h2 h3
  rw [ltI_t h4] at this
  cases this
/-- Nothing within is less than what stands ahead. -/
def Bel (a b : Nat) (d : Array Int) : Prop := a = 0 ∨ ∀ i, a ≤ i → i < b → ¬ d[i]! < d[a - 1]!
theorem Bel.lib {a b : Nat} {d : Array Int} (h : Bel a b d) : Sort.Below ltI a b d := by
  rcases h with h | h
  · exact .inl h
  · exact .inr fun i h1 h2 => ltI_f (h i h1 h2)
theorem Bel.perm {a b : Nat} {d d' : Array Int} (h : Bel a b d) (hp : Sort.PermIn a b d d') (hb : b ≤ d.size) : Bel a b d' := by
  rcases h with h | h
  · exact .inl h
  · by_cases h0 : a = 0
    · exact .inl h0
    · right
      rw [hp.2.1 (a - 1) (by omega)]
      exact Sort.permIn_all d d' a b (fun x => ¬ x < d[a - 1]!) hb hp h
/-- What is known at a round of the sort of [A, E), when [a, b) is left. -/
structure Pq (A E : Nat) (d0 : Array Int) (a b : Nat) (d : Array Int) : Prop where
  perm : Sort.PermIn A E d0 d
  Aa : A ≤ a
  ab : a ≤ b
  bE : b ≤ E
  sz : E ≤ d0.size
  bel : Bel a b d
  fin : ∀ d', Sort.PermIn a b d d' → Srt a b d' → Srt A E d'
section
variable {A E a b m : Nat} {d0 d d' d2 : Array Int}
theorem Pq.size (h : Pq A E d0 a b d) : b ≤ d.size := by rw [h.perm.1]; have := h.sz; have := h.bE; omega
theorem Pq.start (hAE : A ≤ E) (hs : E ≤ d0.size) (hb : Bel A E d0) : Pq A E d0 A E d0 := ⟨Sort.permIn_refl _ _ _, Nat.le_refl _, hAE, Nat.le_refl _, hs, hb, fun _ _ h => h⟩
theorem Pq.whole (h : Pq A E d0 a b d) (hp : Sort.PermIn a b d d') : Sort.PermIn A E d0 d' :=
  Sort.permIn_trans _ _ _ _ _ h.perm (Sort.permIn_mono _ _ _ _ _ _ h.Aa h.bE (by rw [h.perm.1]; exact h.sz) hp)
theorem Pq.perm' (h : Pq A E d0 a b d) (hp : Sort.PermIn a b d d') : Pq A E d0 a b d' :=
  ⟨h.whole hp, h.Aa, h.ab, h.bE, h.sz, h.bel.perm hp h.size, fun d2 h1 h2 => h.fin d2 (Sort.permIn_trans _ _ _ _ _ hp h1) h2⟩
theorem Pq.done (h : Pq A E d0 a b d) (hp : Sort.PermIn a b d d') (hs : Srt a b d') : Sort.PermIn A E d0 d' ∧ Srt A E d' := ⟨h.whole hp, h.fin d' hp hs⟩
/-- Behind those that are equal. -/
theorem Pq.eq {pv : Nat} (h : Pq A E d0 a b d) (ha : 0 < a) (hc : ¬ d[a - 1]! < d[pv]!) (hm : a < m) (hmb : m ≤ b) (hp : Sort.PermIn a b d d') (hl : ∀ t, a ≤ t → t < m → ¬ d[pv]! < d'[t]!) (hg : ∀ t, m ≤ t → t < b → d[pv]! < d'[t]!) : Pq A E d0 m b d' := by
  have hbel := h.bel.resolve_left (by omega)
  have hmin : ∀ i, a ≤ i → i < b → ¬ d'[i]! < d[pv]! := Sort.permIn_all d d' a b (fun x => ¬ x < d[pv]!) h.size hp (fun i h3 h4 => by have := hbel i h3 h4; omega)
  refine ⟨h.whole hp, by have := h.Aa; omega, hmb, h.bE, h.sz, .inr fun i h3 h4 => by have := hg i h3 h4; have := hl (m - 1) (by omega) (by omega); omega, fun d2 h3 h4 => h.fin d2 ?_ ?_⟩
  · exact Sort.permIn_trans _ _ _ _ _ hp (Sort.permIn_mono _ _ _ _ _ _ (by omega) (Nat.le_refl _) (by rw [hp.1]; exact h.size) h3)
  · have hg2 : ∀ t, m ≤ t → t < b → d[pv]! < d2[t]! := Sort.permIn_all d' d2 m b (fun x => d[pv]! < x) (by rw [hp.1]; exact h.size) h3 hg
    intro i j h5 h6 h7
    by_cases hj : j < m
    · rw [h3.2.1 i (by omega), h3.2.1 j (by omega)]
      have := hmin j (by omega) h7
      have := hl i h5 (by omega)
      omega
    · by_cases hi : i < m
      · rw [h3.2.1 i (by omega)]
        have := hg2 j (by omega) h7
        have := hl i h5 hi
        omega
      · exact h4 i j (by omega) h6 h7
/-- Parted at m: what is asked of either side, and what is left once it is sorted. -/
theorem Pq.bel_left (h : Pq A E d0 a b d) (hm : m < b) : Bel a m d := by
  rcases h.bel with e | e
  · exact .inl e
  · exact .inr fun i h1 h2 => e i h1 (by omega)
theorem bel_right {p : Int} (hpm : d[m]! = p) (hg : ∀ t, m < t → t < b → ¬ d[t]! < p) : Bel (m + 1) b d := .inr fun i h1 h2 => by
  rw [Nat.add_sub_cancel, hpm]
  exact hg i (by omega) h2
theorem Pq.left {p : Int} (h : Pq A E d0 a b d) (ham : a ≤ m) (hmb : m < b) (hpm : d[m]! = p) (hl : ∀ t, a ≤ t → t < m → d[t]! < p) (hg : ∀ t, m < t → t < b → ¬ d[t]! < p) (hp : Sort.PermIn a m d d2) (hs : Srt a m d2) : Pq A E d0 (m + 1) b d2 := by
  have hsz := h.size
  have hp' : Sort.PermIn a b d d2 := Sort.permIn_mono _ _ _ _ _ _ (Nat.le_refl _) (by omega) hsz hp
  have hl2 : ∀ t, a ≤ t → t < m → d2[t]! < p := Sort.permIn_all d d2 a m (fun x => x < p) (by omega) hp hl
  have hpm2 : d2[m]! = p := by rw [hp.2.1 m (by omega), hpm]
  have hg2 : ∀ t, m < t → t < b → ¬ d2[t]! < p := fun t h1 h2 => by rw [hp.2.1 t (by omega)]; exact hg t h1 h2
  refine ⟨h.whole hp', by have := h.Aa; omega, by omega, h.bE, h.sz, bel_right hpm2 hg2, fun d3 h3 h4 => h.fin d3 ?_ ?_⟩
  · exact Sort.permIn_trans _ _ _ _ _ hp' (Sort.permIn_mono _ _ _ _ _ _ (by omega) (Nat.le_refl _) (by rw [hp.1]; exact hsz) h3)
  · have hg3 : ∀ t, m + 1 ≤ t → t < b → ¬ d3[t]! < p := Sort.permIn_all d2 d3 (m + 1) b (fun x => ¬ x < p) (by rw [hp.1]; exact hsz) h3 (fun t h5 h6 => hg2 t (by omega) h6)
    intro i j h5 h6 h7
    by_cases hj : j < m + 1
    · rw [h3.2.1 i (by omega), h3.2.1 j (by omega)]
      by_cases e : j = m
      · subst e; rw [hpm2]; have := hl2 i h5 h6; omega
      · exact hs i j h5 h6 (by omega)
    · by_cases hi : i < m + 1
      · rw [h3.2.1 i (by omega)]
        have := hg3 j (by omega) h7
        by_cases e : i = m
        · subst e; rw [hpm2]; omega
        · have := hl2 i h5 (by omega); omega
      · exact h4 i j (by omega) h6 h7
theorem Pq.right {p : Int} (h : Pq A E d0 a b d) (ham : a ≤ m) (hmb : m < b) (hpm : d[m]! = p) (hl : ∀ t, a ≤ t → t < m → d[t]! < p) (hg : ∀ t, m < t → t < b → ¬ d[t]! < p) (hp : Sort.PermIn (m + 1) b d d2) (hs : Srt (m + 1) b d2) : Pq A E d0 a m d2 := by
  have hsz := h.size
  have hp' : Sort.PermIn a b d d2 := Sort.permIn_mono _ _ _ _ _ _ (by omega) (Nat.le_refl _) hsz hp
  have hg2 : ∀ t, m + 1 ≤ t → t < b → ¬ d2[t]! < p := Sort.permIn_all d d2 (m + 1) b (fun x => ¬ x < p) hsz hp (fun t h5 h6 => hg t (by omega) h6)
  have hpm2 : d2[m]! = p := by rw [hp.2.1 m (by omega), hpm]
  have hl2 : ∀ t, a ≤ t → t < m → d2[t]! < p := fun t h1 h2 => by rw [hp.2.1 t (by omega)]; exact hl t h1 h2
  have hbel : Bel a m d2 := by
    rcases h.bel with e | e
    · exact .inl e
    · by_cases h0 : a = 0
      · exact .inl h0
      · refine .inr fun i h1 h2 => ?_
        rw [hp.2.1 i (by omega), hp.2.1 (a - 1) (by omega)]
        exact e i h1 (by omega)
  refine ⟨h.whole hp', h.Aa, ham, by have := h.bE; omega, h.sz, hbel, fun d3 h3 h4 => h.fin d3 ?_ ?_⟩
  · exact Sort.permIn_trans _ _ _ _ _ hp' (Sort.permIn_mono _ _ _ _ _ _ (Nat.le_refl _) (by omega) (by rw [hp.1]; exact hsz) h3)
  · have hl3 : ∀ t, a ≤ t → t < m → d3[t]! < p := Sort.permIn_all d2 d3 a m (fun x => x < p) (by rw [hp.1]; omega) h3 hl2
    intro i j h5 h6 h7
    by_cases hi : i < m
    · by_cases hj : j < m
      · exact h4 i j h5 h6 hj
      · rw [h3.2.1 j (by omega)]
        have := hl3 i h5 hi
        by_cases e : j = m
        · subst e; rw [hpm2]; omega
        · have := hg2 j (by omega) h7; omega
    · rw [h3.2.1 i (by omega), h3.2.1 j (by omega)]
      by_cases e : i = m
      · subst e; rw [hpm2]; exact hg2 j (by omega) h7
      · exact hs i j (by omega) h6 h7
end
end Go.Proofs.Kit


/- A part turned round; the sort. -/
namespace Go.Proofs.Ytjfnhjmdgfkgnaa
open Go.RowKit Go.Proofs.Kit
set_option maxRecDepth 100000 in
set_option maxHeartbeats 4000000 in
theorem rev_any (B g n cap a b : Nat) (d0 : Array Int) (w0 w : World) (h : SRt B g n cap w0 d0 w) (hab : a < b) (hb : b ≤ n) (hn : n ≤ 1000000) :
    Calls Try.prog 106 #[.slice (some ⟨g, 0, none⟩) n cap, .int .i64 a, .int .i64 b] w (BpP B g n cap a b w0 d0) := by
  have hbs : b ≤ d0.size := by rw [h.len]; exact hb
  have HK0 := Lib.hid h
  have hbb : (b : Int) - 1 = ((b - 1 : Nat) : Int) := by omega
  obtain ⟨j0, hj0⟩ : ∃ j0, j0 = b - 1 := ⟨_, rfl⟩
  rw [← hj0] at hbb
  clear h hj0
  go_enter Try.func106, Try.ntmps106
  go_wp2
  go_loopw [6, 7] (fun s v wr => ∃ (i j : Nat) (d : Array Int), s = .int .i64 (i : Int) ∧ v = .int .i64 (j : Int) ∧ a ≤ i ∧ a ≤ j ∧ j < b ∧ Sort.PermIn a b d0 d ∧ Hid (SRt B g n cap w0 d wr)) (fun s v _ => (intOf v - intOf s).toNat)
  case atStart => exact ⟨a, j0, d0, rfl, by first | rfl | rw [hbb], Nat.le_refl _, by omega, by omega, Sort.permIn_refl _ _ _, HK0⟩
  case round =>
    obtain ⟨i, j, d, rfl, rfl, hai, haj, hjb, hp, HK⟩ := hrel
    clear HK0 hbb
    by_cases hij : i < j
    · have hij1 : decide ((i : Int) < (j : Int)) = true := by rw [decide_eq_true_eq]; omega
      have hne : i ≠ j := by omega
      have ci := HK.out.cell (i := i) (by omega)
      have cp := HK.out.cell (i := j) (by omega)
      have fi := HK.out.frozen (i := i) (by omega)
      have fp := HK.out.frozen (i := j) (by omega)
      have hgl := HK.out.lt
      obtain ⟨x, hx⟩ : ∃ x, x = d[i]! := ⟨_, rfl⟩
      obtain ⟨y, hy⟩ : ∃ y, y = d[j]! := ⟨_, rfl⟩
      rw [← hx] at ci
      rw [← hy] at cp
      have HX := Lib.hid hx
      have HY := Lib.hid hy
      have hjj : (j : Int) - 1 = ((j - 1 : Nat) : Int) := by omega
      have hp2 := Sort.permIn_trans _ _ _ _ _ hp (Sort.swp_permIn d a b i j (by omega) (by omega) (by omega) (by omega) (by rw [hp.1]; exact hbs))
      have HP2 := Lib.hid hp2
      clear hx hy hp hp2
      go_wp2
      go_region
      all_goals
        go_wp2
        go_roundw
        case rel => exact ⟨i + 1, j - 1, _, by go_num, by first | rfl | rw [hjj], by omega, by omega, by omega, HP2.out, Lib.hid (HK.out.swpN (by omega) (by omega) HX.out HY.out _)⟩
        case measure => simp [intOf]; omega
    · have hij1 : decide ((i : Int) < (j : Int)) = false := by rw [decide_eq_false_iff_not]; omega
      have HP2 := Lib.hid hp
      clear hp
      go_wp2
      go_end0
      exact ⟨d, rfl, HP2.out, HK⟩
/-- A part sorted. -/
def PdP (B g n cap a b : Nat) (w0 : World) (d0 : Array Int) (e : Ending) (w' : World) : Prop :=
  ∃ d : Array Int, e = .returned (.tuple #[]) ∧ Sort.PermIn a b d0 d ∧ Srt a b d ∧ Hid (SRt B g n cap w0 d w')
set_option maxRecDepth 100000 in
set_option maxHeartbeats 16000000 in
theorem pdq_rec (B g n cap : Nat) (w0 : World) (hn : n ≤ 1000000) : ∀ (N A E : Nat) (x y : Int) (lim : Nat) (d0 : Array Int) (w : World), E - A < N → x = (A : Int) → y = (E : Int) → SRt B g n cap w0 d0 w → A ≤ E → E ≤ n → lim ≤ 1000 → Bel A E d0 →
    Calls Try.prog 68 #[.slice (some ⟨g, 0, none⟩) n cap, .int .i64 x, .int .i64 y, .int .i64 (lim : Int)] w (PdP B g n cap A E w0 d0) := by
  intro N
  induction N with
  | zero => intro A E x y lim d0 w h; omega
  | succ N ih =>
    intro A E x y lim d0 w hN hx hy h hAE hEn hlim hbel
    subst hx hy
    have IH := Lib.hid ih
    have HK0 := Lib.hid h
    have HQ0 := Lib.hid (Pq.start hAE (by rw [h.len]; exact hEn) hbel)
    clear ih h hbel
    go_enter Try.func68, Try.ntmps68
    go_wp2
    go_loopw [1, 2, 3, 8, 9, 10, 11, 12, 13, 14, 15, 16, 17, 18] (fun v1 v2 v3 v8 v9 _ _ _ _ _ _ _ _ _ wr => ∃ (a b l : Nat) (bal par : Bool) (d : Array Int), v1 = .int .i64 (a : Int) ∧ v2 = .int .i64 (b : Int) ∧ v3 = .int .i64 (l : Int) ∧ v8 = .bool bal ∧ v9 = .bool par ∧ l ≤ 1000 ∧ Hid (Pq A E d0 a b d) ∧ Hid (SRt B g n cap w0 d wr)) (fun v1 v2 _ _ _ _ _ _ _ _ _ _ _ _ _ => (intOf v2 - intOf v1).toNat)
    case atStart => exact ⟨A, E, lim, true, true, d0, rfl, rfl, rfl, rfl, rfl, hlim, HQ0, HK0⟩
    case round =>
      obtain ⟨a, b, l, bal, par, d, rfl, rfl, rfl, rfl, rfl, hl, HQ, HK⟩ := hrel
      clear HK0 HQ0
      have hAa := HQ.out.Aa
      have hab := HQ.out.ab
      have hbE := HQ.out.bE
      by_cases h12 : b - a ≤ 12
      · have h12' : decide ((b : Int) - (a : Int) ≤ 12) = true := by rw [decide_eq_true_eq]; omega
        go_wp2_with (go_at_call 102; refine (ins_any B g n cap a b d w0 _ HK.out hab (by omega) hn).mono ?_; rintro e w' ⟨rfl, HS⟩)
        have hi := Sort.insertionSort_holds Sort.swo_ltInt d a b hab HQ.out.size
        have hd := HQ.out.done hi.1 (srt_of hi.2)
        exact bodyPost_ret (v := .tuple #[]) (by simp [results, Try.results68, go_sem]) rfl ⟨_, rfl, hd.1, hd.2, Lib.hid HS⟩
      · have h12' : decide ((b : Int) - (a : Int) ≤ 12) = false := by rw [decide_eq_false_iff_not]; omega
        by_cases hl0 : l = 0
        · subst hl0
          go_wp2_with (go_at_call 103; refine (heap_any B g n cap a b d w0 _ HK.out hab (by omega) hn).mono ?_; rintro e w' ⟨rfl, HS⟩)
          have hi := Sort.heapSort_holds Sort.swo_ltInt d a b hab HQ.out.size
          have hd := HQ.out.done hi.1 (srt_of hi.2)
          exact bodyPost_ret (v := .tuple #[]) (by simp [results, Try.results68, go_sem]) rfl ⟨_, rfl, hd.1, hd.2, Lib.hid HS⟩
        · have hl0' : ((l : Int) == 0) = false := by rw [beq_eq_false_iff_ne]; omega
          have hab12 : a + 12 < b := by omega
          have hbn : b ≤ n := by omega
          go_upto_if 35 with (fail)
          go_cut [3, 35] from 36 to 41 (fun s _ wx => ∃ (l : Nat) (d : Array Int), s = .int .i64 (l : Int) ∧ l ≤ 1000 ∧ Hid (Pq A E d0 a b d) ∧ Hid (SRt B g n cap w0 d wx))
          case first =>
            cases bal
            · go_wp2_with (go_at_call 104; refine (break_any B g n cap a b d w0 _ HK.out hab12 hbn hn).mono ?_; rintro e w' ⟨d1, rfl, hp, HS⟩)
              go_meet
              exact ⟨l - 1, d1, by go_num, by omega, Lib.hid (HQ.out.perm' hp), HS⟩
            · go_wp2
              go_meet
              exact ⟨l, d, rfl, hl, HQ, HK⟩
          case rest =>
            obtain ⟨l1, d1, rfl, hl1, HQ1, HK1⟩ := hcut
            clear HQ HK hl0 hl0' hl
            go_wp2_with fail
            refine (pivot_any B g n cap a b d1 w0 _ HK1.out hab12 hbn hn).mono ?_
            rintro e w2 ⟨pv, t, rfl, hpa, hpb, ht, HK2⟩
            clear HK1
            go_upto_if 50 with (fail)
            go_cut [11, 12, 50] from 51 to 60 (fun s v _ wx => ∃ (pv : Nat) (t : Int) (d : Array Int), s = .int .i64 (pv : Int) ∧ v = .int .i64 t ∧ a ≤ pv ∧ pv < b ∧ Hid (Pq A E d0 a b d) ∧ Hid (SRt B g n cap w0 d wx))
            case first =>
              by_cases h2 : t = 2
              · subst h2
                go_wp2_with (go_at_call 106; refine (rev_any B g n cap a b d1 w0 _ HK2.out (by omega) hbn hn).mono ?_; rintro e w' ⟨d2, rfl, hp, HS⟩)
                go_meet
                exact ⟨b - 1 - (pv - a), 1, d2, by go_num, rfl, by omega, by omega, Lib.hid (HQ1.out.perm' hp), HS⟩
              · have h2' : (t == 2) = false := by rw [beq_eq_false_iff_ne]; exact h2
                go_wp2
                go_meet
                exact ⟨pv, t, d1, rfl, rfl, hpa, hpb, HQ1, HK2⟩
            case rest =>
              clear HQ1 HK2 hpa hpb ht
              obtain ⟨pv, t, d2, rfl, rfl, hpa, hpb, HQ2, HK2⟩ := hcut
              obtain ⟨c, hc⟩ : ∃ c : Bool, c = (bal && par && (t == 1)) := ⟨_, rfl⟩
              have HC := Lib.hid hc
              clear hc
              go_upto_region 15 with (fail)
              go_cut [68] from 61 to 68 (fun s wx => s = .bool c ∧ Hid (SRt B g n cap w0 d2 wx))
              case first =>
                cases bal
                · obtain rfl : c = false := by rw [HC.out]; rfl
                  go_wp2
                  go_meet
                  exact ⟨rfl, HK2⟩
                · cases par
                  · obtain rfl : c = false := by rw [HC.out]; rfl
                    go_wp2
                    go_meet
                    exact ⟨rfl, HK2⟩
                  · have hc : (t == 1) = c := by rw [HC.out]; rfl
                    go_wp2
                    go_meet
                    exact ⟨by first | rfl | rw [hc], HK2⟩
              case rest =>
                clear HK2
                obtain ⟨rfl, HK2⟩ := hcut
                go_upto_if 68 with (fail)
                go_cut [68] from 69 to 72 (fun _ wx => ∃ (d : Array Int), Hid (Pq A E d0 a b d) ∧ Hid (SRt B g n cap w0 d wx))
                case first =>
                  cases c
                  · go_wp2
                    go_meet
                    exact ⟨d2, HQ2, HK2⟩
                  · go_wp2_with fail
                    refine (pins_any B g n cap a b d2 w0 _ HK2.out (by omega) hbn hn).mono ?_
                    rintro e w3 ⟨ok, d3, rfl, hpi, HS⟩
                    have hi := Sort.partialInsertionSort_holds Sort.swo_ltInt d2 a b (by omega) HQ2.out.size HQ2.out.bel.lib
                    rw [hpi] at hi
                    cases ok
                    · have HQ3 := Lib.hid (HQ2.out.perm' hi.1)
                      clear hi hpi
                      go_wp2
                      go_meet
                      exact ⟨d3, HQ3, HS⟩
                    · have hd := HQ2.out.done hi.1 (srt_of (hi.2 rfl))
                      have HD := Lib.hid hd
                      clear hi hpi hd
                      go_wp2
                      exact bodyPost_ret (v := .tuple #[]) (by simp [results, Try.results68, go_sem]) rfl ⟨_, rfl, HD.out.1, HD.out.2, HS⟩
                case rest =>
                  clear HQ2 HK2
                  obtain ⟨d3, HQ3, HK3⟩ := hcut
                  go_upto_region 17 with (fail)
                  go_cut [87] from 73 to 87 (fun s wx => ∃ c : Bool, s = .bool c ∧ Hid (SRt B g n cap w0 d3 wx) ∧ Hid (c = true → 0 < a ∧ ¬ d3[a - 1]! < d3[pv]!))
                  case first =>
                    by_cases ha0 : a = 0
                    · have ha1 : decide ((0 : Int) < (a : Int)) = false := by rw [decide_eq_false_iff_not]; omega
                      have ha2 : decide (0 < a) = false := by rw [decide_eq_false_iff_not]; omega
                      clear ha0
                      go_wp2
                      go_quiet (first | (go_at_call 108; refine Calls.quiet_of_same (less_any _ _ _)) | (go_at_call 108; refine less_from _ _))
                      go_wp2
                      go_meet
                      exact ⟨false, rfl, Lib.hid (HK3.out.drewN _), Lib.hid (fun h => absurd h (by decide))⟩
                    · have ha1 : decide ((0 : Int) < (a : Int)) = true := by rw [decide_eq_true_eq]; omega
                      have ha2 : decide (0 < a) = true := by rw [decide_eq_true_eq]; omega
                      obtain ⟨q, hq⟩ : ∃ q, q = a - 1 := ⟨_, rfl⟩
                      have haq : (a : Int) - 1 = (q : Int) := by omega
                      have dx := HK3.out.cell (i := q) (by omega)
                      have dy := HK3.out.cell (i := pv) (by omega)
                      obtain ⟨x, hx⟩ : ∃ x, x = d3[q]! := ⟨_, rfl⟩
                      obtain ⟨y, hy⟩ : ∃ y, y = d3[pv]! := ⟨_, rfl⟩
                      rw [← hx] at dx
                      rw [← hy] at dy
                      have HX := Lib.hid hx
                      have HY := Lib.hid hy
                      have HQq := Lib.hid hq
                      clear hx hy hq
                      by_cases hc : x < y
                      · have hd : decide (x < y) = true := by rw [decide_eq_true_eq]; exact hc
                        go_wp2
                        go_quiet (first | (go_at_call 108; refine Calls.quiet_of_same (less_any _ _ _)) | (go_at_call 108; refine less_from _ _))
                        go_wp2
                        go_meet
                        exact ⟨false, rfl, Lib.hid (HK3.out.drewN _), Lib.hid (fun h => absurd h (by decide))⟩
                      · have hd : decide (x < y) = false := by rw [decide_eq_false_iff_not]; exact hc
                        have HC := Lib.hid hc
                        go_wp2
                        go_quiet (first | (go_at_call 108; refine Calls.quiet_of_same (less_any _ _ _)) | (go_at_call 108; refine less_from _ _))
                        go_wp2
                        go_meet
                        exact ⟨true, rfl, Lib.hid (HK3.out.drewN _), Lib.hid (fun _ => ⟨by omega, by rw [← HQq.out, ← HX.out, ← HY.out]; have := HC.out; omega⟩)⟩
                  case rest =>
                    clear HK3
                    obtain ⟨c, rfl, HK3, HE⟩ := hcut
                    cases c
                    · clear HE
                      go_wp2_with fail
                      refine (spart_any B g n cap a b pv d3 w0 _ HK3.out hpa hpb hbn hn).mono ?_
                      rintro e w4 ⟨m, ok, d4, rfl, hm1, hm2, hp, hpm, hlo, hhi, HS⟩
                      have HQ4 := Lib.hid (HQ3.out.perm' hp)
                      have HPM := Lib.hid hpm
                      have HLO := Lib.hid hlo
                      have HHI := Lib.hid hhi
                      clear hp hpm hlo hhi HK3 HQ3
                      by_cases hlr : (m : Int) - (a : Int) < (b : Int) - (m : Int)
                      · have hlr' : decide ((m : Int) - (a : Int) < (b : Int) - (m : Int)) = true := by rw [decide_eq_true_eq]; exact hlr
                        go_wp2_with fail
                        refine (IH.out a m (a : Int) (m : Int) l1 d4 _ (by omega) rfl rfl HS.out hm1 (by omega) hl1 (HQ4.out.bel_left hm2)).mono ?_
                        rintro e w5 ⟨d5, rfl, hp5, hs5, HS5⟩
                        have HQ5 := Lib.hid (HQ4.out.left hm1 hm2 HPM.out HLO.out HHI.out hp5 hs5)
                        clear hp5 hs5
                        go_wp2
                        go_roundw
                        case rel => exact ⟨m + 1, b, l1, _, ok, d5, by go_num, rfl, rfl, rfl, rfl, hl1, HQ5, HS5⟩
                        case measure => simp [intOf]; omega
                      · have hlr' : decide ((m : Int) - (a : Int) < (b : Int) - (m : Int)) = false := by rw [decide_eq_false_iff_not]; exact hlr
                        go_wp2_with fail
                        refine (IH.out (m + 1) b ((m : Int) + 1) (b : Int) l1 d4 _ (by omega) (by omega) rfl HS.out (by omega) hbn hl1 (bel_right HPM.out HHI.out)).mono ?_
                        rintro e w5 ⟨d5, rfl, hp5, hs5, HS5⟩
                        have HQ5 := Lib.hid (HQ4.out.right hm1 hm2 HPM.out HLO.out HHI.out hp5 hs5)
                        clear hp5 hs5
                        go_wp2
                        go_roundw
                        case rel => exact ⟨a, m, l1, _, ok, d5, rfl, rfl, rfl, rfl, rfl, hl1, HQ5, HS5⟩
                        case measure => simp [intOf]; omega
                    · obtain ⟨he1, he2⟩ := HE.out rfl
                      have HE2 := Lib.hid he2
                      clear he2 HE
                      go_wp2_with fail
                      refine (partEq_any B g n cap a b pv d3 w0 _ HK3.out hpa hpb hbn hn).mono ?_
                      rintro e w4 ⟨m, d4, rfl, hm1, hm2, hp, hlo, hhi, HS⟩
                      have HQ4 := Lib.hid (HQ3.out.eq (pv := pv) he1 (by have := HE2.out; omega) hm1 hm2 hp hlo hhi)
                      clear hp hlo hhi
                      go_wp2
                      go_roundw
                      case rel => exact ⟨m, b, l1, bal, par, d4, rfl, rfl, rfl, rfl, rfl, hl1, HQ4, Lib.hid HS⟩
                      case measure => simp [intOf]; omega
end Go.Proofs.Ytjfnhjmdgfkgnaa


/- slices.Sort of numbers. -/
namespace Go.Proofs.Ytjfnhjmdgfkgnaa
open Go.RowKit Go.Proofs.Kit
set_option maxRecDepth 100000 in
theorem ins_nil (c : Nat) (w : World) : Calls Try.prog 102 #[.slice none 0 c, .int .i64 0, .int .i64 0] w fun e w' => e = .returned (.tuple #[]) ∧ w' = w := by
  go_enter Try.func102, Try.ntmps102
  go_wp2
  go_loopw [6, 7] (fun i _ wr => i = .int .i64 1 ∧ wr = w) (fun _ _ _ => 0)
  case atStart => exact ⟨rfl, rfl⟩
  case round =>
    obtain ⟨rfl, rfl⟩ := hrel
    go_wp2
    go_end0
    exact ⟨rfl, rfl⟩
set_option maxRecDepth 100000 in
theorem pdq_nil (c : Nat) (l : Int) (w : World) : Calls Try.prog 68 #[.slice none 0 c, .int .i64 0, .int .i64 0, .int .i64 l] w fun e w' => e = .returned (.tuple #[]) ∧ w' = w := by
  go_enter Try.func68, Try.ntmps68
  go_wp2
  go_loopw [1, 2, 3, 8, 9, 10, 11, 12, 13, 14, 15, 16, 17, 18] (fun v1 v2 _ _ _ _ _ _ _ _ _ _ _ _ wr => v1 = .int .i64 0 ∧ v2 = .int .i64 0 ∧ wr = w) (fun _ _ _ _ _ _ _ _ _ _ _ _ _ _ _ => 0)
  case atStart => exact ⟨rfl, rfl, rfl⟩
  case round =>
    obtain ⟨rfl, rfl, rfl⟩ := hrel
    go_wp2_with (go_at_call 102; refine (ins_nil c _).mono ?_; rintro e w' ⟨rfl, rfl⟩)
    exact bodyPost_ret (v := .tuple #[]) (by simp [results, Try.results68, go_sem]) rfl ⟨rfl, rfl⟩
theorem bitLen_le : ∀ f x, Lib.bitLenAux f x ≤ f := by
  intro f
  induction f with
  | zero => intro x; simp [Lib.bitLenAux]
  | succ f ih =>
    intro x
    rw [Lib.bitLenAux]
    split
    · omega
    · have := ih (x / 2); omega
/-- What the sort comes to. -/
def SoP (B : Nat) (v : Value) (l : List Int) (w : World) (e : Ending) (w' : World) : Prop :=
  ∃ l' : List Int, e = .returned (.tuple #[]) ∧ Ow 52 B w' v (l'.map (Value.int .u64)) ∧ l'.length = l.length ∧ l'.Pairwise (· ≤ ·) ∧ Below B w w'
set_option maxRecDepth 100000 in
set_option maxHeartbeats 1000000 in
theorem sort_any (B : Nat) (v : Value) (l : List Int) (w : World) (h : Ow 52 B w v (l.map (Value.int .u64))) (hl : l.length ≤ 1000000) (hB : B ≤ w.heap.size) :
    Calls Try.prog 31 #[v] w (SoP B v l w) := by
  have H := Lib.hid h
  rcases h.2 with ⟨rfl, h2⟩ | ⟨g, cap, cur, rfl, hg, hb, h1, h2, h3, h4⟩
  · have hl0 : l = [] := by simpa using h2
    subst hl0
    go_enter Try.func31, Try.ntmps31
    go_wp2_with (first | (go_at_call 69; refine (Try.bits_Len 0 _ (by omega) (by omega)).mono ?_; rintro e w' ⟨rfl, rfl⟩) | (go_at_call 68; refine (pdq_nil _ _ _).mono ?_; rintro e w' ⟨rfl, rfl⟩))
    go_end0
    exact ⟨[], rfl, H.out, rfl, List.Pairwise.nil, Below.refl _ _⟩
  · clear hb h1 h2 h3 h4 h
    obtain ⟨n, hn⟩ : ∃ n, n = l.length := ⟨_, rfl⟩
    have hs0 := SR.start (d := l.toArray) (n := n) (g := g) (cap := cap) (by rw [hn]; simpa using H.out) (by simp [hn])
    have HS := Lib.hid hs0
    have HL := Lib.hid hn
    rw [List.length_map, ← hn]
    have hn1 : n ≤ 1000000 := by omega
    have hwn : IntKind.u64.wrap (n : Int) = (n : Int) := by rw [IntKind.wrap_u64]; omega
    obtain ⟨lim, hlim⟩ : ∃ lim, lim = Lib.bitLen n := ⟨_, rfl⟩
    have hlm : lim ≤ 1000 := by
      rw [hlim]
      have := bitLen_le 64 n
      unfold Lib.bitLen
      omega
    have hlen := fun w => Try.bits_Len (n : Int) w (by omega) (by omega)
    rw [Int.toNat_natCast, ← hlim] at hlen
    have hpd := pdq_rec B g n cap w hn1 (n + 1) 0 n 0 (n : Int) lim l.toArray w (by omega) rfl rfl HS.out (Nat.zero_le _) (Nat.le_refl _) hlm (.inl rfl)
    have hgB : B ≤ g := HS.out.ge
    clear hs0 hlim hlm hn
    go_enter Try.func31, Try.ntmps31
    go_wp2_with (first | (go_at_call 69; refine (hlen _).mono ?_; rintro e w' ⟨rfl, rfl⟩) | (go_at_call 68; refine hpd.mono ?_; rintro e w' ⟨d, rfl, hp, hs, HR⟩))
    go_end0
    have hd : d.size = n := HR.out.len
    refine ⟨d.toList, rfl, by simpa using HR.out.ow, by rw [Array.length_toList, hd]; exact HL.out, ?_, HR.out.but.below (fun b hb => by rw [hb]; exact hgB) hB⟩
    rw [List.pairwise_iff_getElem]
    intro i j hi hj hij
    have h0 := hs i j (Nat.zero_le _) hij (by rw [← hd]; simpa using hj)
    rw [getE d (i := j) (by simpa using hj), getE d (i := i) (by simpa using hi)] at h0
    simpa using h0
end Go.Proofs.Ytjfnhjmdgfkgnaa

