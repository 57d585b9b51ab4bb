/- slices.Equal of branches; same of stage 7's laws; small. -/
import Derived.Test.YtjfnhjmdgfkgnaaU13
import Derived.Test.YtjfnhjmdgfkgnaaKitB
namespace Go.Proofs.Ytjfnhjmdgfkgnaa
open Go.RowKit Go.Proofs.Kit
set_option maxRecDepth 100000 in
set_option maxHeartbeats 1000000 in
theorem equalB_lens (o1 o2 : Option Addr) (n1 n2 c1 c2 : Nat) (hne : n1 ≠ n2) (w : World) :
    Calls Try.prog 52 #[.slice o1 n1 c1, .slice o2 n2 c2] w fun e w' => e = .returned (.bool false) ∧ w' = w := by
  have h1 : ((n1 : Int) != (n2 : Int)) = true := by simp; omega
  clear hne
  go_enter Try.func52, Try.ntmps52
  go_wp2
  go_ret
  exact ⟨rfl, rfl⟩
set_option maxRecDepth 100000 in
set_option maxHeartbeats 1000000 in
theorem equalB_none (o1 o2 : Option Addr) (c1 c2 : Nat) (w : World) :
    Calls Try.prog 52 #[.slice o1 0 c1, .slice o2 0 c2] w fun e w' => e = .returned (.bool true) ∧ w' = w := by
  go_enter Try.func52, Try.ntmps52
  go_wp2
  go_loop [5, 13] (fun _ i => i = .int .i64 0) (fun _ _ => 0)
  case atStart => rfl
  case round =>
    subst hrel
    go_wp2
    go_ret
    exact ⟨rfl, rfl⟩
set_option maxRecDepth 100000 in
set_option maxHeartbeats 2000000 in
theorem equalB_some (b1 f1 b2 f2 n c1 c2 : Nat) (l1 l2 : List Br) (w : World) (hn : n ≤ 3074457345618258602) (e1 : l1.length = n) (e2 : l2.length = n)
    (b1' : b1 < w.heap.size) (b2' : b2 < w.heap.size) (hc1 : RCells w b1 f1 l1) (hc2 : RCells w b2 f2 l2) :
    Calls Try.prog 52 #[.slice (some ⟨b1, f1, none⟩) n c1, .slice (some ⟨b2, f2, none⟩) n c2] w fun e w' => e = .returned (.bool (decide (l1 = l2))) ∧ Gr w w' := by
  have H1 := Lib.hid hc1; clear hc1
  have H2 := Lib.hid hc2; clear hc2
  have E1 := Lib.hid e1; clear e1
  have E2 := Lib.hid e2; clear e2
  go_enter Try.func52, Try.ntmps52
  go_wp2
  go_loopw [5, 13] (fun _ i wr => ∃ k : Nat, k ≤ n ∧ i = .int .i64 k ∧ Hid (l1.take k = l2.take k) ∧ Gr w wr) (fun _ i _ => n - (intOf i).toNat)
  case atStart => exact ⟨0, Nat.zero_le _, rfl, Lib.hid (by simp), Gr.refl _⟩
  case round =>
    obtain ⟨k, hk, rfl, hp, hB⟩ := hrel
    by_cases hlt : k < n
    · have k1 : k < l1.length := by have := E1.out; omega
      have k2 : k < l2.length := by have := E2.out; omega
      obtain ⟨d1, d2, d5⟩ := (H1.out.below hB.below b1') k k1
      obtain ⟨d3, d4, d6⟩ := (H2.out.below hB.below b2') k k2
      obtain ⟨x, hx⟩ : ∃ x, x = l1[k] := ⟨_, rfl⟩
      obtain ⟨y, hy⟩ : ∃ y, y = l2[k] := ⟨_, rfl⟩
      rw [← hx] at d1 d2 d5
      rw [← hy] at d3 d4 d6
      have HX := Lib.hid hx; clear hx
      have HY := Lib.hid hy; clear hy
      obtain ⟨x1, x2, x3⟩ := x
      obtain ⟨y1, y2, y3⟩ := y
      simp only at d1 d2 d3 d4 d5 d6
      have hNE : ¬ (x1 = y1 ∧ x2 = y2 ∧ x3 = y3) → decide (l1 = l2) = false := by
        intro hh
        simp only [decide_eq_false_iff_not]
        intro e
        have a := HX.out
        have b := HY.out
        subst e
        have := a.trans b.symm
        injection this with e1 this
        injection this with e2 e3
        exact hh ⟨e1, e2, e3⟩
      have HNE := Lib.hid hNE
      clear hNE
      by_cases h1 : x1 = y1
      · have t1 : (x1 == y1) = true := by simpa using h1
        have t3 : (x1 != y1) = false := by simpa using h1
        by_cases h2 : x2 = y2
        · have t2 : (x2 == y2) = true := by simpa using h2
          have t4 : (x2 != y2) = false := by simpa using h2
          by_cases h3 : x3 = y3
          · have t5 : (x3 == y3) = true := by simpa using h3
            have t6 : (x3 != y3) = false := by simpa using h3
            have Q1 := Lib.hid (show ((x1, x2, x3) : Br) = (y1, y2, y3) by rw [h1, h2, h3])
            clear h1 h2 h3
            go_wp2
            go_quiet (fail)
            go_wp2
            go_roundw
            case rel =>
              refine ⟨k + 1, by omega, by go_num, Lib.hid ?_, hB.trans (Gr.drewN _ _)⟩
              rw [List.take_succ_eq_append_getElem k1, List.take_succ_eq_append_getElem k2, hp.out, ← HX.out, ← HY.out, Q1.out]
            case measure => simp [intOf]; omega
          · have t5 : (x3 == y3) = false := by simpa using h3
            have t6 : (x3 != y3) = true := by simpa using h3
            have HQ := Lib.hid (HNE.out (fun h => h3 h.2.2))
            clear h1 h2 h3
            go_wp2
            go_quiet (fail)
            go_wp2
            go_ret
            rw [HQ.out]
            exact ⟨rfl, hB.trans (Gr.drewN _ _)⟩
        · have t2 : (x2 == y2) = false := by simpa using h2
          have t4 : (x2 != y2) = true := by simpa using h2
          have HQ := Lib.hid (HNE.out (fun h => h2 h.2.1))
          clear h1 h2
          go_wp2
          go_quiet (fail)
          go_wp2
          go_ret
          rw [HQ.out]
          exact ⟨rfl, hB.trans (Gr.drewN _ _)⟩
      · have t1 : (x1 == y1) = false := by simpa using h1
        have t3 : (x1 != y1) = true := by simpa using h1
        have HQ := Lib.hid (HNE.out (fun h => h1 h.1))
        clear h1
        go_wp2
        go_quiet (fail)
        go_wp2
        go_ret
        rw [HQ.out]
        exact ⟨rfl, hB.trans (Gr.drewN _ _)⟩
    · have hq : decide (l1 = l2) = true := by
        simp only [decide_eq_true_eq]
        have := hp.out
        rwa [List.take_of_length_le (by have := E1.out; omega), List.take_of_length_le (by have := E2.out; omega)] at this
      have HQ := Lib.hid hq
      clear hq
      go_wp2
      go_ret
      rw [HQ.out]
      exact ⟨rfl, hB⟩
theorem equalB_seg (v1 v2 : Value) (l1 l2 : List Br) (w : World) (h1 : SegR w v1 l1) (h2 : SegR w v2 l2) :
    Calls Try.prog 52 #[v1, v2] w fun e w' => e = .returned (.bool (decide (l1 = l2))) ∧ Gr w w' := by
  have hl1 := h1.1
  obtain ⟨o1, c1, rfl, hc1, hm1, a1⟩ := h1.shape
  obtain ⟨o2, c2, rfl, hc2, hm2, a2⟩ := h2.shape
  by_cases hl : l1.length = l2.length
  · rcases a1 with rfl | ⟨b1, f1, rfl, q1, a1⟩
    · obtain rfl : l2 = [] := List.length_eq_zero_iff.1 hl.symm
      exact (equalB_none o1 o2 c1 c2 w).mono fun e w' ⟨he, hw⟩ => ⟨by simpa using he, hw ▸ Gr.refl _⟩
    · rcases a2 with rfl | ⟨b2, f2, rfl, q2, a2⟩
      · obtain rfl : l1 = [] := List.length_eq_zero_iff.1 hl
        exact (equalB_none _ o2 c1 c2 w).mono fun e w' ⟨he, hw⟩ => ⟨by simpa using he, hw ▸ Gr.refl _⟩
      · rw [← hl]
        exact equalB_some b1 f1 b2 f2 l1.length c1 c2 l1 l2 w hl1 rfl hl.symm q1 q2 a1 a2
  · refine (equalB_lens o1 o2 _ _ c1 c2 hl w).mono fun e w' ⟨he, hw⟩ => ⟨?_, hw ▸ Gr.refl _⟩
    have : l1 ≠ l2 := fun e => hl (by rw [e])
    simpa [this] using he

set_option maxRecDepth 100000 in
set_option maxHeartbeats 2000000 in
theorem same7_any (v1 v2 v3 v4 : Value) (b1 b2 : List Br) (l1 l2 : List Int) (w : World) (h1 : SegR w v1 b1) (h2 : Seg .u64 w v2 l1) (h3 : SegR w v3 b2) (h4 : Seg .u64 w v4 l2) :
    Calls Try.prog 30 #[.agg #[v1, v2], .agg #[v3, v4]] w fun e w' => e = .returned (.bool (decide (b1 = b2) && decide (l1 = l2))) ∧ Below w.heap.size w w' := by
  obtain ⟨o1, c1, rfl, _, _, _⟩ := h1.shape
  obtain ⟨o2, c2, rfl, _, _, _⟩ := h2.shape
  obtain ⟨o3, c3, rfl, _, _, _⟩ := h3.shape
  obtain ⟨o4, c4, rfl, _, _, _⟩ := h4.shape
  obtain ⟨n1, hn1⟩ : ∃ n, n = b1.length := ⟨_, rfl⟩
  obtain ⟨n2, hn2⟩ : ∃ n, n = l1.length := ⟨_, rfl⟩
  obtain ⟨n3, hn3⟩ : ∃ n, n = b2.length := ⟨_, rfl⟩
  obtain ⟨n4, hn4⟩ : ∃ n, n = l2.length := ⟨_, rfl⟩
  rw [← hn1, ← hn3]
  rw [← hn1] at h1
  rw [← hn2] at h2 ⊢
  rw [← hn3] at h3
  rw [← hn4] at h4 ⊢
  have HE := Lib.hid (fun W (g : Below w.heap.size w W) => equalB_seg _ _ b1 b2 W (h1.later g) (h3.later g))
  have HU := Lib.hid (fun W (g : Below w.heap.size w W) => equalu_seg _ _ l1 l2 W (h2.later g) (h4.later g))
  obtain ⟨B, hB⟩ : ∃ B, B = decide (b1 = b2) := ⟨_, rfl⟩
  obtain ⟨L, hL⟩ : ∃ L, L = decide (l1 = l2) := ⟨_, rfl⟩
  rw [← hB] at HE ⊢
  rw [← hL] at HU ⊢
  clear h1 h2 h3 h4 hn1 hn2 hn3 hn4 hB hL
  go_enter Try.func30, Try.ntmps30
  go_wp2_with fail
  obtain ⟨W0, hW0⟩ : ∃ W0, W0 = (w.alloc (.cells #[.slice o1 n1 c1, .slice o2 n2 c2] 25)).alloc (.cells #[.slice o3 n3 c3, .slice o4 n4 c4] 25) := ⟨_, rfl⟩
  have k0 : Blk W0 w.heap.size #[.slice o1 n1 c1, .slice o2 n2 c2] 25 := by rw [hW0]; exact (Blk.new _ _ _).alloc _
  have k1 : Blk W0 (w.heap.size + 1) #[.slice o3 n3 c3, .slice o4 n4 c4] 25 := by rw [hW0]; have := Blk.new (w.alloc (.cells #[.slice o1 n1 c1, .slice o2 n2 c2] 25)) #[.slice o3 n3 c3, .slice o4 n4 c4] 25; simpa using this
  have lo0 : Below w.heap.size w W0 := by rw [hW0]; exact ((Gr.alloc _ _).trans (Gr.alloc _ _)).below
  rw [← hW0]
  clear hW0
  refine (HE.out W0 lo0).mono ?_
  rintro e w1 ⟨rfl, g1⟩
  obtain ⟨c0, c1', l0⟩ := (k0.later g1.below).two
  obtain ⟨d0, d1, l1'⟩ := (k1.later g1.below).two
  have lo1 := Lib.hid (below_later lo0 g1.below)
  clear k0 k1 g1 lo0
  cases B
  · go_wp2
    go_ret
    exact ⟨rfl, lo1.out⟩
  · go_wp2_with fail
    refine (HU.out w1 lo1.out).mono ?_
    rintro e w2 ⟨rfl, l2⟩
    go_wp2
    go_ret
    exact ⟨by simp, below_later lo1.out l2⟩
def smallP : List Pr := [(1, 5), (2, 3), (2, 9)]
set_option maxRecDepth 100000 in
set_option maxHeartbeats 1000000 in
theorem small7_any (w : World) : Calls Try.prog 51 #[] w fun e w' => e = .returned (.slice (some ⟨w.heap.size, 0, none⟩) 3 3) ∧ w' = w.alloc (.cells #[.int .u64 1, .int .u64 5, .int .u64 2, .int .u64 3, .int .u64 2, .int .u64 9] 83) := by
  go_enter Try.func51, Try.ntmps51
  go_wp2
  go_ret
  exact ⟨rfl, rfl⟩
end Go.Proofs.Ytjfnhjmdgfkgnaa

