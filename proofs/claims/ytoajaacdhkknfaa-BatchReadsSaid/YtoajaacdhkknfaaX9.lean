/- Rows of changes; slices.Equal of changes. -/
import Derived.Test.YtoajaacdhkknfaaX6
namespace Go.Proofs.Kit
open Go.RowKit
def cc (c : Chg) : List Value := [.int .i64 c.kind, .string c.key, .string c.name, .string c.val, .string c.to]
/-- How changes lie. -/
def chgE : Enc Chg := ⟨5, cc, fun _ => rfl, fun x u h => by simp only [cc, List.mem_cons, List.not_mem_nil, or_false] at h; rcases h with rfl | rfl | rfl | rfl | rfl <;> rfl, by decide⟩
theorem ch_cells {w : World} {b off : Nat} {l : List Chg} (h : ECells chgE w b off l) (i : Nat) (hi : i < l.length) :
    w.cell? ⟨b, off + i * 5, none⟩ = some (.int .i64 l[i].kind) ∧ w.cell? ⟨b, off + i * 5 + 1, none⟩ = some (.string l[i].key) ∧ w.cell? ⟨b, off + i * 5 + 2, none⟩ = some (.string l[i].name) ∧ w.cell? ⟨b, off + i * 5 + 3, none⟩ = some (.string l[i].val) ∧ w.cell? ⟨b, off + i * 5 + 4, none⟩ = some (.string l[i].to) :=
  ⟨h i hi 0 _ rfl, h i hi 1 _ rfl, h i hi 2 _ rfl, h i hi 3 _ rfl, h i hi 4 _ rfl⟩
end Go.Proofs.Kit
namespace Go.Proofs.Ytoajaacdhkknfaa
open Go.RowKit Go.Proofs.Kit Go.Shelf
set_option maxRecDepth 100000 in
set_option maxHeartbeats 1000000 in
theorem equalC_lens (o1 o2 : Option Addr) (n1 n2 c1 c2 : Nat) (hne : n1 ≠ n2) (w : World) :
    Calls Try.prog 20 #[.slice o1 n1 c1, .slice o2 n2 c2] w fun e w' => e = .returned (.bool false) ∧ w' = w := by
  have h1 : ((n1 : Int) != (n2 : Int)) = true := by simp; omega
  clear hne
  go_enter Try.func20, Try.ntmps20
  go_wp2
  go_ret
  exact ⟨rfl, rfl⟩
set_option maxRecDepth 100000 in
set_option maxHeartbeats 1000000 in
theorem equalC_none (o1 o2 : Option Addr) (c1 c2 : Nat) (w : World) :
    Calls Try.prog 20 #[.slice o1 0 c1, .slice o2 0 c2] w fun e w' => e = .returned (.bool true) ∧ w' = w := by
  go_enter Try.func20, Try.ntmps20
  go_wp2
  go_loop [5, 13] (fun _ i => i = .int .i64 0) (fun _ _ => 0)
  case atStart => rfl
  case round =>
    subst hrel
    go_wp2
    go_ret
    exact ⟨rfl, rfl⟩
set_option maxRecDepth 100000 in
set_option maxHeartbeats 4000000 in
theorem equalC_some (b1 f1 b2 f2 n c1 c2 : Nat) (l1 l2 : List Chg) (w : World) (hn : n ≤ 1844674407370955161) (e1 : l1.length = n) (e2 : l2.length = n)
    (b1' : b1 < w.heap.size) (b2' : b2 < w.heap.size) (hc1 : ECells chgE w b1 f1 l1) (hc2 : ECells chgE w b2 f2 l2) :
    Calls Try.prog 20 #[.slice (some ⟨b1, f1, none⟩) n c1, .slice (some ⟨b2, f2, none⟩) n c2] w fun e w' => e = .returned (.bool (decide (l1 = l2))) ∧ Gr w w' := by
  have H1 := Lib.hid hc1; clear hc1
  have H2 := Lib.hid hc2; clear hc2
  have E1 := Lib.hid e1; clear e1
  have E2 := Lib.hid e2; clear e2
  go_enter Try.func20, Try.ntmps20
  go_wp2
  go_loopw [5, 13] (fun _ i wr => ∃ k : Nat, k ≤ n ∧ i = .int .i64 k ∧ Hid (l1.take k = l2.take k) ∧ Gr w wr) (fun _ i _ => n - (intOf i).toNat)
  case atStart => exact ⟨0, Nat.zero_le _, rfl, Lib.hid (by simp), Gr.refl _⟩
  case round =>
    obtain ⟨k, hk, rfl, hp, hB⟩ := hrel
    by_cases hlt : k < n
    · have k1 : k < l1.length := by have := E1.out; omega
      have k2 : k < l2.length := by have := E2.out; omega
      obtain ⟨d1, d2, d3, d4, d5⟩ := ch_cells (H1.out.below hB.below b1') k k1
      obtain ⟨p1, p2, p3, p4, p5⟩ := ch_cells (H2.out.below hB.below b2') k k2
      obtain ⟨x, hx⟩ : ∃ x, x = l1[k] := ⟨_, rfl⟩
      obtain ⟨y, hy⟩ : ∃ y, y = l2[k] := ⟨_, rfl⟩
      rw [← hx] at d1 d2 d3 d4 d5
      rw [← hy] at p1 p2 p3 p4 p5
      have HX := Lib.hid hx; clear hx
      have HY := Lib.hid hy; clear hy
      obtain ⟨x1, x2, x3, x4, x5⟩ := x
      obtain ⟨y1, y2, y3, y4, y5⟩ := y
      simp only at d1 d2 d3 d4 d5 p1 p2 p3 p4 p5
      have hNE : ¬ (x1 = y1 ∧ x2 = y2 ∧ x3 = y3 ∧ x4 = y4 ∧ x5 = y5) → decide (l1 = l2) = false := by
        intro hh
        simp only [decide_eq_false_iff_not]
        intro e
        have a := HX.out
        have b := HY.out
        subst e
        have := a.trans b.symm
        injection this with e1 e2 e3 e4 e5
        exact hh ⟨e1, e2, e3, e4, e5⟩
      have HNE := Lib.hid hNE
      clear hNE
      by_cases h1 : x1 = y1
      · subst h1
        by_cases h2 : x2 = y2
        · subst h2
          by_cases h3 : x3 = y3
          · subst h3
            by_cases h4 : x4 = y4
            · subst h4
              by_cases h5 : x5 = y5
              · subst h5
                go_wp2
                go_quiet (fail)
                go_wp2
                go_roundw
                case rel =>
                  refine ⟨k + 1, by omega, by go_num, Lib.hid ?_, hB.trans (Gr.drewN _ _)⟩
                  rw [List.take_succ_eq_append_getElem k1, List.take_succ_eq_append_getElem k2, hp.out, ← HX.out, ← HY.out]
                case measure => simp [intOf]; omega
              · have t1 : (x5.toList == y5.toList) = false := ne_s h5
                have HQ := Lib.hid (HNE.out (fun h => h5 h.2.2.2.2))
                clear h5
                go_wp2
                go_quiet (fail)
                go_wp2
                go_ret
                rw [HQ.out]
                exact ⟨rfl, hB.trans (Gr.drewN _ _)⟩
            · have t1 : (x4.toList == y4.toList) = false := ne_s h4
              have HQ := Lib.hid (HNE.out (fun h => h4 h.2.2.2.1))
              clear h4
              go_wp2
              go_quiet (fail)
              go_wp2
              go_ret
              rw [HQ.out]
              exact ⟨rfl, hB.trans (Gr.drewN _ _)⟩
          · have t1 : (x3.toList == y3.toList) = false := ne_s h3
            have HQ := Lib.hid (HNE.out (fun h => h3 h.2.2.1))
            clear h3
            go_wp2
            go_quiet (fail)
            go_wp2
            go_ret
            rw [HQ.out]
            exact ⟨rfl, hB.trans (Gr.drewN _ _)⟩
        · have t1 : (x2.toList == y2.toList) = false := ne_s h2
          have HQ := Lib.hid (HNE.out (fun h => h2 h.2.1))
          clear h2
          go_wp2
          go_quiet (fail)
          go_wp2
          go_ret
          rw [HQ.out]
          exact ⟨rfl, hB.trans (Gr.drewN _ _)⟩
      · have t1 : (x1 == y1) = false := by simpa using h1
        have t2 : (x1 != y1) = true := by simpa using h1
        have HQ := Lib.hid (HNE.out (fun h => h1 h.1))
        clear h1
        go_wp2
        go_quiet (fail)
        go_wp2
        go_ret
        rw [HQ.out]
        exact ⟨rfl, hB.trans (Gr.drewN _ _)⟩
    · have hq : decide (l1 = l2) = true := by
        simp only [decide_eq_true_eq]
        have := hp.out
        rwa [List.take_of_length_le (by have := E1.out; omega), List.take_of_length_le (by have := E2.out; omega)] at this
      have HQ := Lib.hid hq
      clear hq
      go_wp2
      go_ret
      rw [HQ.out]
      exact ⟨rfl, hB⟩
theorem equalC_seg (v1 v2 : Value) (l1 l2 : List Chg) (w : World) (h1 : SegE chgE w v1 l1) (h2 : SegE chgE w v2 l2) :
    Calls Try.prog 20 #[v1, v2] w fun e w' => e = .returned (.bool (decide (l1 = l2))) ∧ Gr w w' := by
  have hl1 : l1.length * 5 ≤ 9223372036854775807 := h1.1
  obtain ⟨o1, c1, rfl, hc1, hm1, a1⟩ := h1.shape
  obtain ⟨o2, c2, rfl, hc2, hm2, a2⟩ := h2.shape
  by_cases hl : l1.length = l2.length
  · rcases a1 with rfl | ⟨b1, f1, rfl, q1, a1⟩
    · obtain rfl : l2 = [] := List.length_eq_zero_iff.1 hl.symm
      exact (equalC_none o1 o2 c1 c2 w).mono fun e w' ⟨he, hw⟩ => ⟨by simpa using he, hw ▸ Gr.refl _⟩
    · rcases a2 with rfl | ⟨b2, f2, rfl, q2, a2⟩
      · obtain rfl : l1 = [] := List.length_eq_zero_iff.1 hl
        exact (equalC_none _ o2 c1 c2 w).mono fun e w' ⟨he, hw⟩ => ⟨by simpa using he, hw ▸ Gr.refl _⟩
      · rw [← hl]
        exact equalC_some b1 f1 b2 f2 l1.length c1 c2 l1 l2 w (by omega) rfl hl.symm q1 q2 a1 a2
  · refine (equalC_lens o1 o2 _ _ c1 c2 hl w).mono fun e w' ⟨he, hw⟩ => ⟨?_, hw ▸ Gr.refl _⟩
    have : l1 ≠ l2 := fun e => hl (by rw [e])
    simpa [this] using he
end Go.Proofs.Ytoajaacdhkknfaa

