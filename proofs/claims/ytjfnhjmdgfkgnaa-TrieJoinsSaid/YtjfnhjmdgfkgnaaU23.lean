/- The reference of stage 7: Same. -/
import Derived.Test.YtjfnhjmdgfkgnaaU19
namespace Go.Proofs.Ytjfnhjmdgfkgnaa
open Go.RowKit Go.Proofs.Kit
set_option maxRecDepth 100000 in
set_option maxHeartbeats 4000000 in
theorem zsame_any (v1 v2 v3 v4 : Value) (b1 b2 : List Br) (l1 l2 : List Int) (w : World) (h1 : SegR w v1 b1) (h2 : Seg .u64 w v2 l1) (h3 : SegR w v3 b2) (h4 : Seg .u64 w v4 l2) :
    Calls Try.prog 20 #[.agg #[v1, v2], .agg #[v3, v4]] w fun e w' => e = .returned (.bool (decide (b1 = b2) && decide (l1 = l2))) ∧ Gr w w' := by
  have h63a := h1.1
  have h63b := h2.1
  obtain ⟨o1, c1, rfl, _, _, a1⟩ := h1.shape
  obtain ⟨o2, c2, rfl, _, _, a2⟩ := h2.shape
  obtain ⟨o3, c3, rfl, _, _, a3⟩ := h3.shape
  obtain ⟨o4, c4, rfl, _, _, a4⟩ := h4.shape
  obtain ⟨R, hR⟩ : ∃ R, R = (decide (b1 = b2) && decide (l1 = l2)) := ⟨_, rfl⟩
  rw [← hR]
  have HRF := Lib.hid (fun (h : ¬ (b1 = b2 ∧ l1 = l2)) => show R = false by
    rw [hR]
    by_cases e1 : b1 = b2
    · have e2 : ¬ l1 = l2 := fun e => h ⟨e1, e⟩
      simp [e2]
    · simp [e1])
  have HRT := Lib.hid (fun (e1 : b1 = b2) (e2 : l1 = l2) => show R = true by rw [hR]; simp [e1, e2])
  clear hR h1 h2 h3 h4
  obtain ⟨n1, hn1⟩ : ∃ n, n = b1.length := ⟨_, rfl⟩
  obtain ⟨n2, hn2⟩ : ∃ n, n = l1.length := ⟨_, rfl⟩
  obtain ⟨n3, hn3⟩ : ∃ n, n = b2.length := ⟨_, rfl⟩
  obtain ⟨n4, hn4⟩ : ∃ n, n = l2.length := ⟨_, rfl⟩
  rw [← hn1] at h63a ⊢
  rw [← hn2] at h63b ⊢
  rw [← hn3, ← hn4]
  have A1 := Lib.hid a1
  have A2 := Lib.hid a2
  have A3 := Lib.hid a3
  have A4 := Lib.hid a4
  clear a1 a2 a3 a4
  by_cases q1 : n1 = n3
  · by_cases q2 : n2 = n4
    · subst q1 q2
      have t1 : ((n1 : Int) != (n1 : Int)) = false := by simp
      have t2 : ((n2 : Int) != (n2 : Int)) = false := by simp
      have HN1 := Lib.hid hn1
      have HN2 := Lib.hid hn2
      have HN3 := Lib.hid hn3
      have HN4 := Lib.hid hn4
      clear hn1 hn2 hn3 hn4
      go_enter Try.func20, Try.ntmps20
      go_wp2
      obtain ⟨W0, hW0⟩ : ∃ W0, W0 = (w.alloc (.cells #[.slice o1 n1 c1, .slice o2 n2 c2] 25)).alloc (.cells #[.slice o3 n1 c3, .slice o4 n2 c4] 25) := ⟨_, rfl⟩
      have k0 : Blk W0 w.heap.size #[.slice o1 n1 c1, .slice o2 n2 c2] 25 := by rw [hW0]; exact (Blk.new _ _ _).alloc _
      have k1 : Blk W0 (w.heap.size + 1) #[.slice o3 n1 c3, .slice o4 n2 c4] 25 := by rw [hW0]; have := Blk.new (w.alloc (.cells #[.slice o1 n1 c1, .slice o2 n2 c2] 25)) #[.slice o3 n1 c3, .slice o4 n2 c4] 25; simpa using this
      have lo0 : Gr w W0 := by rw [hW0]; exact (Gr.alloc _ _).trans (Gr.alloc _ _)
      rw [← hW0]
      have HK1 := Lib.hid k1
      have HK0 := Lib.hid k0
      have HLO := Lib.hid lo0
      clear hW0 k1 k0 lo0
      go_loopw [5, 6, 28] (fun _ _ i wr => ∃ k : Nat, k ≤ n1 ∧ i = .int .i64 (k : Int) ∧ Hid (b1.take k = b2.take k) ∧ Gr W0 wr) (fun _ _ i _ => n1 - (intOf i).toNat)
      case atStart => exact ⟨0, by omega, rfl, Lib.hid (by simp), Gr.refl _⟩
      case round =>
        obtain ⟨k, hk, rfl, hp, hG⟩ := hrel
        have l0 := HK0.out.later hG.below
        have l1' := HK1.out.later hG.below
        obtain ⟨c10, c11, lt1⟩ := l1'.two
        obtain ⟨c00, c01, lt0⟩ := l0.two
        clear l0 l1'
        have hG0 := HLO.out.trans hG
        by_cases hlt : k < n1
        · have p1 : k < b1.length := by have := HN1.out; omega
          have p2 : k < b2.length := by have := HN3.out; omega
          obtain ⟨x1b, f1, rfl, u1, r1⟩ := A1.out.resolve_left (fun e => by rw [e] at p1; simp at p1)
          obtain ⟨x2b, f2, rfl, u2, r2⟩ := A3.out.resolve_left (fun e => by rw [e] at p2; simp at p2)
          obtain ⟨d1, d2, d5⟩ := (r1.below hG0.below u1) k p1
          obtain ⟨d3, d4, d6⟩ := (r2.below hG0.below u2) k p2
          have v1 : x1b < wr.heap.size := Nat.lt_of_lt_of_le u1 hG0.below.size
          have v2 : x2b < wr.heap.size := Nat.lt_of_lt_of_le u2 hG0.below.size
          obtain ⟨x, hx⟩ : ∃ x, x = b1[k] := ⟨_, rfl⟩
          obtain ⟨y, hy⟩ : ∃ y, y = b2[k] := ⟨_, rfl⟩
          rw [← hx] at d1 d2 d5
          rw [← hy] at d3 d4 d6
          have HX := Lib.hid hx
          have HY := Lib.hid hy
          clear hx hy r1 r2 u1 u2
          obtain ⟨x1, x2, x3⟩ := x
          obtain ⟨y1, y2, y3⟩ := y
          simp only at d1 d2 d3 d4 d5 d6
          have HNE := Lib.hid (fun (hh : ¬ (x1 = y1 ∧ x2 = y2 ∧ x3 = y3)) => HRF.out (fun e => by
            have a := HX.out
            have b := HY.out
            obtain ⟨e, _⟩ := e
            subst e
            have := a.trans b.symm
            injection this with e1 this
            injection this with e2 e3
            exact hh ⟨e1, e2, e3⟩))
          by_cases h1 : x1 = y1
          · have t1 : (x1 == y1) = true := by simpa using h1
            have t3 : (x1 != y1) = false := by simpa using h1
            by_cases h2 : x2 = y2
            · have t2 : (x2 == y2) = true := by simpa using h2
              have t4 : (x2 != y2) = false := by simpa using h2
              by_cases h3 : x3 = y3
              · have t5 : (x3 == y3) = true := by simpa using h3
                have t6 : (x3 != y3) = false := by simpa using h3
                have Q1 := Lib.hid (show ((x1, x2, x3) : Br) = (y1, y2, y3) by rw [h1, h2, h3])
                clear h1 h2 h3
                go_wp2
                go_quiet (fail)
                go_wp2
                go_roundw
                case rel =>
                  refine ⟨k + 1, by omega, by go_num, Lib.hid ?_, hG.trans ((Gr.alloc _ _).trans (Gr.drewN _ _))⟩
                  rw [List.take_succ_eq_append_getElem p1, List.take_succ_eq_append_getElem p2, hp.out, ← HX.out, ← HY.out, Q1.out]
                case measure => simp [intOf]; omega
              · have t5 : (x3 == y3) = false := by simpa using h3
                have t6 : (x3 != y3) = true := by simpa using h3
                have HQ := Lib.hid (HNE.out (fun h => h3 h.2.2))
                clear h1 h2 h3
                go_wp2
                go_quiet (fail)
                go_wp2
                go_ret
                rw [HQ.out]
                exact ⟨rfl, hG0.trans ((Gr.alloc _ _).trans (Gr.drewN _ _))⟩
            · have t2 : (x2 == y2) = false := by simpa using h2
              have t4 : (x2 != y2) = true := by simpa using h2
              have HQ := Lib.hid (HNE.out (fun h => h2 h.2.1))
              clear h1 h2
              go_wp2
              go_quiet (fail)
              go_wp2
              go_ret
              rw [HQ.out]
              exact ⟨rfl, hG0.trans ((Gr.alloc _ _).trans (Gr.drewN _ _))⟩
          · have t1 : (x1 == y1) = false := by simpa using h1
            have t3 : (x1 != y1) = true := by simpa using h1
            have HQ := Lib.hid (HNE.out (fun h => h1 h.1))
            clear h1
            go_wp2
            go_quiet (fail)
            go_wp2
            go_ret
            rw [HQ.out]
            exact ⟨rfl, hG0.trans ((Gr.alloc _ _).trans (Gr.drewN _ _))⟩
        · have HB := Lib.hid (show b1 = b2 by
            have := hp.out
            rwa [List.take_of_length_le (by have := HN1.out; omega), List.take_of_length_le (by have := HN3.out; omega)] at this)
          have HG := Lib.hid hG
          clear hG0
          go_wp2
          go_loopw [7, 8, 44] (fun _ _ i wx => ∃ k : Nat, k ≤ n2 ∧ i = .int .i64 (k : Int) ∧ Hid (l1.take k = l2.take k) ∧ Gr W0 wx) (fun _ _ i _ => n2 - (intOf i).toNat)
          case atStart => exact ⟨0, by omega, rfl, Lib.hid (by simp), HG.out⟩
          case round =>
            rename_i wx _
            obtain ⟨j, hj, rfl, hp2, hG2⟩ := hrel
            have l0 := HK0.out.later hG2.below
            have l1' := HK1.out.later hG2.below
            obtain ⟨c10, c11, lt1⟩ := l1'.two
            obtain ⟨c00, c01, lt0⟩ := l0.two
            clear l0 l1'
            have hG0 := HLO.out.trans hG2
            by_cases hlt : j < n2
            · have p1 : j < l1.length := by have := HN2.out; omega
              have p2 : j < l2.length := by have := HN4.out; omega
              obtain ⟨x1b, f1, rfl, u1, r1⟩ := A2.out.resolve_left (fun e => by rw [e] at p1; simp at p1)
              obtain ⟨x2b, f2, rfl, u2, r2⟩ := A4.out.resolve_left (fun e => by rw [e] at p2; simp at p2)
              have d1 := (hG0.cell (p := ⟨x1b, f1 + j, none⟩) u1).trans (r1 j p1)
              have d2 := (hG0.cell (p := ⟨x2b, f2 + j, none⟩) u2).trans (r2 j p2)
              have v1 := Nat.lt_of_lt_of_le u1 hG0.below.size
              have v2 := Nat.lt_of_lt_of_le u2 hG0.below.size
              obtain ⟨x, hx⟩ : ∃ x, x = l1[j] := ⟨_, rfl⟩
              obtain ⟨y, hy⟩ : ∃ y, y = l2[j] := ⟨_, rfl⟩
              rw [← hx] at d1
              rw [← hy] at d2
              have HX := Lib.hid hx
              have HY := Lib.hid hy
              clear hx hy r1 r2 u1 u2
              by_cases h1 : x = y
              · have t1 : (x != y) = false := by simpa using h1
                have Q1 := Lib.hid h1
                clear h1
                go_wp2
                go_roundw
                case rel =>
                  refine ⟨j + 1, by omega, by go_num, Lib.hid ?_, hG2⟩
                  rw [List.take_succ_eq_append_getElem p1, List.take_succ_eq_append_getElem p2, hp2.out, ← HX.out, ← HY.out, Q1.out]
                case measure => simp [intOf]; omega
              · have t1 : (x != y) = true := by simpa using h1
                have HQ := Lib.hid (HRF.out (fun e => by
                  have a := HX.out
                  have b := HY.out
                  obtain ⟨_, e⟩ := e
                  subst e
                  exact h1 (a.trans b.symm)))
                clear h1
                go_wp2
                go_ret
                rw [HQ.out]
                exact ⟨rfl, hG0⟩
            · have HQ := Lib.hid (HRT.out HB.out (by
                have := hp2.out
                rwa [List.take_of_length_le (by have := HN2.out; omega), List.take_of_length_le (by have := HN4.out; omega)] at this))
              go_wp2
              go_ret
              rw [HQ.out]
              exact ⟨rfl, hG0⟩
    · subst q1
      have t1 : ((n1 : Int) != (n1 : Int)) = false := by simp
      have t2 : ((n2 : Int) != (n4 : Int)) = true := by simp; omega
      have HQ := Lib.hid (HRF.out (fun e => q2 (by rw [hn2, hn4, e.2])))
      clear hn1 hn2 hn3 hn4 q2
      go_enter Try.func20, Try.ntmps20
      go_wp2
      go_ret
      rw [HQ.out]
      exact ⟨rfl, (Gr.alloc _ _).trans (Gr.alloc _ _)⟩
  · have t1 : ((n1 : Int) != (n3 : Int)) = true := by simp; omega
    have HQ := Lib.hid (HRF.out (fun e => q1 (by rw [hn1, hn3, e.1])))
    clear hn1 hn2 hn3 hn4 q1
    go_enter Try.func20, Try.ntmps20
    go_wp2
    go_ret
    rw [HQ.out]
    exact ⟨rfl, (Gr.alloc _ _).trans (Gr.alloc _ _)⟩
end Go.Proofs.Ytjfnhjmdgfkgnaa

