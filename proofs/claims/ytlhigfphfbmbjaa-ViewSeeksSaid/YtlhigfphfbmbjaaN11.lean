/- run.least. -/
import Derived.Test.YtlhigfphfbmbjaaN8
namespace Go.Proofs.Kit
open Go.RowKit
/-- The side of the least pair of two rows. -/
def sideP : List Pr → List Pr → Int
  | [], _ => 2
  | _ :: _, [] => 0
  | x :: _, y :: _ => if x = y then 1 else if lt2 x y then 0 else 2
end Go.Proofs.Kit
namespace Go.Proofs.Ytlhigfphfbmbjaa
open Go.RowKit Go.Proofs.Kit
set_option maxRecDepth 100000 in
set_option maxHeartbeats 2000000 in
theorem least_any (v1 v2 : Value) (l1 l2 : List Pr) (w : World) (h1 : SegP w v1 l1) (h2 : SegP w v2 l2) :
    Calls Try.prog 121 #[v1, v2] w fun e w' => e = .returned (.int .i64 (sideP l1 l2)) ∧ Gr w w' := by
  have hmix := mixed
  obtain ⟨o1, c1, rfl, q1, q1', a1⟩ := h1.shape
  obtain ⟨o2, c2, rfl, q2, q2', a2⟩ := h2.shape
  match l1, l2 with
  | [], _ =>
    clear h1 h2 a1 a2
    go_enter Try.func121, Try.ntmps121
    go_wp2
    go_ret
    exact ⟨rfl, Gr.refl _⟩
  | x :: t, [] =>
    have e1 : (((x :: t).length : Int) == 0) = false := by simp; omega
    obtain ⟨n, hn⟩ : ∃ n, n = (x :: t).length := ⟨_, rfl⟩
    rw [← hn] at e1 ⊢
    clear hn h1 h2 a1 a2 q1 q2
    go_enter Try.func121, Try.ntmps121
    go_wp2
    go_ret
    exact ⟨rfl, Gr.refl _⟩
  | x :: t, y :: u =>
    obtain ⟨b1, f1, rfl, hb1, hc1⟩ := a1.resolve_left (by simp)
    obtain ⟨b2, f2, rfl, hb2, hc2⟩ := a2.resolve_left (by simp)
    have e1 : (((x :: t).length : Int) == 0) = false := by simp; omega
    have e2 : (((y :: u).length : Int) == 0) = false := by simp; omega
    have p1 : 0 < (x :: t).length := by simp
    have p2 : 0 < (y :: u).length := by simp
    have d := hc1 0 p1
    have d' := hc2 0 p2
    obtain ⟨g1, g2⟩ := hc1.grown hb1 p1
    obtain ⟨g3, g4⟩ := hc2.grown hb2 p2
    obtain ⟨n, hn⟩ : ∃ n, n = (x :: t).length := ⟨_, rfl⟩
    obtain ⟨m, hm⟩ : ∃ m, m = (y :: u).length := ⟨_, rfl⟩
    rw [← hn] at e1 p1 ⊢
    rw [← hm] at e2 p2 ⊢
    have hside : sideP (x :: t) (y :: u) = if x = y then 1 else if lt2 x y then 0 else 2 := rfl
    have htn := cf2_neg x y
    obtain ⟨x1, x2⟩ := x
    obtain ⟨y1, y2⟩ := y
    simp only [List.getElem_cons_zero, Nat.zero_mul, Nat.add_zero] at d d' g1 g2 g3 g4
    obtain ⟨d1, d2⟩ := d
    obtain ⟨d3, d4⟩ := d'
    obtain ⟨k, hk⟩ : ∃ k, k = cf2 (x1, x2) (y1, y2) := ⟨_, rfl⟩
    rw [← hk] at htn
    have HK := Lib.hid hk
    have HS := Lib.hid hside
    have q3 : (0 : Int) < (n : Int) := by omega
    have q4 : (0 : Int) < (m : Int) := by omega
    clear hk hside hn hm h1 h2 a1 a2 hc1 hc2 q1 q2
    by_cases hxy : x1 = y1 ∧ x2 = y2
    · have t1 : (x1 == y1) = true := by simpa using hxy.1
      have t2 : (x2 == y2) = true := by simpa using hxy.2
      have HV := Lib.hid (show sideP ((x1, x2) :: t) ((y1, y2) :: u) = 1 from HS.out.trans (if_pos (by rw [hxy.1, hxy.2])))
      clear hxy htn g1 g2 g3 g4
      go_enter Try.func121, Try.ntmps121
      go_wp2
      go_quiet (fail)
      go_wp2
      go_ret
      rw [HV.out]
      exact ⟨rfl, Gr.drewN _ _⟩
    · have hne : ¬ (x1, x2) = (y1, y2) := fun e => by injection e with e1 e2; exact hxy ⟨e1, e2⟩
      have hz : (x1 == y1) = false ∨ ((x1 == y1) = true ∧ (x2 == y2) = false) := by
        by_cases e : x1 = y1
        · exact .inr ⟨by simpa using e, by simpa using fun q => hxy ⟨e, q⟩⟩
        · exact .inl (by simpa using e)
      have gg : ∀ nq, ((∀ n os, (Sort.grow ((w.drewN nq).drewN n) os).cell? ⟨b1, f1, none⟩ = some (.int .u64 x1)) ∧ (∀ n os, (Sort.grow ((w.drewN nq).drewN n) os).cell? ⟨b1, f1 + 1, none⟩ = some (.int .u64 x2))) ∧ (∀ n os, (Sort.grow ((w.drewN nq).drewN n) os).cell? ⟨b2, f2, none⟩ = some (.int .u64 y1)) ∧ (∀ n os, (Sort.grow ((w.drewN nq).drewN n) os).cell? ⟨b2, f2 + 1, none⟩ = some (.int .u64 y2)) :=
        fun nq => by simp only [World.drewN_drewN]; exact ⟨⟨fun n os => g1 _ os, fun n os => g2 _ os⟩, fun n os => g3 _ os, fun n os => g4 _ os⟩
      have GG := Lib.hid gg
      clear gg g1 g2 g3 g4
      by_cases h0 : k < 0
      · have ht0 : decide (k < 0) = true := by simpa using h0
        have HV := Lib.hid (show sideP ((x1, x2) :: t) ((y1, y2) :: u) = 0 from HS.out.trans ((if_neg hne).trans (if_pos (htn.1 h0))))
        clear hxy hne htn h0
        rcases hz with t1 | ⟨t1, t2⟩
        all_goals
          go_enter Try.func121, Try.ntmps121
          go_wp2
          go_quiet (fail)
          obtain ⟨⟨g1, g2⟩, g3, g4⟩ := GG.out nq
          have hG := Gr.drewN w nq
          obtain ⟨wa, hwa⟩ : ∃ wa, wa = w.drewN nq := ⟨_, rfl⟩
          rw [← hwa] at g1 g2 g3 g4 hG ⊢
          clear hwa d1 d2 d3 d4
          go_wp2
          go_quiet_grown ((go_at_call 45; refine Calls.gr_of (compare_at _ _ _ _ k HK.out _)))
          go_wp2
          go_ret
          rw [HV.out]
          exact ⟨rfl, hG.trans (Gr.grown _ _ _)⟩
      · have ht0 : decide (k < 0) = false := by simpa using h0
        have HV := Lib.hid (show sideP ((x1, x2) :: t) ((y1, y2) :: u) = 2 from HS.out.trans ((if_neg hne).trans (if_neg fun q => h0 (htn.2 q))))
        clear hxy hne htn h0
        rcases hz with t1 | ⟨t1, t2⟩
        all_goals
          go_enter Try.func121, Try.ntmps121
          go_wp2
          go_quiet (fail)
          obtain ⟨⟨g1, g2⟩, g3, g4⟩ := GG.out nq
          have hG := Gr.drewN w nq
          obtain ⟨wa, hwa⟩ : ∃ wa, wa = w.drewN nq := ⟨_, rfl⟩
          rw [← hwa] at g1 g2 g3 g4 hG ⊢
          clear hwa d1 d2 d3 d4
          go_wp2
          go_quiet_grown ((go_at_call 45; refine Calls.gr_of (compare_at _ _ _ _ k HK.out _)))
          go_wp2
          go_ret
          rw [HV.out]
          exact ⟨rfl, hG.trans (Gr.grown _ _ _)⟩
end Go.Proofs.Ytlhigfphfbmbjaa

