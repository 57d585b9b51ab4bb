/- merge.merged: two rows as one. -/
import Derived.Test.YtlhigfphfbmbjaaM0
import Derived.Test.YtlhigfphfbmbjaaN12
import Derived.Test.YtlhigfphfbmbjaaW3
namespace Go.Proofs.Kit
open Go.RowKit
/-- The first of a row that is not empty. -/
theorem SegP.head {w : World} {o : Option Addr} {n c : Nat} {l : List Pr} {x : Pr} (h : SegP w (.slice o n c) (x :: l)) : ∃ b f, o = some ⟨b, f, none⟩ ∧ b < w.heap.size ∧ w.cell? ⟨b, f, none⟩ = some (.int .u64 x.1) ∧ w.cell? ⟨b, f + 1, none⟩ = some (.int .u64 x.2) := by
  obtain ⟨b, f, e, hb, hc⟩ := h.has (i := 0) (by simp)
  have := hc 0 (by simp)
  simp at this
  exact ⟨b, f, e, hb, this.1, this.2⟩
/-- .. and what is left behind it. -/
theorem SegP.rest {w : World} {b f n c : Nat} {l : List Pr} {x : Pr} (h : SegP w (.slice (some ⟨b, f, none⟩) (n + 1) c) (x :: l)) : SegP w (.slice (if c = 1 then some ⟨b, f, none⟩ else some ⟨b, f + 2, none⟩) n (c - 1)) l := by
  have := h.from (i := 1) (by omega)
  simpa [Addr.add_lit] using this
end Go.Proofs.Kit
namespace Go.Proofs.Ytlhigfphfbmbjaa
open Go.RowKit Go.Proofs.Kit Go.Shelf
set_option maxRecDepth 100000 in
set_option maxHeartbeats 8000000 in
theorem merged_any (va vb : Value) (la lb : List Pr) (w : World) (ha : SegP w va la) (hb : SegP w vb lb) (hn : la.length + lb.length ≤ 1000000) :
    Calls Try.prog 100 #[va, vb, .func (.func 45) #[] #[]] w fun e w' => ∃ v', e = .returned v' ∧ OwnP 53 w.heap.size w' v' (mrg la lb) ∧ Below w.heap.size w w' := by
  obtain ⟨i0, hi, hz0, hz1, hz2⟩ := infoP
  have hmix := mixed
  obtain ⟨oa, ca, rfl, hca, hma, _⟩ := ha.shape
  obtain ⟨ob, cb, rfl, hcb, hmb, _⟩ := hb.shape
  have hmx : ∀ xa xb acc, acc ++ mrg xa xb = mrg la lb → acc.length ≤ la.length + lb.length := fun xa xb acc e => by
    have h1 := mrg_len la lb
    rw [← e, List.length_append] at h1
    omega
  have HMX := Lib.hid hmx
  obtain ⟨na, hna⟩ : ∃ na, na = la.length := ⟨_, rfl⟩
  obtain ⟨nb, hnb⟩ : ∃ nb, nb = lb.length := ⟨_, rfl⟩
  rw [← hna, ← hnb] at HMX
  rw [← hna] at ha hca hn ⊢
  rw [← hnb] at hb hcb hn ⊢
  have HA := Lib.hid ha
  have HB := Lib.hid hb
  have HL := Lib.hid (And.intro hna.symm hnb.symm)
  clear ha hb hna hnb hmx
  go_enter Try.func100, Try.ntmps100
  go_wp2_with fail
  go_step3
  go_wp2_with (refine wpList_make_own _ rfl _ _ _ rfl w.heap.size 53 i0 (.agg #[.int .u64 0, .int .u64 0]) 2 Try.underlying22 hi hz0 hz1 .i64 .i64 _ (na + nb) rfl rfl rfl ?ma ?mb ?mc ?_)
  case ma => rw [hz2]; omega
  case mb => unfold maxLen; omega
  case mc => exact Nat.le_refl _
  intro w1 ho1 hg1
  have hb1 : Below w.heap.size w w1 := (Below.refl _ _).grown hg1 (Nat.le_refl _) (fun _ h => by cases h)
  have hO : OwnP 53 w.heap.size w1 (.slice (some ⟨w.heap.size, 0, none⟩) 0 (na + nb)) [] := ⟨by simp, ho1⟩
  have HO1 := Lib.hid hO
  have HB1 := Lib.hid hb1
  clear ho1 hg1 hO hb1
  go_wp2_with fail
  go_step3
  go_wp2_with fail
  go_loopg [0, 1, 7] (na + nb + 1) (fun kx s0 s1 s7 wr => ∃ xa xb acc : List Pr, Hid (SegP w s0 xa) ∧ Hid (SegP w s1 xb) ∧ Hid (OwnP 53 w.heap.size wr s7 acc) ∧ Hid (acc ++ mrg xa xb = mrg la lb) ∧ xa.length + xb.length < kx ∧ Hid (Below w.heap.size w wr))
  case atStart => exact ⟨la, lb, [], HA, HB, HO1, Lib.hid (by simp), by have := HL.out; omega, HB1⟩
  case round =>
    obtain ⟨xa, xb, acc, SA, SB, HO, HE, hkx, HLOW⟩ := hrel
    obtain ⟨oa, ca, rfl, hca, hma, _⟩ := SA.out.shape
    obtain ⟨ob, cb, rfl, hcb, hmb, _⟩ := SB.out.shape
    obtain ⟨ov, cv, rfl⟩ := HO.out.shape
    have hacc := HMX.out _ _ _ HE.out
    obtain ⟨nv, hnv⟩ : ∃ nv, nv = acc.length := ⟨_, rfl⟩
    rw [← hnv] at HO hacc ⊢
    have HNV := Lib.hid hnv
    clear hnv
    match xa, SA, HE, hca, hkx with
    | [], SA, HE, hca, hkx =>
      rw [mrg_nil_left] at HE
      obtain ⟨mb, hmb'⟩ : ∃ mb, mb = xb.length := ⟨_, rfl⟩
      rw [← hmb'] at SB hcb hkx ⊢
      have HMB := Lib.hid hmb'
      clear hmb'
      simp only [List.length_nil] at SA hca hkx ⊢
      have HSB := Lib.hid (SB.out.later HLOW.out)
      have hlen : nv + mb ≤ 2000000 := by
        have h1 := HMX.out [] [] (acc ++ xb) (by rw [mrg_nil_left, List.append_nil]; exact HE.out)
        have h2 := HNV.out
        have h3 := HMB.out
        rw [List.length_append] at h1
        omega
      go_wp2_with (first | (at_builtin; refine wpList_append_segP rfl _ _ 22 rfl w.heap.size 53 i0 (.agg #[.int .u64 0, .int .u64 0]) Try.underlying22 hi hz0 hz1 hz2 rfl _ acc rfl HO.out _ xb rfl HSB.out (by have := HNV.out; have := HMB.out; omega) HLOW.out.size (fun v' w4 hO4 hb4 hg4 _ => ?_)) | fail)
      rw [HE.out] at hO4
      have HO4 := Lib.hid hO4
      have HB4 := Lib.hid (HLOW.out.trans hb4)
      clear hO4 hb4 hg4
      go_wp2
      go_ret
      exact ⟨_, rfl, HO4.out, HB4.out⟩
    | x :: xa, SA, HE, hca, hkx =>
      match xb, SB, HE, hcb, hkx with
      | [], SB, HE, hcb, hkx =>
        rw [mrg_nil_right] at HE
        simp only [List.length_nil, List.length_cons] at SA SB hcb hca hkx ⊢
        have HSA := Lib.hid (SA.out.later HLOW.out)
        have hlen : nv + (xa.length + 1) ≤ 2000000 := by
          have h1 := HMX.out [] [] (acc ++ x :: xa) (by rw [mrg_nil_left, List.append_nil]; exact HE.out)
          have h2 := HNV.out
          rw [List.length_append, List.length_cons] at h1
          omega
        have HLEN := Lib.hid hlen
        obtain ⟨ma, hma'⟩ : ∃ ma, ma = xa.length := ⟨_, rfl⟩
        rw [← hma'] at SA HSA hca hkx hlen HLEN ⊢
        have HMA := Lib.hid hma'
        clear hma' hlen
        have t0 : (((ma + 1 : Nat) : Int) == 0) = false := by simp; omega
        go_wp2_with (first | (at_builtin; refine wpList_append_segP rfl _ _ 22 rfl w.heap.size 53 i0 (.agg #[.int .u64 0, .int .u64 0]) Try.underlying22 hi hz0 hz1 hz2 rfl _ acc rfl HO.out _ (x :: xa) rfl HSA.out (by have := HNV.out; have := HMA.out; have := HLEN.out; simp only [List.length_cons]; omega) HLOW.out.size (fun v' w4 hO4 hb4 hg4 _ => ?_)) | fail)
        rw [HE.out] at hO4
        have HO4 := Lib.hid hO4
        have HB4 := Lib.hid (HLOW.out.trans hb4)
        clear hO4 hb4 hg4
        go_wp2
        go_ret
        exact ⟨_, rfl, HO4.out, HB4.out⟩
      | y :: xb, SB, HE, hcb, hkx =>
        simp only [List.length_cons] at SA SB hcb hca hkx ⊢
        obtain ⟨ma, hma'⟩ : ∃ ma, ma = xa.length := ⟨_, rfl⟩
        obtain ⟨mb, hmb'⟩ : ∃ mb, mb = xb.length := ⟨_, rfl⟩
        rw [← hma'] at SA hca hkx ⊢
        rw [← hmb'] at SB hcb hkx ⊢
        have HMA := Lib.hid hma'
        have HMB := Lib.hid hmb'
        clear hma' hmb'
        obtain ⟨ba, fa, rfl, lba, d0, d1⟩ := (SA.out.later HLOW.out).head
        obtain ⟨bb, fb, rfl, lbb, d2, d3⟩ := (SB.out.later HLOW.out).head
        have RA := Lib.hid SA.out.rest
        have RB := Lib.hid SB.out.rest
        have ta : (((ma + 1 : Nat) : Int) == 0) = false := by simp; omega
        have tb : (((mb + 1 : Nat) : Int) == 0) = false := by simp; omega
        obtain ⟨x1, x2⟩ := x
        obtain ⟨y1, y2⟩ := y
        simp only at d0 d1 d2 d3
        have D0 : ∀ n os, (Sort.grow (wr.drewN n) os).cell? ⟨ba, fa, none⟩ = some (.int .u64 x1) := fun n os => cell_grown lba d0 n os
        have D1 : ∀ n os, (Sort.grow (wr.drewN n) os).cell? ⟨ba, fa + 1, none⟩ = some (.int .u64 x2) := fun n os => cell_grown lba d1 n os
        have D2 : ∀ n os, (Sort.grow (wr.drewN n) os).cell? ⟨bb, fb, none⟩ = some (.int .u64 y1) := fun n os => cell_grown lbb d2 n os
        have D3 : ∀ n os, (Sort.grow (wr.drewN n) os).cell? ⟨bb, fb + 1, none⟩ = some (.int .u64 y2) := fun n os => cell_grown lbb d3 n os
        obtain ⟨t, ht⟩ : ∃ t, t = cf2 (x1, x2) (y1, y2) := ⟨_, rfl⟩
        have HT := Lib.hid ht
        have hbd := cf2_bd (x1, x2) (y1, y2)
        rw [← ht] at hbd
        clear ht
        go_wp2
        go_quiet_grown ((go_at_call 45; refine Calls.gr_of (compare_at _ _ _ _ t HT.out _)))
        have hgr := Gr.grown wr nq osq
        obtain ⟨wq, hwq⟩ : ∃ wq, wq = Sort.grow (wr.drewN nq) osq := ⟨_, rfl⟩
        rw [← hwq] at hgr ⊢
        have e0 := D0 nq osq
        have e1 := D1 nq osq
        have e2 := D2 nq osq
        have e3 := D3 nq osq
        rw [← hwq] at e0 e1 e2 e3
        have HOq := Lib.hid (HO.out.later hgr.below)
        have HLq := Lib.hid (below_later HLOW.out hgr.below)
        have lba' : ba < wq.heap.size := Nat.lt_of_lt_of_le lba hgr.below.size
        have lbb' : bb < wq.heap.size := Nat.lt_of_lt_of_le lbb hgr.below.size
        clear D0 D1 D2 D3 d0 d1 d2 d3 hwq hgr lba lbb HO HLOW
        rcases Int.lt_trichotomy t 0 with hlt | heq | hgt
        · have t1 : decide (t ≤ 0) = true := decide_eq_true (by omega)
          have t2 : decide (0 ≤ t) = false := decide_eq_false (by omega)
          have hE := HE.out
          rw [mrg_lt xa xb (by rw [← HT.out]; exact hlt)] at hE
          have HE2 : Hid ((acc ++ [(x1, x2)]) ++ mrg xa ((y1, y2) :: xb) = mrg la lb) := Lib.hid (by
            rw [← hE]; simp)
          clear hE HT hlt
          by_cases hqca : ca = 1
          · subst hqca
            have RA1 := Lib.hid RA.out
            simp only [if_true, Nat.sub_self] at RA1
            obtain rfl : ma = 0 := by omega
            go_wp2_with (first | (at_builtin; refine wpList_append_segP rfl _ _ 22 rfl w.heap.size 53 i0 (.agg #[.int .u64 0, .int .u64 0]) Try.underlying22 hi hz0 hz1 hz2 rfl _ acc rfl (HOq.out.alloc _) _ [(x1, x2)] rfl (SegP.of_blk (l := [(x1, x2)]) (cap := 1) (Blk.new _ _ _) (by simp) (by decide) rfl) (by have := HNV.out; simp only [List.length_cons, List.length_nil]; omega) (by have := HLq.out.size; simp; omega) (fun v' w4 hO4 hb4 hg4 _ => ?_)) | fail)
            have HO4 := Lib.hid hO4
            have HB4 := Lib.hid ((HLq.out.alloc HLq.out.size (.cells #[.int .u64 x1, .int .u64 x2] 53)).trans hb4)
            clear hO4 hb4 hg4 e0 e1 e2 e3
            go_wp2
            go_roundg (0 + (mb + 1) + 1)
            case measure => omega
            case rel => exact ⟨xa, ((y1, y2) :: xb), acc ++ [(x1, x2)], RA1, SB, HO4, HE2, by (try simp only [List.length_cons]); have := HMA.out; have := HMB.out; omega, HB4⟩
          · have RA1 := Lib.hid RA.out
            rw [if_neg hqca] at RA1
            go_wp2_with (first | (at_builtin; refine wpList_append_segP rfl _ _ 22 rfl w.heap.size 53 i0 (.agg #[.int .u64 0, .int .u64 0]) Try.underlying22 hi hz0 hz1 hz2 rfl _ acc rfl (HOq.out.alloc _) _ [(x1, x2)] rfl (SegP.of_blk (l := [(x1, x2)]) (cap := 1) (Blk.new _ _ _) (by simp) (by decide) rfl) (by have := HNV.out; simp only [List.length_cons, List.length_nil]; omega) (by have := HLq.out.size; simp; omega) (fun v' w4 hO4 hb4 hg4 _ => ?_)) | fail)
            have HO4 := Lib.hid hO4
            have HB4 := Lib.hid ((HLq.out.alloc HLq.out.size (.cells #[.int .u64 x1, .int .u64 x2] 53)).trans hb4)
            clear hO4 hb4 hg4 e0 e1 e2 e3
            go_wp2
            go_roundg (ma + (mb + 1) + 1)
            case measure => omega
            case rel => exact ⟨xa, ((y1, y2) :: xb), acc ++ [(x1, x2)], RA1, SB, HO4, HE2, by (try simp only [List.length_cons]); have := HMA.out; have := HMB.out; omega, HB4⟩
        · have t1 : decide (t ≤ 0) = true := decide_eq_true (by omega)
          have t2 : decide (0 ≤ t) = true := decide_eq_true (by omega)
          have hxy := (cf2_zero (x1, x2) (y1, y2)).1 (by rw [← HT.out]; exact heq)
          injection hxy with hx hy
          subst hx hy
          have hE := HE.out
          rw [mrg_eq] at hE
          have HE2 : Hid ((acc ++ [(x1, x2)]) ++ mrg xa xb = mrg la lb) := Lib.hid (by
            rw [← hE]; simp)
          clear hE HT heq
          by_cases hqca : ca = 1
          · subst hqca
            have RA1 := Lib.hid RA.out
            simp only [if_true, Nat.sub_self] at RA1
            obtain rfl : ma = 0 := by omega
            by_cases hqcb : cb = 1
            · subst hqcb
              have RB1 := Lib.hid RB.out
              simp only [if_true, Nat.sub_self] at RB1
              obtain rfl : mb = 0 := by omega
              go_wp2_with (first | (at_builtin; refine wpList_append_segP rfl _ _ 22 rfl w.heap.size 53 i0 (.agg #[.int .u64 0, .int .u64 0]) Try.underlying22 hi hz0 hz1 hz2 rfl _ acc rfl (HOq.out.alloc _) _ [(x1, x2)] rfl (SegP.of_blk (l := [(x1, x2)]) (cap := 1) (Blk.new _ _ _) (by simp) (by decide) rfl) (by have := HNV.out; simp only [List.length_cons, List.length_nil]; omega) (by have := HLq.out.size; simp; omega) (fun v' w4 hO4 hb4 hg4 _ => ?_)) | fail)
              have HO4 := Lib.hid hO4
              have HB4 := Lib.hid ((HLq.out.alloc HLq.out.size (.cells #[.int .u64 x1, .int .u64 x2] 53)).trans hb4)
              clear hO4 hb4 hg4 e0 e1 e2 e3
              go_wp2
              go_roundg (0 + 0 + 1)
              case measure => omega
              case rel => exact ⟨xa, xb, acc ++ [(x1, x2)], RA1, RB1, HO4, HE2, by (try simp only [List.length_cons]); have := HMA.out; have := HMB.out; omega, HB4⟩
            · have RB1 := Lib.hid RB.out
              rw [if_neg hqcb] at RB1
              go_wp2_with (first | (at_builtin; refine wpList_append_segP rfl _ _ 22 rfl w.heap.size 53 i0 (.agg #[.int .u64 0, .int .u64 0]) Try.underlying22 hi hz0 hz1 hz2 rfl _ acc rfl (HOq.out.alloc _) _ [(x1, x2)] rfl (SegP.of_blk (l := [(x1, x2)]) (cap := 1) (Blk.new _ _ _) (by simp) (by decide) rfl) (by have := HNV.out; simp only [List.length_cons, List.length_nil]; omega) (by have := HLq.out.size; simp; omega) (fun v' w4 hO4 hb4 hg4 _ => ?_)) | fail)
              have HO4 := Lib.hid hO4
              have HB4 := Lib.hid ((HLq.out.alloc HLq.out.size (.cells #[.int .u64 x1, .int .u64 x2] 53)).trans hb4)
              clear hO4 hb4 hg4 e0 e1 e2 e3
              go_wp2
              go_roundg (0 + mb + 1)
              case measure => omega
              case rel => exact ⟨xa, xb, acc ++ [(x1, x2)], RA1, RB1, HO4, HE2, by (try simp only [List.length_cons]); have := HMA.out; have := HMB.out; omega, HB4⟩
          · have RA1 := Lib.hid RA.out
            rw [if_neg hqca] at RA1
            by_cases hqcb : cb = 1
            · subst hqcb
              have RB1 := Lib.hid RB.out
              simp only [if_true, Nat.sub_self] at RB1
              obtain rfl : mb = 0 := by omega
              go_wp2_with (first | (at_builtin; refine wpList_append_segP rfl _ _ 22 rfl w.heap.size 53 i0 (.agg #[.int .u64 0, .int .u64 0]) Try.underlying22 hi hz0 hz1 hz2 rfl _ acc rfl (HOq.out.alloc _) _ [(x1, x2)] rfl (SegP.of_blk (l := [(x1, x2)]) (cap := 1) (Blk.new _ _ _) (by simp) (by decide) rfl) (by have := HNV.out; simp only [List.length_cons, List.length_nil]; omega) (by have := HLq.out.size; simp; omega) (fun v' w4 hO4 hb4 hg4 _ => ?_)) | fail)
              have HO4 := Lib.hid hO4
              have HB4 := Lib.hid ((HLq.out.alloc HLq.out.size (.cells #[.int .u64 x1, .int .u64 x2] 53)).trans hb4)
              clear hO4 hb4 hg4 e0 e1 e2 e3
              go_wp2
              go_roundg (ma + 0 + 1)
              case measure => omega
              case rel => exact ⟨xa, xb, acc ++ [(x1, x2)], RA1, RB1, HO4, HE2, by (try simp only [List.length_cons]); have := HMA.out; have := HMB.out; omega, HB4⟩
            · have RB1 := Lib.hid RB.out
              rw [if_neg hqcb] at RB1
              go_wp2_with (first | (at_builtin; refine wpList_append_segP rfl _ _ 22 rfl w.heap.size 53 i0 (.agg #[.int .u64 0, .int .u64 0]) Try.underlying22 hi hz0 hz1 hz2 rfl _ acc rfl (HOq.out.alloc _) _ [(x1, x2)] rfl (SegP.of_blk (l := [(x1, x2)]) (cap := 1) (Blk.new _ _ _) (by simp) (by decide) rfl) (by have := HNV.out; simp only [List.length_cons, List.length_nil]; omega) (by have := HLq.out.size; simp; omega) (fun v' w4 hO4 hb4 hg4 _ => ?_)) | fail)
              have HO4 := Lib.hid hO4
              have HB4 := Lib.hid ((HLq.out.alloc HLq.out.size (.cells #[.int .u64 x1, .int .u64 x2] 53)).trans hb4)
              clear hO4 hb4 hg4 e0 e1 e2 e3
              go_wp2
              go_roundg (ma + mb + 1)
              case measure => omega
              case rel => exact ⟨xa, xb, acc ++ [(x1, x2)], RA1, RB1, HO4, HE2, by (try simp only [List.length_cons]); have := HMA.out; have := HMB.out; omega, HB4⟩
        · have t1 : decide (t ≤ 0) = false := decide_eq_false (by omega)
          have t2 : decide (0 ≤ t) = true := decide_eq_true (by omega)
          have hE := HE.out
          rw [mrg_gt xa xb (by rw [← HT.out]; exact hgt)] at hE
          have HE2 : Hid ((acc ++ [(y1, y2)]) ++ mrg ((x1, x2) :: xa) xb = mrg la lb) := Lib.hid (by
            rw [← hE]; simp)
          clear hE HT hgt
          by_cases hqcb : cb = 1
          · subst hqcb
            have RB1 := Lib.hid RB.out
            simp only [if_true, Nat.sub_self] at RB1
            obtain rfl : mb = 0 := by omega
            go_wp2_with (first | (at_builtin; refine wpList_append_segP rfl _ _ 22 rfl w.heap.size 53 i0 (.agg #[.int .u64 0, .int .u64 0]) Try.underlying22 hi hz0 hz1 hz2 rfl _ acc rfl (HOq.out.alloc _) _ [(y1, y2)] rfl (SegP.of_blk (l := [(y1, y2)]) (cap := 1) (Blk.new _ _ _) (by simp) (by decide) rfl) (by have := HNV.out; simp only [List.length_cons, List.length_nil]; omega) (by have := HLq.out.size; simp; omega) (fun v' w4 hO4 hb4 hg4 _ => ?_)) | fail)
            have HO4 := Lib.hid hO4
            have HB4 := Lib.hid ((HLq.out.alloc HLq.out.size (.cells #[.int .u64 y1, .int .u64 y2] 53)).trans hb4)
            clear hO4 hb4 hg4 e0 e1 e2 e3
            go_wp2
            go_roundg (ma + 1 + 0 + 1)
            case measure => omega
            case rel => exact ⟨((x1, x2) :: xa), xb, acc ++ [(y1, y2)], SA, RB1, HO4, HE2, by (try simp only [List.length_cons]); have := HMA.out; have := HMB.out; omega, HB4⟩
          · have RB1 := Lib.hid RB.out
            rw [if_neg hqcb] at RB1
            go_wp2_with (first | (at_builtin; refine wpList_append_segP rfl _ _ 22 rfl w.heap.size 53 i0 (.agg #[.int .u64 0, .int .u64 0]) Try.underlying22 hi hz0 hz1 hz2 rfl _ acc rfl (HOq.out.alloc _) _ [(y1, y2)] rfl (SegP.of_blk (l := [(y1, y2)]) (cap := 1) (Blk.new _ _ _) (by simp) (by decide) rfl) (by have := HNV.out; simp only [List.length_cons, List.length_nil]; omega) (by have := HLq.out.size; simp; omega) (fun v' w4 hO4 hb4 hg4 _ => ?_)) | fail)
            have HO4 := Lib.hid hO4
            have HB4 := Lib.hid ((HLq.out.alloc HLq.out.size (.cells #[.int .u64 y1, .int .u64 y2] 53)).trans hb4)
            clear hO4 hb4 hg4 e0 e1 e2 e3
            go_wp2
            go_roundg (ma + 1 + mb + 1)
            case measure => omega
            case rel => exact ⟨((x1, x2) :: xa), xb, acc ++ [(y1, y2)], SA, RB1, HO4, HE2, by (try simp only [List.length_cons]); have := HMA.out; have := HMB.out; omega, HB4⟩
end Go.Proofs.Ytlhigfphfbmbjaa

