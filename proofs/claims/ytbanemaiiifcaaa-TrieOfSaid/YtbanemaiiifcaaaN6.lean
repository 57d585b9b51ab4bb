/- slices.Compact of numbers. -/
import Derived.Test.YtbanemaiiifcaaaN5
namespace Go.Proofs.Kit
open Go.RowKit
theorem Owns.facts {k : IntKind} {t : TypeId} {B : Nat} {w : World} {l : List Int} {g n cap : Nat} (h : Owns k t B w (.slice (some ⟨g, 0, none⟩) n cap) l) : (∀ i (h : i < l.length), w.cell? ⟨g, i, none⟩ = some (.int k l[i])) ∧ (∀ j, w.frozen? ⟨g, j, none⟩ = false) ∧ g < w.heap.size ∧ B ≤ g ∧ l.length = n ∧ n ≤ cap ∧ cap ≤ 9223372036854775807 := by
  rcases h.2 with ⟨h1, _⟩ | ⟨g', cap', cur, h1, hg, hb, hc, hm, _, h4⟩
  · cases h1
  · injection h1 with h1 h2 h3
    injection h1 with h1
    injection h1 with h1 _ _
    subst h1 h3
    have hb' : Blk w g cur t := hb
    refine ⟨fun i hi => ?_, fun j => hb'.frozen j, hb'.lt, hg, h2.symm, by omega, by unfold maxLen at hm; omega⟩
    have : (cur.toList.take l.length)[i]? = some (.int k l[i]) := by
      rw [Nat.mul_one] at h4; rw [h4]; simp [hi]
    rw [List.getElem?_take_of_lt hi] at this
    rw [hb'.cell]
    simpa using this
theorem Owns.store {k : IntKind} {t : TypeId} {B : Nat} {w : World} {l : List Int} {g n cap i : Nat} (h : Owns k t B w (.slice (some ⟨g, 0, none⟩) n cap) l) (hi : i < l.length) (x : Int) : Owns k t B (w.setCell ⟨g, i, none⟩ (.int k x)) (.slice (some ⟨g, 0, none⟩) n cap) (l.set i x) := by
  obtain ⟨g', cap', e, _, _, _, _, _, _, h'⟩ := h.set hi x
  injection e with e1 e2 e3
  injection e1 with e1
  injection e1 with e1 _ _
  subst e1
  exact h'
theorem Owns.drewN {k : IntKind} {t : TypeId} {B : Nat} {w : World} {v : Value} {l : List Int} (h : Owns k t B w v l) (n : Nat) : Owns k t B (w.drewN n) v l := h
end Go.Proofs.Kit
namespace Go.Proofs.Ytbanemaiiifcaaa
open Go.RowKit Go.Proofs.Kit
theorem zerou (w : World) : (zeroValue 40).run Try.prog w = .ok (.int .u64 0) w := by kernel_rfl
set_option maxRecDepth 100000 in
set_option maxHeartbeats 4000000 in
theorem compactu_any (B : Nat) (v : Value) (l : List Int) (w : World) (hown : Owns .u64 40 B w v l) :
    Calls Try.prog 53 #[v] w fun e w' => ∃ v', e = .returned v' ∧ Owns .u64 40 B w' v' (dd l) ∧ Below B w w' := by
  by_cases h2 : l.length < 2
  · have e := dd_small h2
    obtain ⟨o, c, rfl⟩ := hown.shape
    have HO := Lib.hid hown
    have HE := Lib.hid e
    clear hown e
    go_enter Try.func53, Try.ntmps53
    go_wp2
    go_ret
    rw [HE.out]
    exact ⟨_, rfl, HO.out, Below.refl _ _⟩
  · obtain ⟨g, cap, rfl, hlc, hcap, hg, _⟩ := hown.set (i := 0) (by omega) 0
    obtain ⟨n, hn⟩ : ∃ n, n = l.length := ⟨_, rfl⟩
    rw [← hn] at h2 hlc hown ⊢
    have HN := Lib.hid hn
    have HO := Lib.hid hown
    have hn63 : n ≤ 9223372036854775807 := by omega
    clear hn hown
    go_enter Try.func53, Try.ntmps53
    go_wp2
    go_loopw [3] (fun i wr => ∃ k : Nat, 1 ≤ k ∧ k ≤ n ∧ i = .int .i64 (k : Int) ∧ Hid (dd (l.take k) = l.take k) ∧ Hid (Owns .u64 40 B wr (.slice (some ⟨g, 0, none⟩) n cap) l) ∧ Below B w wr) (fun i _ => n - (intOf i).toNat)
    case atStart => exact ⟨1, by omega, by omega, rfl, Lib.hid (dd_small (by simp; omega)), HO, Below.refl _ _⟩
    case round =>
      obtain ⟨k, hk1, hk, rfl, HP, HOR, hB⟩ := hrel
      by_cases hlt : k < n
      · obtain ⟨j, rfl⟩ : ∃ j, k = j + 1 := ⟨k - 1, by omega⟩
        have hjl : j + 1 < l.length := by have := HN.out; omega
        obtain ⟨hcells, _, _, _, _⟩ := HOR.out.facts
        have d1 := hcells (j + 1) hjl
        have d3 := hcells j (by omega)
        have hsn := dd_take_succ (l := l) (k := j + 1) (by omega) hjl
        simp only [Nat.add_sub_cancel] at hsn
        obtain ⟨x, hx⟩ : ∃ x, x = l[j + 1] := ⟨_, rfl⟩
        obtain ⟨y, hy⟩ : ∃ y, y = l[j] := ⟨_, rfl⟩
        rw [← hx] at d1 hsn
        rw [← hy] at d3 hsn
        have HX := Lib.hid hx
        have HSN := Lib.hid hsn
        clear hx hy hsn hcells
        have q1 : IntKind.i64.wrap (j : Int) = (j : Int) := by rw [IntKind.wrap_i64]; omega
        have q2 : (j : Int) + 1 < (n : Int) := by omega
        have q3 : (j : Int) < (n : Int) := by omega
        have q4 : (0 : Int) ≤ (j : Int) + 1 := by omega
        have q5 : ((j : Int) + 1).toNat = j + 1 := by omega
        by_cases hxy : x = y
        · have t1 : (x == y) = true := by simpa using hxy
          have t3 : (x != y) = false := by simpa using hxy
          have HXY := Lib.hid hxy
          clear hxy
          go_wp2
          go_quiet (fail)
          clear d1 d3 t1 t3
          have HBASE : Hid (l.take (j + 1) = dd (l.take (j + 1 + 1))) := Lib.hid (by rw [HSN.out, if_pos HXY.out.symm, HP.out])
          have HO1 := Lib.hid (HOR.out.drewN nq)
          have hB1 : Below B w (wr.drewN nq) := below_drN hB nq
          obtain ⟨wa, hwa⟩ : ∃ wa, wa = wr.drewN nq := ⟨_, rfl⟩
          rw [← hwa] at HO1 hB1 ⊢
          clear hwa q1 q2 q3 q4 q5
          have q6 : ((j : Int) + 1).toNat = j + 1 := by omega
          have q7 : (0 : Int) ≤ (j : Int) + 1 := by omega
          go_wp2
          clear q6 q7
          obtain ⟨s, hs⟩ : ∃ s, s = n - (j + 1) := ⟨_, rfl⟩
          obtain ⟨c2, hc2⟩ : ∃ c, c = cap - (j + 1) := ⟨_, rfl⟩
          rw [← hs, ← hc2]
          have hsn1 : s + (j + 1) = n := by omega
          have HSJ := Lib.hid hsn1
          have hs62 : s ≤ 9223372036854775807 := by omega
          have hs1 : 1 ≤ s := by omega
          have hsc : s ≤ c2 := by omega
          clear hs hc2 hsn1
          go_loopw [3, 5] (fun a b wr => ∃ (q p : Nat) (m : List Int), q + 1 ≤ s ∧ b = .int .i64 ((q : Int) + 1) ∧ a = .int .i64 (p : Int) ∧ j + 1 ≤ p ∧ p ≤ j + 1 + q ∧ Hid (m.take p = dd (l.take (j + 1 + (q + 1)))) ∧ Hid (m.drop (j + 1 + q) = l.drop (j + 1 + q)) ∧ Hid (Owns .u64 40 B wr (.slice (some ⟨g, 0, none⟩) n cap) m) ∧ Below B w wr) (fun _ b _ => s - (intOf b).toNat)
          case atStart => exact ⟨0, j + 1, l, by omega, rfl, by go_num, by omega, by omega, HBASE, Lib.hid rfl, HO1, hB1⟩
          case round =>
            obtain ⟨q, p, m, hq, rfl, rfl, hp1, hp2, HM1, HM2, HOM, hBM⟩ := hrel
            obtain ⟨hcells, hfro, hgs, _, hmn, _, _⟩ := HOM.out.facts
            have HMN := Lib.hid hmn
            clear hmn
            by_cases hqs : q + 1 < s
            · have hi1 : j + 1 + (q + 1) < l.length := by have := HN.out; have := HSJ.out; omega
              have hi1m : j + 1 + (q + 1) < m.length := by have := HMN.out; have := HN.out; omega
              have hpm : p < m.length := by omega
              have ee1 : m[j + 1 + (q + 1)] = l[j + 1 + (q + 1)] := getElem_of_drop HM2.out (by omega) hi1m hi1
              have ee0 : m[j + 1 + q]'(by omega) = l[j + 1 + q]'(by omega) := getElem_of_drop HM2.out (by omega) (by omega) (by omega)
              have d1 := hcells (j + 1 + (q + 1)) hi1m
              have d3 := hcells (j + 1 + q) (by omega)
              have d5 := hcells p hpm
              rw [ee1] at d1
              rw [ee0] at d3
              have f1 := hfro p
              have hsn := dd_take_succ (l := l) (k := j + 1 + (q + 1)) (by omega) hi1
              simp only [show j + 1 + (q + 1) - 1 = j + 1 + q by omega] at hsn
              obtain ⟨x, hx⟩ : ∃ x, x = l[j + 1 + (q + 1)] := ⟨_, rfl⟩
              obtain ⟨y, hy⟩ : ∃ y, y = l[j + 1 + q]'(by omega) := ⟨_, rfl⟩
              obtain ⟨z, hz⟩ : ∃ z, z = m[p] := ⟨_, rfl⟩
              rw [← hx] at d1 hsn
              rw [← hy] at d3 hsn
              rw [← hz] at d5
              have HSN2 := Lib.hid hsn
              clear hx hy hz hsn hcells hfro ee1 ee0
              have q1 : IntKind.i64.wrap (q : Int) = (q : Int) := by rw [IntKind.wrap_i64]; omega
              have q2 : (q : Int) + 1 < (s : Int) := by omega
              have q3 : (q : Int) < (s : Int) := by omega
              have q4 : (0 : Int) ≤ (q : Int) + 1 := by omega
              have q5 : ((q : Int) + 1).toNat = q + 1 := by omega
              have q6 : p < n := by have := HMN.out; omega
              by_cases hxy : x = y
              · have t1 : (x == y) = true := by simpa using hxy
                have t3 : (x != y) = false := by simpa using hxy
                have HXY := Lib.hid hxy
                clear hxy
                go_wp2
                go_quiet (fail)
                go_wp2
                go_roundw
                case rel =>
                  refine ⟨q + 1, p, m, by omega, by go_num, rfl, hp1, by omega, Lib.hid ?_, Lib.hid ?_, Lib.hid (HOM.out.drewN nq), below_drN hBM nq⟩
                  · rw [show j + 1 + (q + 1 + 1) = j + 1 + (q + 1) + 1 by omega, HSN2.out, if_pos HXY.out.symm]
                    exact HM1.out
                  · have := congrArg (List.drop 1) HM2.out
                    simpa [List.drop_drop, Nat.add_assoc] using this
                case measure => simp [intOf]; omega
              · have hns : ¬ y = x := fun e => hxy e.symm
                have HNS := Lib.hid hns
                have HREL : ∀ nq, ∃ (q' p' : Nat) (m' : List Int), q' = q + 1 ∧ p' = p + 1 ∧ Hid (m'.take p' = dd (l.take (j + 1 + (q' + 1)))) ∧ Hid (m'.drop (j + 1 + q') = l.drop (j + 1 + q')) ∧ Hid (Owns .u64 40 B ((wr.drewN nq).setCell ⟨g, p, none⟩ (.int .u64 x)) (.slice (some ⟨g, 0, none⟩) n cap) m') ∧ Below B w ((wr.drewN nq).setCell ⟨g, p, none⟩ (.int .u64 x)) := fun nq => by
                  refine ⟨q + 1, p + 1, m.set p x, rfl, rfl, Lib.hid ?_, Lib.hid ?_, Lib.hid ((HOM.out.drewN nq).store hpm x), (below_drN hBM nq).setCell hg _⟩
                  · rw [take_set_succ hpm, HM1.out, show j + 1 + (q + 1 + 1) = j + 1 + (q + 1) + 1 by omega, HSN2.out, if_neg HNS.out]
                  · rw [drop_set_lt (by omega)]
                    have := congrArg (List.drop 1) HM2.out
                    simpa [List.drop_drop, Nat.add_assoc] using this
                have HR := Lib.hid HREL
                have t1 : (x == y) = false := by simpa using hxy
                have t3 : (x != y) = true := by simpa using hxy
                clear HREL hns hxy
                go_wp2
                go_quiet (fail)
                go_wp2
                go_roundw
                case rel =>
                  obtain ⟨_, _, m', rfl, rfl, r1, r2, r3, r4⟩ := HR.out nq
                  exact ⟨q + 1, p + 1, m', by omega, by go_num, by go_num, by omega, by omega, r1, r2, r3, r4⟩
                case measure => simp [intOf]; omega
            · have hqn : j + 1 + (q + 1) = n := by have := HSJ.out; omega
              have HQN := Lib.hid hqn
              have hpn : p < n := by omega
              clear hqn hcells hfro hgs
              have HO3 : Hid (Owns .u64 40 B wr (.slice (some ⟨g, 0, none⟩) m.length cap) m) := by
                have h := HOM.out
                rw [← HMN.out] at h
                exact Lib.hid h
              have hpm : p < m.length := by have := HMN.out; omega
              go_wp2_with (with_reducible refine wpList_clear_tailI rfl _ 24 rfl 40 .u64 Try.underlying24 zerou B g cap m p hpm HO3.out _ _ rfl ?qcl ?_)
              case qcl => rw [HMN.out]
              intro w3 hO3 hb3
              go_wp2
              go_ret
              refine ⟨_, rfl, ?_, hBM.trans hb3⟩
              have e2 : l.take n = l := List.take_of_length_le (by have := HN.out; omega)
              have e1 : m.take p = dd l := by rw [HM1.out, HQN.out, e2]
              rw [e1] at hO3
              exact hO3
        · have hns : ¬ y = x := fun e => hxy e.symm
          have HREL : Hid (dd (l.take (j + 1 + 1)) = l.take (j + 1 + 1)) := Lib.hid (by rw [HSN.out, if_neg hns, HP.out, HX.out, ← List.take_succ_eq_append_getElem hjl])
          have t1 : (x == y) = false := by simpa using hxy
          have t3 : (x != y) = true := by simpa using hxy
          clear hns hxy
          go_wp2
          go_quiet (fail)
          go_wp2
          go_roundw
          case rel => exact ⟨j + 1 + 1, by omega, by omega, by go_num, HREL, Lib.hid (HOR.out.drewN nq), below_drN hB nq⟩
          case measure => simp [intOf]; omega
      · have e : dd l = l := by
          have := HP.out
          rwa [List.take_of_length_le (by have := HN.out; omega)] at this
        have HE := Lib.hid e
        clear e
        go_wp2
        go_ret
        rw [HE.out]
        exact ⟨_, rfl, HOR.out, hB⟩
end Go.Proofs.Ytbanemaiiifcaaa

