/- The reference's rows of digits: Times. -/
import Derived.Test.YtfknocgmobddmaaG4
namespace Go.Proofs.Ytfknocgmobddmaa
open Go.RowKit Go.Proofs.Kit

theorem times_step {l1 out : List Int} {k : Nat} {c N d : Int} (hl : out.length = k) (h : dv out + 65536 ^ k * (c + dv (l1.drop k) * d) = N) :
    dv (out ++ [(dat l1 k * d + c) % 65536]) + 65536 ^ (k + 1) * ((dat l1 k * d + c) / 65536 + dv (l1.drop (k + 1)) * d) = N := by
  have h1 := dv_dat l1 k
  rw [dv_snoc, hl, ← h, h1, Int.pow_succ]
  generalize dat l1 k = x
  generalize dv (l1.drop (k + 1)) = p
  have e : x * d + c = (x * d + c) % 65536 + 65536 * ((x * d + c) / 65536) := by omega
  have e3 : (x + 65536 * p) * d = x * d + 65536 * (p * d) := by rw [Int.add_mul, Int.mul_assoc]
  rw [e3]
  generalize x * d = z at *
  generalize p * d = pd at *
  generalize hm : (z + c) % 65536 = m at *
  generalize hd : (z + c) / 65536 = q at *
  have e2 : c + (z + 65536 * pd) = m + 65536 * (q + pd) := by omega
  rw [e2, Int.mul_add (65536 ^ k) m, Int.mul_assoc (65536 ^ k) 65536]
  omega
theorem mul_bd {x d : Int} (h0 : 0 ≤ x) (h1 : x < 65536) (d0 : 0 ≤ d) (d1 : d < 65536) : 0 ≤ x * d ∧ x * d ≤ 65535 * 65535 :=
  ⟨Int.mul_nonneg h0 d0, Int.le_trans (Int.mul_le_mul_of_nonneg_right (show x ≤ 65535 by omega) d0) (Int.mul_le_mul_of_nonneg_left (show d ≤ 65535 by omega) (by omega))⟩
theorem prod_len {a b : List Int} (ha : Dig a) (hb : Dig b) : (dg (dv a * dv b).toNat).length ≤ a.length + b.length := by
  have h1 := dv_bd a ha
  have h2 := dv_bd b hb
  apply dg_len
  have h3 : dv a * dv b < 65536 ^ (a.length + b.length) := by
    rw [Int.pow_add]
    exact Int.lt_of_le_of_lt (Int.mul_le_mul_of_nonneg_right (Int.le_of_lt h1.2) h2.1) (Int.mul_lt_mul_of_pos_left h2.2 (by omega))
  have h4 : 0 ≤ dv a * dv b := Int.mul_nonneg h1.1 h2.1
  have h5 : ((65536 ^ (a.length + b.length) : Nat) : Int) = 65536 ^ (a.length + b.length) := Int.natCast_pow 65536 _
  omega

set_option maxRecDepth 100000 in
set_option maxHeartbeats 4000000 in
theorem times_any (v1 v2 : Value) (l1 l2 : List Int) (w : World) (s1 : Seg .u64 w v1 l1) (s2 : Seg .u64 w v2 l2) (d1 : Dig l1) (d2 : Dig l2) (h1 : l1.length ≤ 1000) (h2 : l2.length ≤ 1000) :
    Calls Try.prog 18 #[v1, v2] w fun e w' => ∃ v', e = .returned v' ∧ Owns .u64 24 w.heap.size w' v' (dg (dv l1 * dv l2).toNat) ∧ Below w.heap.size w w' := by
  obtain ⟨i0, hi0, hz0, hz1, hz2⟩ := infou
  obtain ⟨o1, c1, rfl, _, _, _⟩ := s1.shape
  obtain ⟨o2, c2, rfl, _, _, hcase⟩ := s2.shape
  obtain ⟨n1, hn1⟩ : ∃ n, n = l1.length := ⟨_, rfl⟩
  obtain ⟨n2, hn2⟩ : ∃ n, n = l2.length := ⟨_, rfl⟩
  rw [← hn1] at h1 s1 ⊢
  rw [← hn2] at h2 s2 ⊢
  have S1 := Lib.hid s1
  have N1 := Lib.hid hn1
  have N2 := Lib.hid hn2
  have D1 := Lib.hid d1
  have D2 := Lib.hid d2
  have HCASE := Lib.hid hcase
  clear s1 s2 hn1 hn2 d1 d2 hcase
  go_enter Try.func18, Try.ntmps18
  go_wp2
  go_loopw [5, 6, 7, 8, 9, 10] (fun s i _ _ _ _ wr => ∃ (m : Nat) (out : List Int), m ≤ n2 ∧ i = .int .i64 ((m : Int) - 1) ∧ out.length ≤ 3000 ∧ Hid (Dig out) ∧ Hid (dv out = dv l1 * dv (l2.drop m)) ∧ Owns .u64 24 w.heap.size wr s out ∧ Below w.heap.size w wr) (fun _ i _ _ _ _ _ => (intOf i + 1).toNat)
  case atStart => exact ⟨n2, [], by omega, rfl, by simp, Lib.hid (by simp [Dig]), Lib.hid (by rw [dv_drop_end (by have := N2.out; omega)]; simp [dv]), Owns.nil _ _ _ _, Below.refl _ _⟩
  case round =>
    obtain ⟨m, out, hm, rfl, hol, hod, hval, hO, hB⟩ := hrel
    by_cases hm0 : m = 0
    · subst hm0
      go_wp2_with fail
      refine (trim_own _ _ _ _ hO hod.out).mono ?_
      rintro e w1 ⟨v', rfl, ho', rfl⟩
      have hv := hval.out
      rw [List.drop_zero] at hv
      rw [hv] at ho'
      clear hv
      go_wp2
      go_ret
      exact ⟨v', rfl, ho', hB⟩
    · obtain ⟨j, rfl⟩ : ∃ j, m = j + 1 := ⟨m - 1, by omega⟩
      rw [show (((j + 1 : Nat) : Int) - 1) = (j : Int) by omega]
      have hjl : j < l2.length := by have := N2.out; omega
      obtain ⟨b, f, rfl, hb, ha⟩ := HCASE.out.resolve_left (fun e => by rw [e] at hjl; simp at hjl)
      have hD := D2.out _ (List.getElem_mem hjl)
      have hdrop := dv_drop hjl
      have hac := ha j hjl
      obtain ⟨d, hd⟩ : ∃ d, d = l2[j] := ⟨_, rfl⟩
      rw [← hd] at hD hdrop hac
      have HDR := Lib.hid hdrop
      have HAC := Lib.hid hac
      have hj2 : j < n2 := by omega
      clear hdrop hac ha hd hm0 hjl
      have hnew : Owns .u64 24 w.heap.size (wr.alloc (.cells #[.int .u64 0] 24)) (.slice (some ⟨wr.heap.size, 0, none⟩) 1 1) [0] := Owns.new (l := [0]) hB.size rfl (by simp)
      go_wp2_with (at_builtin; refine wpList_append_seg rfl _ _ 28 rfl .u64 w.heap.size 24 i0 (.int .u64 0) 8 Try.underlying28 hi0 hz0 hz1 hz2 rfl _ _ rfl hnew _ out rfl (hO.seg.alloc _) (by simp; omega) (by simp; omega) (by have := hB.size; simp; omega) ?_)
      intro v3 w3 hO3 hb3
      have hB3 := (hB.alloc hB.size (.cells #[.int .u64 0] 24)).trans hb3
      obtain ⟨out2, ho2⟩ : ∃ o, o = 0 :: out := ⟨_, rfl⟩
      have hol2 : out2.length ≤ 3001 := by rw [ho2]; simp; omega
      have hod2 : Dig out2 := by
        rw [ho2]; intro x hx
        rcases List.mem_cons.1 hx with rfl | hx
        · omega
        · exact hod.out x hx
      have hv2 : dv out2 = 65536 * (dv l1 * dv (l2.drop (j + 1))) := by rw [ho2, ← hval.out]; simp [dv]
      have hO3' : Owns .u64 24 w.heap.size w3 v3 out2 := by rw [ho2]; exact hO3
      have HOD2 := Lib.hid hod2
      have HV2 := Lib.hid hv2
      clear ho2 hod2 hv2 hO hB hnew hb3 hod hval hO3
      go_wp2
      go_loopw [7, 8, 9, 10] (fun c s i _ wr => ∃ (k : Nat) (part : List Int) (C : Int), k ≤ n1 + 1 ∧ (0 < C → k ≤ n1) ∧ i = .int .i64 (k : Int) ∧ c = .int .u64 C ∧ 0 ≤ C ∧ C < 65536 ∧ part.length = k ∧ Hid (Dig part) ∧ Hid (dv part + 65536 ^ k * (C + dv (l1.drop k) * d) = dv l1 * d) ∧ Owns .u64 24 w3.heap.size wr s part ∧ Below w3.heap.size w3 wr) (fun _ _ i _ _ => n1 + 1 - (intOf i).toNat)
      case atStart => exact ⟨0, [], 0, by omega, by omega, rfl, rfl, by omega, by omega, rfl, Lib.hid (by simp [Dig]), Lib.hid (by simp [dv]), Owns.nil _ _ _ _, Below.refl _ _⟩
      case round =>
        obtain ⟨k, part, C, hk, hkC, rfl, rfl, hC0, hC1, hpl, hpd, hinv, hP, hb4⟩ := hrel
        have HKC := Lib.hid hkC
        have HPL := Lib.hid hpl
        clear hkC hpl
        have hB4 := hB3.trans (hb4.mono hB3.size)
        by_cases hgo : k < n1 ∨ 0 < C
        · have hkle : k ≤ n1 := by
            rcases hgo with h | h
            · omega
            · exact HKC.out h
          have b1 := dat_bd D1.out k
          have hmb := mul_bd b1.1 b1.2 hD.1 hD.2
          have hst := times_step (l1 := l1) HPL.out hinv.out
          have a1 := fun nq => at_any _ l1 k (wr.drewN nq) ((S1.out.later hB4).later (below_drN (Below.refl _ _) nq)) (by omega)
          have dd : wr.cell? ⟨b, f + j, none⟩ = some (.int .u64 d) := (hB4.cell (p := ⟨b, f + j, none⟩) hb).trans HAC.out
          have hcz : 0 < (dat l1 k * d + C) / 65536 → k + 1 ≤ n1 := by
            intro h
            by_cases q : k < l1.length
            · have := N1.out; omega
            · rw [dat_ge q] at h; omega
          obtain ⟨z, hz⟩ : ∃ z, z = dat l1 k * d := ⟨_, rfl⟩
          obtain ⟨x, hx⟩ : ∃ x, x = dat l1 k := ⟨_, rfl⟩
          rw [← hz] at hmb hst hcz
          rw [← hx] at a1 hz
          have hzz : x * d = z := hz.symm
          have HST := Lib.hid hst
          have HA1 := Lib.hid a1
          have HCZ := Lib.hid hcz
          have HDIG := Lib.hid (dig_snoc (x := (z + C) % 65536) hpd.out (by omega) (by omega))
          have hPlen : part.length ≤ 2000 := by have := HPL.out; omega
          have hx0 : 0 ≤ x ∧ x < 65536 := by rw [hx]; exact b1
          have hcase : (k < n1) ∨ (¬ k < n1 ∧ 0 < C) := by omega
          clear hst a1 hz hx hcz b1 hgo
          rcases hcase with g | ⟨g, g'⟩
          all_goals
            go_wp2_with fail
            go_quiet ((go_at_call 40; with_reducible refine Calls.quiet_of_same (HA1.out _)))
            have hP' := hP.later (below_drN (Below.refl wr.heap.size wr) nq)
            have hb4' := below_drN hb4 nq
            obtain ⟨wq, hwq⟩ : ∃ wq, wq = wr.drewN nq := ⟨_, rfl⟩
            rw [← hwq] at hP' hb4' ⊢
            clear hwq hzz
            go_wp2_with (at_builtin; refine wpList_append_own _ rfl _ _ 28 rfl w3.heap.size 24 i0 (.int .u64 0) 1 8 Try.underlying28 hi0 hz0 hz1 hz2 rfl (by decide) _ _ _ rfl (World.ownsRow.alloc hP' _) ⟨wq.heap.size, 0, none⟩ 1 1 [.int .u64 ((z + C) % 65536)] rfl rfl (cell_one_new _ _ _) (by simp [Value.oneCell']) (by unfold maxLen; omega) (by omega) (by have := hb4'.size; simp; omega) ?_)
            intro v5 w5 hown hgrow _
            have hP5 : Owns .u64 24 w3.heap.size w5 v5 (part ++ [(z + C) % 65536]) := by
              unfold Owns
              rw [List.length_append, List.map_append]
              exact hown
            have hb5 : Below w3.heap.size w3 w5 := (hb4'.alloc hb4'.size _).grown hgrow (by have := hb4'.size; simp; omega) (fun k hk => (World.ownsRow.lt hP k hk).1)
            clear hown hgrow
            go_wp2
            go_roundw
            case rel =>
              refine ⟨k + 1, part ++ [(z + C) % 65536], (z + C) / 65536, by omega, HCZ.out, by go_num, by first | rfl | (congr 1; omega), by omega, by omega, by have := HPL.out; simp; omega, HDIG, HST, hP5, hb5⟩
            case measure => simp [intOf]; omega
        · have hC : C = 0 := by omega
          have HC := Lib.hid hC
          have g1 : ¬ k < n1 := by omega
          have hCle : C ≤ 0 := by omega
          have hpv : dv part = dv l1 * d := by
            have h := hinv.out
            rw [hC, dv_drop_end (by have := N1.out; omega)] at h
            simpa using h
          have HPV := Lib.hid hpv
          clear hC hgo hpv
          go_wp2_with fail
          refine (plus_any _ _ out2 part _ (hO3'.later hb4).seg hP.seg HOD2.out hpd.out (by omega) (by have := HPL.out; omega)).mono ?_
          rintro e w6 ⟨v6, rfl, ho6, hb6⟩
          have hB6 := hB4.trans (hb6.mono hB4.size)
          have hnv : dv out2 + dv part = dv l1 * dv (l2.drop j) := by
            rw [HV2.out, HPV.out, HDR.out, Int.mul_add, Int.mul_left_comm (dv l1) 65536]
            omega
          rw [hnv] at ho6
          have hlen6 := prod_len D1.out (dig_drop D2.out j)
          have hlen7 : (dg (dv l1 * dv (l2.drop j)).toNat).length ≤ 3000 := by
            have e1 := N1.out
            have e2 := N2.out
            simp only [List.length_drop] at hlen6
            omega
          have hvv : dv (dg (dv l1 * dv (l2.drop j)).toNat) = dv l1 * dv (l2.drop j) := by
            rw [dv_dg]
            have := Int.mul_nonneg (dv_nonneg D1.out) (dv_nonneg (dig_drop D2.out j))
            omega
          have HVV := Lib.hid hvv
          have HL7 := Lib.hid hlen7
          clear hnv hlen6 hvv hlen7
          go_wp2
          go_roundw
          case rel => exact ⟨j, _, by omega, by first | rfl | (congr 1; omega), HL7.out, Lib.hid (dg_dig _), HVV, ho6.mono hB4.size, hB6⟩
          case measure => simp [intOf]; try omega
end Go.Proofs.Ytfknocgmobddmaa
