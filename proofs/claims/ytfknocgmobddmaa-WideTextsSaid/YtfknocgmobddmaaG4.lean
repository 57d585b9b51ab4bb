/- The reference's rows of digits: Minus, Times. -/
import Derived.Test.YtfknocgmobddmaaG3
namespace Go.Proofs.Ytfknocgmobddmaa
open Go.RowKit Go.Proofs.Kit

theorem minus_step {l1 l2 out : List Int} {k : Nat} {c N x : Int} (hl : out.length = k) (hx : x = dat l1 k) (h : dv out + 65536 ^ k * (dv (l1.drop k) - dv (l2.drop k) - c) = N) :
    dv (out ++ [(65536 + x - dat l2 k - c) % 65536]) + 65536 ^ (k + 1) * (dv (l1.drop (k + 1)) - dv (l2.drop (k + 1)) - (1 - (65536 + x - dat l2 k - c) / 65536)) = N := by
  have h1 := dv_dat l1 k
  have h2 := dv_dat l2 k
  rw [← hx] at h1
  rw [dv_snoc, hl, ← h, h1, h2, Int.pow_succ]
  generalize dat l2 k = y
  generalize dv (l1.drop (k + 1)) = p
  generalize dv (l2.drop (k + 1)) = q
  have e : 65536 + x - y - c = (65536 + x - y - c) % 65536 + 65536 * ((65536 + x - y - c) / 65536) := by omega
  generalize hm : (65536 + x - y - c) % 65536 = m at *
  generalize hd : (65536 + x - y - c) / 65536 = d at *
  have e2 : x + 65536 * p - (y + 65536 * q) - c = m + 65536 * (p - q - (1 - d)) := by omega
  rw [e2, Int.mul_add (65536 ^ k) m, Int.mul_assoc (65536 ^ k) 65536]
  omega
/-- What is left of a difference at its end is nothing. -/
theorem minus_end {o P q c N : Int} (h0 : 0 ≤ o) (h1 : o < P) (hq : 0 ≤ q) (hc : 0 ≤ c) (hN : 0 ≤ N) (h : o + P * (0 - q - c) = N) : o = N := by
  by_cases hz : q + c = 0
  · rw [show 0 - q - c = 0 by omega, Int.mul_zero] at h; omega
  · have : P * (0 - q - c) ≤ P * (-1) := Int.mul_le_mul_of_nonneg_left (by omega) (by omega)
    omega

set_option maxRecDepth 100000 in
set_option maxHeartbeats 2000000 in
theorem minus_any (v1 v2 : Value) (l1 l2 : List Int) (w : World) (s1 : Seg .u64 w v1 l1) (s2 : Seg .u64 w v2 l2) (d1 : Dig l1) (d2 : Dig l2) (h1 : l1.length ≤ 1000000) (hle : dv l2 ≤ dv l1) :
    Calls Try.prog 20 #[v1, v2] w fun e w' => ∃ v', e = .returned v' ∧ Owns .u64 24 w.heap.size w' v' (dg (dv l1 - dv l2).toNat) ∧ Below w.heap.size w w' := by
  obtain ⟨i0, hi0, hz0, hz1, hz2⟩ := infou
  obtain ⟨o1, c1, rfl, _, _, hcase⟩ := s1.shape
  obtain ⟨n1, hn1⟩ : ∃ n, n = l1.length := ⟨_, rfl⟩
  rw [← hn1] at h1 s1 ⊢
  have S1 := Lib.hid s1
  have S2 := Lib.hid s2
  have N1 := Lib.hid hn1
  have D1 := Lib.hid d1
  have D2 := Lib.hid d2
  have HCASE := Lib.hid hcase
  clear s1 s2 hn1 d1 d2 hcase
  obtain ⟨N, hN⟩ : ∃ N, N = dv l1 - dv l2 := ⟨_, rfl⟩
  have hN0 : 0 ≤ N := by omega
  rw [← hN]
  have HNN := Lib.hid hN
  clear hN hle
  go_enter Try.func20, Try.ntmps20
  go_wp2
  go_loopw [5, 6, 7, 8, 11] (fun s c _ _ i wr => ∃ (k : Nat) (out : List Int) (C : Int), k ≤ n1 ∧ i = .int .i64 (k : Int) ∧ c = .int .u64 C ∧ 0 ≤ C ∧ C ≤ 1 ∧ out.length = k ∧ Hid (Dig out) ∧ Hid (dv out + 65536 ^ k * (dv (l1.drop k) - dv (l2.drop k) - C) = N) ∧ Owns .u64 24 w.heap.size wr s out ∧ Below w.heap.size w wr) (fun _ _ _ _ i _ => n1 - (intOf i).toNat)
  case atStart => exact ⟨0, [], 0, by omega, rfl, rfl, by omega, by omega, rfl, Lib.hid (by simp [Dig]), Lib.hid (by rw [HNN.out]; simp [dv]), Owns.nil _ _ _ _, Below.refl _ _⟩
  case round =>
    obtain ⟨k, out, C, hk, rfl, rfl, hC0, hC1, hol, hod, hinv, hO, hB⟩ := hrel
    have HOL := Lib.hid hol
    clear hol
    by_cases hlt : k < n1
    · have hkl : k < l1.length := by have := N1.out; omega
      obtain ⟨b, f, rfl, hb, ha⟩ := HCASE.out.resolve_left (fun e => by rw [e] at hkl; simp at hkl)
      have d := (hB.cell (p := ⟨b, f + k, none⟩) hb).trans (ha k hkl)
      have b1 := D1.out _ (List.getElem_mem hkl)
      have b2 := dat_bd D2.out k
      have hst := minus_step (l1 := l1) (l2 := l2) HOL.out (dat_lt hkl).symm hinv.out
      obtain ⟨x, hx⟩ : ∃ x, x = l1[k] := ⟨_, rfl⟩
      obtain ⟨y, hy⟩ : ∃ y, y = dat l2 k := ⟨_, rfl⟩
      have a2 := fun nq => at_any _ l2 k (wr.drewN nq) ((S2.out.later hB).later (below_drN (Below.refl _ _) nq)) (by omega)
      rw [← hx] at d b1 hst
      rw [← hy] at b2 hst a2
      have HST := Lib.hid hst
      have HA2 := Lib.hid a2
      have hOlen : out.length ≤ 3000000 := by have := HOL.out; omega
      have HDIG := Lib.hid (dig_snoc (x := (65536 + x - y - C) % 65536) hod.out (by omega) (by omega))
      clear hst a2 hx hy ha hkl
      go_wp2_with fail
      go_quiet ((go_at_call 40; with_reducible refine Calls.quiet_of_same (HA2.out _)))
      have hO' := hO.later (below_drN (Below.refl wr.heap.size wr) nq)
      have hB' := below_drN hB nq
      obtain ⟨wq, hwq⟩ : ∃ wq, wq = wr.drewN nq := ⟨_, rfl⟩
      rw [← hwq] at hO' hB' ⊢
      clear hwq
      go_wp2_with (at_builtin; refine wpList_append_own _ rfl _ _ 28 rfl w.heap.size 24 i0 (.int .u64 0) 1 8 Try.underlying28 hi0 hz0 hz1 hz2 rfl (by decide) _ _ _ rfl (World.ownsRow.alloc hO' _) ⟨wq.heap.size, 0, none⟩ 1 1 [.int .u64 ((65536 + x - y - C) % 65536)] rfl rfl (cell_one_new _ _ _) (by simp [Value.oneCell']) (by unfold maxLen; omega) (by omega) (by have := hB'.size; simp; omega) ?_)
      intro v' w3 hown hgrow _
      have hO3 : Owns .u64 24 w.heap.size w3 v' (out ++ [(65536 + x - y - C) % 65536]) := by
        unfold Owns
        rw [List.length_append, List.map_append]
        exact hown
      have hB3 : Below w.heap.size w w3 := (hB'.alloc hB'.size _).grown hgrow (by have := hB'.size; simp; omega) (fun k hk => (World.ownsRow.lt hO k hk).1)
      clear hown hgrow
      go_wp2
      go_roundw
      case rel =>
        refine ⟨k + 1, out ++ [(65536 + x - y - C) % 65536], 1 - (65536 + x - y - C) / 65536, by omega, by go_num, by first | rfl | (congr 1; omega), by omega, by omega, by have := HOL.out; simp; omega, HDIG, HST, hO3, hB3⟩
      case measure => simp [intOf]; omega
    · go_wp2_with fail
      refine (trim_own _ _ _ _ hO hod.out).mono ?_
      rintro e w1 ⟨v', rfl, ho', rfl⟩
      have hval : dv out = N := by
        have h := hinv.out
        rw [dv_drop_end (l := l1) (by have := N1.out; omega)] at h
        have hbd := dv_bd out hod.out
        rw [HOL.out] at hbd
        exact minus_end hbd.1 hbd.2 (dv_nonneg (dig_drop D2.out k)) hC0 hN0 h
      rw [hval] at ho'
      clear hval
      go_wp2
      go_ret
      exact ⟨v', rfl, ho', hB⟩
end Go.Proofs.Ytfknocgmobddmaa
