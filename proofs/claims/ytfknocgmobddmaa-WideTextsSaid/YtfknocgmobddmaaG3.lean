/- The reference's rows of digits: Plus, Minus. -/
import Derived.Test.YtfknocgmobddmaaG2
import Derived.Deep.QuietTactic
import Derived.BigQuiet
namespace Go.Proofs.Ytfknocgmobddmaa
open Go.RowKit Go.Proofs.Kit

/-- One step of a sum: the digit that is put, and what is carried. -/
theorem plus_step {l1 l2 out : List Int} {k : Nat} {c N : Int} (hl : out.length = k) (h : dv out + 65536 ^ k * (c + dv (l1.drop k) + dv (l2.drop k)) = N) :
    dv (out ++ [(dat l1 k + dat l2 k + c) % 65536]) + 65536 ^ (k + 1) * ((dat l1 k + dat l2 k + c) / 65536 + dv (l1.drop (k + 1)) + dv (l2.drop (k + 1))) = N := by
  have h1 := dv_dat l1 k
  have h2 := dv_dat l2 k
  rw [dv_snoc, hl, ← h, h1, h2, Int.pow_succ]
  generalize dat l1 k = x
  generalize dat l2 k = y
  generalize dv (l1.drop (k + 1)) = p
  generalize dv (l2.drop (k + 1)) = q
  have e : x + y + c = (x + y + c) % 65536 + 65536 * ((x + y + c) / 65536) := by omega
  generalize hm : (x + y + c) % 65536 = m at *
  generalize hd : (x + y + c) / 65536 = d at *
  have e2 : c + (x + 65536 * p) + (y + 65536 * q) = m + 65536 * (d + p + q) := by omega
  rw [e2, Int.mul_add (65536 ^ k) m, Int.mul_assoc (65536 ^ k) 65536]
  omega

set_option maxRecDepth 100000 in
set_option maxHeartbeats 2000000 in
theorem plus_any (v1 v2 : Value) (l1 l2 : List Int) (w : World) (s1 : Seg .u64 w v1 l1) (s2 : Seg .u64 w v2 l2) (d1 : Dig l1) (d2 : Dig l2) (h1 : l1.length ≤ 1000000) (h2 : l2.length ≤ 1000000) :
    Calls Try.prog 17 #[v1, v2] w fun e w' => ∃ v', e = .returned v' ∧ Owns .u64 24 w.heap.size w' v' (dg (dv l1 + dv l2).toNat) ∧ Below w.heap.size w w' := by
  obtain ⟨i0, hi0, hz0, hz1, hz2⟩ := infou
  obtain ⟨o1, c1, rfl, _, _, _⟩ := s1.shape
  obtain ⟨o2, c2, rfl, _, _, _⟩ := s2.shape
  obtain ⟨n1, hn1⟩ : ∃ n, n = l1.length := ⟨_, rfl⟩
  obtain ⟨n2, hn2⟩ : ∃ n, n = l2.length := ⟨_, rfl⟩
  rw [← hn1] at h1 s1 ⊢
  rw [← hn2] at h2 s2 ⊢
  have S1 := Lib.hid s1
  have S2 := Lib.hid s2
  have N1 := Lib.hid hn1
  have N2 := Lib.hid hn2
  have D1 := Lib.hid d1
  have D2 := Lib.hid d2
  clear s1 s2 hn1 hn2 d1 d2
  obtain ⟨N, hN⟩ : ∃ N, N = dv l1 + dv l2 := ⟨_, rfl⟩
  rw [← hN]
  have HNN := Lib.hid hN
  clear hN
  go_enter Try.func17, Try.ntmps17
  go_wp2
  go_loopw [5, 6, 7, 8] (fun s c i _ wr => ∃ (k : Nat) (out : List Int) (C : Int), k ≤ n1 + n2 + 1 ∧ (0 < C → k ≤ n1 + n2) ∧ i = .int .i64 (k : Int) ∧ c = .int .u64 C ∧ 0 ≤ C ∧ C ≤ 1 ∧ out.length = k ∧ Hid (Dig out) ∧ Hid (dv out + 65536 ^ k * (C + dv (l1.drop k) + dv (l2.drop k)) = N) ∧ Owns .u64 24 w.heap.size wr s out ∧ Below w.heap.size w wr) (fun _ _ i _ _ => n1 + n2 + 1 - (intOf i).toNat)
  case atStart => exact ⟨0, [], 0, by omega, by omega, rfl, rfl, by omega, by omega, rfl, Lib.hid (by simp [Dig]), Lib.hid (by rw [HNN.out]; simp [dv]), Owns.nil _ _ _ _, Below.refl _ _⟩
  case round =>
    obtain ⟨k, out, C, hk, hkC, rfl, rfl, hC0, hC1, hol, hod, hinv, hO, hB⟩ := hrel
    have HKC := Lib.hid hkC
    have HOL := Lib.hid hol
    clear hkC hol
    by_cases hgo : k < n1 ∨ k < n2 ∨ 0 < C
    · have hkle : k ≤ n1 + n2 := by
        rcases hgo with h | h | h
        · omega
        · omega
        · exact HKC.out h
      have b1 := dat_bd D1.out k
      have b2 := dat_bd D2.out k
      have hst := plus_step (l1 := l1) (l2 := l2) HOL.out hinv.out
      have a1 := at_any _ l1 k wr (S1.out.later hB) (by omega)
      have a2 := at_any _ l2 k wr (S2.out.later hB) (by omega)
      have hcz : 0 < (dat l1 k + dat l2 k + C) / 65536 → k + 1 ≤ n1 + n2 := by
        intro h
        have e1 := N1.out
        have e2 := N2.out
        by_cases q : k < l1.length ∨ k < l2.length
        · omega
        · rw [dat_ge (by omega), dat_ge (by omega)] at h
          omega
      obtain ⟨x, hx⟩ : ∃ x, x = dat l1 k := ⟨_, rfl⟩
      obtain ⟨y, hy⟩ : ∃ y, y = dat l2 k := ⟨_, rfl⟩
      rw [← hx] at b1 hst a1 hcz
      rw [← hy] at b2 hst a2 hcz
      have HST := Lib.hid hst
      have HA1 := Lib.hid a1
      have HA2 := Lib.hid a2
      have HCZ := Lib.hid hcz
      clear hst a1 a2 hx hy hcz
      have hOlen : out.length ≤ 3000000 := by have := HOL.out; omega
      have hdig : Dig (out ++ [(x + y + C) % 65536]) := dig_snoc hod.out (by omega) (by omega)
      have HDIG := Lib.hid hdig
      clear hdig
      have hcase : (k < n1) ∨ (¬ k < n1 ∧ k < n2) ∨ (¬ k < n1 ∧ ¬ k < n2 ∧ 0 < C) := by omega
      clear hgo
      rcases hcase with g | ⟨g, g'⟩ | ⟨g, g', g''⟩
      all_goals
        go_wp2_with fail
        refine HA1.out.mono ?_
        rintro e w1 ⟨rfl, rfl⟩
        go_wp2_with fail
        refine HA2.out.mono ?_
        rintro e w2 ⟨rfl, rfl⟩
        go_wp2_with (at_builtin; refine wpList_append_own _ rfl _ _ 28 rfl w.heap.size 24 i0 (.int .u64 0) 1 8 Try.underlying28 hi0 hz0 hz1 hz2 rfl (by decide) _ _ _ rfl (World.ownsRow.alloc hO _) ⟨w2.heap.size, 0, none⟩ 1 1 [.int .u64 ((x + y + C) % 65536)] rfl rfl (cell_one_new _ _ _) (by simp [Value.oneCell']) (by unfold maxLen; omega) (by omega) (by have := hB.size; simp; omega) ?_)
        intro v' w3 hown hgrow _
        have hO3 : Owns .u64 24 w.heap.size w3 v' (out ++ [(x + y + C) % 65536]) := by
          unfold Owns
          rw [List.length_append, List.map_append]
          exact hown
        have hB3 : Below w.heap.size w w3 := (hB.alloc hB.size _).grown hgrow (by have := hB.size; simp; omega) (fun k hk => (World.ownsRow.lt hO k hk).1)
        clear hown hgrow
        go_wp2
        go_roundw
        case rel =>
          refine ⟨k + 1, out ++ [(x + y + C) % 65536], (x + y + C) / 65536, by omega, HCZ.out, by go_num, by first | rfl | (congr 1; omega), by omega, by omega, by have := HOL.out; simp; omega, HDIG, HST, hO3, hB3⟩
        case measure => simp [intOf]; omega
    · have hC : C = 0 := by omega
      have HC := Lib.hid hC
      have g1 : ¬ k < n1 := by omega
      have g2 : ¬ k < n2 := by omega
      have hCle : C ≤ 0 := by omega
      clear hC hgo
      go_wp2_with fail
      refine (trim_own _ _ _ _ hO hod.out).mono ?_
      rintro e w1 ⟨v', rfl, ho', rfl⟩
      have hval : dv out = N := by
        have h := hinv.out
        rw [HC.out, dv_drop_end (by have := N1.out; omega), dv_drop_end (by have := N2.out; omega)] at h
        simpa using h
      rw [hval] at ho'
      clear hval
      go_wp2
      go_ret
      exact ⟨v', rfl, ho', hB⟩
end Go.Proofs.Ytfknocgmobddmaa
