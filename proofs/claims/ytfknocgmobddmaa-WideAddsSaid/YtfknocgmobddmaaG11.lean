/- The reference's Compare. -/
import Derived.Test.YtfknocgmobddmaaG9
import Derived.BigQuiet
namespace Go.Proofs.Ytfknocgmobddmaa
open Go.RowKit Go.Proofs.Kit

theorem pow_pos16 (k : Nat) : (0 : Int) < 65536 ^ k := by have := pow_ge1 (A := 65536) (by decide) k; omega
theorem dv_cut {l : List Int} {k : Nat} (h : k ≤ l.length) : dv l = dv (l.take k) + 65536 ^ k * dv (l.drop k) := by
  have e := dv_append (l.take k) (l.drop k)
  rw [List.take_append_drop, List.length_take, Nat.min_eq_left h] at e
  exact e
theorem drop_lt {l1 l2 : List Int} {k : Nat} (d1 : Dig l1) (d2 : Dig l2) (h1 : k ≤ l1.length) (h2 : k ≤ l2.length) (h : dv (l1.drop k) < dv (l2.drop k)) : dv l1 < dv l2 := by
  rw [dv_cut h1, dv_cut h2]
  have b1 := dv_len (k := k) (dig_take d1 k) (by rw [List.length_take]; omega)
  have b2 := dv_len (k := k) (dig_take d2 k) (by rw [List.length_take]; omega)
  have h3 : 65536 ^ k * (dv (l1.drop k) + 1) ≤ 65536 ^ k * dv (l2.drop k) := Int.mul_le_mul_of_nonneg_left (by omega) (Int.le_of_lt (pow_pos16 k))
  rw [Int.mul_add] at h3
  omega
theorem len_lt {x y : Nat} (h : (dg x).length < (dg y).length) : x < y := by
  apply Classical.byContradiction
  intro hc
  have h1 := dv_bd (dg x) (dg_dig x)
  rw [dv_dg] at h1
  have h3 : ((65536 ^ (dg x).length : Nat) : Int) = 65536 ^ (dg x).length := Int.natCast_pow 65536 _
  have := dg_len (n := y) (k := (dg x).length) (by omega)
  omega
theorem ord_lt {x y : Int} (h : x < y) : ord x y = -1 := by unfold ord; rw [if_pos h]
theorem ord_gt {x y : Int} (h : y < x) : ord x y = 1 := by unfold ord; rw [if_neg (by omega), if_pos h]
theorem ord_eq {x y : Int} (h : x = y) : ord x y = 0 := by unfold ord; rw [if_neg (by omega), if_neg (by omega)]

def Pair (w0 : World) (a b c d : Int) (w : World) : Prop :=
  Blk w w0.heap.size #[.int .u64 a, .int .u64 b] 26 ∧ Blk w (w0.heap.size + 1) #[.int .u64 c, .int .u64 d] 26 ∧ Below w0.heap.size w0 w
theorem Pair.later {w0 w w' : World} {a b c d : Int} (h : Pair w0 a b c d w) (hb : Below w.heap.size w w') : Pair w0 a b c d w' := ⟨h.1.later hb, h.2.1.later hb, below_later h.2.2 hb⟩
theorem Pair.drew {w0 w : World} {a b c d : Int} (h : Pair w0 a b c d w) : Pair w0 a b c d w.drew := ⟨h.1, h.2.1, h.2.2.drew⟩
theorem Pair.cells {w0 w : World} {a b c d : Int} (h : Pair w0 a b c d w) : w.cell? ⟨w0.heap.size, 0, none⟩ = some (.int .u64 a) ∧ w.cell? ⟨w0.heap.size, 1, none⟩ = some (.int .u64 b) ∧ w.cell? ⟨w0.heap.size + 1, 0, none⟩ = some (.int .u64 c) ∧ w.cell? ⟨w0.heap.size + 1, 1, none⟩ = some (.int .u64 d) ∧ Pair w0 a b c d w :=
  ⟨h.1.cell 0, h.1.cell 1, h.2.1.cell 0, h.2.1.cell 1, h⟩

set_option maxRecDepth 100000 in
set_option maxHeartbeats 600000 in
theorem rcompare_any (a b c d : Int) (ha : Wd a) (hb : Wd b) (hc : Wd c) (hd : Wd d) (w : World) :
    Calls Try.prog 11 #[WV a b, WV c d] w fun e w' => e = .returned (.int .i64 (ord (num (a, b)) (num (c, d)))) ∧ Below w.heap.size w w' := by
  have HA := Lib.hid ha; have HB := Lib.hid hb; have HC := Lib.hid hc; have HD := Lib.hid hd
  clear ha hb hc hd
  go_enter Try.func11, Try.ntmps11
  go_upto_region 1 with fail
  have hT : Pair w a b c d ((w.alloc (.cells #[.int .u64 a, .int .u64 b] 26)).alloc (.cells #[.int .u64 c, .int .u64 d] 26)) :=
    ⟨(Blk.new _ _ _).alloc _, blk_at _ _ _ (by simp), below2 w _ _⟩
  obtain ⟨w5, hw5⟩ : ∃ w5, w5 = (w.alloc (.cells #[.int .u64 a, .int .u64 b] 26)).alloc (.cells #[.int .u64 c, .int .u64 d] 26) := ⟨_, rfl⟩
  rw [← hw5] at hT ⊢
  clear hw5
  have hw := hT.2.2.size
  go_region_held3 (fun w' => w'.cell? ⟨w.heap.size, 0, none⟩ = some (.int .u64 a) ∧ w'.cell? ⟨w.heap.size, 1, none⟩ = some (.int .u64 b) ∧ w'.cell? ⟨w.heap.size + 1, 0, none⟩ = some (.int .u64 c) ∧ w'.cell? ⟨w.heap.size + 1, 1, none⟩ = some (.int .u64 d) ∧ Pair w a b c d w')
    (first | exact hT.cells | exact hT.drew.cells)
    ((go_at_call 10; refine (digits_any _ _ (by first | with_reducible exact HA.out | with_reducible exact HC.out) (by first | with_reducible exact HB.out | with_reducible exact HD.out) _).mono ?_; rintro e wF ⟨vX, rfl, oX, hbl⟩; first | (have hT := hT.drew.later hbl; have o1 := oX; clear oX) | (have hT := hT.later hbl; have o1 := o1.later hbl; have o2 := oX; clear oX)))
  have n1p := (num_pos (p := (a, b)) ⟨HA.out, HB.out⟩).1
  have n2p := (num_pos (p := (c, d)) ⟨HC.out, HD.out⟩).1
  have s1 := o1.seg
  have s2 := o2.seg
  have BW := hT.2.2
  have e1 := dv_dg (num (a, b)).toNat
  have e2 := dv_dg (num (c, d)).toNat
  have g1 := dg_dig (num (a, b)).toNat
  have g2 := dg_dig (num (c, d)).toNat
  have ll1 : (dg (num (a, b)).toNat).length < (dg (num (c, d)).toNat).length → num (a, b) < num (c, d) := fun h => by have := len_lt h; omega
  have ll2 : (dg (num (c, d)).toNat).length < (dg (num (a, b)).toNat).length → num (c, d) < num (a, b) := fun h => by have := len_lt h; omega
  rw [Int.toNat_of_nonneg n1p] at e1
  rw [Int.toNat_of_nonneg n2p] at e2
  obtain ⟨L1, hL1⟩ : ∃ L, L = dg (num (a, b)).toNat := ⟨_, rfl⟩
  obtain ⟨L2, hL2⟩ : ∃ L, L = dg (num (c, d)).toNat := ⟨_, rfl⟩
  rw [← hL1] at s1 e1 g1 ll1 ll2
  rw [← hL2] at s2 e2 g2 ll1 ll2
  clear hT o1 o2 hL1 hL2 n1p n2p hw
  obtain ⟨p1, c1, rfl, _, _, _⟩ := s1.shape
  obtain ⟨p2, c2, rfl, _, _, _⟩ := s2.shape
  obtain ⟨n1, hn1⟩ : ∃ n, n = L1.length := ⟨_, rfl⟩
  obtain ⟨n2, hn2⟩ : ∃ n, n = L2.length := ⟨_, rfl⟩
  have m1 : n1 ≤ 9223372036854775807 := by have := s1.1; omega
  have m2 : n2 ≤ 9223372036854775807 := by have := s2.1; omega
  rw [← hn1] at s1 ll1 ll2 ⊢
  rw [← hn2] at s2 ll1 ll2 ⊢
  have LL1 := Lib.hid ll1; have LL2 := Lib.hid ll2; have S1 := Lib.hid s1; have S2 := Lib.hid s2
  have E1 := Lib.hid e1; have E2 := Lib.hid e2; have G1 := Lib.hid g1; have G2 := Lib.hid g2; have N1 := Lib.hid hn1; have N2 := Lib.hid hn2
  clear ll1 ll2 s1 s2 e1 e2 g1 g2 hn1 hn2
  by_cases hne : n1 = n2
  · subst hne
    have t0 : ((n1 : Int) != n1) = false := by simp
    go_wp2_with fail
    go_loopw [7] (fun i wr => ∃ m : Nat, m ≤ n1 ∧ i = .int .i64 ((m : Int) - 1) ∧ Hid (dv (L1.drop m) = dv (L2.drop m)) ∧ Hid (Seg .u64 wr (.slice p1 n1 c1) L1) ∧ Hid (Seg .u64 wr (.slice p2 n1 c2) L2) ∧ Below w.heap.size w wr) (fun i _ => (intOf i + 1).toNat)
    case atStart => exact ⟨n1, by omega, by go_num, Lib.hid (by rw [dv_drop_end (by have := N1.out; omega), dv_drop_end (by have := N2.out; omega)]), S1, S2, BW⟩
    case round =>
      obtain ⟨m, hm, rfl, hv, hs1, hs2, hB⟩ := hrel
      by_cases hm0 : m = 0
      · subst hm0
        go_wp2_with fail
        go_ret
        have := hv.out
        simp only [List.drop_zero] at this
        have hq : num (a, b) = num (c, d) := by rw [← E1.out, ← E2.out, this]
        exact ⟨by rw [ord_eq hq]; rfl, hB⟩
      · obtain ⟨j, rfl⟩ : ∃ j, m = j + 1 := ⟨m - 1, by omega⟩
        rw [show (((j + 1 : Nat) : Int) - 1) = (j : Int) by omega]
        have j1 : j < L1.length := by have := N1.out; omega
        have j2 : j < L2.length := by have := N2.out; omega
        obtain ⟨_, _, q1, _, _, k1⟩ := hs1.out.shape
        obtain ⟨_, _, q2, _, _, k2⟩ := hs2.out.shape
        injection q1 with q1a q1b q1c
        injection q2 with q2a q2b q2c
        subst q1a q1c q2a q2c
        obtain ⟨b1, f1, rfl, _, h1⟩ := k1.resolve_left (fun e => by rw [e] at j1; simp at j1)
        obtain ⟨b2, f2, rfl, _, h2⟩ := k2.resolve_left (fun e => by rw [e] at j2; simp at j2)
        have d1 := h1 j j1
        have d2 := h2 j j2
        have v1 := dv_drop j1
        have v2 := dv_drop j2
        obtain ⟨x, hx⟩ : ∃ x, x = L1[j] := ⟨_, rfl⟩
        obtain ⟨y, hy⟩ : ∃ y, y = L2[j] := ⟨_, rfl⟩
        rw [← hx] at d1 v1
        rw [← hy] at d2 v2
        have V1 := Lib.hid v1; have V2 := Lib.hid v2
        clear v1 v2 h1 h2 k1 k2 hx hy q1b q2b hm0
        have hvv := hv.out
        by_cases hlt : x < y
        · have t1 : decide (x < y) = true := by simpa using hlt
          have hr : num (a, b) < num (c, d) := by
            rw [← E1.out, ← E2.out]
            exact drop_lt G1.out G2.out (Nat.le_of_lt j1) (Nat.le_of_lt j2) (by rw [V1.out, V2.out]; omega)
          have HR := Lib.hid hr
          clear hr hvv hlt
          go_wp2_with fail
          go_quiet (fail)
          go_wp2_with fail
          go_ret
          exact ⟨by rw [ord_lt HR.out]; rfl, below_drN hB _⟩
        · have t1 : decide (x < y) = false := by simpa using hlt
          by_cases hgt : y < x
          · have t2 : decide (y < x) = true := by simpa using hgt
            have hr : num (c, d) < num (a, b) := by
              rw [← E1.out, ← E2.out]
              exact drop_lt G2.out G1.out (Nat.le_of_lt j2) (Nat.le_of_lt j1) (by rw [V1.out, V2.out]; omega)
            have HR := Lib.hid hr
            clear hr hvv hlt hgt
            go_wp2_with fail
            go_quiet (fail)
            go_wp2_with fail
            go_quiet (fail)
            go_wp2_with fail
            go_ret
            exact ⟨by rw [ord_gt HR.out]; rfl, below_drN (below_drN hB _) _⟩
          · have t2 : decide (y < x) = false := by simpa using hgt
            have hr : dv (L1.drop j) = dv (L2.drop j) := by rw [V1.out, V2.out]; omega
            have HR := Lib.hid hr
            clear hr hvv hlt hgt
            go_wp2_with fail
            go_quiet (fail)
            go_wp2_with fail
            go_quiet (fail)
            go_wp2_with fail
            go_roundw
            case rel => exact ⟨j, by omega, by go_num, HR, Lib.hid (hs1.out.later (below_drN (Below.refl _ _) _)), Lib.hid (hs2.out.later (below_drN (Below.refl _ _) _)), below_drN hB _⟩
            case measure => simp [intOf]
  · have t0 : ((n1 : Int) != n2) = true := by simp; omega
    by_cases hlt : n1 < n2
    · have t1 : decide ((n1 : Int) < n2) = true := by simp; omega
      have hr := Lib.hid (LL1.out hlt)
      go_wp2_with fail
      go_ret
      exact ⟨by rw [ord_lt hr.out]; rfl, BW⟩
    · have t1 : decide ((n1 : Int) < n2) = false := by simp; omega
      have hr := Lib.hid (LL2.out (by omega))
      go_wp2_with fail
      go_ret
      exact ⟨by rw [ord_gt hr.out]; rfl, BW⟩
end Go.Proofs.Ytfknocgmobddmaa
