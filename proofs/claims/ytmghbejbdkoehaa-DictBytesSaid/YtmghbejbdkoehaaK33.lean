/- The reference's ReadNumber. -/
import Derived.Test.YtmghbejbdkoehaaMj
import Derived.Test.YtmghbejbdkoehaaK29
namespace Go.Proofs.Kit
open Go.RowKit
/-- What so many bytes come to, the first one the least. -/
def lowSept (bs : List Int) (p : Nat) : Nat → Int
  | 0 => 0
  | m + 1 => lowSept bs p m + (bs.getD (p + m) 0 % 128) * 2 ^ (7 * m)
/-- So many bytes are none of them the last. -/
def Long (bs : List Int) (p m : Nat) : Prop := ∀ j, j < m → 128 ≤ bs.getD (p + j) 0
theorem lowSept_succ (bs : List Int) (p m : Nat) : lowSept bs p (m + 1) = lowSept bs p m + (bs.getD (p + m) 0 % 128) * 2 ^ (7 * m) := rfl
theorem lowSept_pos {bs : List Int} (hb : Byt bs) (p : Nat) : ∀ m, 0 ≤ lowSept bs p m
  | 0 => by simp [lowSept]
  | m + 1 => by
    have h := lowSept_pos hb p m
    have h2 : (0 : Int) ≤ (bs.getD (p + m) 0 % 128) * 2 ^ (7 * m) := Int.mul_nonneg (by omega) (Int.le_of_lt (pow7_pos m))
    rw [lowSept_succ]; omega
theorem getD_at {bs : List Int} {q : Nat} (h : q < bs.length) : bs.getD q 0 = bs[q] := by simp [List.getD, h]
theorem rdNum_long {bs : List Int} (hb : Byt bs) (p : Nat) : ∀ m, m ≤ 9 → p + m ≤ bs.length → Long bs p m → rdNum 0 0 (bs.drop p) = rdNum m (lowSept bs p m) (bs.drop (p + m))
  | 0, _, _, _ => by simp [lowSept]
  | m + 1, hm, hp, hl => by
    have hq : p + m < bs.length := by omega
    rw [rdNum_long hb p m (by omega) (by omega) (fun j hj => hl j (by omega)), List.drop_eq_getElem_cons hq]
    have hx := hl m (by omega)
    have hbx := hb _ (List.getElem_mem hq)
    rw [getD_at hq] at hx
    conv => lhs; unfold rdNum
    rw [if_neg (by omega), if_neg (by omega)]
    rw [lowSept_succ, getD_at hq, show bs[p + m] - 128 = bs[p + m] % 128 by omega, Nat.add_assoc]
theorem rdN_end {bs : List Int} (hb : Byt bs) {p m : Nat} (hm : m ≤ 9) (hp : p + m = bs.length) (hl : Long bs p m) : rdN bs p = .error 120 := by
  unfold rdN
  rw [rdNum_long hb p m hm (by omega) hl, List.drop_of_length_le (by omega)]
  simp [rdNum, Except.map]
theorem rdN_ten {bs : List Int} (hb : Byt bs) {p : Nat} (hp : p + 10 ≤ bs.length) (hl : Long bs p 10) : rdN bs p = .error 121 := by
  have hq : p + 9 < bs.length := by omega
  have hx := hl 9 (by omega)
  rw [getD_at hq] at hx
  unfold rdN
  rw [rdNum_long hb p 9 (by omega) (by omega) (fun j hj => hl j (by omega)), List.drop_eq_getElem_cons hq]
  unfold rdNum
  rw [if_neg (by omega), if_pos rfl]
  simp [Except.map]
theorem rdN_bad {bs : List Int} (hb : Byt bs) {p m : Nat} (hm : m ≤ 9) (hq : p + m < bs.length) (hl : Long bs p m) (hx : bs[p + m] < 128) (hc : (1 ≤ m ∧ bs[p + m] = 0) ∨ (m = 9 ∧ 1 < bs[p + m])) : rdN bs p = .error 121 := by
  unfold rdN
  rw [rdNum_long hb p m hm (by omega) hl, List.drop_eq_getElem_cons hq]
  unfold rdNum
  rw [if_pos hx, if_pos hc]
  simp [Except.map]
theorem rdN_good {bs : List Int} (hb : Byt bs) {p m : Nat} (hm : m ≤ 9) (hq : p + m < bs.length) (hl : Long bs p m) (hx : bs[p + m] < 128) (hc : ¬ ((1 ≤ m ∧ bs[p + m] = 0) ∨ (m = 9 ∧ 1 < bs[p + m]))) : rdN bs p = .ok (lowSept bs p (m + 1), p + m + 1) := by
  have hbx := hb _ (List.getElem_mem hq)
  unfold rdN
  rw [rdNum_long hb p m hm (by omega) hl, List.drop_eq_getElem_cons hq]
  unfold rdNum
  rw [if_pos hx, if_neg hc]
  simp only [Except.map]
  congr 2
  rw [lowSept_succ, getD_at hq, show bs[p + m] % 128 = bs[p + m] by omega]
theorem pow_step {j : Nat} {l d acc z : Int} (h : z = l + d * 2 ^ (7 * j) + acc * 2 ^ (7 * (j + 1))) : z = l + (acc * 128 + d) * 2 ^ (7 * j) := by
  rw [h, pow7, Int.add_mul, Int.mul_assoc acc 128, Int.add_assoc, Int.add_comm (d * _)]
theorem pow_le {j : Nat} {l a z : Int} (hl : 0 ≤ l) (ha : 0 ≤ a) (h : z = l + a * 2 ^ (7 * j)) : a ≤ z := by
  have := pow7_pos j
  have h1 : a * 1 ≤ a * 2 ^ (7 * j) := Int.mul_le_mul_of_nonneg_left (by omega) ha
  omega
end Go.Proofs.Kit
namespace Go.Proofs.Ytmghbejbdkoehaa
open Go.RowKit Go.Proofs.Kit Go.Shelf

set_option maxRecDepth 100000 in
set_option maxHeartbeats 2000000 in
theorem rreadn_any (p : Nat) (bv : Value) (bs : List Int) (w : World) (hs : Seg .u8 w bv bs) (hb : Byt bs) (hl : bs.length ≤ 1000000000) (hp : p ≤ bs.length) :
    Calls Try.prog 59 #[bv, .int .i64 (p : Int)] w (Read w (rdN bs p) (.int .u64 0) (fun x v _ => v = .int .u64 x)) := by
  obtain ⟨o, c, rfl, hlc, hc9, hsh⟩ := hs.shape
  obtain ⟨n, hn⟩ : ∃ n, n = bs.length := ⟨_, rfl⟩
  have HN := Lib.hid hn
  have HB := Lib.hid hb
  have HS := Lib.hid hsh
  rw [← hn] at hlc hl hp ⊢
  clear hs hb hn hsh
  go_enter Try.func59, Try.ntmps59
  go_upto_block 0 with fail
  go_cut [7] (fun s7 wx => ∃ m : Nat, s7 = .int .i64 ((p + m : Nat) : Int) ∧ m ≤ 10 ∧ p + m ≤ n ∧ Hid (Long bs p m) ∧ Hid (m = 10 ∨ p + m = n ∨ bs.getD (p + m) 0 < 128) ∧ wx = w)
  case first =>
    go_wp2
    go_loopw [7] (fun i wr => ∃ m q : Nat, i = .int .i64 (q : Int) ∧ q = p + m ∧ m ≤ 10 ∧ q ≤ n ∧ Hid (Long bs p m) ∧ wr = w) (fun i _ => p + 10 - (intOf i).toNat)
    case atStart => exact ⟨0, p, rfl, rfl, by omega, hp, Lib.hid (fun j hj => absurd hj (by omega)), rfl⟩
    case round =>
      obtain ⟨m, q, rfl, hqm, hm, hq, HL, rfl⟩ := hrel
      have HQ := Lib.hid hqm
      clear hqm
      by_cases hqn : q < n
      · have hql : q < bs.length := by have := HN.out; omega
        rcases HS.out with h | ⟨b, f, rfl, _, ha⟩
        · rw [h] at hql; simp at hql
        · have hx := ha q hql
          obtain ⟨x, hxe⟩ : ∃ x, x = bs[q] := ⟨_, rfl⟩
          have hxx : bs.getD (p + m) 0 = x := by rw [← HQ.out, getD_at hql, hxe]
          have HXX := Lib.hid hxx
          have hx0 := HB.out _ (List.getElem_mem hql)
          rw [← hxe] at hx hx0
          have g1 : decide (q < n) = true := by simpa using hqn
          have hsub : (q : Int) - (p : Int) = (m : Int) := by have := HQ.out; omega
          clear hxe hxx ha
          by_cases h128 : 128 ≤ x
          · have g2 : decide (128 ≤ x) = true := by simpa using h128
            by_cases h10 : m = 10
            · have g3 : decide ((m : Int) < 10) = false := by simp; omega
              have hw : IntKind.i64.wrap (m : Int) = (m : Int) := by rw [IntKind.wrap_i64]; omega
              clear h128
              go_wp2
              go_meet
              exact ⟨m, by rw [HQ.out], hm, by have := HQ.out; omega, HL, Lib.hid (.inl h10), rfl⟩
            · have g3 : decide ((m : Int) < 10) = true := by simp; omega
              have hw : IntKind.i64.wrap (m : Int) = (m : Int) := by rw [IntKind.wrap_i64]; omega
              have HL' : Hid (Long bs p (m + 1)) := Lib.hid (fun j hj => by
                by_cases e : j = m
                · subst e; rw [HXX.out]; exact h128
                · exact HL.out j (by omega))
              clear h128
              go_wp2
              go_roundw
              case rel => exact ⟨m + 1, q + 1, by go_num, by have := HQ.out; omega, by omega, by omega, HL', trivial⟩
              case measure => simp [intOf]; have := HQ.out; omega
          · have g2 : decide (128 ≤ x) = false := by simp; omega
            have hlt : x < 128 := by omega
            clear h128
            go_wp2
            go_meet
            exact ⟨m, by rw [HQ.out], hm, by have := HQ.out; omega, HL, Lib.hid (.inr (.inr (by rw [HXX.out]; exact hlt))), rfl⟩
      · have g1 : decide (q < n) = false := by simpa using hqn
        go_wp2
        go_meet
        exact ⟨m, by rw [HQ.out], hm, by have := HQ.out; omega, HL, Lib.hid (.inr (.inl (by have := HQ.out; omega))), rfl⟩
  case rest =>
    obtain ⟨m, rfl, hm, hpm, HL, HE, rfl⟩ := hcut
    obtain ⟨q, hqm⟩ : ∃ q, q = p + m := ⟨_, rfl⟩
    rw [← hqm] at hpm HE ⊢
    have HQ := Lib.hid hqm
    have hsub : (q : Int) - (p : Int) = (m : Int) := by omega
    have hw : IntKind.i64.wrap (m : Int) = (m : Int) := by rw [IntKind.wrap_i64]; omega
    clear hqm
    by_cases h10 : m = 10
    · have g1 : ((m : Int) == 10) = true := by simp; omega
      have hres : rdN bs p = .error 121 := rdN_ten HB.out (by have := HN.out; have := HQ.out; omega) (by rw [← h10]; exact HL.out)
      have HR := Lib.hid hres
      clear h10 hres
      go_wp2
      go_ret3
      exact ⟨Below.refl _ _, .inr ⟨121, HR.out, rfl⟩⟩
    · have g1 : ((m : Int) == 10) = false := by simp; omega
      have hm9 : m ≤ 9 := by omega
      clear h10 hm
      by_cases hqn : q = n
      · have hres : rdN bs p = .error 120 := rdN_end HB.out hm9 (by have := HN.out; have := HQ.out; omega) HL.out
        have HR := Lib.hid hres
        have g2 : ((q : Int) == (n : Int)) = true := by simp; omega
        have g3 : (q == n) = true := by simp [hqn]
        clear hqn hres
        go_wp2
        go_ret3
        exact ⟨Below.refl _ _, .inr ⟨120, HR.out, rfl⟩⟩
      · have g2 : ((q : Int) == (n : Int)) = false := by simp; omega
        have g3 : (q == n) = false := by simp [hqn]
        have hql : q < bs.length := by have := HN.out; omega
        have hqlt : q < n := by omega
        clear hqn
        rcases HS.out with h | ⟨b, f, rfl, hbW, ha⟩
        · rw [h] at hql; simp at hql
        · have hx := ha q hql
          have HA := Lib.hid ha
          obtain ⟨x, hxe⟩ : ∃ x, x = bs[q] := ⟨_, rfl⟩
          have hpq : p + m < bs.length := by have := HQ.out; omega
          have hxx : x = bs[p + m] := by rw [hxe]; congr 1
          have hx0 := HB.out _ (List.getElem_mem hql)
          rw [← hxe] at hx hx0
          have hx128 : x < 128 := by
            rcases HE.out with h | h | h
            · omega
            · omega
            · rw [getD_at hql, ← hxe] at h; exact h
          have HXX := Lib.hid hxx
          have HPQ := Lib.hid hpq
          clear ha hxe hxx HE hql
          by_cases hbad : (1 ≤ m ∧ x = 0) ∨ (m = 9 ∧ 1 < x)
          · have hres : rdN bs p = .error 121 := rdN_bad HB.out hm9 HPQ.out HL.out (by rw [← HXX.out]; exact hx128) (by rw [← HXX.out]; exact hbad)
            have HR := Lib.hid hres
            clear hres
            rcases hbad with ⟨h1, rfl⟩ | ⟨rfl, h1⟩
            · have g4 : decide (p < q) = true := by simp; have := HQ.out; omega
              go_wp2
              go_ret3
              exact ⟨Below.refl _ _, .inr ⟨121, HR.out, rfl⟩⟩
            · have g4 : decide (p < q) = true := by simp; have := HQ.out; omega
              have g5 : (x == 0) = false := by simp; omega
              have g6 : decide (1 < x) = true := by simp; omega
              have g7 : (((9 : Nat) : Int) == 9) = true := by decide
              go_wp2
              go_ret3
              exact ⟨Below.refl _ _, .inr ⟨121, HR.out, rfl⟩⟩
          · have hres := rdN_good HB.out hm9 HPQ.out HL.out (by rw [← HXX.out]; exact hx128) (by rw [← HXX.out]; exact hbad)
            have HR := Lib.hid hres
            clear hres
            obtain ⟨z, hz⟩ : ∃ z, z = lowSept bs p (m + 1) := ⟨_, rfl⟩
            have HZ := Lib.hid hz
            have hzb : z < 18446744073709551616 := by
              obtain ⟨k, hk, hk2, _⟩ := rdN_back HB.out HR.out
              rw [hz, hk]; omega
            clear hz
            go_upto_region 8 with fail
            go_cut [60] from 38 to 59 (fun s60 wd => s60 = .bool false ∧ wd = wc)
            case first =>
              by_cases h1 : 1 ≤ m
              · have g4 : decide (p < q) = true := by simp; have := HQ.out; omega
                have g5 : (x == 0) = false := by simp; omega
                by_cases h9 : m = 9
                · have g6 : ((m : Int) == 9) = true := by simp; omega
                  have g7 : decide (1 < x) = false := by simp; omega
                  clear h9 h1 hbad
                  go_wp2
                  go_meet
                  exact ⟨rfl, rfl⟩
                · have g6 : ((m : Int) == 9) = false := by simp; omega
                  clear h9 h1 hbad
                  go_wp2
                  go_meet
                  exact ⟨rfl, rfl⟩
              · have g4 : decide (p < q) = false := by simp; have := HQ.out; omega
                have g6 : ((m : Int) == 9) = false := by simp; omega
                clear h1 hbad
                go_wp2
                go_meet
                exact ⟨rfl, rfl⟩
            case rest =>
            obtain ⟨rfl, rfl⟩ := hcut
            clear hbad
            go_upto_block 2 with fail
            go_cut [8, 9] (fun s8 _ wx => s8 = .int .u64 z ∧ wx = wc)
            case first =>
              go_wp2
              go_loopw [8, 9] (fun s i wr => ∃ (j : Nat) (acc iv : Int), s = .int .u64 acc ∧ i = .int .i64 iv ∧ Hid (iv + 1 = (p : Int) + (j : Int)) ∧ j ≤ m + 1 ∧ 0 ≤ acc ∧ Hid (z = lowSept bs p j + acc * 2 ^ (7 * j)) ∧ wr = wc) (fun _ i _ => (intOf i + 1 - (p : Int)).toNat)
              case atStart => exact ⟨m + 1, 0, (q : Int), rfl, rfl, Lib.hid (by have := HQ.out; omega), Nat.le_refl _, Int.le_refl _, Lib.hid (by rw [HZ.out]; simp), rfl⟩
              case round =>
                obtain ⟨j, acc, iv, rfl, rfl, HI, hj, hacc, HE2, rfl⟩ := hrel
                match j, hj, HI, HE2 with
                | 0, _, HI, HE2 =>
                  have g5 : decide ((p : Int) ≤ iv) = false := by have := HI.out; simp; omega
                  have hz : z = acc := by rw [HE2.out]; simp [lowSept]
                  subst hz
                  go_wp2
                  go_meet
                  exact ⟨rfl, rfl⟩
                | j + 1, hj, HI, HE2 =>
                  obtain ⟨qj, hqj⟩ : ∃ qj, qj = p + j := ⟨_, rfl⟩
                  obtain rfl : iv = (qj : Int) := by have := HI.out; omega
                  have hql : qj < bs.length := by have := HN.out; have := HQ.out; omega
                  have hd := HA.out qj hql
                  have hy0 := HB.out _ (List.getElem_mem hql)
                  obtain ⟨y, hy⟩ : ∃ y, y = bs[qj] := ⟨_, rfl⟩
                  have hgy : bs.getD (p + j) 0 = y := by rw [← hqj, getD_at hql, hy]
                  rw [← hy] at hd hy0
                  have hz1 : z = lowSept bs p j + (acc * 128 + y % 128) * 2 ^ (7 * j) := pow_step (by rw [HE2.out, lowSept_succ, hgy])
                  have hzl := pow_le (lowSept_pos HB.out p j) (by omega) hz1
                  have HZ1 := Lib.hid hz1
                  have HQJ := Lib.hid hqj
                  have g5 : decide (p ≤ qj) = true := by simp; omega
                  have w1 : IntKind.u64.wrap (acc * 128) = acc * 128 := by rw [IntKind.wrap_u64]; omega
                  have w2 : IntKind.u64.wrap (acc * 128 + y % 128) = acc * 128 + y % 128 := by rw [IntKind.wrap_u64]; omega
                  have w3 : y.tmod 128 = y % 128 := Int.tmod_eq_emod_of_nonneg hy0.1
                  have w4 : IntKind.u64.wrap y = y := by rw [IntKind.wrap_u64]; omega
                  have w5 : IntKind.i64.wrap ((qj : Int) - 1) = (qj : Int) - 1 := by rw [IntKind.wrap_i64]; omega
                  have w6 : IntKind.u64.wrap (y % 128) = y % 128 := by rw [IntKind.wrap_u64]; omega
                  have hqn : qj < n := by have := HN.out; omega
                  have hnn : 0 ≤ acc * 128 + y % 128 := by omega
                  clear hy hgy hz1 hqj HI hzl
                  go_wp2
                  go_roundw
                  case rel => exact ⟨j, _, _, rfl, rfl, Lib.hid (by have := HQJ.out; omega), by omega, hnn, HZ1, trivial⟩
                  case measure => simp [intOf]; have := HQJ.out; omega
            case rest =>
              obtain ⟨rfl, rfl⟩ := hcut
              have hw3 : IntKind.i64.wrap ((q : Int) + 1) = (q : Int) + 1 := by rw [IntKind.wrap_i64]; omega
              go_wp2
              go_ret3
              exact ⟨Below.refl _ _, .inl ⟨z, q + 1, _, by rw [HR.out, ← HZ.out, HQ.out], rfl, rfl⟩⟩
end Go.Proofs.Ytmghbejbdkoehaa

