/- The reader's step that reads a number. -/
import Derived.Test.YtdjcdhkdmgkdfaaC4
import Derived.WalkMore
import Derived.Deep.LoopGhost
namespace Go.Proofs.Ytdjcdhkdmgkdfaa
open Go.RowKit Go.Proofs.Kit Go.Shelf

theorem pow_bd {m : Nat} {y : Int} (hm : m ≤ 9) (h0 : 0 ≤ y) (h1 : y < 128) (h9 : m = 9 → y ≤ 1) : y * 2 ^ (7 * m) < 18446744073709551616 := by
  have : m = 0 ∨ m = 1 ∨ m = 2 ∨ m = 3 ∨ m = 4 ∨ m = 5 ∨ m = 6 ∨ m = 7 ∨ m = 8 ∨ m = 9 := by omega
  rcases this with rfl | rfl | rfl | rfl | rfl | rfl | rfl | rfl | rfl | rfl
  all_goals simp
  all_goals omega
theorem or_pow {m : Nat} {acc y : Int} (hm : m ≤ 9) (ha0 : 0 ≤ acc) (ha1 : acc < 2 ^ (7 * m)) (h0 : 0 ≤ y) (h1 : y < 128) (h9 : m = 9 → y ≤ 1) :
    bits .or .u64 acc (IntKind.u64.wrap (y * 2 ^ (7 * m))) = acc + y * 2 ^ (7 * m) := by
  have hb := pow_bd hm h0 h1 h9
  have hp := pow7_pos m
  have hn : 0 ≤ y * 2 ^ (7 * m) := Int.mul_nonneg h0 (by omega)
  have ha64 : acc < 18446744073709551616 := by
    have : (2 : Int) ^ (7 * m) < 18446744073709551616 := by simpa using pow_bd (m := m) (y := 1) hm (by omega) (by omega) (by omega)
    omega
  rw [IntKind.wrap_u64, Int.emod_eq_of_lt hn hb, u64_or _ _ ha0 ha64 hn hb]
  have e1 : (y * 2 ^ (7 * m)).toNat = y.toNat * 2 ^ (7 * m) := by
    have : y = (y.toNat : Int) := by omega
    rw [this]
    norm_cast
  have e2 : acc.toNat < 2 ^ (7 * m) := by
    have : ((2 ^ (7 * m) : Nat) : Int) = 2 ^ (7 * m) := by norm_cast
    omega
  rw [e1, Nat.or_comm, nat_join (7 * m) _ _ (Nat.mul_mod_left _ _) e2, ← e1]
  omega

set_option maxHeartbeats 2000000 in
theorem number_some (r p n c b f : Nat) (bs : List Int) (w : World) (hn : bs.length = n) (h : Rdr w r (.slice (some ⟨b, f, none⟩) n c) bs p) (hc : n ≤ c) (hm : c ≤ 9223372036854775807) (hb : b < w.heap.size)
    (ha : ∀ i (h : i < bs.length), w.cell? ⟨b, f + i, none⟩ = some (.int .u8 bs[i])) :
    Calls Try.prog 32 #[.pointer (some ⟨r, 0, none⟩)] w (Stp r (.slice (some ⟨b, f, none⟩) n c) bs w (rdN bs p) (fun x v _ => v = .int .u64 x)) := by
  have HN := Lib.hid hn; clear hn
  have HA := Lib.hid ha; clear ha
  have HR := Lib.hid h
  have hble := h.le
  have hbr : b ≠ r := h.ne b rfl
  clear h
  go_enter Try.func32, Try.ntmps32
  go_wp2
  go_step3
  go_wp2
  go_step3
  go_wp2
  go_loopw [3, 4, 5, 20, 23] (fun s _ i _ _ wr => ∃ (m : Nat) (acc : Int), m ≤ 9 ∧ i = .int .i64 (m : Int) ∧ s = .int .u64 acc ∧ 0 ≤ acc ∧ acc < 2 ^ (7 * m) ∧ p + m ≤ n ∧ But r w wr ∧ Blk wr r #[.slice (some ⟨b, f, none⟩) n c, .int .i64 ((p + m : Nat) : Int)] 62 ∧ Hid (rdNum 0 0 (bs.drop p) = rdNum m acc (bs.drop (p + m)))) (fun _ _ i _ _ _ => 10 - (intOf i).toNat)
  case atStart => 
    have h := HR.out
    exact ⟨0, 0, by omega, rfl, rfl, by omega, by simp, by have := HN.out; omega, But.refl _ _, by simpa using h.blk, Lib.hid (by simp)⟩
  case round =>
    obtain ⟨m, acc, hm9, rfl, rfl, ha0, ha1, hpn, hB, hk, hrd⟩ := hrel
    by_cases hend : p + m < n
    · go_wp2_with fail
      refine (cut_pos r (p + m) n c 1 b f _ hk hpn hc hm (by omega) (by omega)).mono ?_
      rintro e w1 ⟨rfl, hk1, hb1⟩
      have hql : p + m < bs.length := by have := HN.out; omega
      have hB1 := hB.trans hb1
      have d : w1.cell? ⟨b, f + (p + m), none⟩ = some (.int .u8 bs[p + m]) := (World.cell?_of_block (a := ⟨b, f + (p + m), none⟩) (hB1.same b hbr hb)).trans (HA.out _ hql)
      have hx := (HR.out.byt) _ (List.getElem_mem hql)
      have hdrop : bs.drop (p + m) = bs[p + m] :: bs.drop (p + m + 1) := List.drop_eq_getElem_cons hql
      obtain ⟨x, hx'⟩ : ∃ x, x = bs[p + m] := ⟨_, rfl⟩
      rw [← hx'] at d hx hdrop
      have HX := Lib.hid hx'; clear hx'
      have HD := Lib.hid hdrop; clear hdrop
      have hR1 : ∀ q, q = p + m + 1 → Rdr w1 r (.slice (some ⟨b, f, none⟩) n c) bs q := fun q hq => HR.out.moved hB1 (by rw [hq]; simpa using hk1) (by omega)
      have HR1 := Lib.hid hR1; clear hR1
      by_cases hl : x < 128
      · have hx128 : x % 128 = x := by omega
        by_cases hbad : (1 ≤ m ∧ x = 0) ∨ (m = 9 ∧ 1 < x)
        · have hres : rdN bs p = .error 121 := by
            unfold rdN
            rw [hrd.out, HD.out]
            simp only [rdNum]
            rw [if_pos hl, if_pos hbad]
            rfl
          have HRES := Lib.hid hres
          clear hres
          rcases hbad with ⟨g1, g2⟩ | ⟨g1, g2⟩
          · have z0 : (x == 0) = true := by simpa using g2
            clear g2 hx128
            go_wp2_with fail
            all_goals exact bodyPost_panic rfl ⟨hB1, .inr ⟨121, HRES.out, rfl⟩⟩
          · have z0 : (x == 0) = false := by simp; omega
            have t10 : ((m : Int) + 1 == 10) = true := by simp; omega
            have m9 : 8 < m := by omega
            clear g1 hx128
            go_wp2_with fail
            all_goals exact bodyPost_panic rfl ⟨hB1, .inr ⟨121, HRES.out, rfl⟩⟩
        · have hor := or_pow (y := x) hm9 ha0 ha1 hx.1 hl (by omega)
          obtain ⟨z, hz⟩ : ∃ z, z = acc + x * 2 ^ (7 * m) := ⟨_, rfl⟩
          rw [← hz] at hor
          have hres : rdN bs p = .ok (z, p + m + 1) := by
            unfold rdN
            rw [hrd.out, HD.out]
            simp only [rdNum]
            rw [if_pos hl, if_neg hbad, ← hz]
            simp [Except.map]
            omega
          have HRES := Lib.hid hres
          clear hres hz
          rw [← hx128] at hor
          by_cases h1m : 1 ≤ m
          · have z0 : (x == 0) = false := by simp; omega
            by_cases h9 : m = 9
            · have t10 : ((m : Int) + 1 == 10) = true := by simp; omega
              have l1 : x ≤ 1 := by omega
              have H9 := Lib.hid h9
              clear hbad h9 hx128
              go_wp2_with fail
              (try rw [Exit.noGoto_ret])
              go_ret
              exact ⟨hB1, .inl ⟨z, p + m + 1, _, HRES.out, rfl, rfl, HR1.out _ rfl⟩⟩
            · have t10 : ((m : Int) + 1 == 10) = false := by simp; omega
              have m8 : m < 9 := by omega
              clear hbad h9 hx128
              go_wp2_with fail
              (try rw [Exit.noGoto_ret])
              go_ret
              exact ⟨hB1, .inl ⟨z, p + m + 1, _, HRES.out, rfl, rfl, HR1.out _ rfl⟩⟩
          · have t10 : ((m : Int) + 1 == 10) = false := by simp; omega
            have m0 : m < 1 := by omega
            clear hbad h1m hx128
            go_wp2_with fail
            (try rw [Exit.noGoto_ret])
            go_ret
            exact ⟨hB1, .inl ⟨z, p + m + 1, _, HRES.out, rfl, rfl, HR1.out _ rfl⟩⟩
      · by_cases h9 : m = 9
        · have t10 : ((m : Int) + 1 == 10) = true := by simp; omega
          have hres : rdN bs p = .error 121 := by
            unfold rdN
            rw [hrd.out, HD.out]
            simp only [rdNum]
            rw [if_neg hl, if_pos h9]
            rfl
          have HRES := Lib.hid hres
          clear hres h9
          go_wp2_with fail
          (try rw [Exit.noGoto_panic])
          exact bodyPost_panic rfl ⟨hB1, .inr ⟨121, HRES.out, rfl⟩⟩
        · have t10 : ((m : Int) + 1 == 10) = false := by simp; omega
          have m8 : m < 9 := by omega
          have hor := or_pow (y := x % 128) hm9 ha0 ha1 (by omega) (by omega) (by omega)
          obtain ⟨z, hz⟩ : ∃ z, z = acc + x % 128 * 2 ^ (7 * m) := ⟨_, rfl⟩
          rw [← hz] at hor
          have hzb : 0 ≤ z ∧ z < 2 ^ (7 * (m + 1)) := by
            have h1 : 0 ≤ x % 128 * 2 ^ (7 * m) := Int.mul_nonneg (by omega) (by have := pow7_pos m; omega)
            have h2 : x % 128 * 2 ^ (7 * m) ≤ 127 * 2 ^ (7 * m) := Int.mul_le_mul_of_nonneg_right (by omega) (by have := pow7_pos m; omega)
            rw [pow7]
            omega
          have hres : rdNum 0 0 (bs.drop p) = rdNum (m + 1) z (bs.drop (p + (m + 1))) := by
            rw [hrd.out, HD.out]
            simp only [rdNum]
            rw [if_neg hl, if_neg h9, hz, show x - 128 = x % 128 by omega]
            rfl
          have HRES := Lib.hid hres
          have HZ := Lib.hid hzb
          clear hres hz h9 hzb
          go_wp2_with fail
          go_roundw
          case rel => exact ⟨m + 1, z, by omega, by go_num, rfl, HZ.out.1, HZ.out.2, by omega, hB1, by rw [show p + (m + 1) = p + m + 1 by omega]; simpa using hk1, HRES⟩
          case measure => simp [intOf]; omega
    · go_wp2_with fail
      refine (cut_no r (p + m) n c 1 _ _ hk hpn (by omega) (by omega)).mono ?_
      rintro e w1 ⟨rfl, hb1⟩
      go_wp2_with fail
      (try rw [Exit.noGoto_panic])
      refine bodyPost_panic rfl ⟨hB.later hb1, .inr ⟨120, ?_, rfl⟩⟩
      unfold rdN
      rw [hrd.out, List.drop_eq_nil_of_le (by have := HN.out; omega)]
      rfl
set_option maxHeartbeats 1000000 in
theorem number_nil (r : Nat) (w : World) (h : Rdr w r (.slice none 0 0) [] 0) :
    Calls Try.prog 32 #[.pointer (some ⟨r, 0, none⟩)] w fun e w' => e = fault 120 ∧ Below w.heap.size w w' := by
  have hk := h.blk
  clear h
  go_enter Try.func32, Try.ntmps32
  go_wp2
  go_step3
  go_wp2
  go_step3
  go_wp2
  go_loopw [3, 4, 5, 20, 23] (fun _ _ i _ _ wr => i = .int .i64 0 ∧ wr = w) (fun _ _ i _ _ _ => 0)
  case atStart => exact ⟨rfl, rfl⟩
  case round =>
    obtain ⟨rfl, rfl⟩ := hrel
    go_wp2_with fail
    refine (cut_no r 0 0 0 1 _ _ hk (by omega) (by omega) (by omega)).mono ?_
    rintro e w1 ⟨rfl, hb1⟩
    go_wp2_with fail
    (try rw [Exit.noGoto_panic])
    exact bodyPost_panic rfl ⟨rfl, hb1⟩
theorem mnumber_any (r p : Nat) (bv : Value) (bs : List Int) (w : World) (h : Rdr w r bv bs p) :
    Calls Try.prog 32 #[.pointer (some ⟨r, 0, none⟩)] w (Stp r bv bs w (rdN bs p) (fun x v _ => v = .int .u64 x)) := by
  rcases h.seg.2 with ⟨rfl, rfl⟩ | ⟨b, f, c, rfl, h2, h3, h4, h5⟩
  · obtain rfl : p = 0 := by simpa using h.le
    exact (number_nil r w h).mono fun e w' ⟨he, hb⟩ => ⟨.of_below hb, .inr ⟨120, by simp [rdN, rdNum, Except.map], he⟩⟩
  · exact number_some r p _ c b f bs w rfl h h2 h3 h4 h5
end Go.Proofs.Ytdjcdhkdmgkdfaa
