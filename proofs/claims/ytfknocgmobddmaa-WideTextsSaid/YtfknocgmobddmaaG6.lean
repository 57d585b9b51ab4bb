/- The reference's Number. -/
import Derived.Test.YtfknocgmobddmaaG5
import Derived.Test.YtfknocgmobddmaaB1
import Derived.Deep.RegionHeld3
import Derived.Deep.RegionLaw
namespace Go.Proofs.Ytfknocgmobddmaa
open Go.RowKit Go.Proofs.Kit

theorem dat_take {l : List Int} {i n : Nat} (h : i < n) : dat (l.take n) i = dat l i := by
  by_cases hk : i < l.length
  · rw [dat_lt (by simp; omega), dat_lt hk, List.getElem_take]
  · rw [dat_ge (by simp; omega), dat_ge hk]
theorem dat_drop (l : List Int) (i n : Nat) : dat (l.drop n) i = dat l (i + n) := by
  by_cases hk : i + n < l.length
  · rw [dat_lt (by simp; omega), dat_lt hk, List.getElem_drop]
    congr 1; omega
  · rw [dat_ge (by simp; omega), dat_ge hk]
theorem dv_len {l : List Int} (h : Dig l) {k : Nat} (hk : l.length ≤ k) : 0 ≤ dv l ∧ dv l < 65536 ^ k := by
  have := dv_bd l h
  have h2 : (65536 : Int) ^ l.length ≤ 65536 ^ k := by
    have h1 : ((65536 ^ l.length : Nat) : Int) = 65536 ^ l.length := Int.natCast_pow 65536 _
    have h2 : ((65536 ^ k : Nat) : Int) = 65536 ^ k := Int.natCast_pow 65536 _
    rw [← h1, ← h2]
    exact Int.ofNat_le.2 (Nat.pow_le_pow_right (by decide) hk)
  omega

theorem at_4 (v : Value) (l : List Int) (k : Nat) (w : World) (hs : Seg .u64 w v l) (hk : k ≤ 1000000) :
    Calls Try.prog 40 #[v, .int .i64 ((k : Int) + 4)] w fun e w' => e = .returned (.int .u64 (dat l (k + 4))) ∧ w' = w := at_any v l (k + 4) w hs (by omega)
theorem wrap_u {x : Int} (h0 : 0 ≤ x) (h1 : x < 18446744073709551616) : IntKind.u64.wrap x = x := by rw [IntKind.wrap_u64]; omega
theorem dv_split (l : List Int) : dv l = dv (l.take 4) + 18446744073709551616 * dv (l.drop 4) := by
  by_cases h : 4 ≤ l.length
  · have e := dv_append (l.take 4) (l.drop 4)
    rw [List.take_append_drop] at e
    rw [e]
    have : (l.take 4).length = 4 := by simp; omega
    rw [this]
    omega
  · rw [List.take_of_length_le (by omega), dv_drop_end (by omega)]
    omega
set_option maxRecDepth 100000 in
set_option maxHeartbeats 2000000 in
theorem rwnumber_small (v : Value) (l : List Int) (w : World) (s : Seg .u64 w v l) (d : Dig l) (h8 : dv l < Big) :
    Calls Try.prog 39 #[v] w fun e w' => e = .returned (.tuple #[WV (hiW (dv l)) (loW (dv l)), .bool true]) ∧ Below w.heap.size w w' := by
  obtain ⟨o, c, rfl, _, _, _⟩ := s.shape
  go_enter Try.func39, Try.ntmps39
  go_wp2_with fail
  refine (trim_any o _ c l _ rfl (s.alloc _) d).mono ?_
  rintro e w1 ⟨rfl, rfl⟩
  have s1 : Seg .u64 w (.slice o (dg (dv l).toNat).length c) (dg (dv l).toNat) := by
    have := dg_take l d
    rw [this.1]
    have hl : (l.take (dg (dv l).toNat).length).length = (dg (dv l).toNat).length := by simp; omega
    rw [hl]
    exact s.upto this.2
  have hdg := dg_dig (dv l).toNat
  have hdv := dv_dg (dv l).toNat
  have hn0 := dv_nonneg d
  have hlen : (dg (dv l).toNat).length ≤ 8 := dg_len (by unfold Big at h8; omega)
  obtain ⟨L, hL⟩ : ∃ L, L = dg (dv l).toNat := ⟨_, rfl⟩
  rw [← hL] at s1 hdg hdv hlen ⊢
  obtain ⟨n, hn⟩ : ∃ n, n = L.length := ⟨_, rfl⟩
  rw [← hn] at hlen s1 ⊢
  have S1 := Lib.hid s1
  have HD := Lib.hid hdg
  have HV : Hid (dv L = dv l) := Lib.hid (by rw [hdv]; omega)
  have HN := Lib.hid hn
  clear s s1 hdg hdv hL hn
  have hlo : ∀ m, 0 ≤ dv ((L.take 4).drop (m + 1)) ∧ dv ((L.take 4).drop (m + 1)) < 281474976710656 := fun m => by
    have := dv_len (k := 3) (dig_drop (dig_take HD.out 4) (m + 1)) (by simp; omega)
    omega
  have hhi : ∀ m, 0 ≤ dv ((L.drop 4).drop (m + 1)) ∧ dv ((L.drop 4).drop (m + 1)) < 281474976710656 := fun m => by
    have := dv_len (k := 3) (dig_drop (dig_drop HD.out 4) (m + 1)) (by have := HN.out; simp; omega)
    omega
  have HLO := Lib.hid hlo
  have HHI := Lib.hid hhi
  clear hlo hhi
  go_wp2_with fail
  obtain ⟨W, hW⟩ : ∃ W, W = (w.alloc (.cells #[.int .u64 0, .int .u64 0] 26)).alloc (.cells #[.int .u64 0, .int .u64 0] 26) := ⟨_, rfl⟩
  have bA : Blk W w.heap.size #[.int .u64 0, .int .u64 0] 26 := by rw [hW]; exact (Blk.new _ _ _).alloc _
  have bB : Blk W (w.heap.size + 1) #[.int .u64 0, .int .u64 0] 26 := by rw [hW]; have := Blk.new (w.alloc (.cells #[.int .u64 0, .int .u64 0] 26)) #[.int .u64 0, .int .u64 0] 26; simpa using this
  have B0 : Below w.heap.size w W := by rw [hW]; exact ((Below.refl _ _).alloc (Nat.le_refl _) _).alloc (by simp) _
  rw [← hW]
  clear hW
  go_loopw [5] (fun i wr => ∃ (m : Nat), m ≤ 4 ∧ i = .int .i64 ((m : Int) - 1) ∧ Blk wr (w.heap.size + 1) #[.int .u64 (dv ((L.drop 4).drop m)), .int .u64 (dv ((L.take 4).drop m))] 26 ∧ Blk wr w.heap.size #[.int .u64 0, .int .u64 0] 26 ∧ Below w.heap.size w wr) (fun i _ => (intOf i + 1).toNat)
  case atStart => exact ⟨4, by omega, rfl, by rw [dv_drop_end (by have := HN.out; simp; omega), dv_drop_end (by simp; omega)]; exact bB, bA, B0⟩
  case round =>
    obtain ⟨m, hm, rfl, hb, ha, hB⟩ := hrel
    have hs := S1.out.below hB (Nat.le_refl _)
    clear bA bB B0
    by_cases hm0 : m = 0
    · subst hm0
      have c0 := hb.cell 0
      have c1 := hb.cell 1
      have a0 := ha.cell 0
      have a1 := ha.cell 1
      have f0 := ha.frozen 0
      have f1 := ha.frozen 1
      have hl1 := ha.lt
      have hl2 := hb.lt
      simp only [List.getElem?_toArray, List.getElem?_cons_zero, List.getElem?_cons_succ] at c0 c1 a0 a1
      have hb3 := (hb.lt)
      obtain ⟨H, hH⟩ : ∃ H, H = dv ((L.drop 4).drop 0) := ⟨_, rfl⟩
      obtain ⟨O, hO⟩ : ∃ O, O = dv ((L.take 4).drop 0) := ⟨_, rfl⟩
      rw [← hH] at c0
      rw [← hO] at c1
      have HH := Lib.hid hH
      have HO := Lib.hid hO
      clear hH hO
      go_wp2_with fail
      have C0 : ((wr.setCell ⟨w.heap.size, 0, none⟩ (.int .u64 H)).setCell ⟨w.heap.size, 1, none⟩ (.int .u64 O)).cell? ⟨w.heap.size, 0, none⟩ = some (.int .u64 H) := ((ha.set 0 _).set 1 _).cell 0
      have C1 : ((wr.setCell ⟨w.heap.size, 0, none⟩ (.int .u64 H)).setCell ⟨w.heap.size, 1, none⟩ (.int .u64 O)).cell? ⟨w.heap.size, 1, none⟩ = some (.int .u64 O) := ((ha.set 0 _).set 1 _).cell 1
      have hv : dv l = O + 18446744073709551616 * H := by
        have h1 := dv_split L
        rw [HV.out] at h1
        rw [h1, HH.out, HO.out]
        simp
      have w1 : Wd H := by have := dv_len (k := 4) (dig_drop HD.out 4) (by have := HN.out; simp; omega); rw [HH.out]; simp [Wd]; omega
      have w2 : Wd O := by have := dv_len (k := 4) (dig_take HD.out 4) (by simp; omega); rw [HO.out]; simp [Wd]; omega
      have e1 : hiW (dv l) = H := hiW_of w1 w2 (by rw [hv]; simp [num]; omega)
      have e2 : loW (dv l) = O := loW_of w1 w2 (by rw [hv]; simp [num]; omega)
      rw [e1, e2]
      exact bodyPost_ret (v := .tuple #[WV H O, .bool true]) (by simp [results, Try.results39, go_sem, C0, C1]) rfl ⟨rfl, (hB.setCell (by simp) _).setCell (by simp) _⟩
    · obtain ⟨j, rfl⟩ : ∃ j, m = j + 1 := ⟨m - 1, by omega⟩
      rw [show (((j + 1 : Nat) : Int) - 1) = (j : Int) by omega]
      have c0 := hb.cell 0
      have c1 := hb.cell 1
      have f0 := hb.frozen 0
      have f1 := hb.frozen 1
      have hl2 := hb.lt
      simp only [List.getElem?_toArray, List.getElem?_cons_zero, List.getElem?_cons_succ] at c0 c1
      have blo := HLO.out j
      have bhi := HHI.out j
      have elo := dv_dat (L.take 4) j
      have ehi := dv_dat (L.drop 4) j
      rw [dat_take (by omega)] at elo
      rw [dat_drop] at ehi
      have xb := dat_bd HD.out j
      have yb := dat_bd HD.out (j + 4)
      obtain ⟨x, hx⟩ : ∃ x, x = dat L j := ⟨_, rfl⟩
      obtain ⟨y, hy⟩ : ∃ y, y = dat L (j + 4) := ⟨_, rfl⟩
      obtain ⟨P, hP⟩ : ∃ P, P = dv ((L.take 4).drop (j + 1)) := ⟨_, rfl⟩
      obtain ⟨Q, hQ⟩ : ∃ Q, Q = dv ((L.drop 4).drop (j + 1)) := ⟨_, rfl⟩
      rw [← hP] at c1 blo elo hb
      rw [← hQ] at c0 bhi ehi hb
      have hxx := hx
      rw [← hx] at elo xb
      rw [← hy] at ehi yb
      have q1 : IntKind.u64.wrap (P * 65536) = P * 65536 := wrap_u (by omega) (by omega)
      have q2 : IntKind.u64.wrap (P * 65536 + x) = P * 65536 + x := wrap_u (by omega) (by omega)
      have q3 : IntKind.u64.wrap (Q * 65536) = Q * 65536 := wrap_u (by omega) (by omega)
      have q4 : IntKind.u64.wrap (Q * 65536 + y) = Q * 65536 + y := wrap_u (by omega) (by omega)
      have q5 : IntKind.i64.wrap ((j : Int) + 4) = (j : Int) + 4 := by rw [IntKind.wrap_i64]; omega
      have ELO := Lib.hid elo
      have EHI := Lib.hid ehi
      have HX := Lib.hid hx
      have HY := Lib.hid hy
      clear elo ehi hx hy hxx hP hQ hm0
      go_wp2_with fail
      go_region_law ((go_simp; go_at_call 40; with_reducible refine (at_any _ L j _ (by first | exact hs | exact hs.drew) (by omega)).mono ?_; rintro e w' ⟨he, rfl⟩; rw [← HX.out] at he; subst he))
      all_goals
        have b2 := (hb.set 1 (.int .u64 (P * 65536 + x))).drew
        have a2 := (ha.other (p := ⟨w.heap.size + 1, 1, none⟩) (by simp) (.int .u64 (P * 65536 + x))).drew
        have B2 := (hB.setCell (p := ⟨w.heap.size + 1, 1, none⟩) (by simp) (.int .u64 (P * 65536 + x))).drew
        obtain ⟨wq, hq⟩ : ∃ wq, wq = (wr.setCell ⟨w.heap.size + 1, 1, none⟩ (.int .u64 (P * 65536 + x))).drew := ⟨_, rfl⟩
        rw [← hq] at b2 a2 B2 ⊢
        have s2 := S1.out.below B2 (Nat.le_refl _)
        clear hq hs c0 c1 f0 f1 hl2 hb ha hB q1 q2
        simp only [List.setIfInBounds_toArray, List.set_cons_zero, List.set_cons_succ] at b2
        have c0 := b2.cell 0
        have f0 := b2.frozen 0
        have hl2 := b2.lt
        simp only [List.getElem?_toArray, List.getElem?_cons_zero] at c0
        go_wp2_with fail
        go_region_law ((go_simp; go_at_call 40; with_reducible refine (at_4 _ L j _ (by first | exact s2 | exact s2.drew) (by omega)).mono ?_; rintro e w' ⟨he, rfl⟩; rw [← HY.out] at he; subst he))
        all_goals
          have b3 := (b2.set 0 (.int .u64 (Q * 65536 + y))).drew
          have a3 := (a2.other (p := ⟨w.heap.size + 1, 0, none⟩) (by simp) (.int .u64 (Q * 65536 + y))).drew
          have B3 := (B2.setCell (p := ⟨w.heap.size + 1, 0, none⟩) (by simp) (.int .u64 (Q * 65536 + y))).drew
          simp only [List.setIfInBounds_toArray, List.set_cons_zero] at b3
          clear c0 f0 hl2 b2 a2 B2
          go_wp2_with fail
          go_roundw
          case rel => exact ⟨j, by omega, by go_num, by rw [EHI.out, ELO.out, show y + 65536 * Q = Q * 65536 + y by omega, show x + 65536 * P = P * 65536 + x by omega]; exact b3, a3, B3⟩
          case measure => simp [intOf]
set_option maxRecDepth 100000 in
set_option maxHeartbeats 2000000 in
theorem rwnumber_big (v : Value) (l : List Int) (w : World) (s : Seg .u64 w v l) (d : Dig l) (h8 : Big ≤ dv l) :
    Calls Try.prog 39 #[v] w fun e w' => e = .returned (.tuple #[WV 0 0, .bool false]) ∧ Below w.heap.size w w' := by
  obtain ⟨o, c, rfl, _, _, _⟩ := s.shape
  go_enter Try.func39, Try.ntmps39
  go_wp2_with fail
  refine (trim_any o _ c l _ rfl (s.alloc _) d).mono ?_
  rintro e w1 ⟨rfl, rfl⟩
  have hlen : 8 < (dg (dv l).toNat).length := dg_len_lt (by unfold Big at h8; omega)
  obtain ⟨n, hn⟩ : ∃ n, n = (dg (dv l).toNat).length := ⟨_, rfl⟩
  rw [← hn] at hlen ⊢
  have t8 : decide ((8 : Int) < n) = true := by simp; omega
  clear hn
  go_wp2_with fail
  exact bodyPost_ret (v := .tuple #[WV 0 0, .bool false]) (by simp [results, Try.results39, go_sem]) rfl ⟨rfl, (Below.refl _ _).alloc (Nat.le_refl _) _⟩
end Go.Proofs.Ytfknocgmobddmaa
