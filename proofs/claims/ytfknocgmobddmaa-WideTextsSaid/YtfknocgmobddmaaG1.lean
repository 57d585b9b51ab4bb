/- The reference's rows of digits: trim, at, Small, Digits. -/
import Derived.Test.YtfknocgmobddmaaT7
import Derived.Test.YtfknocgmobddmaaSegB
import Derived.Test.YtfknocgmobddmaaG0
import Derived.Maps.AppendAt
namespace Go.Proofs.Ytfknocgmobddmaa
open Go.RowKit Go.Proofs.Kit

theorem infou : ∃ i, Try.prog.info? 24 = some i ∧ i.zero = some (.int .u64 0) ∧ i.size = 1 ∧ i.bytes = 8 := info_parts (by kernel_rfl)
theorem Owns.upto {k : IntKind} {t : TypeId} {B : Nat} {w : World} {o : Option Addr} {n c : Nat} {l : List Int} (h : Owns k t B w (.slice o l.length c) l) (hn : n ≤ l.length) : Owns k t B w (.slice o n c) (l.take n) := by
  have hl : (l.take n).length = n := by simp; omega
  rcases h.2 with ⟨e, h2⟩ | ⟨g, cap, cur, e, hg, hb, h1, h2, h3, h4⟩
  · injection e with e1 e2 e3
    obtain rfl : n = 0 := by omega
    refine ⟨by simp, .inl ⟨by rw [e1, e3], by simp⟩⟩
  · injection e with e1 e2 e3
    refine ⟨by simp, .inr ⟨g, cap, cur, by rw [e1, e3, hl], hg, hb, by omega, h2, h3, ?_⟩⟩
    rw [hl, Nat.mul_one, List.map_take]
    rw [Nat.mul_one] at h4
    rw [← h4, List.take_take]
    congr 1
    omega

set_option maxHeartbeats 1000000 in
theorem trim_some (b f c n : Nat) (l : List Int) (w : World) (hn : l.length = n) (hm : n ≤ 9223372036854775807) (hc : n ≤ c) (hd : Dig l) (ha : ∀ i (h : i < l.length), w.cell? ⟨b, f + i, none⟩ = some (.int .u64 l[i])) :
    Calls Try.prog 32 #[.slice (some ⟨b, f, none⟩) n c] w fun e w' => e = .returned (.slice (some ⟨b, f, none⟩) (dg (dv l).toNat).length c) ∧ w' = w := by
  have HN := Lib.hid hn
  have HA := Lib.hid ha
  have HD := Lib.hid hd
  clear hn ha hd
  go_enter Try.func32, Try.ntmps32
  go_wp2
  go_loop [0] (fun v => ∃ k : Nat, k ≤ n ∧ v = .slice (some ⟨b, f, none⟩) k c ∧ Hid (dv (l.take k) = dv l)) (fun v => match v with | .slice _ k _ => k | _ => 0)
  case atStart => exact ⟨n, Nat.le_refl _, rfl, Lib.hid (by rw [List.take_of_length_le (by have := HN.out; omega)])⟩
  case round =>
    obtain ⟨k, hk, rfl, hv⟩ := hrel
    by_cases h0 : 0 < k
    · obtain ⟨k, rfl⟩ : ∃ j, k = j + 1 := ⟨k - 1, by omega⟩
      have hkl : k < l.length := by have := HN.out; omega
      have d := HA.out k hkl
      have hsn := List.take_succ_eq_append_getElem hkl
      obtain ⟨x, hx⟩ : ∃ x, x = l[k] := ⟨_, rfl⟩
      rw [← hx] at d hsn
      have HS := Lib.hid hsn
      have HX := Lib.hid hx
      clear hsn hx
      by_cases hx0 : x = 0
      · have t0 : (x == 0) = true := by simpa using hx0
        have HX0 := Lib.hid hx0
        clear hx0
        go_wp2
        go_round
        case rel =>
          refine ⟨k, by omega, by first | rfl | (congr 1; omega), Lib.hid ?_⟩
          rw [← hv.out, HS.out, dv_snoc, HX0.out]
          simp
        case measure => simp
      · have t0 : (x == 0) = false := by simpa using hx0
        have HX0 := Lib.hid hx0
        clear hx0
        go_wp2
        go_ret
        have hg : dg (dv l).toNat = l.take (k + 1) := by
          rw [← hv.out]
          refine dg_dv _ (dig_take HD.out _) (fun hne => ?_)
          simp only [HS.out]
          simpa using HX0.out
        have hlen : (dg (dv l).toNat).length = k + 1 := by rw [hg]; simp; omega
        exact ⟨by rw [hlen]; rfl, rfl⟩
    · obtain rfl : k = 0 := by omega
      go_wp2
      go_ret
      have hz : dv l = 0 := by rw [← hv.out]; simp [dv]
      exact ⟨by rw [hz]; simp [dg_zero], rfl⟩
set_option maxHeartbeats 1000000 in
theorem trim_none (o : Option Addr) (c : Nat) (w : World) : Calls Try.prog 32 #[.slice o 0 c] w fun e w' => e = .returned (.slice o 0 c) ∧ w' = w := by
  go_enter Try.func32, Try.ntmps32
  go_wp2
  go_loop [0] (fun v => v = .slice o 0 c) (fun _ => 0)
  case atStart => rfl
  case round =>
    subst hrel
    go_wp2
    go_ret
    exact ⟨rfl, rfl⟩
theorem trim_any (o : Option Addr) (n c : Nat) (l : List Int) (w : World) (hn : l.length = n) (hs : Seg .u64 w (.slice o n c) l) (hd : Dig l) :
    Calls Try.prog 32 #[.slice o n c] w fun e w' => e = .returned (.slice o (dg (dv l).toNat).length c) ∧ w' = w := by
  subst hn
  obtain ⟨o', c', he, hc, hm, hcase⟩ := hs.shape
  injection he with e1 _ e3
  subst e1 e3
  rcases hcase with rfl | ⟨b, f, rfl, _, a⟩
  · simpa [dv, dg_zero] using trim_none o c w
  · exact trim_some b f c _ l w rfl hs.1 hc hd a
/-- trim of a row of the call's own. -/
theorem trim_own (B : Nat) (v : Value) (l : List Int) (w : World) (h : Owns .u64 24 B w v l) (hd : Dig l) :
    Calls Try.prog 32 #[v] w fun e w' => ∃ v', e = .returned v' ∧ Owns .u64 24 B w v' (dg (dv l).toNat) ∧ w' = w := by
  have hs := h.seg
  obtain ⟨o, c, rfl⟩ := h.shape
  refine (trim_any o _ c l w rfl hs hd).mono fun e w' ⟨he, hw⟩ => ⟨_, he, ?_, hw⟩
  have := dg_take l hd
  rw [this.1]
  have hl : (l.take (dg (dv l).toNat).length).length = (dg (dv l).toNat).length := by simp; omega
  rw [hl]
  exact Owns.upto h this.2
theorem trim_seg (v : Value) (l : List Int) (w : World) (hs : Seg .u64 w v l) (hd : Dig l) :
    Calls Try.prog 32 #[v] w fun e w' => ∃ v', e = .returned v' ∧ Seg .u64 w v' (dg (dv l).toNat) ∧ w' = w := by
  obtain ⟨o, c, rfl, _, _, _⟩ := hs.shape
  refine (trim_any o _ c l w rfl hs hd).mono fun e w' ⟨he, hw⟩ => ⟨_, he, ?_, hw⟩
  have := dg_take l hd
  rw [this.1]
  have hl : (l.take (dg (dv l).toNat).length).length = (dg (dv l).toNat).length := by simp; omega
  rw [hl]
  exact hs.upto this.2

set_option maxHeartbeats 1000000 in
theorem at_any (v : Value) (l : List Int) (k : Nat) (w : World) (hs : Seg .u64 w v l) (_hk : k ≤ 1000000000) :
    Calls Try.prog 40 #[v, .int .i64 (k : Int)] w fun e w' => e = .returned (.int .u64 (dat l k)) ∧ w' = w := by
  obtain ⟨o, c, rfl, hc, hm, hcase⟩ := hs.shape
  obtain ⟨n, hn⟩ : ∃ n, n = l.length := ⟨_, rfl⟩
  rw [← hn] at hc ⊢
  have HN := Lib.hid hn
  clear hn hs
  by_cases hlt : k < n
  · have hkl : k < l.length := by have := HN.out; omega
    obtain ⟨b, f, rfl, _, a⟩ := hcase.resolve_left (fun e => by rw [e] at hkl; simp at hkl)
    have d := a k hkl
    rw [← dat_lt hkl] at d
    clear a hkl
    go_enter Try.func40, Try.ntmps40
    go_wp2
    go_ret
    exact ⟨rfl, rfl⟩
  · have hd : dat l k = 0 := dat_ge (by have := HN.out; omega)
    rw [hd]
    clear hcase hd
    go_enter Try.func40, Try.ntmps40
    go_wp2
    go_ret
    exact ⟨rfl, rfl⟩

set_option maxHeartbeats 1000000 in
theorem small_any (n : Nat) (hn : n < 65536) (w : World) :
    Calls Try.prog 44 #[.int .u64 (n : Int)] w fun e w' => ∃ v', e = .returned v' ∧ Owns .u64 24 w.heap.size w' v' (dg n) ∧ Below w.heap.size w w' := by
  go_enter Try.func44, Try.ntmps44
  go_wp2_with fail
  have ho : Owns .u64 24 w.heap.size (w.alloc (.cells #[.int .u64 (n : Int)] 24)) (.slice (some ⟨w.heap.size, 0, none⟩) 1 1) [(n : Int)] := Owns.new (l := [(n : Int)]) (Nat.le_refl _) rfl (by simp)
  refine (trim_own _ _ _ _ ho (by intro x hx; simp at hx; omega)).mono ?_
  rintro e w' ⟨v', rfl, ho', rfl⟩
  go_wp2
  go_ret
  exact ⟨v', rfl, by simpa [dv] using ho', (Below.refl _ _).alloc (Nat.le_refl _) _⟩

/-- The four digits of a word. -/
def dw : Nat → Int → List Int
  | 0, _ => []
  | m + 1, s => s % 65536 :: dw m (s / 65536)
theorem dw_len : ∀ (m : Nat) (s : Int), (dw m s).length = m
  | 0, _ => rfl
  | m + 1, s => by simp [dw, dw_len m]
theorem dw_dig : ∀ (m : Nat) (s : Int), Dig (dw m s)
  | 0, _ => by simp [dw, Dig]
  | m + 1, s => by
    intro x hx
    rcases List.mem_cons.1 hx with rfl | hx
    · omega
    · exact dw_dig m _ x hx
theorem dw_dv : ∀ (m : Nat) (s : Int), 0 ≤ s → s < 65536 ^ m → dv (dw m s) = s
  | 0, s, h0, h1 => by simp [dw, dv] at *; omega
  | m + 1, s, h0, h1 => by
    have := dw_dv m (s / 65536) (by omega) (by rw [Int.pow_succ] at h1; omega)
    simp only [dw, dv, this]
    omega
end Go.Proofs.Ytfknocgmobddmaa
