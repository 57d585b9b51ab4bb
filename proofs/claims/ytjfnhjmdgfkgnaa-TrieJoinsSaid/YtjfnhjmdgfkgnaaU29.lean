/- The reference of stage 7: Cut. -/
import Derived.Test.YtjfnhjmdgfkgnaaN9
import Derived.Test.YtjfnhjmdgfkgnaaN19
namespace Go.Proofs.Ytjfnhjmdgfkgnaa
open Go.RowKit Go.Proofs.Kit
def zcutP (l : List Pr) (f t : Int) : List Pr := l.filter fun x => decide (f ≤ x.1 ∧ x.1 < t)
set_option maxRecDepth 100000 in
set_option maxHeartbeats 4000000 in
theorem zcut_any (v : Value) (l : List Pr) (w : World) (hs : SegP w v l) (hl : l.length ≤ 1000000) (p q : Int) :
    Calls Try.prog 26 #[v, .int .u64 p, .int .u64 q] w fun e w' => ∃ v', e = .returned v' ∧ OwnP 83 w.heap.size w' v' (zcutP l p q) ∧ Below w.heap.size w w' := by
  obtain ⟨i0, hi, hz0, hz1, hz2⟩ := infoP
  obtain ⟨o, c, rfl, -, -, -⟩ := hs.shape
  obtain ⟨n, hn⟩ : ∃ n, n = l.length := ⟨_, rfl⟩
  rw [← hn] at hl hs ⊢
  have HN := Lib.hid hn
  clear hn
  have HS := Lib.hid hs
  clear hs
  go_enter Try.func26, Try.ntmps26
  go_wp2
  go_loopw [7, 12] (fun s i wr => ∃ k : Nat, k ≤ n ∧ i = .int .i64 (k : Int) ∧ Hid (OwnP 83 w.heap.size wr s (zcutP (l.take k) p q)) ∧ Below w.heap.size w wr) (fun _ i _ => n - (intOf i).toNat)
  case atStart => exact ⟨0, by omega, rfl, Lib.hid (by simpa [zcutP] using OwnP.nil _ _ _), Below.refl _ _⟩
  case round =>
    obtain ⟨k, hk, rfl, HO, hB⟩ := hrel
    by_cases hlt : k < n
    · have hkl : k < l.length := by have := HN.out; omega
      obtain ⟨b, f, rfl, hb, hcells⟩ := (HS.out.later hB).has hkl
      obtain ⟨d1, d2⟩ := hcells k hkl
      have hft : zcutP (l.take (k + 1)) p q = zcutP (l.take k) p q ++ if decide (p ≤ l[k].1 ∧ l[k].1 < q) = true then [l[k]] else [] := filt_take hkl
      have hlen := List.length_filter_le (fun x => decide (p ≤ x.1 ∧ x.1 < q)) (l.take k)
      rw [List.length_take] at hlen
      have hlen2 : (zcutP (l.take k) p q).length ≤ 1000000 := by unfold zcutP; omega
      obtain ⟨x, hx⟩ : ∃ x, x = l[k] := ⟨_, rfl⟩
      rw [← hx] at d1 d2 hft
      clear hx hcells hlen
      obtain ⟨x1, x2⟩ := x
      simp only at d1 d2 hft
      obtain ⟨M, hM⟩ : ∃ M, M = zcutP (l.take k) p q := ⟨_, rfl⟩
      rw [← hM] at HO hlen2 hft
      clear hM
      by_cases h1 : p ≤ x1
      · have t1 : decide (p ≤ x1) = true := by simpa using h1
        by_cases h2 : x1 < q
        · have t2 : decide (x1 < q) = true := by simpa using h2
          rw [if_pos (by simp [h1, h2])] at hft
          have HFT := Lib.hid hft
          have HO2 := Lib.hid ((HO.out.alloc (.cells #[.int .u64 x1, .int .u64 x2] 83)).alloc (.cells #[.int .u64 x1, .int .u64 x2] 83))
          have HSG := Lib.hid (SegP.one (w := wr.alloc (.cells #[.int .u64 x1, .int .u64 x2] 83)) (t := 83) x1 x2)
          simp only [World.size_alloc] at HSG
          have hws := hB.size
          have HB2 := Lib.hid ((hB.alloc hB.size (.cells #[.int .u64 x1, .int .u64 x2] 83)).alloc (by have := hB.size; simp; omega) (.cells #[.int .u64 x1, .int .u64 x2] 83))
          clear hft h1 h2
          go_wp2_with (at_builtin; refine wpList_append_segP rfl _ _ 46 rfl w.heap.size 83 i0 (.agg #[.int .u64 0, .int .u64 0]) Try.underlying46 hi hz0 hz1 hz2 rfl _ _ rfl HO2.out _ [(x1, x2)] rfl HSG.out ?qa ?qb ?_)
          case qa => simp only [List.length_cons, List.length_nil]; omega
          case qb => simp; omega
          intro v3 w3 hO3 hb3 _ _
          have O3 := Lib.hid hO3
          have B3 := Lib.hid (HB2.out.trans hb3)
          clear hO3 hb3
          go_wp2
          go_roundw
          case rel => exact ⟨k + 1, by omega, by go_num, Lib.hid (by rw [HFT.out]; exact O3.out), B3.out⟩
          case measure => simp [intOf]; omega
        · have t2 : decide (x1 < q) = false := by simpa using h2
          rw [if_neg (by simp [h2]), List.append_nil] at hft
          have HFT := Lib.hid hft
          have HO2 := Lib.hid (HO.out.alloc (.cells #[.int .u64 x1, .int .u64 x2] 83))
          clear hft h1 h2
          go_wp2
          go_roundw
          case rel => exact ⟨k + 1, by omega, by go_num, Lib.hid (by rw [HFT.out]; exact HO2.out), hB.alloc hB.size _⟩
          case measure => simp [intOf]; omega
      · have t1 : decide (p ≤ x1) = false := by simpa using h1
        rw [if_neg (by simp [h1]), List.append_nil] at hft
        have HFT := Lib.hid hft
        have HO2 := Lib.hid (HO.out.alloc (.cells #[.int .u64 x1, .int .u64 x2] 83))
        clear hft h1
        go_wp2
        go_roundw
        case rel => exact ⟨k + 1, by omega, by go_num, Lib.hid (by rw [HFT.out]; exact HO2.out), hB.alloc hB.size _⟩
        case measure => simp [intOf]; omega
    · have hO := HO.out
      rw [List.take_of_length_le (by have := HN.out; omega)] at hO
      have HO2 := Lib.hid hO
      clear hO
      go_wp2
      go_ret
      exact ⟨_, rfl, HO2.out, hB⟩
end Go.Proofs.Ytjfnhjmdgfkgnaa

