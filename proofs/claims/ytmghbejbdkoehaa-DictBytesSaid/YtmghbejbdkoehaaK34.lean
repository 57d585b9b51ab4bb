/- The reference's ReadText. -/
import Derived.Test.YtmghbejbdkoehaaK33
namespace Go.Proofs.Kit
open Go.RowKit
theorem wrap64_of {x : Int} (h0 : 0 ≤ x) (h1 : x ≤ 9223372036854775807) : wrap64 x = x := by unfold wrap64; omega
theorem wrapI_of {x : Int} (h0 : 0 ≤ x) (h1 : x ≤ 9223372036854775807) : IntKind.i64.wrap x = x := by rw [IntKind.wrap_i64]; omega
end Go.Proofs.Kit
namespace Go.Proofs.Ytmghbejbdkoehaa
open Go.RowKit Go.Proofs.Kit Go.Shelf

set_option maxRecDepth 100000 in
set_option maxHeartbeats 2000000 in
theorem rreadt_any (p : Nat) (bv : Value) (bs : List Int) (w : World) (hs : Seg .u8 w bv bs) (hb : Byt bs) (hl : bs.length ≤ 1000000000) (hp : p ≤ bs.length) :
    Calls Try.prog 60 #[bv, .int .i64 (p : Int)] w (Read w (rdCounted 4000 bs p) (.string ⟨#[]⟩) (fun l v _ => v = .string (ofB l))) := by
  have hmk := rreadn_any p bv bs w hs hb hl hp
  obtain ⟨o, c, rfl, hlc, hc9, hsh⟩ := hs.shape
  obtain ⟨n, hn⟩ : ∃ n, n = bs.length := ⟨_, rfl⟩
  have HN := Lib.hid hn
  have HB := Lib.hid hb
  have HSG := Lib.hid hs
  rw [← hn] at hlc hl hp hmk ⊢
  have HS := Lib.hid hsh
  clear hs hb hsh
  clear hn
  go_enter Try.func60, Try.ntmps60
  go_wp2_with fail
  refine hmk.mono ?_
  rintro e w1 ⟨hB1, ⟨x, q, v, hr, rfl, rfl⟩ | ⟨cc, hr, rfl⟩⟩
  · have hq := rdN_back HB.out hr
    obtain ⟨N, rfl, hN64, _, hqn, _⟩ := hq
    have HRES : Hid (rdCounted 4000 bs p = if (4000 : Int) < (N : Int) then .error 3 else rdCut bs q N) := Lib.hid (by rw [rdN_ok hr]; rfl)
    have hqn : q ≤ n := by rw [HN.out]; exact hqn
    clear hr
    by_cases hlim : (4000 : Int) < (N : Int)
    · have g1 : decide (4000 < N) = true := by simp; omega
      have g2 : decide ((4000 : Int) < (N : Int)) = true := by simp; omega
      have HR : Hid (rdCounted 4000 bs p = .error 3) := Lib.hid (by rw [HRES.out, if_pos hlim])
      clear hlim
      go_wp2
      go_ret3
      exact ⟨hB1, .inr ⟨3, HR.out, rfl⟩⟩
    · have g1 : decide (4000 < N) = false := by simp; omega
      have g2 : decide ((4000 : Int) < (N : Int)) = false := by simp; omega
      have hN4 : N ≤ 4000 := by omega
      have hsub : IntKind.i64.wrap ((n : Int) - (q : Int)) = (n : Int) - (q : Int) := by rw [IntKind.wrap_i64]; omega
      by_cases hsh : n - q < N
      · have g3 : decide ((n : Int) - (q : Int) < (N : Int)) = true := by simp; omega
        have HR : Hid (rdCounted 4000 bs p = .error 120) := Lib.hid (by
          rw [HRES.out, if_neg hlim]
          unfold rdCut
          rw [if_pos (by rw [← HN.out]; exact hsh)])
        clear hlim hsh
        go_wp2
        go_ret3
        exact ⟨hB1, .inr ⟨120, HR.out, rfl⟩⟩
      · have g3 : decide ((n : Int) - (q : Int) < (N : Int)) = false := by simp; omega
        have HR : Hid (rdCounted 4000 bs p = .ok ((bs.drop q).take N, q + N)) := Lib.hid (by
          rw [HRES.out, if_neg hlim]
          unfold rdCut
          rw [if_neg (by rw [← HN.out]; exact hsh)])
        have hqN : q + N ≤ n := by omega
        rcases HS.out with h | ⟨b, f, rfl, hbW, _⟩
        · exfalso
          have : bs.length = 0 := by rw [h]; rfl
          have := HN.out
          omega
        · obtain ⟨qe, hqe⟩ : ∃ qe, qe = q + N := ⟨_, rfl⟩
          have hcv := conv_seg (((HSG.out.later hB1)).sub (p := q) (q := qe) (by omega) (by rw [← HN.out]; omega))
          have w2 : IntKind.i64.wrap ((q : Int) + (N : Int)) = (qe : Int) := by rw [hqe]; exact wrapI_of (by omega) (by omega)
          have hle : q ≤ qe := by omega
          have hqc : q ≤ c := by omega
          have hqNc : qe ≤ c := by omega
          have HQE := Lib.hid hqe
          clear hqe hqN
          have hmk : (bs.drop q).take N = (bs.drop q).take (qe - q) := by rw [HQE.out, Nat.add_sub_cancel_left]
          have HMK := Lib.hid hmk
          clear hlim hsh hmk
          by_cases hcq : c = q
          · have hz : qe - q = 0 := by omega
            have hcv2 := conv_seg (W := w1) (v := .slice (some ⟨b, f, none⟩) 0 0) (l := []) ⟨by simp, .inr ⟨b, f, 0, rfl, Nat.le_refl _, by omega, Nat.lt_of_lt_of_le hbW hB1.size, fun i hi => absurd hi (by simp)⟩⟩
            have HR2 : Hid (rdCounted 4000 bs p = .ok ([], qe)) := Lib.hid (by rw [HR.out, HMK.out, hz, HQE.out]; rfl)
            obtain rfl : qe = q := by omega
            subst hcq
            clear hz hcv
            go_wp2
            go_ret3
            exact ⟨hB1, .inl ⟨_, _, _, HR2.out, rfl, rfl⟩⟩
          · have hcq' : ¬ c - q = 0 := by omega
            have HR2 : Hid (rdCounted 4000 bs p = .ok ((bs.drop q).take (qe - q), qe)) := Lib.hid (by rw [HR.out, HMK.out, HQE.out])
            go_wp2_with fail
            go_ret3
            exact ⟨hB1, .inl ⟨_, _, _, HR2.out, rfl, rfl⟩⟩
  · have HR := Lib.hid (rdN_err (limit := 4000) hr)
    have hne : (cc != 0) = true := by simp; exact rdN_code hr
    clear hr
    go_wp2
    go_ret3
    exact ⟨hB1, .inr ⟨cc, HR.out, rfl⟩⟩
end Go.Proofs.Ytmghbejbdkoehaa

