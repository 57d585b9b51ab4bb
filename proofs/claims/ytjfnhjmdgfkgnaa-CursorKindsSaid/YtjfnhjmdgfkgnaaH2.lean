/- Which rows rise; the reference's places and logs. -/
import Derived.Test.YtjfnhjmdgfkgnaaH1x
namespace Go.Proofs.Ytjfnhjmdgfkgnaa
open Go.RowKit Go.Proofs.Kit

set_option maxRecDepth 100000 in
set_option maxHeartbeats 1000000 in
theorem risesG_any (v : Value) (l : List Int) (w : World) (hs : Seg .u64 w v l) :
    Calls Try.prog 137 #[v] w fun e w' => e = .returned (.bool (decide (Inc l))) ∧ Dr w w' := by
  obtain ⟨o, c, rfl, hc, hm, a⟩ := hs.shape
  have h63 := hs.1
  obtain ⟨n, hn⟩ : ∃ n, n = l.length := ⟨_, rfl⟩
  rw [← hn] at h63 ⊢
  have HN := Lib.hid hn
  have HA := Lib.hid a
  clear hn a hs hc
  go_enter Try.func137, Try.ntmps137
  go_wp2
  go_loopw [3] (fun i wr => ∃ k : Nat, (k + 1 ≤ n ∨ k = 0) ∧ i = .int .i64 ((k : Int) + 1) ∧ Hid (Inc (l.take (k + 1))) ∧ Dr w wr) (fun i _ => n - (intOf i).toNat)
  case atStart =>
    refine ⟨0, .inr rfl, rfl, Lib.hid ?_, Dr.refl _⟩
    cases l <;> simp [Inc]
  case round =>
    obtain ⟨k, hk, rfl, hp, hB⟩ := hrel
    by_cases hlt : k + 1 < n
    · have hk1 : k + 1 < l.length := by have := HN.out; omega
      obtain ⟨b, f, rfl, hbl, hcells⟩ := HA.out.resolve_left (fun e => by rw [e] at hk1; simp at hk1)
      have d1 := (hB.cell ⟨b, f + k, none⟩).trans (hcells k (by omega))
      have d2 := (hB.cell ⟨b, f + (k + 1), none⟩).trans (hcells (k + 1) hk1)
      obtain ⟨x, hx'⟩ : ∃ x, x = l[k] := ⟨_, rfl⟩
      obtain ⟨y, hy'⟩ : ∃ y, y = l[k + 1] := ⟨_, rfl⟩
      rw [← hx'] at d1
      rw [← hy'] at d2
      have HX := Lib.hid hx'
      have HY := Lib.hid hy'
      clear hx' hy' hcells
      have q1 : IntKind.i64.wrap (k : Int) = (k : Int) := by rw [IntKind.wrap_i64]; omega
      have q2 : (k : Int) + 1 < (n : Int) := by omega
      have q3 : (k : Int) < (n : Int) := by omega
      have q4 : (0 : Int) ≤ (k : Int) + 1 := by omega
      have q5 : ((k : Int) + 1).toNat = k + 1 := by omega
      by_cases h0 : x < y
      · have ht0 : decide (y ≤ x) = false := by simp; omega
        have HLT := Lib.hid h0
        clear h0
        go_wp2
        go_quiet (fail)
        go_wp2
        go_roundw
        case rel =>
          refine ⟨k + 1, .inl (by omega), by go_num, Lib.hid ?_, hB.trans (Dr.drewN _ _)⟩
          refine inc_take_succ hk1 (by omega) hp.out ?_
          have e1 : l[k + 1 - 1]'(by omega) = x := HX.out.symm
          rw [e1, ← HY.out]
          exact HLT.out
        case measure => simp [intOf]; omega
      · have ht0 : decide (y ≤ x) = true := by simp; omega
        have HLT := Lib.hid h0
        clear h0
        go_wp2
        go_quiet (fail)
        go_wp2
        go_ret
        refine ⟨?_, hB.trans (Dr.drewN _ _)⟩
        have : ¬ Inc l := by
          intro hr
          have h1 := hr.at (i := k) (j := k + 1) (by omega) hk1 (by omega)
          rw [← HX.out, ← HY.out] at h1
          have := HLT.out
          omega
        simp [this]
    · go_wp2
      go_ret
      have : Inc l := by
        have := hp.out
        rwa [List.take_of_length_le (by have := HN.out; omega)] at this
      simp only [this, decide_true]
      exact ⟨rfl, hB⟩

set_option maxRecDepth 100000 in
set_option maxHeartbeats 1000000 in
theorem eSeek_any (v : Value) (l : List Int) (w : World) (hs : Seg .u64 w v l) (f : Nat) (hf : f ≤ l.length) (key : Int) :
    Calls Try.prog 77 #[v, .int .i64 (f : Int), .int .u64 key] w fun e w' => e = .returned (.int .i64 (sk (ge key) l f : Nat)) ∧ w = w' := by
  obtain ⟨o, c, rfl, hc, hm, a⟩ := hs.shape
  have h63 := hs.1
  obtain ⟨n, hn⟩ : ∃ n, n = l.length := ⟨_, rfl⟩
  rw [← hn] at h63 hf ⊢
  have HN := Lib.hid hn
  have HA := Lib.hid a
  clear hn a hs hc
  go_enter Try.func77, Try.ntmps77
  go_wp2
  go_loop [7] (fun i => ∃ k : Nat, k ≤ n ∧ f ≤ k ∧ i = .int .i64 (k : Int) ∧ Hid (∀ j (h : j < l.length), f ≤ j → j < k → (ge key) l[j] = false)) (fun i => n - (intOf i).toNat)
  case atStart => exact ⟨f, hf, Nat.le_refl _, rfl, Lib.hid fun j _ h1 h2 => by omega⟩
  case round =>
    obtain ⟨k, hk, hfk, rfl, hp⟩ := hrel
    by_cases hlt : k < n
    · have hk1 : k < l.length := by have := HN.out; omega
      obtain ⟨b, g, rfl, hbl, hcells⟩ := HA.out.resolve_left (fun e => by rw [e] at hk1; simp at hk1)
      have d2 := hcells k hk1
      obtain ⟨y, hy'⟩ : ∃ y, y = l[k] := ⟨_, rfl⟩
      rw [← hy'] at d2
      have HY := Lib.hid hy'
      clear hy' hcells
      cases ht : (ge key) y with
      | false =>
        have HT := Lib.hid ht
        simp only [ge] at ht
        go_wp2
        go_round
        case rel =>
          refine ⟨k + 1, by omega, by omega, by go_num, Lib.hid fun j hj h1 h2 => ?_⟩
          by_cases e : j = k
          · subst e; rw [← HY.out]; exact HT.out
          · exact hp.out j hj h1 (by omega)
        case measure => simp [intOf]; omega
      | true =>
        have HT := Lib.hid ht
        simp only [ge] at ht
        go_wp2
        go_ret
        have e : sk (ge key) l f = k := sk_of hfk (by have := HN.out; omega) hp.out (fun h => by rw [← HY.out]; exact HT.out)
        rw [e]
        exact ⟨rfl, rfl⟩
    · go_wp2
      go_ret
      have e : sk (ge key) l f = n := sk_of hf (by have := HN.out; omega) (fun j hj h1 _ => hp.out j hj h1 (by have := HN.out; omega)) (fun h => by have := HN.out; omega)
      rw [e]
      exact ⟨rfl, rfl⟩
theorem log2_half {m : Nat} (h : 1 < m) : Nat.log2 m = Nat.log2 (m / 2) + 1 := by rw [Nat.log2_def, if_pos (show 2 ≤ m from h)]
theorem log2_small {m : Nat} (h : m ≤ 1) : Nat.log2 m = 0 := by rw [Nat.log2_def, if_neg (by omega)]
theorem log2_lt63 {m : Nat} (h : m ≤ 9223372036854775807) : Nat.log2 m < 63 := by
  by_cases e : m = 0
  · subst e; decide
  · exact (Nat.log2_lt e).2 (by omega)
set_option maxRecDepth 100000 in
set_option maxHeartbeats 1000000 in
theorem eLog_any (n : Int) (hn : n ≤ 9223372036854775807) (h0 : -9223372036854775808 ≤ n) (w : World) :
    Calls Try.prog 79 #[.int .i64 n] w fun e w' => e = .returned (.int .i64 (Nat.log2 n.toNat : Nat)) ∧ w = w' := by
  go_enter Try.func79, Try.ntmps79
  go_wp2
  by_cases hpos : 0 ≤ n
  · obtain ⟨N, rfl⟩ : ∃ N : Nat, n = N := ⟨n.toNat, by omega⟩
    have hl := log2_lt63 (m := N) (by omega)
    go_loop [0, 3] (fun d k => ∃ M K : Nat, d = .int .i64 (M : Int) ∧ k = .int .i64 (K : Int) ∧ M ≤ N ∧ K + Nat.log2 M = Nat.log2 N) (fun d _ => (intOf d).toNat)
    case atStart => exact ⟨N, 0, rfl, rfl, Nat.le_refl _, by omega⟩
    case round =>
      obtain ⟨M, K, rfl, rfl, hM, hK⟩ := hrel
      by_cases h1 : 1 < M
      · have hh := log2_half h1
        go_wp2
        go_round
        case rel => exact ⟨M / 2, K + 1, by go_num, by go_num, by omega, by omega⟩
        case measure => simp [intOf]; omega
      · have hh := log2_small (m := M) (by omega)
        go_wp2
        go_ret
        have e : K = Nat.log2 N := by omega
        simp [e]
  · go_loop [0, 3] (fun d k => d = .int .i64 n ∧ k = .int .i64 0) (fun _ _ => 0)
    case atStart => exact ⟨rfl, rfl⟩
    case round =>
      obtain ⟨rfl, rfl⟩ := hrel
      go_wp2
      go_ret
      have e : n.toNat = 0 := by omega
      simp [e]
end Go.Proofs.Ytjfnhjmdgfkgnaa

