import Derived.Test.YtmghbejbdkoehaaMl
/- The reference's Hash and Find. -/
namespace Go.Proofs.Kit
theorem xor_low (h b : Nat) (hb : b < 256) : h ^^^ b = h - h % 256 + (h % 256 ^^^ b) := by
  have h1 : (h ^^^ b) / 2 ^ 8 = h / 2 ^ 8 := by
    rw [Nat.xor_div_two_pow, show b / 2 ^ 8 = 0 by omega, Nat.xor_zero]
  have h2 : (h ^^^ b) % 2 ^ 8 = (h % 2 ^ 8) ^^^ b := by
    rw [Nat.xor_mod_two_pow, show b % 2 ^ 8 = b by omega]
  have h3 := Nat.div_add_mod (h ^^^ b) (2 ^ 8)
  rw [h1, h2] at h3
  have h4 := Nat.div_add_mod h (2 ^ 8)
  simp only [show (2 : Nat) ^ 8 = 256 from rfl] at h3 h4
  omega
/-- One bit more. -/
theorem xor_bit (x y i : Nat) : (x ^^^ y) % 2 ^ (i + 1) = (x ^^^ y) % 2 ^ i + (if x / 2 ^ i % 2 = y / 2 ^ i % 2 then 0 else 2 ^ i) := by
  rw [Nat.mod_pow_succ]
  have e : (x ^^^ y) / 2 ^ i % 2 = if x / 2 ^ i % 2 = y / 2 ^ i % 2 then 0 else 1 := by
    have h := Nat.testBit_xor x y i
    rw [Nat.testBit_eq_decide_div_mod_eq, Nat.testBit_eq_decide_div_mod_eq, Nat.testBit_eq_decide_div_mod_eq] at h
    rcases Nat.mod_two_eq_zero_or_one (x / 2 ^ i) with a | a <;> rcases Nat.mod_two_eq_zero_or_one (y / 2 ^ i) with b | b <;> rcases Nat.mod_two_eq_zero_or_one ((x ^^^ y) / 2 ^ i) with c | c <;> simp [a, b, c] at h ⊢
  rw [e]
  split <;> simp
theorem pow8 {i : Nat} (hi : i < 8) : 2 ^ i = 1 ∨ 2 ^ i = 2 ∨ 2 ^ i = 4 ∨ 2 ^ i = 8 ∨ 2 ^ i = 16 ∨ 2 ^ i = 32 ∨ 2 ^ i = 64 ∨ 2 ^ i = 128 := by
  have : i = 0 ∨ i = 1 ∨ i = 2 ∨ i = 3 ∨ i = 4 ∨ i = 5 ∨ i = 6 ∨ i = 7 := by omega
  rcases this with rfl | rfl | rfl | rfl | rfl | rfl | rfl | rfl <;> simp
/-- What the reference's sum of bits comes to. -/
theorem hstep_ref (h : Nat) (b : UInt8) (hh : h < 18446744073709551616) : IntKind.u64.wrap (((h : Int) - ((h % 256 : Nat) : Int) + ((h % 256 ^^^ b.toNat : Nat) : Int)) * 1099511628211) = ((hstep h b : Nat) : Int) := by
  have hb := b.toNat_lt
  have e : (h : Int) - ((h % 256 : Nat) : Int) + ((h % 256 ^^^ b.toNat : Nat) : Int) = ((h ^^^ b.toNat : Nat) : Int) := by
    rw [xor_low h b.toNat (by omega)]
    omega
  rw [e, IntKind.wrap_u64]
  unfold hstep
  generalize h ^^^ b.toNat = x
  rw [Int.natCast_emod, Int.natCast_mul]
  simp
end Go.Proofs.Kit
namespace Go.Proofs.Ytmghbejbdkoehaa
open Go.RowKit Go.Proofs.Kit Go.Shelf

set_option maxRecDepth 100000 in
set_option maxHeartbeats 4000000 in
theorem rhash_any (s : ByteArray) (hs : s.size ≤ 9223372036854775807) (w : World) :
    Calls Try.prog 78 #[.string s] w fun e w' => e = .returned (.int .u64 (hsh s : Nat)) ∧ Dr w w' := by
  go_enter Try.func78, Try.ntmps78
  go_wp2
  go_loopw [3, 4, 5, 6, 7, 10] (fun h _ _ _ _ i wr => ∃ k : Nat, k ≤ s.size ∧ i = .int .i64 k ∧ h = .int .u64 (((s.data.toList.take k).foldl hstep hb0 : Nat) : Int) ∧ Dr w wr) (fun _ _ _ _ _ i _ => s.size - (intOf i).toNat)
  case atStart => exact ⟨0, Nat.zero_le _, rfl, by rw [hb0_cast]; simp, Dr.refl _⟩
  case round =>
    obtain ⟨k, hk, rfl, rfl, hB⟩ := hrel
    by_cases hlt : k < s.size
    · have hst : (s.data.toList.take (k + 1)).foldl hstep hb0 = hstep ((s.data.toList.take k).foldl hstep hb0) s[k] := by rw [take_byte s k hlt, List.foldl_append, List.foldl_cons, List.foldl_nil]
      have hh := hfold_lt (s.data.toList.take k)
      obtain ⟨h, hh'⟩ : ∃ h, h = (s.data.toList.take k).foldl hstep hb0 := ⟨_, rfl⟩
      rw [← hh'] at hst hh ⊢
      clear hh'
      have HST := Lib.hid hst; clear hst
      have hlow : (h : Int) % 256 = ((h % 256 : Nat) : Int) := by omega
      obtain ⟨low, hl⟩ : ∃ low, low = h % 256 := ⟨_, rfl⟩
      have hl256 : low < 256 := by omega
      rw [← hl] at hlow
      have HL := Lib.hid hl
      have HH := Lib.hid hh
      clear hl hh
      go_wp2
      go_loopw [6, 7, 15] (fun t b i wr => ∃ j : Nat, j ≤ 8 ∧ i = .int .i64 j ∧ t = .int .u64 (((low ^^^ s[k].toNat) % 2 ^ j : Nat) : Int) ∧ b = .int .u64 ((2 ^ j : Nat) : Int) ∧ Dr w wr) (fun _ _ i _ => 8 - (intOf i).toNat)
      case atStart => exact ⟨0, by omega, rfl, by simp, by simp, hB⟩
      case round =>
        clear hB
        obtain ⟨j, hj, rfl, rfl, rfl, hB⟩ := hrel
        by_cases hj8 : j < 8
        · have hbl := s[k].toNat_lt
          have hcvB : IntKind.u64.wrap (s[k].toNat : Int) = (s[k].toNat : Int) := by rw [IntKind.wrap_u64]; omega
          have hp8 := pow8 hj8
          have hxb := xor_bit low s[k].toNat j
          obtain ⟨P, hP⟩ : ∃ P, P = 2 ^ j := ⟨_, rfl⟩
          rw [← hP] at hp8 hxb ⊢
          have hPz : ((P : Int) == 0) = false := by rw [beq_eq_false_iff_ne]; omega
          have HXB := Lib.hid hxb
          have HPP := Lib.hid hP
          clear hxb hP
          have tm : ∀ a : Nat, a < 256 → (IntKind.u64.wrap ((a : Int) / (P : Int))).tmod 2 = ((a / P % 2 : Nat) : Int) := fun a ha => by
            have e : (a : Int) / (P : Int) = ((a / P : Nat) : Int) := by simp
            have hle : a / P ≤ a := Nat.div_le_self a P
            rw [e, IntKind.wrap_u64, Int.tmod_eq_emod_of_nonneg (by omega)]
            omega
          have t1 := tm low hl256
          have t2 := tm s[k].toNat hbl
          obtain ⟨x, hx⟩ : ∃ x, x = low / P % 2 := ⟨_, rfl⟩
          obtain ⟨y, hy⟩ : ∃ y, y = s[k].toNat / P % 2 := ⟨_, rfl⟩
          rw [← hx] at t1 HXB
          rw [← hy] at t2 HXB
          have T1 := Lib.hid t1
          have T2 := Lib.hid t2
          obtain ⟨u, hu⟩ : ∃ u, u = (low ^^^ s[k].toNat) % P := ⟨_, rfl⟩
          have hu256 : u < P := by rw [hu]; exact Nat.mod_lt _ (by omega)
          rw [← hu] at HXB ⊢
          clear tm t1 t2 hx hy hu
          have hP2 : 2 * P = 2 ^ (j + 1) := by rw [HPP.out, Nat.pow_succ]; omega
          have HP2 := Lib.hid hP2
          clear hP2
          go_wp2
          go_quiet (fail)
          rw [T1.out, T2.out]
          by_cases hxy : x = y
          · have hxy' : ((x : Int) != (y : Int)) = false := by simp; omega
            rw [if_pos hxy, Nat.add_zero] at HXB
            clear hxy
            go_wp2
            go_roundw
            case rel => exact ⟨j + 1, by omega, by go_num, by rw [HXB.out]; simp, by rw [← HP2.out]; exact congrArg _ (by omega : (2 * (P : Int)) = ((2 * P : Nat) : Int)), hB.trans (Dr.drewN _ _)⟩
            case measure => simp [intOf]; omega
          · have hxy' : ((x : Int) != (y : Int)) = true := by simp; omega
            rw [if_neg hxy] at HXB
            clear hxy
            go_wp2
            go_roundw
            case rel => exact ⟨j + 1, by omega, by go_num, by rw [HXB.out]; exact congrArg _ (by omega : (u : Int) + (P : Int) = ((u + P : Nat) : Int)), by rw [← HP2.out]; exact congrArg _ (by omega : (2 * (P : Int)) = ((2 * P : Nat) : Int)), hB.trans (Dr.drewN _ _)⟩
            case measure => simp [intOf]; omega
        · obtain rfl : j = 8 := by omega
          have hx8 : (low ^^^ s[k].toNat) % 2 ^ 8 = low ^^^ s[k].toNat := Nat.mod_eq_of_lt (Nat.xor_lt_two_pow (by omega) (by have := s[k].toNat_lt; omega))
          rw [hx8]
          have hst := hstep_ref h s[k] HH.out
          rw [← HL.out] at hst
          have HR := Lib.hid hst
          have hxh : (h : Int) - (low : Int) + ((low ^^^ s[k].toNat : Nat) : Int) = ((h ^^^ s[k].toNat : Nat) : Int) := by
            rw [xor_low h s[k].toNat (by have := s[k].toNat_lt; omega), ← HL.out]
            have := HL.out
            omega
          have hxl : h ^^^ s[k].toNat < 18446744073709551616 := Nat.xor_lt_two_pow (n := 64) (by have := HH.out; omega) (by have := s[k].toNat_lt; omega)
          have w3 : IntKind.u64.wrap ((h : Int) - (low : Int)) = (h : Int) - (low : Int) := by rw [IntKind.wrap_u64]; have := HL.out; have := HH.out; omega
          have w4 : IntKind.u64.wrap ((h : Int) - (low : Int) + ((low ^^^ s[k].toNat : Nat) : Int)) = (h : Int) - (low : Int) + ((low ^^^ s[k].toNat : Nat) : Int) := by rw [hxh, IntKind.wrap_u64]; omega
          have W3 := Lib.hid w3
          have W4 := Lib.hid w4
          clear hst hx8 hxh hxl w3 w4
          go_wp2
          go_roundw
          case rel => exact ⟨k + 1, by omega, by go_num, by rw [W3.out, W4.out, HR.out, HST.out], hB⟩
          case measure => simp [intOf]; omega
    · go_wp2
      go_ret
      rw [List.take_of_length_le (by simp; omega)]
      exact ⟨rfl, hB⟩
end Go.Proofs.Ytmghbejbdkoehaa


/- The reference's Find and stands. -/
namespace Go.Proofs.Kit
section
variable {α : Type} [DecidableEq α] {T : List α}
theorem pos_first {s : α} {k : Nat} (hk : k < T.length) (h : ∀ i (hi : i < T.length), i < k → T[i] ≠ s) (e : T[k] = s) : pos T s = k := by
  have hm : s ∈ T := e ▸ List.getElem_mem hk
  have hp := pos_lt hm
  have hg := pos_get hm
  have h1 : ¬ pos T s < k := fun c => h _ hp c hg
  have h2 : ¬ k < pos T s := fun c => by
    unfold pos List.idxOf at c
    have := List.not_of_lt_findIdx c
    simp [e] at this
  omega
/-- A text's first place, or -1. -/
def fdI (T : List α) (s : α) : Int := if s ∈ T then (pos T s : Int) else -1
/-- A number stands in just one of its text's places, none free ahead. -/
def Stands (h : Nat) (S : List Int) (n : Nat) : Prop := ∃ i, i < S.length ∧ at0 S (prb h S.length i) = (n : Int) + 1 ∧ (∀ j, j < i → at0 S (prb h S.length j) ≠ 0) ∧ ∀ j, j < S.length → at0 S (prb h S.length j) = (n : Int) + 1 → j = i
/-- What is known behind some places. -/
def SSt (h : Nat) (S : List Int) (n k : Nat) (f : Bool) : Prop :=
  (f = false ∧ ∀ j, j < k → at0 S (prb h S.length j) ≠ 0 ∧ at0 S (prb h S.length j) ≠ (n : Int) + 1) ∨
  (f = true ∧ ∃ i, i < k ∧ at0 S (prb h S.length i) = (n : Int) + 1 ∧ (∀ j, j < i → at0 S (prb h S.length j) ≠ 0) ∧ ∀ j, j < k → at0 S (prb h S.length j) = (n : Int) + 1 → j = i)
theorem SSt.end_ {h n : Nat} {S : List Int} {f : Bool} (k : SSt h S n S.length f) : f = true ↔ Stands h S n := by
  rcases k with ⟨rfl, k⟩ | ⟨rfl, i, h1, h2, h3, h4⟩
  · simp only [Bool.false_eq_true, false_iff]
    rintro ⟨i, h1, h2, _⟩
    exact (k i h1).2 h2
  · simp only [true_iff]
    exact ⟨i, h1, h2, h3, h4⟩
theorem SSt.free {h n k : Nat} {S : List Int} (s : SSt h S n k false) (hk : k < S.length) (h0 : at0 S (prb h S.length k) = 0) : ¬ Stands h S n := by
  rcases s with ⟨_, s⟩ | ⟨e, _⟩
  · rintro ⟨i, h1, h2, h3, _⟩
    rcases Nat.lt_trichotomy i k with c | c | c
    · exact (s i c).2 h2
    · subst c; omega
    · exact h3 k c h0
  · cases e
theorem SSt.twice {h n k : Nat} {S : List Int} (s : SSt h S n k true) (hk : k < S.length) (h0 : at0 S (prb h S.length k) = (n : Int) + 1) : ¬ Stands h S n := by
  rcases s with ⟨e, _⟩ | ⟨_, i, h1, h2, _, _⟩
  · cases e
  · rintro ⟨i', _, _, _, h4⟩
    have := h4 i (by omega) h2
    have := h4 k hk h0
    omega
theorem SSt.hit {h n k : Nat} {S : List Int} (s : SSt h S n k false) (h0 : at0 S (prb h S.length k) = (n : Int) + 1) : SSt h S n (k + 1) true := by
  rcases s with ⟨_, s⟩ | ⟨e, _⟩
  · refine .inr ⟨rfl, k, by omega, h0, fun j hj => (s j hj).1, fun j hj e => ?_⟩
    by_cases c : j < k
    · exact ((s j c).2 e).elim
    · omega
  · cases e
theorem SSt.miss {h n k : Nat} {S : List Int} {f : Bool} (s : SSt h S n k f) (h0 : f = false → at0 S (prb h S.length k) ≠ 0) (h1 : at0 S (prb h S.length k) ≠ (n : Int) + 1) : SSt h S n (k + 1) f := by
  rcases s with ⟨rfl, s⟩ | ⟨rfl, i, a, b, c, d⟩
  · refine .inl ⟨rfl, fun j hj => ?_⟩
    by_cases c : j < k
    · exact s j c
    · obtain rfl : j = k := by omega
      exact ⟨h0 rfl, h1⟩
  · refine .inr ⟨rfl, i, by omega, b, c, fun j hj e => ?_⟩
    by_cases c' : j < k
    · exact d j c' e
    · obtain rfl : j = k := by omega
      exact (h1 e).elim
end
end Go.Proofs.Kit
namespace Go.Proofs.Ytmghbejbdkoehaa
open Go.RowKit Go.Proofs.Kit Go.Shelf

set_option maxRecDepth 100000 in
set_option maxHeartbeats 1000000 in
theorem rfind_any (v : Value) (T : List ByteArray) (s : ByteArray) (w : World) (hT : Sl w v (T.map Value.string)) : Calls Try.prog 50 #[v, .string s] w fun e w' => e = .returned (.int .i64 (fdI T s)) ∧ w' = w := by
  have HT := Lib.hid hT
  obtain ⟨o, c, rfl, hc, hm, a⟩ := hT.mshape
  obtain ⟨q, hq⟩ : ∃ q, q = T.length := ⟨_, rfl⟩
  rw [← hq] at hc HT ⊢
  have HQ := Lib.hid hq
  have HA := Lib.hid a
  clear hq a hT
  go_enter Try.func50, Try.ntmps50
  go_wp2
  go_loop [5, 6, 9] (fun _ _ i => ∃ k : Nat, k ≤ q ∧ i = .int .i64 k ∧ Hid (∀ j (hj : j < T.length), j < k → T[j] ≠ s)) (fun _ _ i => q - (intOf i).toNat)
  case atStart => exact ⟨0, Nat.zero_le _, rfl, Lib.hid (fun _ _ h => by omega)⟩
  case round =>
    obtain ⟨k, hk, rfl, hno⟩ := hrel
    by_cases hkq : k < q
    · have hkT : k < T.length := by have := HQ.out; omega
      obtain ⟨b, f, rfl, hb, hcell⟩ := HA.out.resolve_left (fun e => by rw [e] at hkT; simp at hkT)
      have d := hcell k hkT
      have hfst := fun (e : T[k] = s) => pos_first hkT hno.out e
      have hmem : T[k] ∈ T := List.getElem_mem hkT
      obtain ⟨y, hy⟩ : ∃ y, y = T[k] := ⟨_, rfl⟩
      rw [← hy] at d hfst hmem
      have HF := Lib.hid hfst
      have HM := Lib.hid hmem
      have HY := Lib.hid hy
      clear hcell hfst hmem hy
      by_cases hys : y = s
      · have hq' := eq_s hys
        have hfd : fdI T s = (k : Int) := by unfold fdI; rw [if_pos (hys ▸ HM.out), HF.out hys]
        have HFD := Lib.hid hfd
        clear hys hfd
        go_wp2
        go_ret
        exact ⟨by rw [HFD.out]; rfl, rfl⟩
      · have hq' := ne_s hys
        have HN := Lib.hid hys
        clear hys
        go_wp2
        go_round
        case rel =>
          refine ⟨k + 1, by omega, by go_num, Lib.hid fun j hj hjk => ?_⟩
          by_cases c : j < k
          · exact hno.out j hj c
          · obtain rfl : j = k := by omega
            rw [← HY.out]; exact HN.out
        case measure => simp [intOf]; omega
    · have hfd : fdI T s = -1 := by
        unfold fdI
        rw [if_neg]
        intro hm
        exact hno.out _ (pos_lt hm) (by have := pos_lt hm; have := HQ.out; omega) (pos_get hm)
      have HFD := Lib.hid hfd
      clear hfd
      go_wp2
      go_ret
      exact ⟨by rw [HFD.out]; rfl, rfl⟩

set_option maxRecDepth 100000 in
set_option maxHeartbeats 2000000 in
theorem stands_any (vT vS : Value) (T : List ByteArray) (S : List Int) (n : Nat) (hn : n < T.length) (w : World) (hT : Sl w vT (T.map Value.string)) (hS : Sl w vS (S.map (Value.int .i64))) (hm0 : 0 < S.length) (hm : S.length ≤ 1000000000) (hTl : T.length ≤ 1000000000)
    (hsz : ∀ s ∈ T, s.size ≤ 9223372036854775807) (b : Bool) (hb : b = true ↔ Stands (hsh T[n]) S n) :
    Calls Try.prog 62 #[.agg #[vT, vS], .int .i64 (n : Int)] w fun e w' => e = .returned (.bool b) ∧ Gr w w' := by
  obtain ⟨oT, cT, rfl, hcT, hmT, aT⟩ := hT.mshape
  obtain ⟨oS, cS, rfl, hcS, hmS, aS⟩ := hS.mshape
  obtain ⟨bT', fT, rfl, hbT, hcellT⟩ := aT.resolve_left (fun e => by rw [e] at hn; simp at hn)
  obtain ⟨bS, fS, rfl, hbS, hcellS⟩ := aS.resolve_left (fun e => by rw [e] at hm0; simp at hm0)
  have dT := hcellT n hn
  have hz := hsz _ (List.getElem_mem hn)
  obtain ⟨s, hs⟩ : ∃ s, s = T[n] := ⟨_, rfl⟩
  rw [← hs] at dT hz hb
  have HB := Lib.hid hb
  have HCS := Lib.hid hcellS
  obtain ⟨m, hm'⟩ : ∃ m, m = S.length := ⟨_, rfl⟩
  obtain ⟨q, hq'⟩ : ∃ q, q = T.length := ⟨_, rfl⟩
  rw [← hm'] at hm hm0 hcS ⊢
  rw [← hq'] at hTl hn hcT ⊢
  have HM := Lib.hid hm'
  obtain ⟨h, hh⟩ : ∃ h, h = hsh s := ⟨_, rfl⟩
  have hlt := hsh_lt s
  have hcall := rhash_any s hz
  rw [← hh] at hlt hcall HB
  obtain ⟨f, hf⟩ : ∃ f, f = h % m := ⟨_, rfl⟩
  have hfm : f < m := by rw [hf]; exact Nat.mod_lt _ hm0
  have q1 : IntKind.u64.wrap (m : Int) = (m : Int) := by rw [IntKind.wrap_u64]; omega
  have q2 : IntKind.i64.wrap ((h : Int) % (m : Int)) = (f : Int) := by rw [← Int.natCast_emod, ← hf, IntKind.wrap_i64]; omega
  have q4 : ((m : Int) == 0) = false := by rw [beq_eq_false_iff_ne]; omega
  have HF := Lib.hid hf
  clear hs hb hcellT hcellS aT aS hm' hq' hh hf hlt hT hS hsz
  go_enter Try.func62, Try.ntmps62
  go_wp2_with (go_at_call 78; refine (hcall _).mono ?_; rintro e w' ⟨rfl, g⟩)
  have hG : Gr w w' := (Gr.alloc w _).trans (Gr.of_dr g)
  have c1 : w'.cell? ⟨w.heap.size, 1, none⟩ = some (.slice (some ⟨bS, fS, none⟩) m cS) := ((Blk.new w #[.slice (some ⟨bT', fT, none⟩) q cT, .slice (some ⟨bS, fS, none⟩) m cS] 25).gr (Gr.of_dr g)).cell 1
  clear g hcall
  go_loop [6, 7, 22] (fun p fl i => ∃ (k : Nat) (fb : Bool), k ≤ m ∧ i = .int .i64 (k : Int) ∧ p = .int .i64 ((prb h m k : Nat) : Int) ∧ fl = .bool fb ∧ Hid (SSt h S n k fb)) (fun _ _ i => m - (intOf i).toNat)
  case atStart => exact ⟨0, false, Nat.zero_le _, rfl, by unfold prb; rw [Nat.add_zero, ← HF.out], rfl, Lib.hid (.inl ⟨rfl, fun j hj => by omega⟩)⟩
  case round =>
    obtain ⟨k, fb, hk, rfl, rfl, rfl, hst⟩ := hrel
    by_cases hkm : k < m
    · obtain ⟨p, hp⟩ : ∃ p, p = prb h m k := ⟨_, rfl⟩
      have hpm : p < m := by rw [hp]; exact prb_lt hm0 _ _
      have hpS : p < S.length := by have := HM.out; omega
      have d := (hG.below.cell (p := ⟨bS, fS + p, none⟩) hbS).trans (HCS.out p hpS)
      have ha : at0 S (prb h S.length k) = S[p] := by rw [← HM.out, ← hp, at0_lt hpS]
      have hnx : prb h m (k + 1) = (p + 1) % m := by rw [hp]; unfold prb; rw [Nat.mod_add_mod, Nat.add_assoc]
      have hkS : k < S.length := by have := HM.out; omega
      obtain ⟨y, hy⟩ : ∃ y, y = S[p] := ⟨_, rfl⟩
      rw [← hy] at d ha
      rw [← hp]
      have HA := Lib.hid ha
      obtain ⟨p1, hp1⟩ : ∃ p1, p1 = (p + 1) % m := ⟨_, rfl⟩
      have r1 : ((p : Int) + 1) % (m : Int) = (p1 : Int) := by rw [hp1]; simp
      have hp1m : p1 < m := by rw [hp1]; exact Nat.mod_lt _ hm0
      rw [← hp1] at hnx
      have HNX := Lib.hid hnx
      have q5 : (p : Int) < (m : Int) := by omega
      have q6 : IntKind.i64.wrap ((n : Int) + 1) = (n : Int) + 1 := by rw [IntKind.wrap_i64]; omega
      clear hp hy ha hnx hp1
      by_cases h0 : y = 0
      · have h0' : (y == 0) = true := by simpa using h0
        have h1' : (y == (n : Int) + 1) = false := by rw [beq_eq_false_iff_ne]; omega
        cases fb
        · obtain rfl := bF HB.out (hst.out.free hkS (by rw [HA.out]; exact h0))
          clear h0
          go_wp2
          go_ret
          exact ⟨rfl, hG⟩
        · have hn2 := hst.out.miss (fun e => by cases e) (by rw [HA.out]; omega)
          have HN2 := Lib.hid hn2
          clear hn2 h0
          go_wp2
          go_round
          case rel => exact ⟨k + 1, true, by omega, by go_num, by rw [HNX.out, ← r1], rfl, HN2⟩
          case measure => simp [intOf]; omega
      · have h0' : (y == 0) = false := by simpa using h0
        by_cases h1 : y = (n : Int) + 1
        · have h1' : (y == (n : Int) + 1) = true := by simpa using h1
          cases fb
          · have hn2 := hst.out.hit (by rw [HA.out]; exact h1)
            have HN2 := Lib.hid hn2
            clear hn2 h0 h1
            go_wp2
            go_round
            case rel => exact ⟨k + 1, true, by omega, by go_num, by rw [HNX.out, ← r1], rfl, HN2⟩
            case measure => simp [intOf]; omega
          · obtain rfl := bF HB.out (hst.out.twice hkS (by rw [HA.out]; exact h1))
            clear h0 h1
            go_wp2
            go_ret
            exact ⟨rfl, hG⟩
        · have h1' : (y == (n : Int) + 1) = false := by simpa using h1
          have hn2 := hst.out.miss (fun _ => by rw [HA.out]; exact h0) (by rw [HA.out]; exact h1)
          have HN2 := Lib.hid hn2
          clear hn2 h0 h1
          go_wp2
          go_round
          case rel => exact ⟨k + 1, fb, by omega, by go_num, by rw [HNX.out, ← r1], rfl, HN2⟩
          case measure => simp [intOf]; omega
    · obtain rfl : k = m := by omega
      have hend : fb = true ↔ Stands h S n := by have := hst.out; rw [HM.out] at this; exact this.end_
      obtain rfl : fb = b := by
        have hb := HB.out
        cases fb <;> cases b <;> simp_all
      clear hend
      go_wp2
      go_ret
      exact ⟨rfl, hG⟩
end Go.Proofs.Ytmghbejbdkoehaa

