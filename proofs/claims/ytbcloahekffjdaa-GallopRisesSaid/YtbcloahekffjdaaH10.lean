/- The walk of GallopStands. -/
import Derived.Test.YtbcloahekffjdaaH8
namespace Go.Proofs.Ytbcloahekffjdaa
open Go.RowKit Go.Proofs.Kit

theorem sk_self {p : Int → Bool} {l : List Int} {f : Nat} (hf : f ≤ l.length) : sk p l (sk p l f) = sk p l f :=
  sk_of (Nat.le_refl _) (sk_le hf) (fun _ _ h1 h2 => by omega) (fun h => sk_at h)
theorem behind_there {l : List Int} (hi : Inc l) {key : Int} {f : Nat} (h : sk (ge key) l f < l.length) (he : l[sk (ge key) l f] = key) : sk (gt key) l f = sk (ge key) l f + 1 := by
  refine sk_of (by have := sk_ge (ge key) l f; omega) (by omega) (fun k hk h1 h2 => ?_) (fun h' => ?_)
  · have := hi.le h (show k ≤ sk (ge key) l f by omega)
    simp only [gt, decide_eq_false_iff_not]; omega
  · have := hi.at h h' (Nat.lt_succ_self _)
    simp only [gt, decide_eq_true_eq]; omega
theorem behind_not {l : List Int} {key : Int} {f : Nat} (hf : f ≤ l.length) (he : ∀ h : sk (ge key) l f < l.length, l[sk (ge key) l f] ≠ key) : sk (gt key) l f = sk (ge key) l f := by
  refine sk_of (sk_ge _ _ _) (sk_le hf) (fun k hk h1 h2 => ?_) (fun h' => ?_)
  · have := sk_before h1 h2 hk
    simp only [ge, gt, decide_eq_false_iff_not] at this ⊢; omega
  · have := sk_at h'
    have := he h'
    simp only [ge, gt, decide_eq_true_eq] at *; omega
/-- Whether the key itself stands at a place. -/
def thr (l : List Int) (key : Int) (a : Nat) : Bool := decide (∃ h : a < l.length, l[a] = key)
theorem behind_thr {l : List Int} (hi : Inc l) {key : Int} {f a : Nat} (hf : f ≤ l.length) (ha : a = sk (ge key) l f) : sk (gt key) l f = if thr l key a then a + 1 else a := by
  subst ha
  cases h : thr l key (sk (ge key) l f) with
  | true =>
    obtain ⟨h1, h2⟩ := of_decide_eq_true h
    simpa using behind_there hi h1 h2
  | false =>
    have h := of_decide_eq_false h
    simpa using behind_not hf fun h1 h2 => h ⟨h1, h2⟩
theorem seek_tells {l : List Int} (hi : Inc l) {key : Int} {f k a : Nat} (ha : a = sk (ge key) l f) (hk : k < l.length) (hfk : f ≤ k) : decide (key ≤ l[k]) = decide (a ≤ k) := by
  subst ha
  rw [decide_eq_decide]
  constructor
  · intro h
    by_cases c : sk (ge key) l f ≤ k
    · exact c
    · have := sk_before hfk (show k < sk (ge key) l f by omega) hk
      simp only [ge, decide_eq_false_iff_not] at this
      omega
  · intro h
    have hl : sk (ge key) l f < l.length := by omega
    have := sk_at hl
    have := hi.le hk h
    simp only [ge, decide_eq_true_eq] at *
    omega

set_option maxRecDepth 100000 in
set_option maxHeartbeats 4000000 in
theorem stands_no (o : Option Addr) (n c : Nat) (l : List Int) (w : World) (hl : l.length = n) (hc : n ≤ c) (hm : c ≤ 9223372036854775807) (h : ArgI .u64 w o c l) (f : Int) (hf0 : -9223372036854775808 ≤ f) (hf1 : f ≤ 9223372036854775807) (hno : ¬ May (l.take 200) f) (key : Int) :
    Calls Try.prog 6 #[.slice o n c, .int .i64 f, .int .u64 key] w fun e w' => e = .returned (.bool true) ∧ Below w.heap.size w w' := by
  have HL := Lib.hid hl
  have HA := Lib.hid h
  have HNO := Lib.hid hno
  clear hl h hno
  go_enter Try.func6, Try.ntmps6
  go_wp2_with fail
  refine (wakes4_true _).mono ?_
  rintro e w1 ⟨rfl, B1⟩
  go_wp2_with fail
  refine (few4_any o n c l w1 HL.out hc hm (HA.out.later B1)).mono ?_
  rintro e w2 ⟨v, rfl, ho, b2⟩
  have B2 := below_later B1 b2
  have HO := Lib.hid ho
  obtain ⟨L, hL⟩ : ∃ L, L = l.take 200 := ⟨_, rfl⟩
  rw [← hL] at HO HNO
  have hn : L.length ≤ 200 := by rw [hL]; simp; omega
  obtain ⟨o2, c2, rfl⟩ := HO.out.shape
  clear ho b2 hL B1
  go_wp2_with fail
  refine (gSeek_no _ L w2 HO.out.seg f hf0 hf1 HNO.out key).mono ?_
  rintro e w3 ⟨rfl, b3⟩
  have B3 := below_later B2 b3
  have HO3 := Lib.hid (HO.out.later b3)
  clear b3 B2 HO
  go_wp2_with fail
  refine (rising_any _ L w3 HO3.out.seg).mono ?_
  obtain ⟨t, ht⟩ : ∃ t, t = decide (Inc L) := ⟨_, rfl⟩
  rw [← ht]
  have HT := Lib.hid ht
  clear ht
  rintro e w4 ⟨rfl, d4⟩
  have B4 := below_later B3 d4.below
  clear d4 B3
  cases t
  · go_wp2
    go_ret
    exact ⟨rfl, B4⟩
  · by_cases c1 : f < 0
    · have g1 : decide (f < 0) = true := by simpa using c1
      go_wp2
      go_ret
      exact ⟨rfl, B4⟩
    · have g1 : decide (f < 0) = false := by simpa using c1
      have g2 : decide ((L.length : Int) < f) = true := by
        have h1 := HNO.out
        have h2 := HT.out
        rw [decide_eq_true_eq]
        by_cases c2 : (L.length : Int) < f
        · exact c2
        · exact absurd ⟨by simpa using h2.symm, by omega, by omega⟩ h1
      go_wp2
      go_ret
      exact ⟨rfl, B4⟩

set_option maxRecDepth 100000 in
set_option maxHeartbeats 8000000 in
theorem stands_ok (o : Option Addr) (n c : Nat) (l : List Int) (w : World) (hl : l.length = n) (hc : n ≤ c) (hm : c ≤ 9223372036854775807) (h : ArgI .u64 w o c l) (f : Nat) (hi : Inc (l.take 200)) (hf : f ≤ (l.take 200).length) (key : Int) :
    Calls Try.prog 6 #[.slice o n c, .int .i64 (f : Int), .int .u64 key] w fun e w' => e = .returned (.bool true) ∧ Below w.heap.size w w' := by
  have HL := Lib.hid hl
  have HA := Lib.hid h
  obtain ⟨L, hL⟩ : ∃ L, L = l.take 200 := ⟨_, rfl⟩
  rw [← hL] at hi hf
  have hn : L.length ≤ 200 := by rw [hL]; simp; omega
  have HI := Lib.hid hi
  have HLL := Lib.hid hL
  clear hl h hi hL
  go_enter Try.func6, Try.ntmps6
  go_wp2_with fail
  refine (wakes4_true _).mono ?_
  rintro e w1 ⟨rfl, B1⟩
  go_wp2_with fail
  refine (few4_any o n c l w1 HL.out hc hm (HA.out.later B1)).mono ?_
  rw [← HLL.out]
  rintro e w2 ⟨v, rfl, ho, b2⟩
  have B2 := below_later B1 b2
  have HO := Lib.hid ho
  obtain ⟨o2, c2, rfl⟩ := HO.out.shape
  clear ho b2 B1
  go_wp2_with fail
  refine (gSeek_ok _ L w2 HO.out.seg (by omega) HI.out f hf key).mono ?_
  rintro e w3 ⟨q, rfl, -, b3⟩
  have B3 := below_later B2 b3
  have HO3 := Lib.hid (HO.out.later b3)
  clear b3 B2 HO
  have ha0 := sk_ge (ge key) L f
  have ha1 := sk_le (p := ge key) hf
  have has := sk_self (p := ge key) hf
  obtain ⟨a, hat⟩ : ∃ a, a = sk (ge key) L f := ⟨_, rfl⟩
  have htl := fun k (hk : k < L.length) (hfk : f ≤ k) => seek_tells HI.out hat hk hfk
  have hbh := behind_thr HI.out hf hat
  rw [← hat] at ha0 ha1 has ⊢
  have HS := Lib.hid has
  have HT := Lib.hid htl
  have HBH := Lib.hid hbh
  obtain ⟨N, hN⟩ : ∃ N, N = L.length := ⟨_, rfl⟩
  rw [← hN] at hf hn ha1 HO3 ⊢
  have HN := Lib.hid hN
  have HB3 := Lib.hid B3
  clear has htl hbh hat hN B3
  go_wp2
  go_loop [11] (fun i => ∃ k : Nat, f ≤ k ∧ k ≤ N ∧ i = .int .i64 (k : Int)) (fun i => N - (intOf i).toNat)
  case atStart => exact ⟨f, Nat.le_refl _, hf, rfl⟩
  case round =>
    obtain ⟨k, hfk, hk, rfl⟩ := hrel
    by_cases hlt : k < N
    · have hk1 : k < L.length := by have := HN.out; omega
      obtain ⟨b, g, cp, hv, _, _, hbl, hcells⟩ := HO3.out.seg.2.resolve_left (fun e => by rw [e.2] at hk1; simp at hk1)
      injection hv with hv1 hv2 hv3
      subst hv1
      have d1 := hcells k hk1
      have ht := HT.out k hk1 hfk
      obtain ⟨x, hx⟩ : ∃ x, x = L[k] := ⟨_, rfl⟩
      rw [← hx] at d1 ht
      clear hx hcells hv2 hv3
      by_cases hc : a ≤ k
      · have hc' : decide (a ≤ k) = true := by simpa using hc
        rw [hc'] at ht
        go_wp2
        go_round
        case rel => exact ⟨k + 1, by omega, by omega, by go_num⟩
        case measure => simp [intOf]; omega
      · have hc' : decide (a ≤ k) = false := by simpa using hc
        rw [hc'] at ht
        go_wp2
        go_round
        case rel => exact ⟨k + 1, by omega, by omega, by go_num⟩
        case measure => simp [intOf]; omega
    · obtain rfl : k = N := by omega
      go_wp2_with fail
      refine (gSeek_ok _ L w3 (by have := HO3.out.seg; exact this) (by have := HN.out; omega) HI.out a (by have := HN.out; omega) key).mono ?_
      rw [HS.out]
      rintro e w4 ⟨q2, rfl, hq2, b4⟩
      have hq : a < k → q2 ≤ 2 := by
        intro h
        have := (hq2.2 (by have := HN.out; omega)).2
        rw [show 1 + a - a = 1 by omega] at this
        have e : Nat.log2 1 = 0 := by decide
        omega
      have HQ := Lib.hid hq
      have B4 := below_later HB3.out b4
      have HO4 := Lib.hid (HO3.out.later b4)
      clear hq2 b4 hq HO3 HB3
      go_wp2_with fail
      refine (gBehind_ok _ L w4 HO4.out.seg (by have := HN.out; omega) HI.out f (by have := HN.out; omega) key).mono ?_
      rw [HBH.out]
      obtain ⟨t, ht⟩ : ∃ t, t = thr L key a := ⟨_, rfl⟩
      rw [← ht]
      have HTH := Lib.hid (show t = decide (∃ h : a < L.length, L[a] = key) from ht)
      clear ht HBH
      rintro e w5 ⟨q3, rfl, -, b5⟩
      have B5 := below_later B4 b5
      have HO5 := Lib.hid (HO4.out.later b5)
      have HB5 := Lib.hid B5
      clear b5 B4 HO4 B5
      have e1 : ((a : Int) + 1 == (a : Int)) = false := by simp; omega
      have e2 : ((a : Int) == (a : Int) + 1) = false := by simp; omega
      have g3 : decide (a < f) = false := by simp; omega
      by_cases hak : a < k
      · have hk1 : a < L.length := by have := HN.out; omega
        obtain ⟨b, g, cp, hv, _, _, hbl, hcells⟩ := HO5.out.seg.2.resolve_left (fun e => by rw [e.2] at hk1; simp at hk1)
        injection hv with hv1 hv2 hv3
        subst hv1
        have d1 := hcells a hk1
        have hth := HTH.out
        have g1 : decide (a < k) = true := by simpa using hak
        have g2 : decide ((2 : Int) < (q2 : Int)) = false := by have := HQ.out hak; simp; omega
        have hyk : (L[a] == key) = t := by
          rw [hth]
          by_cases e : L[a] = key
          · rw [decide_eq_true ⟨hk1, e⟩]; simp [e]
          · rw [decide_eq_false (fun h => e h.2)]; simp [e]
        obtain ⟨y, hy⟩ : ∃ y, y = L[a] := ⟨_, rfl⟩
        rw [← hy] at d1 hyk
        clear hy hcells hv2 hv3 hth
        cases t
        · go_wp2
          go_ret
          exact ⟨rfl, HB5.out⟩
        · go_wp2
          go_ret
          exact ⟨rfl, HB5.out⟩
      · have g1 : decide (a < k) = false := by simpa using hak
        obtain rfl : t = false := by
          rw [HTH.out]
          exact decide_eq_false fun h => by have := h.1; have := HN.out; omega
        go_wp2
        go_ret
        exact ⟨rfl, HB5.out⟩
end Go.Proofs.Ytbcloahekffjdaa
