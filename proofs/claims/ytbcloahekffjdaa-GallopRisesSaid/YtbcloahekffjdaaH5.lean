/- gallop's calls over places: Rising, Seek, Behind, Span, Has; Log. -/
import Derived.Test.YtbcloahekffjdaaH4
import Derived.Test.YtbcloahekffjdaaShL
import Derived.Test.YtbcloahekffjdaaKitB
namespace Go.Proofs.Ytbcloahekffjdaa
open Go.RowKit Go.Proofs.Kit

set_option maxHeartbeats 400000 in
theorem rising_any (v : Value) (l : List Int) (w : World) (hs : Seg .u64 w v l) :
    Calls Try.prog 13 #[v] w fun e w' => e = .returned (.bool (decide (Inc l))) ∧ Dr w w' := by
  have HS := Lib.hid hs
  obtain ⟨o, c, rfl, _, _, _⟩ := hs.shape
  clear hs
  go_enter Try.func13, Try.ntmps13
  go_wp2_with fail
  refine (rises_any _ l _ HS.out).mono ?_
  rintro e w' ⟨rfl, hd⟩
  go_wp2
  go_ret
  exact ⟨rfl, hd⟩

/-- Whether a place may be sought there. -/
def May (l : List Int) (f : Int) : Prop := Inc l ∧ 0 ≤ f ∧ f ≤ l.length
instance (l : List Int) (f : Int) : Decidable (May l f) := inferInstanceAs (Decidable (_ ∧ _ ∧ _))
set_option maxHeartbeats 1000000 in
theorem search_ge_ok (v : Value) (l : List Int) (w : World) (hs : Seg .u64 w v l) (hl : l.length ≤ 1000000) (hi : Inc l) (f : Nat) (hf : f ≤ l.length) (bk : Nat) (key : Int) (hb : Blk w bk #[.int .u64 key] 27) :
    Calls Try.prog 33 #[v, .int .i64 (f : Int), .func (.func 41) #[] #[.pointer (some ⟨bk, 0, none⟩)]] w fun e w' => ∃ q : Nat, e = .returned (.tuple #[.int .i64 (sk (ge key) l f : Nat), .int .i64 (q : Int), .int .i64 0]) ∧ Lks l.length f (sk (ge key) l f) q ∧ Below w.heap.size w w' := by
  have HS := Lib.hid hs
  have HB := Lib.hid hb
  have HI := Lib.hid hi
  have hI : decide (Inc l) = true := by simpa using hi
  have HII := Lib.hid hI
  obtain ⟨o, c, rfl, _, _, _⟩ := hs.shape
  obtain ⟨n, hn⟩ : ∃ n, n = l.length := ⟨_, rfl⟩
  rw [← hn] at hl hf HS ⊢
  have HN := Lib.hid hn
  clear hs hb hi hI hn
  go_enter Try.func33, Try.ntmps33
  go_wp2_with fail
  refine (rises_any _ l _ HS.out).mono ?_
  rw [HII.out]
  rintro e w1 ⟨rfl, hd⟩
  go_wp2_with fail
  refine (place_ge _ l w1 (HS.out.later hd.below) (by have := HN.out; omega) HI.out f (by have := HN.out; omega) bk key (HB.out.later hd.below)).mono ?_
  rintro e w2 ⟨q, rfl, hq, hb2⟩
  rw [← HN.out] at hq
  go_wp2
  go_ret3
  exact ⟨q, rfl, hq, below_later hd.below hb2⟩
set_option maxHeartbeats 1000000 in
theorem search_ge_no (v : Value) (l : List Int) (w : World) (hs : Seg .u64 w v l) (f : Int) (hf0 : -9223372036854775808 ≤ f) (hf1 : f ≤ 9223372036854775807) (hno : ¬ May l f) (bk : Nat) :
    Calls Try.prog 33 #[v, .int .i64 f, .func (.func 41) #[] #[.pointer (some ⟨bk, 0, none⟩)]] w fun e w' => e = .returned (.tuple #[.int .i64 0, .int .i64 0, .int .i64 2]) ∧ Below w.heap.size w w' := by
  have HS := Lib.hid hs
  have HNO := Lib.hid hno
  obtain ⟨o, c, rfl, _, _, _⟩ := hs.shape
  obtain ⟨n, hn⟩ : ∃ n, n = l.length := ⟨_, rfl⟩
  rw [← hn] at HS ⊢
  have HN := Lib.hid hn
  clear hs hn hno
  by_cases h0 : f < 0
  · go_enter Try.func33, Try.ntmps33
    go_wp2
    go_ret3
    exact ⟨rfl, Below.refl _ _⟩
  · obtain ⟨F, rfl⟩ : ∃ F : Nat, f = F := ⟨f.toNat, by omega⟩
    clear hf0
    by_cases h1 : n < F
    · have h0' : decide ((F : Int) < 0) = false := by simp
      go_enter Try.func33, Try.ntmps33
      go_wp2
      go_ret3
      exact ⟨rfl, Below.refl _ _⟩
    · have hI : decide (Inc l) = false := by
        rw [decide_eq_false_iff_not]
        exact fun h => HNO.out ⟨h, by omega, by have := HN.out; omega⟩
      have HII := Lib.hid hI
      have h1' : decide (n < F) = false := by simpa using h1
      have h0' : decide ((F : Int) < 0) = false := by simp
      clear hI
      go_enter Try.func33, Try.ntmps33
      go_wp2_with fail
      refine (rises_any _ l _ HS.out).mono ?_
      rw [HII.out]
      rintro e w1 ⟨rfl, hd⟩
      go_wp2
      go_ret3
      exact ⟨rfl, hd.below⟩
set_option maxHeartbeats 1000000 in
theorem gSeek_ok (v : Value) (l : List Int) (w : World) (hs : Seg .u64 w v l) (hl : l.length ≤ 1000000) (hi : Inc l) (f : Nat) (hf : f ≤ l.length) (key : Int) :
    Calls Try.prog 14 #[v, .int .i64 (f : Int), .int .u64 key] w fun e w' => ∃ q : Nat, e = .returned (.tuple #[.int .i64 (sk (ge key) l f : Nat), .int .i64 (q : Int), .int .i64 0]) ∧ Lks l.length f (sk (ge key) l f) q ∧ Below w.heap.size w w' := by
  have HS := Lib.hid hs
  have HI := Lib.hid hi
  obtain ⟨o, c, rfl, _, _, _⟩ := hs.shape
  clear hs hi
  go_enter Try.func14, Try.ntmps14
  go_wp2_with (go_at_call 34; refine (gatLeast_any _ _).mono ?_; rintro e w' ⟨rfl, rfl⟩)
  refine (search_ge_ok _ l _ (HS.out.alloc _) hl HI.out f hf w.heap.size key (Blk.new _ _ _)).mono ?_
  rintro e w2 ⟨q, rfl, hq, hb2⟩
  go_wp2
  go_ret3
  exact ⟨q, rfl, hq, below_al (Below.refl _ _) hb2⟩
set_option maxHeartbeats 1000000 in
theorem gSeek_no (v : Value) (l : List Int) (w : World) (hs : Seg .u64 w v l) (f : Int) (hf0 : -9223372036854775808 ≤ f) (hf1 : f ≤ 9223372036854775807) (hno : ¬ May l f) (key : Int) :
    Calls Try.prog 14 #[v, .int .i64 f, .int .u64 key] w fun e w' => e = .returned (.tuple #[.int .i64 0, .int .i64 0, .int .i64 2]) ∧ Below w.heap.size w w' := by
  have HS := Lib.hid hs
  have HNO := Lib.hid hno
  obtain ⟨o, c, rfl, _, _, _⟩ := hs.shape
  clear hs hno
  go_enter Try.func14, Try.ntmps14
  go_wp2_with (go_at_call 34; refine (gatLeast_any _ _).mono ?_; rintro e w' ⟨rfl, rfl⟩)
  refine (search_ge_no _ l _ (HS.out.alloc _) f hf0 hf1 HNO.out w.heap.size).mono ?_
  rintro e w2 ⟨rfl, hb2⟩
  go_wp2
  go_ret3
  exact ⟨rfl, below_al (Below.refl _ _) hb2⟩
set_option maxHeartbeats 1000000 in
theorem search_gt_ok (v : Value) (l : List Int) (w : World) (hs : Seg .u64 w v l) (hl : l.length ≤ 1000000) (hi : Inc l) (f : Nat) (hf : f ≤ l.length) (bk : Nat) (key : Int) (hb : Blk w bk #[.int .u64 key] 27) :
    Calls Try.prog 33 #[v, .int .i64 (f : Int), .func (.func 42) #[] #[.pointer (some ⟨bk, 0, none⟩)]] w fun e w' => ∃ q : Nat, e = .returned (.tuple #[.int .i64 (sk (gt key) l f : Nat), .int .i64 (q : Int), .int .i64 0]) ∧ Lks l.length f (sk (gt key) l f) q ∧ Below w.heap.size w w' := by
  have HS := Lib.hid hs
  have HB := Lib.hid hb
  have HI := Lib.hid hi
  have hI : decide (Inc l) = true := by simpa using hi
  have HII := Lib.hid hI
  obtain ⟨o, c, rfl, _, _, _⟩ := hs.shape
  obtain ⟨n, hn⟩ : ∃ n, n = l.length := ⟨_, rfl⟩
  rw [← hn] at hl hf HS ⊢
  have HN := Lib.hid hn
  clear hs hb hi hI hn
  go_enter Try.func33, Try.ntmps33
  go_wp2_with fail
  refine (rises_any _ l _ HS.out).mono ?_
  rw [HII.out]
  rintro e w1 ⟨rfl, hd⟩
  go_wp2_with fail
  refine (place_gt _ l w1 (HS.out.later hd.below) (by have := HN.out; omega) HI.out f (by have := HN.out; omega) bk key (HB.out.later hd.below)).mono ?_
  rintro e w2 ⟨q, rfl, hq, hb2⟩
  rw [← HN.out] at hq
  go_wp2
  go_ret3
  exact ⟨q, rfl, hq, below_later hd.below hb2⟩
set_option maxHeartbeats 1000000 in
theorem search_gt_no (v : Value) (l : List Int) (w : World) (hs : Seg .u64 w v l) (f : Int) (hf0 : -9223372036854775808 ≤ f) (hf1 : f ≤ 9223372036854775807) (hno : ¬ May l f) (bk : Nat) :
    Calls Try.prog 33 #[v, .int .i64 f, .func (.func 42) #[] #[.pointer (some ⟨bk, 0, none⟩)]] w fun e w' => e = .returned (.tuple #[.int .i64 0, .int .i64 0, .int .i64 2]) ∧ Below w.heap.size w w' := by
  have HS := Lib.hid hs
  have HNO := Lib.hid hno
  obtain ⟨o, c, rfl, _, _, _⟩ := hs.shape
  obtain ⟨n, hn⟩ : ∃ n, n = l.length := ⟨_, rfl⟩
  rw [← hn] at HS ⊢
  have HN := Lib.hid hn
  clear hs hn hno
  by_cases h0 : f < 0
  · go_enter Try.func33, Try.ntmps33
    go_wp2
    go_ret3
    exact ⟨rfl, Below.refl _ _⟩
  · obtain ⟨F, rfl⟩ : ∃ F : Nat, f = F := ⟨f.toNat, by omega⟩
    clear hf0
    by_cases h1 : n < F
    · have h0' : decide ((F : Int) < 0) = false := by simp
      go_enter Try.func33, Try.ntmps33
      go_wp2
      go_ret3
      exact ⟨rfl, Below.refl _ _⟩
    · have hI : decide (Inc l) = false := by
        rw [decide_eq_false_iff_not]
        exact fun h => HNO.out ⟨h, by omega, by have := HN.out; omega⟩
      have HII := Lib.hid hI
      have h1' : decide (n < F) = false := by simpa using h1
      have h0' : decide ((F : Int) < 0) = false := by simp
      clear hI
      go_enter Try.func33, Try.ntmps33
      go_wp2_with fail
      refine (rises_any _ l _ HS.out).mono ?_
      rw [HII.out]
      rintro e w1 ⟨rfl, hd⟩
      go_wp2
      go_ret3
      exact ⟨rfl, hd.below⟩
set_option maxHeartbeats 1000000 in
theorem gBehind_ok (v : Value) (l : List Int) (w : World) (hs : Seg .u64 w v l) (hl : l.length ≤ 1000000) (hi : Inc l) (f : Nat) (hf : f ≤ l.length) (key : Int) :
    Calls Try.prog 15 #[v, .int .i64 (f : Int), .int .u64 key] w fun e w' => ∃ q : Nat, e = .returned (.tuple #[.int .i64 (sk (gt key) l f : Nat), .int .i64 (q : Int), .int .i64 0]) ∧ Lks l.length f (sk (gt key) l f) q ∧ Below w.heap.size w w' := by
  have HS := Lib.hid hs
  have HI := Lib.hid hi
  obtain ⟨o, c, rfl, _, _, _⟩ := hs.shape
  clear hs hi
  go_enter Try.func15, Try.ntmps15
  go_wp2_with (go_at_call 35; refine (gmoreThan_any _ _).mono ?_; rintro e w' ⟨rfl, rfl⟩)
  refine (search_gt_ok _ l _ (HS.out.alloc _) hl HI.out f hf w.heap.size key (Blk.new _ _ _)).mono ?_
  rintro e w2 ⟨q, rfl, hq, hb2⟩
  go_wp2
  go_ret3
  exact ⟨q, rfl, hq, below_al (Below.refl _ _) hb2⟩
set_option maxHeartbeats 1000000 in
theorem gBehind_no (v : Value) (l : List Int) (w : World) (hs : Seg .u64 w v l) (f : Int) (hf0 : -9223372036854775808 ≤ f) (hf1 : f ≤ 9223372036854775807) (hno : ¬ May l f) (key : Int) :
    Calls Try.prog 15 #[v, .int .i64 f, .int .u64 key] w fun e w' => e = .returned (.tuple #[.int .i64 0, .int .i64 0, .int .i64 2]) ∧ Below w.heap.size w w' := by
  have HS := Lib.hid hs
  have HNO := Lib.hid hno
  obtain ⟨o, c, rfl, _, _, _⟩ := hs.shape
  clear hs hno
  go_enter Try.func15, Try.ntmps15
  go_wp2_with (go_at_call 35; refine (gmoreThan_any _ _).mono ?_; rintro e w' ⟨rfl, rfl⟩)
  refine (search_gt_no _ l _ (HS.out.alloc _) f hf0 hf1 HNO.out w.heap.size).mono ?_
  rintro e w2 ⟨rfl, hb2⟩
  go_wp2
  go_ret3
  exact ⟨rfl, below_al (Below.refl _ _) hb2⟩

theorem sk_from {p : Int → Bool} {l : List Int} {f g : Nat} (h1 : f ≤ g) (h2 : g ≤ l.length) (h3 : ∀ k (_ : k < l.length), f ≤ k → k < g → p l[k] = false) : sk p l g = sk p l f := by
  have h := sk_le (p := p) h2
  have h0 := sk_ge p l g
  refine (sk_of (by omega) h (fun k hk a b => ?_) (fun h => sk_at h)).symm
  by_cases e : k < g
  · exact h3 k hk a e
  · exact sk_before (by omega) b hk
/-- What is more than the greater key is sought from where the lesser one stands as well as from the beginning. -/
theorem sk_span {l : List Int} {low high : Int} (h : low ≤ high) : sk (gt high) l (sk (ge low) l 0) = sk (gt high) l 0 := by
  refine sk_from (Nat.zero_le _) (sk_le (Nat.zero_le _)) fun k hk h1 h2 => ?_
  have := sk_before (p := ge low) h1 h2 hk
  simp only [ge, gt, decide_eq_false_iff_not] at this ⊢
  omega
theorem mem_sk {l : List Int} (hi : Inc l) (key : Int) : key ∈ l ↔ ∃ h : sk (ge key) l 0 < l.length, l[sk (ge key) l 0] = key := by
  constructor
  · intro hm
    obtain ⟨i, hil, e⟩ := List.getElem_of_mem hm
    have hs : sk (ge key) l 0 = i := sk_of (Nat.zero_le _) (by omega) (fun k hk _ hki => by
      have := hi.at hk hil hki
      simp only [ge, decide_eq_false_iff_not]; omega) (fun _ => by simp [ge, e])
    exact ⟨by omega, by simpa only [hs] using e⟩
  · rintro ⟨h, e⟩
    exact e ▸ List.getElem_mem h
set_option maxHeartbeats 1000000 in
theorem span_ok (v : Value) (l : List Int) (w : World) (hs : Seg .u64 w v l) (hl : l.length ≤ 1000000) (hi : Inc l) (low high : Int) (hlh : low ≤ high) :
    Calls Try.prog 23 #[v, .int .u64 low, .int .u64 high] w fun e w' => e = .returned (.tuple #[.int .i64 (sk (ge low) l 0 : Nat), .int .i64 (sk (gt high) l 0 : Nat)]) ∧ Below w.heap.size w w' := by
  have HS := Lib.hid hs
  have HI := Lib.hid hi
  have hI : decide (Inc l) = true := by simpa using hi
  have HII := Lib.hid hI
  have hSP := Lib.hid (sk_span (l := l) hlh)
  have hlt : decide (high < low) = false := by simp; omega
  obtain ⟨o, c, rfl, _, _, _⟩ := hs.shape
  clear hs hi hI hlh
  go_enter Try.func23, Try.ntmps23
  go_wp2_with fail
  refine (rises_any _ l _ HS.out).mono ?_
  rw [HII.out]
  rintro e w1 ⟨rfl, hd⟩
  have S1 := HS.out.later hd.below
  go_wp2_with (go_at_call 34; refine (gatLeast_any _ _).mono ?_; rintro e w' ⟨rfl, rfl⟩)
  refine (place_ge _ l _ (S1.alloc _) hl HI.out 0 (Nat.zero_le _) w1.heap.size low (Blk.new _ _ _)).mono ?_
  rintro e w2 ⟨q, rfl, -, hb2⟩
  have B2 : Below w.heap.size w w2 := below_al hd.below hb2
  have S2 := HS.out.later B2
  have hsk := sk_le (p := ge low) (l := l) (Nat.zero_le _)
  obtain ⟨a, ha⟩ : ∃ a, a = sk (ge low) l 0 := ⟨_, rfl⟩
  rw [← ha] at hSP hsk ⊢
  have HAA := Lib.hid ha
  clear ha
  go_wp2_with (go_at_call 35; refine (gmoreThan_any _ _).mono ?_; rintro e w' ⟨rfl, rfl⟩)
  refine (place_gt _ l _ (S2.alloc _) hl HI.out a hsk w2.heap.size high (Blk.new _ _ _)).mono ?_
  rintro e w3 ⟨q', rfl, -, hb3⟩
  rw [hSP.out]
  go_wp2
  go_ret2
  rw [← HAA.out]
  exact ⟨rfl, below_al B2 hb3⟩
set_option maxHeartbeats 1000000 in
theorem span_no (v : Value) (l : List Int) (w : World) (hs : Seg .u64 w v l) (low high : Int) (hno : ¬ (low ≤ high ∧ Inc l)) :
    Calls Try.prog 23 #[v, .int .u64 low, .int .u64 high] w fun e w' => e = .returned (.tuple #[.int .i64 0, .int .i64 0]) ∧ Dr w w' := by
  have HS := Lib.hid hs
  obtain ⟨o, c, rfl, _, _, _⟩ := hs.shape
  by_cases hlh : low ≤ high
  · have hI : decide (Inc l) = false := by simpa using fun h => hno ⟨hlh, h⟩
    have HII := Lib.hid hI
    have hlt : decide (high < low) = false := by simp; omega
    clear hs hI hlh hno
    go_enter Try.func23, Try.ntmps23
    go_wp2_with fail
    refine (rises_any _ l _ HS.out).mono ?_
    rw [HII.out]
    rintro e w1 ⟨rfl, hd⟩
    go_wp2
    go_ret2
    exact ⟨rfl, hd⟩
  · have hlt : decide (high < low) = true := by simp; omega
    clear hs hlh hno
    go_enter Try.func23, Try.ntmps23
    go_wp2
    go_ret2
    exact ⟨rfl, Dr.refl _⟩
/-- Whether a row that rises has a key. -/
def hasI (l : List Int) (key : Int) : Bool := decide (Inc l ∧ key ∈ l)
set_option maxHeartbeats 1000000 in
theorem ghas_any (v : Value) (l : List Int) (w : World) (hs : Seg .u64 w v l) (hl : l.length ≤ 1000000) (key : Int) :
    Calls Try.prog 24 #[v, .int .u64 key] w fun e w' => e = .returned (.bool (hasI l key)) ∧ Below w.heap.size w w' := by
  have HS := Lib.hid hs
  obtain ⟨o, c, rfl, _, _, a⟩ := hs.shape
  by_cases hi : Inc l
  · have hI : decide (Inc l) = true := by simpa using hi
    have HII := Lib.hid hI
    have HI := Lib.hid hi
    have hv : hasI l key = decide (∃ h : sk (ge key) l 0 < l.length, l[sk (ge key) l 0] = key) := by
      unfold hasI; rw [decide_eq_decide, mem_sk hi]; exact ⟨fun h => h.2, fun h => ⟨hi, h⟩⟩
    have HV := Lib.hid hv
    obtain ⟨n, hn⟩ : ∃ n, n = l.length := ⟨_, rfl⟩
    rw [← hn] at hl HS ⊢
    have HN := Lib.hid hn
    have HA := Lib.hid a
    clear hs hi hI hv hn a
    go_enter Try.func24, Try.ntmps24
    go_wp2_with fail
    refine (rises_any _ l _ HS.out).mono ?_
    rw [HII.out]
    rintro e w1 ⟨rfl, hd⟩
    have S1 := HS.out.later hd.below
    go_wp2_with (go_at_call 34; refine (gatLeast_any _ _).mono ?_; rintro e w' ⟨rfl, rfl⟩)
    refine (place_ge _ l _ (S1.alloc _) (by have := HN.out; omega) HI.out 0 (Nat.zero_le _) w1.heap.size key (Blk.new _ _ _)).mono ?_
    rintro e w2 ⟨q, rfl, -, hb2⟩
    have B2 : Below w.heap.size w w2 := below_al hd.below hb2
    obtain ⟨j, hj⟩ : ∃ j, j = sk (ge key) l 0 := ⟨_, rfl⟩
    rw [← hj] at ⊢
    have HJ := Lib.hid hj
    have HB2 := Lib.hid B2
    clear hj B2 S1 hb2
    by_cases hjn : j < n
    · have hjl : j < l.length := by have := HN.out; omega
      obtain ⟨bb, ff, rfl, hbl, hcells⟩ := HA.out.resolve_left (fun e => by rw [e] at hjl; simp at hjl)
      have d1 := (HB2.out.cell (p := ⟨bb, ff + j, none⟩) hbl).trans (hcells j hjl)
      obtain ⟨y, hy⟩ : ∃ y, y = l[j] := ⟨_, rfl⟩
      rw [← hy] at d1
      have HY := Lib.hid hy
      have hg : decide (j < n) = true := by simpa using hjn
      clear hy hcells
      have hR : hasI l key = (y == key) := by
        rw [HV.out]
        by_cases e : y = key
        · rw [decide_eq_true (by have h1 := HJ.out; subst h1; exact ⟨hjl, by rw [← HY.out]; exact e⟩)]; simp [e]
        · rw [decide_eq_false (by have h1 := HJ.out; subst h1; rintro ⟨_, h⟩; exact e (by rw [HY.out]; exact h))]; simp [e]
      have HR := Lib.hid hR
      clear hR
      go_wp2
      go_ret
      rw [HR.out]
      exact ⟨rfl, HB2.out⟩
    · have hg : decide (j < n) = false := by simpa using hjn
      have hR : hasI l key = false := by
        rw [HV.out, decide_eq_false_iff_not]
        rintro ⟨h, _⟩
        have h1 := HJ.out
        have := HN.out
        omega
      have HR := Lib.hid hR
      clear hR
      go_wp2
      go_ret
      rw [HR.out]
      exact ⟨rfl, HB2.out⟩
  · have hI : decide (Inc l) = false := by simpa using hi
    have HII := Lib.hid hI
    have hv : hasI l key = false := by unfold hasI; simp [hi]
    rw [hv]
    clear hs hi hI hv a
    go_enter Try.func24, Try.ntmps24
    go_wp2_with fail
    refine (rises_any _ l _ HS.out).mono ?_
    rw [HII.out]
    rintro e w1 ⟨rfl, hd⟩
    go_wp2
    go_ret
    exact ⟨rfl, hd.below⟩

theorem bitLenAux_log : ∀ (f x : Nat), 0 < x → x < 2 ^ f → Lib.bitLenAux f x = Nat.log2 x + 1
  | 0, x, h0, h1 => by simp at h1; omega
  | f + 1, x, h0, h1 => by
    rw [Lib.bitLenAux, if_neg (by omega)]
    by_cases h : x = 1
    · subst h
      have : Nat.log2 1 = 0 := by decide
      rw [this]
      cases f <;> simp [Lib.bitLenAux]
    · rw [bitLenAux_log f (x / 2) (by omega) (by rw [Nat.pow_succ] at h1; omega), log2_half (m := x) (by omega)]
      omega
theorem bitLen_log {x : Nat} (h0 : 0 < x) (h1 : x < 18446744073709551616) : Lib.bitLen x = Nat.log2 x + 1 := bitLenAux_log 64 x h0 h1
set_option maxHeartbeats 1000000 in
theorem gLog_any (n : Int) (h0 : -9223372036854775808 ≤ n) (hn : n ≤ 9223372036854775807) (w : World) :
    Calls Try.prog 26 #[.int .i64 n] w fun e w' => e = .returned (.int .i64 (Nat.log2 n.toNat : Nat)) ∧ w' = w := by
  by_cases h1 : n < 1
  · have e : n.toNat = 0 := by omega
    rw [e]
    clear e
    go_enter Try.func26, Try.ntmps26
    go_wp2
    go_ret
    exact ⟨rfl, rfl⟩
  · obtain ⟨N, rfl⟩ : ∃ N : Nat, n = N := ⟨n.toNat, by omega⟩
    have hb := bitLen_log (x := N) (by omega) (by omega)
    have hl := log2_lt63 (m := N) (by omega)
    have h1' : decide (N < 1) = false := by simp; omega
    rw [Int.toNat_natCast]
    obtain ⟨k, hk⟩ : ∃ k, k = Nat.log2 N := ⟨_, rfl⟩
    rw [← hk] at hb hl ⊢
    have HB := Lib.hid hb
    clear hb hk h0
    go_enter Try.func26, Try.ntmps26
    go_wp2_with fail
    refine (Try.bits_Len (N : Int) _ (by omega) (by omega)).mono ?_
    rw [Int.toNat_natCast, HB.out]
    rintro e w' ⟨rfl, rfl⟩
    go_wp2
    go_ret
    exact ⟨by simp, rfl⟩
end Go.Proofs.Ytbcloahekffjdaa
