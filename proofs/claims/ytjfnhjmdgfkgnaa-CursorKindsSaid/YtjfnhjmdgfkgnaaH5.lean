/- gallop's calls over places: Rising, Seek, Behind, Span, Has; Log. -/
import Derived.Test.YtjfnhjmdgfkgnaaH4
import Derived.Test.YtjfnhjmdgfkgnaaShL
import Derived.Test.YtjfnhjmdgfkgnaaKitB
namespace Go.Proofs.Ytjfnhjmdgfkgnaa
open Go.RowKit Go.Proofs.Kit

/-- Whether a place may be sought there. -/
def May (l : List Int) (f : Int) : Prop := Inc l ∧ 0 ≤ f ∧ f ≤ l.length
instance (l : List Int) (f : Int) : Decidable (May l f) := inferInstanceAs (Decidable (_ ∧ _ ∧ _))
set_option maxRecDepth 100000 in
set_option maxHeartbeats 1000000 in
theorem search_ge_ok (v : Value) (l : List Int) (w : World) (hs : Seg .u64 w v l) (hl : l.length ≤ 1000000) (hi : Inc l) (f : Nat) (hf : f ≤ l.length) (bk : Nat) (key : Int) (hb : Blk w bk #[.int .u64 key] 32) :
    Calls Try.prog 135 #[v, .int .i64 (f : Int), .func (.func 139) #[] #[.pointer (some ⟨bk, 0, none⟩)]] w fun e w' => ∃ q : Nat, e = .returned (.tuple #[.int .i64 (sk (ge key) l f : Nat), .int .i64 (q : Int), .int .i64 0]) ∧ Lks l.length f (sk (ge key) l f) q ∧ Below w.heap.size w w' := by
  have HS := Lib.hid hs
  have HB := Lib.hid hb
  have HI := Lib.hid hi
  have hI : decide (Inc l) = true := by simpa using hi
  have HII := Lib.hid hI
  obtain ⟨o, c, rfl, _, _, _⟩ := hs.shape
  obtain ⟨n, hn⟩ : ∃ n, n = l.length := ⟨_, rfl⟩
  rw [← hn] at hl hf HS ⊢
  have HN := Lib.hid hn
  clear hs hb hi hI hn
  go_enter Try.func135, Try.ntmps135
  go_wp2_with fail
  refine (risesG_any _ l _ HS.out).mono ?_
  rw [HII.out]
  rintro e w1 ⟨rfl, hd⟩
  go_wp2_with fail
  refine (place_ge _ l w1 (HS.out.later hd.below) (by have := HN.out; omega) HI.out f (by have := HN.out; omega) bk key (HB.out.later hd.below)).mono ?_
  rintro e w2 ⟨q, rfl, hq, hb2⟩
  rw [← HN.out] at hq
  go_wp2
  go_ret3
  exact ⟨q, rfl, hq, below_later hd.below hb2⟩
set_option maxRecDepth 100000 in
set_option maxHeartbeats 1000000 in
theorem search_ge_no (v : Value) (l : List Int) (w : World) (hs : Seg .u64 w v l) (f : Int) (hf0 : -9223372036854775808 ≤ f) (hf1 : f ≤ 9223372036854775807) (hno : ¬ May l f) (bk : Nat) :
    Calls Try.prog 135 #[v, .int .i64 f, .func (.func 139) #[] #[.pointer (some ⟨bk, 0, none⟩)]] w fun e w' => e = .returned (.tuple #[.int .i64 0, .int .i64 0, .int .i64 2]) ∧ Below w.heap.size w w' := by
  have HS := Lib.hid hs
  have HNO := Lib.hid hno
  obtain ⟨o, c, rfl, _, _, _⟩ := hs.shape
  obtain ⟨n, hn⟩ : ∃ n, n = l.length := ⟨_, rfl⟩
  rw [← hn] at HS ⊢
  have HN := Lib.hid hn
  clear hs hn hno
  by_cases h0 : f < 0
  · go_enter Try.func135, Try.ntmps135
    go_wp2
    go_ret3
    exact ⟨rfl, Below.refl _ _⟩
  · obtain ⟨F, rfl⟩ : ∃ F : Nat, f = F := ⟨f.toNat, by omega⟩
    clear hf0
    by_cases h1 : n < F
    · have h0' : decide ((F : Int) < 0) = false := by simp
      go_enter Try.func135, Try.ntmps135
      go_wp2
      go_ret3
      exact ⟨rfl, Below.refl _ _⟩
    · have hI : decide (Inc l) = false := by
        rw [decide_eq_false_iff_not]
        exact fun h => HNO.out ⟨h, by omega, by have := HN.out; omega⟩
      have HII := Lib.hid hI
      have h1' : decide (n < F) = false := by simpa using h1
      have h0' : decide ((F : Int) < 0) = false := by simp
      clear hI
      go_enter Try.func135, Try.ntmps135
      go_wp2_with fail
      refine (risesG_any _ l _ HS.out).mono ?_
      rw [HII.out]
      rintro e w1 ⟨rfl, hd⟩
      go_wp2
      go_ret3
      exact ⟨rfl, hd.below⟩
set_option maxRecDepth 100000 in
set_option maxHeartbeats 1000000 in
theorem gSeek_ok (v : Value) (l : List Int) (w : World) (hs : Seg .u64 w v l) (hl : l.length ≤ 1000000) (hi : Inc l) (f : Nat) (hf : f ≤ l.length) (key : Int) :
    Calls Try.prog 132 #[v, .int .i64 (f : Int), .int .u64 key] w fun e w' => ∃ q : Nat, e = .returned (.tuple #[.int .i64 (sk (ge key) l f : Nat), .int .i64 (q : Int), .int .i64 0]) ∧ Lks l.length f (sk (ge key) l f) q ∧ Below w.heap.size w w' := by
  have HS := Lib.hid hs
  have HI := Lib.hid hi
  obtain ⟨o, c, rfl, _, _, _⟩ := hs.shape
  clear hs hi
  go_enter Try.func132, Try.ntmps132
  go_wp2_with (go_at_call 136; refine (gatLeast_any _ _).mono ?_; rintro e w' ⟨rfl, rfl⟩)
  refine (search_ge_ok _ l _ (HS.out.alloc _) hl HI.out f hf w.heap.size key (Blk.new _ _ _)).mono ?_
  rintro e w2 ⟨q, rfl, hq, hb2⟩
  go_wp2
  go_ret3
  exact ⟨q, rfl, hq, below_al (Below.refl _ _) hb2⟩
set_option maxRecDepth 100000 in
set_option maxHeartbeats 1000000 in
theorem gSeek_no (v : Value) (l : List Int) (w : World) (hs : Seg .u64 w v l) (f : Int) (hf0 : -9223372036854775808 ≤ f) (hf1 : f ≤ 9223372036854775807) (hno : ¬ May l f) (key : Int) :
    Calls Try.prog 132 #[v, .int .i64 f, .int .u64 key] w fun e w' => e = .returned (.tuple #[.int .i64 0, .int .i64 0, .int .i64 2]) ∧ Below w.heap.size w w' := by
  have HS := Lib.hid hs
  have HNO := Lib.hid hno
  obtain ⟨o, c, rfl, _, _, _⟩ := hs.shape
  clear hs hno
  go_enter Try.func132, Try.ntmps132
  go_wp2_with (go_at_call 136; refine (gatLeast_any _ _).mono ?_; rintro e w' ⟨rfl, rfl⟩)
  refine (search_ge_no _ l _ (HS.out.alloc _) f hf0 hf1 HNO.out w.heap.size).mono ?_
  rintro e w2 ⟨rfl, hb2⟩
  go_wp2
  go_ret3
  exact ⟨rfl, below_al (Below.refl _ _) hb2⟩
theorem sk_from {p : Int → Bool} {l : List Int} {f g : Nat} (h1 : f ≤ g) (h2 : g ≤ l.length) (h3 : ∀ k (_ : k < l.length), f ≤ k → k < g → p l[k] = false) : sk p l g = sk p l f := by
  have h := sk_le (p := p) h2
  have h0 := sk_ge p l g
  refine (sk_of (by omega) h (fun k hk a b => ?_) (fun h => sk_at h)).symm
  by_cases e : k < g
  · exact h3 k hk a e
  · exact sk_before (by omega) b hk
/-- What is more than the greater key is sought from where the lesser one stands as well as from the beginning. -/
theorem sk_span {l : List Int} {low high : Int} (h : low ≤ high) : sk (gt high) l (sk (ge low) l 0) = sk (gt high) l 0 := by
  refine sk_from (Nat.zero_le _) (sk_le (Nat.zero_le _)) fun k hk h1 h2 => ?_
  have := sk_before (p := ge low) h1 h2 hk
  simp only [ge, gt, decide_eq_false_iff_not] at this ⊢
  omega
theorem mem_sk {l : List Int} (hi : Inc l) (key : Int) : key ∈ l ↔ ∃ h : sk (ge key) l 0 < l.length, l[sk (ge key) l 0] = key := by
  constructor
  · intro hm
    obtain ⟨i, hil, e⟩ := List.getElem_of_mem hm
    have hs : sk (ge key) l 0 = i := sk_of (Nat.zero_le _) (by omega) (fun k hk _ hki => by
      have := hi.at hk hil hki
      simp only [ge, decide_eq_false_iff_not]; omega) (fun _ => by simp [ge, e])
    exact ⟨by omega, by simpa only [hs] using e⟩
  · rintro ⟨h, e⟩
    exact e ▸ List.getElem_mem h
/-- Whether a row that rises has a key. -/
def hasI (l : List Int) (key : Int) : Bool := decide (Inc l ∧ key ∈ l)
theorem bitLenAux_log : ∀ (f x : Nat), 0 < x → x < 2 ^ f → Lib.bitLenAux f x = Nat.log2 x + 1
  | 0, x, h0, h1 => by simp at h1; omega
  | f + 1, x, h0, h1 => by
    rw [Lib.bitLenAux, if_neg (by omega)]
    by_cases h : x = 1
    · subst h
      have : Nat.log2 1 = 0 := by decide
      rw [this]
      cases f <;> simp [Lib.bitLenAux]
    · rw [bitLenAux_log f (x / 2) (by omega) (by rw [Nat.pow_succ] at h1; omega), log2_half (m := x) (by omega)]
      omega
theorem bitLen_log {x : Nat} (h0 : 0 < x) (h1 : x < 18446744073709551616) : Lib.bitLen x = Nat.log2 x + 1 := bitLenAux_log 64 x h0 h1
set_option maxRecDepth 100000 in
set_option maxHeartbeats 1000000 in
theorem gLog_any (n : Int) (h0 : -9223372036854775808 ≤ n) (hn : n ≤ 9223372036854775807) (w : World) :
    Calls Try.prog 50 #[.int .i64 n] w fun e w' => e = .returned (.int .i64 (Nat.log2 n.toNat : Nat)) ∧ w' = w := by
  by_cases h1 : n < 1
  · have e : n.toNat = 0 := by omega
    rw [e]
    clear e
    go_enter Try.func50, Try.ntmps50
    go_wp2
    go_ret
    exact ⟨rfl, rfl⟩
  · obtain ⟨N, rfl⟩ : ∃ N : Nat, n = N := ⟨n.toNat, by omega⟩
    have hb := bitLen_log (x := N) (by omega) (by omega)
    have hl := log2_lt63 (m := N) (by omega)
    have h1' : decide (N < 1) = false := by simp; omega
    rw [Int.toNat_natCast]
    obtain ⟨k, hk⟩ : ∃ k, k = Nat.log2 N := ⟨_, rfl⟩
    rw [← hk] at hb hl ⊢
    have HB := Lib.hid hb
    clear hb hk h0
    go_enter Try.func50, Try.ntmps50
    go_wp2_with fail
    refine (Try.bits_Len (N : Int) _ (by omega) (by omega)).mono ?_
    rw [Int.toNat_natCast, HB.out]
    rintro e w' ⟨rfl, rfl⟩
    go_wp2
    go_ret
    exact ⟨by simp, rfl⟩
end Go.Proofs.Ytjfnhjmdgfkgnaa

