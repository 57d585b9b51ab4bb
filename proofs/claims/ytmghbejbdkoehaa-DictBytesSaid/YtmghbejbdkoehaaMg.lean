import Derived.WalkKit
import Derived.Test.YtmghbejbdkoehaaProg
import Derived.Test.YtmghbejbdkoehaaMa
import Derived.Deep.QuietTactic
import Derived.BigQuiet
import Derived.Outline
import Derived.RangeFuncNested
import Derived.RangeFuncBound
import Derived.RangeFuncCalls
import Derived.RangeFuncLeaves
import Derived.Below
/- Numbers, rows and frames as bytes, and how they are read: plain lists of integers; no program is named here. -/
namespace Go.Proofs.Kit

/-- Bytes. -/
def Byt (l : List Int) : Prop := ∀ x ∈ l, 0 ≤ x ∧ x < 256
/-- A number's bytes. -/
def sept (n : Nat) : List Int := if n < 128 then [(n : Int)] else ((n % 128 + 128 : Nat) : Int) :: sept (n / 128)
termination_by n
decreasing_by omega
theorem sept_last {n : Nat} (h : n < 128) : sept n = [(n : Int)] := by rw [sept, if_pos h]
theorem sept_more {n : Nat} (h : 128 ≤ n) : sept n = ((n % 128 + 128 : Nat) : Int) :: sept (n / 128) := by rw [sept, if_neg (by omega)]
theorem sept_byt (n : Nat) : Byt (sept n) := by
  induction n using Nat.strongRecOn with
  | ind n ih =>
    by_cases h : n < 128
    · rw [sept_last h]; intro x hx; simp at hx; omega
    · rw [sept_more (by omega)]; intro x hx
      rcases List.mem_cons.1 hx with rfl | hx
      · omega
      · exact ih (n / 128) (by omega) x hx
theorem sept_pos (n : Nat) : 1 ≤ (sept n).length := by rw [sept]; split <;> simp
theorem sept_le : ∀ (k n : Nat), n < 2 ^ (7 * (k + 1)) → (sept n).length ≤ k + 1
  | 0, n, h => by rw [sept_last (by simpa using h)]; simp
  | k + 1, n, h => by
    by_cases h0 : n < 128
    · rw [sept_last h0]; simp
    · rw [sept_more (by omega)]
      have := sept_le k (n / 128) (by rw [show 7 * (k + 1 + 1) = 7 * (k + 1) + 7 by omega, Nat.pow_add] at h; omega)
      simp; omega
theorem sept_ten {n : Nat} (h : n < 18446744073709551616) : (sept n).length ≤ 10 := sept_le 9 n (Nat.lt_trans h (by decide))
theorem sept_mono {a b : Nat} (h : a ≤ b) : (sept a).length ≤ (sept b).length := by
  induction b using Nat.strongRecOn generalizing a with
  | ind b ih =>
    by_cases ha : a < 128
    · rw [sept_last ha]; exact sept_pos b
    · rw [sept_more (by omega), sept_more (n := b) (by omega)]
      have := ih (b / 128) (by omega) (a := a / 128) (by omega)
      simp; omega

/-- To read a number: m bytes of it are read, and come to acc. -/
def rdNum : Nat → Int → List Int → Except Int (Int × Nat)
  | _, _, [] => .error 120
  | m, acc, x :: t =>
    if x < 128 then (if (1 ≤ m ∧ x = 0) ∨ (m = 9 ∧ 1 < x) then .error 121 else .ok (acc + x * 2 ^ (7 * m), m + 1))
    else if m = 9 then .error 121 else rdNum (m + 1) (acc + (x - 128) * 2 ^ (7 * m)) t
/-- The number that stands at a place of bytes, and the place behind it. -/
def rdN (bs : List Int) (a : Nat) : Except Int (Int × Nat) := (rdNum 0 0 (bs.drop a)).map fun p => (p.1, a + p.2)

theorem pow7 (m : Nat) : (2 : Int) ^ (7 * (m + 1)) = 128 * 2 ^ (7 * m) := by rw [show 7 * (m + 1) = 7 * m + 7 by omega, Int.pow_add]; omega
theorem pow7_pos (m : Nat) : (0 : Int) < 2 ^ (7 * m) := Int.pow_pos (by decide)

theorem rdNum_sept (n : Nat) : ∀ (m : Nat) (acc : Int) (post : List Int), m ≤ 9 → (1 ≤ m → 1 ≤ n) → n < 2 ^ (64 - 7 * m) →
    rdNum m acc (sept n ++ post) = .ok (acc + n * 2 ^ (7 * m), m + (sept n).length) := by
  induction n using Nat.strongRecOn with
  | ind n ih =>
    intro m acc post hm h1 hn
    by_cases h : n < 128
    · rw [sept_last h]
      simp only [List.singleton_append, rdNum]
      rw [if_pos (by omega), if_neg]
      · rfl
      · rintro (⟨a, b⟩ | ⟨a, b⟩)
        · have := h1 a; omega
        · subst a; simp at hn; omega
    · rw [sept_more (by omega)]
      simp only [List.cons_append, rdNum]
      have hm9 : m ≠ 9 := by rintro rfl; simp at hn; omega
      rw [if_neg (by omega), if_neg hm9]
      have hle : n / 128 < 2 ^ (64 - 7 * (m + 1)) := by
        have e : 64 - 7 * m = (64 - 7 * (m + 1)) + 7 := by omega
        rw [e, Nat.pow_add] at hn
        omega
      rw [ih (n / 128) (by omega) (m + 1) _ post (by omega) (by omega) hle]
      have hp := pow7 m
      have hd : (n : Int) = 128 * ((n / 128 : Nat) : Int) + ((n % 128 : Nat) : Int) := by omega
      congr 2
      · rw [hp]
        have e2 : (((n % 128 + 128 : Nat) : Int) - 128) = ((n % 128 : Nat) : Int) := by omega
        rw [e2]
        generalize ((n / 128 : Nat) : Int) = q at *
        generalize ((n % 128 : Nat) : Int) = s at *
        rw [hd, Int.add_mul, Int.add_assoc, Int.mul_assoc 128 q, Int.mul_left_comm 128 q, Int.add_comm (s * _)]
      · simp; omega

theorem rdN_sept (n : Nat) (h : n < 18446744073709551616) (pre post : List Int) : rdN (pre ++ (sept n ++ post)) pre.length = .ok ((n : Int), pre.length + (sept n).length) := by
  unfold rdN
  rw [List.drop_left, rdNum_sept n 0 0 post (by omega) (by omega) (by simpa using h)]
  simp [Except.map]

theorem rdNum_back : ∀ (l : List Int) (m : Nat) (acc : Int) (n : Int) (k : Nat), Byt l → m ≤ 9 → rdNum m acc l = .ok (n, k) →
    ∃ q : Nat, n = acc + q * 2 ^ (7 * m) ∧ (1 ≤ m → 1 ≤ q) ∧ q < 2 ^ (64 - 7 * m) ∧ m < k ∧ k - m ≤ l.length ∧ sept q = l.take (k - m)
  | [], m, acc, n, k, _, _, h => by simp [rdNum] at h
  | x :: t, m, acc, n, k, hb, hm, h => by
    have hx := hb x (by simp)
    simp only [rdNum] at h
    by_cases h1 : x < 128
    · rw [if_pos h1] at h
      by_cases h2 : (1 ≤ m ∧ x = 0) ∨ (m = 9 ∧ 1 < x)
      · rw [if_pos h2] at h; cases h
      · rw [if_neg h2] at h
        injection h with h; injection h with ha hk
        subst hk
        refine ⟨x.toNat, by rw [← ha]; congr 2; omega, by omega, ?_, by omega, by simp, ?_⟩
        · by_cases hm9 : m = 9
          · subst hm9; simp; omega
          · have e1 : 2 ^ 7 ≤ 2 ^ (64 - 7 * m) := Nat.pow_le_pow_right (by decide) (by omega)
            omega
        · rw [sept_last (by omega)]
          simp only [Nat.add_sub_cancel_left, List.take_succ_cons, List.take_zero]
          congr 1; omega
    · rw [if_neg h1] at h
      by_cases h2 : m = 9
      · rw [if_pos h2] at h; cases h
      · rw [if_neg h2] at h
        obtain ⟨q, e1, e2, e3, e4, e5, e6⟩ := rdNum_back t (m + 1) _ n k (fun y hy => hb y (by simp [hy])) (by omega) h
        have hq := e2 (by omega)
        have hnd : ((x - 128).toNat + 128 * q) / 128 = q := by omega
        have hnm : ((x - 128).toNat + 128 * q) % 128 = (x - 128).toNat := by omega
        refine ⟨(x - 128).toNat + 128 * q, ?_, by omega, ?_, by omega, by simp; omega, ?_⟩
        · rw [e1, pow7]
          have : (((x - 128).toNat + 128 * q : Nat) : Int) = (x - 128) + 128 * (q : Int) := by omega
          rw [this, Int.add_mul, Int.add_assoc, Int.mul_assoc 128 (q : Int), Int.mul_left_comm 128 (q : Int)]
        · rw [show 64 - 7 * m = (64 - 7 * (m + 1)) + 7 by omega, Nat.pow_add]; omega
        · rw [sept_more (by omega), hnd, hnm, e6, show k - m = (k - (m + 1)) + 1 by omega, List.take_succ_cons]
          congr 1; omega

theorem rdN_back {bs : List Int} {a : Nat} {n : Int} {p : Nat} (hb : Byt bs) (h : rdN bs a = .ok (n, p)) :
    ∃ q : Nat, n = q ∧ q < 18446744073709551616 ∧ a < p ∧ p ≤ bs.length ∧ sept q = (bs.drop a).take (p - a) := by
  unfold rdN at h
  cases hr : rdNum 0 0 (bs.drop a) with
  | error c => rw [hr] at h; cases h
  | ok y =>
    rw [hr] at h
    simp only [Except.map] at h
    injection h with h; injection h with ha hp
    obtain ⟨n', k⟩ := y
    obtain ⟨q, e1, _, e3, e4, e5, e6⟩ := rdNum_back (bs.drop a) 0 0 n' k (fun y hy => hb y (List.mem_of_mem_drop hy)) (by omega) hr
    simp only at ha hp
    simp at e1 e3 e5
    refine ⟨q, by omega, by omega, by omega, by omega, ?_⟩
    rw [e6]; congr 1; omega

/-- No number's bytes are how another one's begin. -/
theorem sept_apart {a b : Nat} (h : (sept b).take (sept a).length = sept a) : a = b := by
  induction a using Nat.strongRecOn generalizing b with
  | ind a ih =>
    by_cases ha : a < 128
    · rw [sept_last ha] at h
      by_cases hb : b < 128
      · rw [sept_last hb] at h; simp at h; omega
      · rw [sept_more (n := b) (by omega)] at h; simp at h; omega
    · rw [sept_more (n := a) (by omega)] at h
      by_cases hb : b < 128
      · rw [sept_last hb] at h; simp at h; omega
      · rw [sept_more (n := b) (by omega)] at h
        simp only [List.length_cons, List.take_succ_cons, List.cons.injEq] at h
        have := ih (a / 128) (by omega) (b := b / 128) h.2
        omega

/-- The sum of bytes. -/
def sumB (l : List Int) : Int := l.foldl (fun s x => (31 * s + x + 1) % 4294967296) 1
end Go.Proofs.Kit


/- slices.Equal and slices.Clone over bytes and numbers; few; Sum. -/
namespace Go.Proofs.Ytmghbejbdkoehaa
open Go.RowKit Go.Proofs.Kit

set_option maxRecDepth 100000 in
set_option maxHeartbeats 1000000 in
theorem equalb_lens (o1 o2 : Option Addr) (n1 n2 c1 c2 : Nat) (hne : n1 ≠ n2) (w : World) :
    Calls Try.prog 32 #[.slice o1 n1 c1, .slice o2 n2 c2] w fun e w' => e = .returned (.bool false) ∧ w' = w := by
  have h1 : ((n1 : Int) != (n2 : Int)) = true := by simp; omega
  clear hne
  go_enter Try.func32, Try.ntmps32
  go_wp2
  go_ret
  exact ⟨rfl, rfl⟩
set_option maxRecDepth 100000 in
set_option maxHeartbeats 1000000 in
theorem equalb_none (o1 o2 : Option Addr) (c1 c2 : Nat) (w : World) :
    Calls Try.prog 32 #[.slice o1 0 c1, .slice o2 0 c2] w fun e w' => e = .returned (.bool true) ∧ w' = w := by
  go_enter Try.func32, Try.ntmps32
  go_wp2
  go_loop [5, 13] (fun _ i => i = .int .i64 0) (fun _ _ => 0)
  case atStart => rfl
  case round =>
    subst hrel
    go_wp2
    go_ret
    exact ⟨rfl, rfl⟩
set_option maxRecDepth 100000 in
set_option maxHeartbeats 1000000 in
theorem equalb_some (b1 f1 b2 f2 n c1 c2 : Nat) (l1 l2 : List Int) (w : World) (hn : n ≤ 9223372036854775807) (e1 : l1.length = n) (e2 : l2.length = n)
    (b1' : b1 < w.heap.size) (b2' : b2 < w.heap.size)
    (hc1 : ∀ i (h : i < l1.length), w.cell? ⟨b1, f1 + i, none⟩ = some (.int .u8 l1[i])) (hc2 : ∀ i (h : i < l2.length), w.cell? ⟨b2, f2 + i, none⟩ = some (.int .u8 l2[i])) :
    Calls Try.prog 32 #[.slice (some ⟨b1, f1, none⟩) n c1, .slice (some ⟨b2, f2, none⟩) n c2] w fun e w' => e = .returned (.bool (decide (l1 = l2))) ∧ Below w.heap.size w w' := by
  have H1 := Lib.hid hc1; clear hc1
  have H2 := Lib.hid hc2; clear hc2
  have E1 := Lib.hid e1; clear e1
  have E2 := Lib.hid e2; clear e2
  go_enter Try.func32, Try.ntmps32
  go_wp2
  go_loopw [5, 13] (fun _ i wr => ∃ k : Nat, k ≤ n ∧ i = .int .i64 k ∧ Hid (l1.take k = l2.take k) ∧ Below w.heap.size w wr) (fun _ i _ => n - (intOf i).toNat)
  case atStart => exact ⟨0, Nat.zero_le _, rfl, Lib.hid (by simp), Below.refl _ _⟩
  case round =>
    obtain ⟨k, hk, rfl, hp, hB⟩ := hrel
    by_cases hlt : k < n
    · have k1 : k < l1.length := by have := E1.out; omega
      have k2 : k < l2.length := by have := E2.out; omega
      have d1 : wr.cell? ⟨b1, f1 + k, none⟩ = some (.int .u8 l1[k]) := (hB.cell (p := ⟨b1, f1 + k, none⟩) b1').trans (H1.out k k1)
      have d2 : wr.cell? ⟨b2, f2 + k, none⟩ = some (.int .u8 l2[k]) := (hB.cell (p := ⟨b2, f2 + k, none⟩) b2').trans (H2.out k k2)
      obtain ⟨x, hx⟩ : ∃ x, x = l1[k] := ⟨_, rfl⟩
      obtain ⟨y, hy⟩ : ∃ y, y = l2[k] := ⟨_, rfl⟩
      rw [← hx] at d1
      rw [← hy] at d2
      have HX := Lib.hid hx; clear hx
      have HY := Lib.hid hy; clear hy
      by_cases hxy : x = y
      · have ht : (x != y) = false := by simpa using hxy
        have HXY := Lib.hid hxy; clear hxy
        go_wp2
        go_quiet (fail)
        go_wp2
        go_roundw
        case rel =>
          refine ⟨k + 1, by omega, by go_num, Lib.hid ?_, ?_⟩
          · rw [List.take_succ_eq_append_getElem k1, List.take_succ_eq_append_getElem k2, hp.out, ← HX.out, ← HY.out, HXY.out]
          · exact hB.trans ⟨rfl, rfl, rfl, Nat.le_refl _, fun _ _ => rfl⟩
        case measure => simp [intOf]; omega
      · have ht : (x != y) = true := by simpa using hxy
        have HXY := Lib.hid hxy; clear hxy
        go_wp2
        go_quiet (fail)
        go_wp2
        go_ret
        refine ⟨?_, ?_⟩
        · have : l1 ≠ l2 := by
            intro e
            have a := HX.out
            have b := HY.out
            subst e
            exact HXY.out (a.trans b.symm)
          simp [this]
        · exact hB.trans ⟨rfl, rfl, rfl, Nat.le_refl _, fun _ _ => rfl⟩
    · go_wp2
      go_ret
      have : l1 = l2 := by
        have := hp.out
        rwa [List.take_of_length_le (by have := E1.out; omega), List.take_of_length_le (by have := E2.out; omega)] at this
      exact ⟨by simp [this], hB⟩
theorem equalb_seg (v1 v2 : Value) (l1 l2 : List Int) (w : World) (h1 : Seg .u8 w v1 l1) (h2 : Seg .u8 w v2 l2) :
    Calls Try.prog 32 #[v1, v2] w fun e w' => e = .returned (.bool (decide (l1 = l2))) ∧ Below w.heap.size w w' := by
  obtain ⟨o1, c1, rfl, hc1, hm1, a1⟩ := h1.shape
  obtain ⟨o2, c2, rfl, hc2, hm2, a2⟩ := h2.shape
  by_cases hl : l1.length = l2.length
  · rcases a1 with rfl | ⟨b1, f1, rfl, q1, a1⟩
    · obtain rfl : l2 = [] := List.length_eq_zero_iff.1 hl.symm
      exact (equalb_none o1 o2 c1 c2 w).mono fun e w' ⟨he, hw⟩ => ⟨by simpa using he, hw ▸ Below.refl _ _⟩
    · rcases a2 with rfl | ⟨b2, f2, rfl, q2, a2⟩
      · obtain rfl : l1 = [] := List.length_eq_zero_iff.1 hl
        exact (equalb_none _ o2 c1 c2 w).mono fun e w' ⟨he, hw⟩ => ⟨by simpa using he, hw ▸ Below.refl _ _⟩
      · rw [← hl]
        exact equalb_some b1 f1 b2 f2 l1.length c1 c2 l1 l2 w h1.1 rfl hl.symm q1 q2 a1 a2
  · refine (equalb_lens o1 o2 _ _ c1 c2 hl w).mono fun e w' ⟨he, hw⟩ => ⟨?_, hw ▸ Below.refl _ _⟩
    have : l1 ≠ l2 := fun e => hl (by rw [e])
    simpa [this] using he
/-- An argument that is a slice of integers: its cells. -/
def ArgI (k : IntKind) (w : World) (o : Option Addr) (c : Nat) (l : List Int) : Prop := (o = none ∧ l = [] ∧ c = 0) ∨ ∃ a, o = some a ∧ ∀ i (h : i < l.length), w.cell? (a.add i) = some (.int k l[i])
theorem ArgI.later {k : IntKind} {w w' : World} {o : Option Addr} {c : Nat} {l : List Int} (h : ArgI k w o c l) (hb : Below w.heap.size w w') : ArgI k w' o c l := by
  rcases h with h | ⟨a, rfl, h⟩
  · exact .inl h
  · refine .inr ⟨a, rfl, fun i hi => ?_⟩
    have := h i hi
    exact (hb.cell (World.block_lt_of_cell? _ _ this)).trans this
theorem ArgI.take {k : IntKind} {w : World} {o : Option Addr} {c : Nat} {l : List Int} (h : ArgI k w o c l) (n : Nat) : ArgI k w o c (l.take n) := by
  rcases h with ⟨h1, h2, h3⟩ | ⟨a, rfl, h⟩
  · exact .inl ⟨h1, by rw [h2]; simp, h3⟩
  · refine .inr ⟨a, rfl, fun i hi => ?_⟩
    rw [List.getElem_take]
    exact h i (by simp at hi; omega)

theorem infob : ∃ i, Try.prog.info? 5 = some i ∧ i.zero = some (.int .u8 0) ∧ i.size = 1 ∧ i.bytes = 1 := info_parts (by kernel_rfl)
set_option maxRecDepth 100000 in
set_option maxHeartbeats 1000000 in
theorem cloneb_some (a : Addr) (n c : Nat) (l : List Int) (w : World) (hl : l.length = n) (h12 : n ≤ 100000)
    (hc : ∀ i (h : i < l.length), w.cell? (a.add i) = some (.int .u8 l[i])) :
    Calls Try.prog 33 #[.slice (some a) n c] w fun e w' => ∃ v', e = .returned v' ∧ Owns .u8 5 w.heap.size w' v' l ∧ Below w.heap.size w w' := by
  obtain ⟨i0, hi, hz0, hz1, hz2⟩ := infob
  have q38 : ∀ (w : World) (a : Option Addr) (n c n' c' : Nat), (binOp .eql 59 (.slice a n c) (.slice none n' c')).run Try.prog w = .ok (.bool a.isNone) w := fun w a n c n' c' => Lib.run_eql_slice_nil w _ _ a n c n' c' Try.underlying59
  have u38 : ∀ w, Sem.run Try.prog (underlying 59) w = .ok (TypeDesc.slice 5) w := run_underlying Try.underlying59
  have A := Lib.hid hc
  have HL := Lib.hid hl
  clear hc hl
  go_enter Try.func33, Try.ntmps33
  go_wp2_with (at_builtin; refine wpList_append_own _ rfl _ _ 59 rfl w.heap.size 5 i0 (.int .u8 0) 1 1 Try.underlying59 hi hz0 hz1 hz2 rfl (by decide) _ _ _ rfl (World.ownsRow_made w #[] 0 (Nat.le_refl _) (Nat.zero_le _) rfl) a n c (l.map (Value.int .u8)) rfl ?qc1 ?qc2 (ints_oneCell _ _) ?qc4 ?qc5 ?qc6 ?_)
  case qc1 => rw [List.length_map, HL.out, Nat.mul_one]
  case qc2 =>
    intro j u hj
    have hjn : j < l.length := by have := (List.getElem?_eq_some_iff.1 hj).1; simpa using this
    refine Lib.cell?_alloc_some _ ?_
    rw [A.out j hjn, ← hj]
    simp [hjn]
  case qc4 => unfold maxLen; omega
  case qc5 => omega
  case qc6 => simp
  intro v' w1 hown hgrow hnil
  go_wp2
  go_ret
  refine ⟨v', rfl, ?_, ((Below.refl _ w).alloc (Nat.le_refl _) _).grown hgrow (by simp) (by intro k hk; simp [Value.ownBlock] at hk; omega)⟩
  have e := HL.out
  unfold Owns
  rw [e]
  simpa using hown
set_option maxRecDepth 100000 in
set_option maxHeartbeats 1000000 in
theorem cloneb_nil (w : World) :
    Calls Try.prog 33 #[.slice none 0 0] w fun e w' => ∃ v', e = .returned v' ∧ Owns .u8 5 w.heap.size w' v' [] ∧ Below w.heap.size w w' := by
  have q38 : ∀ (w : World) (a : Option Addr) (n c n' c' : Nat), (binOp .eql 59 (.slice a n c) (.slice none n' c')).run Try.prog w = .ok (.bool a.isNone) w := fun w a n c n' c' => Lib.run_eql_slice_nil w _ _ a n c n' c' Try.underlying59
  go_enter Try.func33, Try.ntmps33
  go_wp2
  go_ret
  exact ⟨_, rfl, Owns.nil _ _ _ _, Below.refl _ _⟩
theorem cloneb_any (o : Option Addr) (n c : Nat) (l : List Int) (w : World) (hl : l.length = n) (h12 : n ≤ 100000) (h : ArgI .u8 w o c l) :
    Calls Try.prog 33 #[.slice o n c] w fun e w' => ∃ v', e = .returned v' ∧ Owns .u8 5 w.heap.size w' v' l ∧ Below w.heap.size w w' := by
  rcases h with ⟨rfl, rfl, rfl⟩ | ⟨a, rfl, h⟩
  · subst hl; exact cloneb_nil w
  · exact cloneb_some a n c l w hl h12 h
theorem infou : ∃ i, Try.prog.info? 98 = some i ∧ i.zero = some (.int .u64 0) ∧ i.size = 1 ∧ i.bytes = 8 := info_parts (by kernel_rfl)
theorem sumB_snoc (l : List Int) (x : Int) : sumB (l ++ [x]) = (31 * sumB l + x + 1) % 4294967296 := by simp [sumB]
end Go.Proofs.Ytmghbejbdkoehaa


/- A law for 'for x := range f' where the iterator leaves memory alone: the loop's body may write and lay what it likes, the loop's own two records apart. No program is named here. -/
namespace Go.Proofs.Kit
open Go.RowKit

/-- Two blocks, D and the next, turn; they are no cells. -/
structure AsideC (D : Nat) (X X' : World) : Prop where
  os : X'.os = X.os
  tape : X'.tape = X.tape
  output : X'.output = X.output
  size : X.heap.size ≤ X'.heap.size
  same : ∀ k, k ≠ D → k ≠ D + 1 → k < X.heap.size → X'.heap[k]? = X.heap[k]?
  nc : ∀ k vs t f, (k = D ∨ k = D + 1) → X.heap[k]? ≠ some (.cells vs t f)
theorem AsideC.ne {D : Nat} {X X' : World} (h : AsideC D X X') {b : Nat} {vs : Array Value} {t : TypeId} {f : Nat × Nat} (hb : X.heap[b]? = some (.cells vs t f)) : b ≠ D ∧ b ≠ D + 1 :=
  ⟨fun e => h.nc b vs t f (.inl e) hb, fun e => h.nc b vs t f (.inr e) hb⟩
theorem AsideC.blk {D : Nat} {X X' : World} (h : AsideC D X X') {b : Nat} {vs : Array Value} {t : TypeId} (hb : Blk X b vs t) : Blk X' b vs t := (h.same b (h.ne hb).1 (h.ne hb).2 hb.lt).trans hb
theorem AsideC.own {D : Nat} {X X' : World} (h : AsideC D X X') {k : IntKind} {t : TypeId} {B : Nat} {v : Value} {l : List Int} (ho : Owns k t B X v l) : Owns k t B X' v l := by
  refine ho.same fun g hg => ?_
  rcases ho.2 with ⟨rfl, _⟩ | ⟨g', cap, cur, rfl, _, hb, _⟩
  · simp [Value.ownBlock] at hg
  · simp [Value.ownBlock] at hg
    subst hg
    exact h.same _ (h.ne hb).1 (h.ne hb).2 (Array.getElem?_eq_some_iff.1 hb).1
theorem AsideC.below {D B : Nat} {w X X' : World} (h : AsideC D X X') (hb : Below B w X) (hB : B ≤ D) (hs : B ≤ w.heap.size) : Below B w X' :=
  hb.trans ⟨h.os, h.tape, h.output, h.size, fun k hk => h.same k (by omega) (by omega) (by have := hb.size; omega)⟩
/-- The two records lie as they lay. -/
def Keep2C (D : Nat) (W W' : World) : Prop := W.heap.size ≤ W'.heap.size ∧ W'.heap[D]? = W.heap[D]? ∧ W'.heap[D + 1]? = W.heap[D + 1]?
theorem Keep2C.refl (D : Nat) (W : World) : Keep2C D W W := ⟨Nat.le_refl _, rfl, rfl⟩
theorem Keep2C.trans {D : Nat} {X Y Z : World} (h : Keep2C D X Y) (k : Keep2C D Y Z) : Keep2C D X Z := ⟨Nat.le_trans h.1 k.1, k.2.1.trans h.2.1, k.2.2.trans h.2.2⟩
/-- What a block is not. -/
def NCC (D : Nat) (W : World) : Prop := D + 1 < W.heap.size ∧ ∀ k vs t f, (k = D ∨ k = D + 1) → W.heap[k]? ≠ some (.cells vs t f)
theorem Keep2C.of_but {D r : Nat} {W W' : World} (h : But r W W') (hn : NCC D W) (h1 : r ≠ D) (h2 : r ≠ D + 1) : Keep2C D W W' := ⟨h.size, h.same D (by omega) (by have := hn.1; omega), h.same (D + 1) (by omega) hn.1⟩
theorem Keep2C.of_grown {D : Nat} {W W' : World} {row : Option Nat} (h : W.grownBy W' row) (hn : NCC D W) (h1 : ∀ r, row = some r → r ≠ D ∧ r ≠ D + 1) : Keep2C D W W' :=
  ⟨h.size, h.block D (by have := hn.1; omega) (fun e => (h1 D e.symm).1 rfl), h.block (D + 1) hn.1 (fun e => (h1 (D + 1) e.symm).2 rfl)⟩
theorem Keep2C.alloc {D : Nat} {X W : World} (h : Keep2C D X W) (hn : D + 1 < W.heap.size) (o : Obj) : Keep2C D X (W.alloc o) := h.trans ⟨by simp, Below.heap_alloc _ _ _ (by omega), Below.heap_alloc _ _ _ hn⟩
theorem Keep2C.setCell {D : Nat} {X W : World} (h : Keep2C D X W) {p : Addr} (h1 : p.block ≠ D) (h2 : p.block ≠ D + 1) (u : Value) : Keep2C D X (W.setCell p u) := h.trans ⟨by simp, Below.heap_setCell _ _ _ _ (by omega), Below.heap_setCell _ _ _ _ (by omega)⟩
theorem NCC.alloc {D : Nat} {W : World} (h : NCC D W) (o : Obj) : NCC D (W.alloc o) := ⟨by have := h.1; simp; omega, fun k vs t f hk e => h.2 k vs t f hk ((Below.heap_alloc W o k (by have := h.1; omega)).symm.trans e)⟩
theorem NCC.own {D : Nat} {W : World} (hn : NCC D W) {k : IntKind} {t : TypeId} {B : Nat} {v : Value} {l : List Int} (ho : Owns k t B W v l) : ∀ r, v.ownBlock = some r → r ≠ D ∧ r ≠ D + 1 := by
  intro g hg
  rcases ho.2 with ⟨rfl, _⟩ | ⟨g', cap, cur, rfl, _, hb, _⟩
  · simp [Value.ownBlock] at hg
  · simp [Value.ownBlock] at hg
    subst hg
    exact ⟨fun e => hn.2 g' _ _ _ (.inl e) hb, fun e => hn.2 g' _ _ _ (.inr e) hb⟩

theorem NCC.blk {D : Nat} {W : World} (hn : NCC D W) {b : Nat} {vs : Array Value} {t : TypeId} (hb : Blk W b vs t) : b ≠ D ∧ b ≠ D + 1 := ⟨fun e => hn.2 b _ _ _ (.inl e) hb, fun e => hn.2 b _ _ _ (.inr e) hb⟩
theorem Keep2C.of_below {D : Nat} {W W' : World} (h : Below W.heap.size W W') (hn : NCC D W) : Keep2C D W W' := ⟨h.size, h.block D (by have := hn.1; omega), h.block (D + 1) hn.1⟩
theorem NCC.below {D : Nat} {W W' : World} (h : Below W.heap.size W W') (hn : NCC D W) : NCC D W' := ⟨Nat.lt_of_lt_of_le hn.1 h.size, fun k vs t f hk e => hn.2 k vs t f hk ((h.block k (by have := hn.1; omega)).symm.trans e)⟩
theorem NCC.setCell {D : Nat} {W : World} (h : NCC D W) {p : Addr} (h1 : p.block ≠ D) (h2 : p.block ≠ D + 1) (u : Value) : NCC D (W.setCell p u) := ⟨by have := h.1; simp; omega, fun k vs t f hk e => h.2 k vs t f hk ((Below.heap_setCell W p u k (by omega)).symm.trans e)⟩
theorem below_putC {B : Nat} (W : World) {l : Nat} (o : Obj) (hl : B ≤ l) : Below B W (W.putObj l o) :=
  ⟨rfl, rfl, rfl, by simp, fun k hk => World.putObj_heap_other (by omega)⟩
/-- WHAT AN ITERATOR PROMISES THAT LEAVES MEMORY ALONE. -/
def SeqSC {α : Type} (F : Fence) (n : Nat) (P : Program) (g : Nat) (lb : Array Value) (encs : α → Array Value) (S Sp : List α → Prop) (N : Nat) (w : World) : Prop :=
  ∀ (l : Nat) (J Jx : List α → World → Prop) (W : World), Below w.heap.size w W →
    (∀ pre x W1, J pre W1 → pre.length < N → YieldAt F (n - 1) P l (encs x) W1 fun e W' => (e = .returned (.bool true) ∧ J (pre ++ [x]) W') ∨ (e = .returned (.bool false) ∧ Jx (pre ++ [x]) W')) →
    J [] W →
    CallsIn F n P g (#[.func (.yield l) #[] #[]] ++ lb) W fun e W' => (∃ v, e = .returned v) ∧ ((∃ xs, S xs ∧ J xs W') ∨ (∃ pre, Sp pre ∧ Jx pre W'))

/-- How the body of a round may be left. -/
def bodySC {α : Type} (D : Nat) (I : List α → World → Prop) (Ix : Code → List α → World → Prop) (xs : List α) (W : World) : Exit → Act → World → Prop
  | .normal, _, W' => Keep2C D W W' ∧ I xs W'
  | .ret, _, W' => Keep2C D W W' ∧ Ix .ret xs W'
  | .exit id, _, W' => Keep2C D W W' ∧ Ix (.exit id) xs W'
  | .goto t, _, W' => Keep2C D W W' ∧ Ix (.goto t) xs W'
  | .panic _, _, _ => False
  | .outgrown, _, _ => False

variable {F : Fence} {n : Nat} {P : Program}

theorem rangeSC {α : Type} {g : Operand} {ps : Array Tmp} {assign body : Code} {Q : Exit → Act → World → Prop} {a : Act} {w : World}
    (hro : F.round = none) (h1 : 1 ≤ n) {gf : Nat} {lb : Array Value} (hg : a.eval g = .func (.func gf) #[] lb) (hFg : F.fn gf) (eg : ∀ args w, (callFunc gf args).run P w = .ok (.enter gf args) w)
    {encs : α → Array Value} {S Sp : List α → Prop} {N : Nat} {w0 : World} (hseq : SeqSC F (n - 1) P gf lb encs S Sp N w0) (hb0 : Below w0.heap.size w0 w) (hps : ∀ x, (encs x).size = ps.size)
    (I : List α → World → Prop) (Ix : Code → List α → World → Prop) (hI : ∀ s X X', I s X → AsideC w.heap.size X X' → I s X') (hIx : ∀ c s X X', Ix c s X → AsideC w.heap.size X X' → Ix c s X') (h0 : I [] w) (a₁ : α → Act)
    (hassign : ∀ (l : Nat) (x : α) (W : World) (K : Act → World → Prop), K (a₁ x) W →
      assign.wpIn (F.inRound l) (n - 1 - 1) P (Exit.then K (fun _ _ _ => False)) { tmps := (ps.zip (encs x)).foldl (fun t (p, v) => t.setIfInBounds p v) a.tmps, defers := [] } W)
    (hbody : ∀ (l : Nat) (pre : List α) (x : α) (W : World), I pre W → pre.length < N → NCC w.heap.size W → body.wpIn (F.inRound l) (n - 1 - 1) P (bodySC w.heap.size I Ix (pre ++ [x]) W) (a₁ x) W)
    (hdone : ∀ (D : Nat) (xs : List α) (W : World), S xs → I xs W → w.heap.size ≤ D → W.heap[D]? = some (.deferred (some [])) → Q .normal { a with defers := { target := .collected D, args := #[] } :: a.defers } W)
    (hstop : ∀ (D : Nat) (c : Code) (pre : List α) (W : World), Sp pre → Ix c pre W → w.heap.size ≤ D → W.heap[D]? = some (.deferred (some [])) → c.wpIn F n P Q { a with defers := { target := .collected D, args := #[] } :: a.defers } W) :
    (Code.rangeFunc g ps assign body).wpIn F n P Q a w := by
  refine wpIn_rangeFunc fun fn hfn => ?_
  rw [hro]
  let rec0 : Loop := { state := .ready, pending := none, fn := fn, tmps := a.tmps, params := ps, assign := assign, body := body, defers := w.heap.size }
  let st : LoopState → Option Code → Obj := fun s p => .loop { rec0 with state := s, pending := p }
  obtain ⟨V, hV⟩ : ∃ V, V = (w.alloc (.deferred (some []))).alloc (st .ready none) := ⟨_, rfl⟩
  have vsz : V.heap.size = w.heap.size + 2 := by rw [hV]; simp
  have vb : Below w.heap.size w V := by rw [hV]; exact ((Below.refl _ w).alloc (Nat.le_refl _) _).alloc (by simp) _
  have va : AsideC w.heap.size w V := ⟨vb.os, vb.tape, vb.output, vb.size, fun k _ _ hk => vb.block k hk, fun k vs t f hk h => by have := (Array.getElem?_eq_some_iff.1 h).1; omega⟩
  have vd : V.heap[w.heap.size]? = some (.deferred (some [])) := by
    rw [hV]; exact (Below.heap_alloc _ _ _ (by simp)).trans (World.alloc_heap_new w _)
  have vl : V.heap[w.heap.size + 1]? = some (st .ready none) := by
    rw [hV]; have := World.alloc_heap_new (w.alloc (.deferred (some []))) (st .ready none); rwa [World.size_alloc] at this
  -- a record turns
  have turn : ∀ (X : World) (s : LoopState) (p : Option Code) (o : Obj), X.heap[w.heap.size + 1]? = some (st s p) → X.heap[w.heap.size]? = some (.deferred (some [])) → AsideC w.heap.size X (X.putObj (w.heap.size + 1) o) := fun X s p o hl hd =>
    ⟨rfl, rfl, rfl, by simp, fun k _ h2 _ => World.putObj_heap_other (by omega), fun k vs t f hk h => by
      rcases hk with rfl | rfl
      · rw [hd] at h; cases h
      · rw [hl] at h; cases h⟩
  let J : List α → World → Prop := fun pre X => I pre X ∧ X.heap[w.heap.size + 1]? = some (st .ready none) ∧ X.heap[w.heap.size]? = some (.deferred (some []))
  let Jx : List α → World → Prop := fun pre X => ∃ c, Ix c pre X ∧ X.heap[w.heap.size + 1]? = some (st .done (some c)) ∧ X.heap[w.heap.size]? = some (.deferred (some []))
  refine ⟨w.heap.size + 1, [{ target := .collected w.heap.size, args := #[] }], V, { target := .fn (.func gf) lb, args := #[.func (.yield (w.heap.size + 1)) #[] #[]] }, V, gf,
    #[.func (.yield (w.heap.size + 1)) #[] #[]] ++ lb, V, ?_, ?_, ?_, ?_, fun _ => h1, ?_⟩
  · rw [hV]; exact run_enterLoop_outer _ _ _ _ _
  · simp only [resolve, hg]
    simp [go_sem]
  · intro f' hf'; simp [Target.leads] at hf'; subst hf'; exact hFg
  · simp [invoke, go_sem, eg]
  refine (hseq (w.heap.size + 1) J Jx V (hb0.trans (vb.mono hb0.size)) ?_ ⟨hI _ _ _ h0 va, vl, vd⟩).mono ?_
  · -- one round
    rintro pre x X ⟨hi, hl, hd⟩ hlen
    have hlt : w.heap.size + 1 < X.heap.size := (Array.getElem?_eq_some_iff.1 hl).1
    have hy := run_yield (P := P) (args := encs x) hl (hps x)
    refine ⟨fn, _, assign, body, hy, roundIn_of_wpIn hfn (hassign _ x X _ ⟨_, run_beginRound hl rfl, ?_⟩)⟩
    obtain ⟨Y, hY⟩ : ∃ Y, Y = X.putObj (w.heap.size + 1) (st .busy none) := ⟨_, rfl⟩
    have yl : Y.heap[w.heap.size + 1]? = some (st .busy none) := by rw [hY]; exact World.putObj_heap_same hlt
    have yd : Y.heap[w.heap.size]? = some (.deferred (some [])) := by rw [hY]; exact (World.putObj_heap_other (by omega)).trans hd
    have yi : I pre Y := by rw [hY]; exact hI _ _ _ hi (turn X _ _ _ hl hd)
    have ysz : Y.heap.size = X.heap.size := by rw [hY]; simp
    have yn : NCC w.heap.size Y := ⟨by omega, fun k vs t f hk h => by
      rcases hk with rfl | rfl
      · rw [yd] at h; cases h
      · rw [yl] at h; cases h⟩
    show Code.wpIn (F.inRound (w.heap.size + 1)) (n - 1 - 1) P body _ (a₁ x) (X.putObj (w.heap.size + 1) (st .busy none))
    rw [← hY]
    have close : ∀ (jump : Option Code) (Z : World), Keep2C w.heap.size Y Z →
        (Instr.endRound (w.heap.size + 1) jump).run P Z = .ok (.bool jump.isNone) (Z.putObj (w.heap.size + 1) (st (if jump.isNone then .ready else .done) jump)) ∧
        (Z.putObj (w.heap.size + 1) (st (if jump.isNone then .ready else .done) jump)).heap[w.heap.size + 1]? = some (st (if jump.isNone then .ready else .done) jump) ∧
        (Z.putObj (w.heap.size + 1) (st (if jump.isNone then .ready else .done) jump)).heap[w.heap.size]? = some (.deferred (some [])) ∧
        AsideC w.heap.size Z (Z.putObj (w.heap.size + 1) (st (if jump.isNone then .ready else .done) jump)) := fun jump Z hz => by
      have zl : Z.heap[w.heap.size + 1]? = some (st .busy none) := hz.2.2.trans yl
      have zd : Z.heap[w.heap.size]? = some (.deferred (some [])) := hz.2.1.trans yd
      exact ⟨run_endRound (P := P) (r := { rec0 with state := .busy, pending := none }) jump zl, World.putObj_heap_same (by have := hz.1; omega), (World.putObj_heap_other (by omega)).trans zd, turn Z _ _ _ zl zd⟩
    refine wpIn_mono (hbody _ pre x Y yi hlen yn) ?_
    rintro e a3 Z hp
    cases e with
    | normal =>
      obtain ⟨hz, hi3⟩ := hp
      obtain ⟨c1, c2, c3, c4⟩ := close none Z hz
      exact ⟨_, _, c1, .inl ⟨rfl, hI _ _ _ hi3 c4, c2, c3⟩⟩
    | ret =>
      obtain ⟨hz, hi3⟩ := hp
      obtain ⟨c1, c2, c3, c4⟩ := close (some .ret) Z hz
      exact ⟨_, _, c1, .inr ⟨rfl, _, hIx _ _ _ _ hi3 c4, c2, c3⟩⟩
    | exit id =>
      obtain ⟨hz, hi3⟩ := hp
      obtain ⟨c1, c2, c3, c4⟩ := close (some (.exit id)) Z hz
      exact ⟨_, _, c1, .inr ⟨rfl, _, hIx _ _ _ _ hi3 c4, c2, c3⟩⟩
    | goto t =>
      obtain ⟨hz, hi3⟩ := hp
      obtain ⟨c1, c2, c3, c4⟩ := close (some (.goto t)) Z hz
      exact ⟨_, _, c1, .inr ⟨rfl, _, hIx _ _ _ _ hi3 c4, c2, c3⟩⟩
    | panic ch => exact hp.elim
    | outgrown => exact hp.elim
  · -- behind the iterator
    rintro e X ⟨⟨v, rfl⟩, ⟨xs, hS, hi, hl, hd⟩ | ⟨pre, hSp, c, hi, hl, hd⟩⟩
    · exact ⟨none, _, run_endLoop (P := P) hl (by simp), hdone _ xs _ hS (hI _ _ _ hi (turn X _ _ _ hl hd)) (Nat.le_refl _) ((World.putObj_heap_other (by omega)).trans hd)⟩
    · exact ⟨some c, _, run_endLoop (P := P) hl (by simp), hstop _ c pre _ hSp (hIx c _ _ _ hi (turn X _ _ _ hl hd)) (Nat.le_refl _) ((World.putObj_heap_other (by omega)).trans hd)⟩
end Go.Proofs.Kit

