/- Number, Row, Text and Frame: what they write. -/
import Derived.Test.YtdjcdhkdmgkdfaaC2
import Derived.Lib.AppendStr
import Derived.Laws.AppendOwnNone
namespace Go.Proofs.Ytdjcdhkdmgkdfaa
open Go.RowKit Go.Proofs.Kit Go.Shelf

set_option maxHeartbeats 1000000 in
theorem number_any (N : Nat) (hN : N < 18446744073709551616) (w : World) :
    Calls Try.prog 10 #[.int .u64 (N : Int)] w fun e w' => ∃ v', e = .returned v' ∧ Owns .u8 5 w.heap.size w' v' (sept N) ∧ Below w.heap.size w w' := by
  go_enter Try.func10, Try.ntmps10
  go_wp2_with fail
  refine (put_any w.heap.size N hN _ [] (by simp) _ (Owns.nil _ _ _ _) (Nat.le_refl _)).mono ?_
  rintro e w' ⟨v', rfl, ho, hb⟩
  go_wp2
  go_ret
  exact ⟨v', rfl, by simpa using ho, hb⟩

/-- A row's bytes. -/
def rowB (l : List Int) : List Int := l.flatMap fun x => sept x.toNat
theorem rowB_snoc (l : List Int) (x : Int) : rowB (l ++ [x]) = rowB l ++ sept x.toNat := by simp [rowB]
theorem rowB_len (l : List Int) (h : ∀ x ∈ l, 0 ≤ x ∧ x < 18446744073709551616) : (rowB l).length ≤ 10 * l.length := by
  induction l with
  | nil => simp [rowB]
  | cons x t ih =>
    have := ih (fun y hy => h y (by simp [hy]))
    have h2 := sept_ten (n := x.toNat) (by have := h x (by simp); omega)
    simp [rowB] at this ⊢
    omega
def bytesRow (l : List Int) : List Int := sept l.length ++ rowB l
set_option maxHeartbeats 1000000 in
theorem row_none (o : Option Addr) (c : Nat) (w : World) :
    Calls Try.prog 15 #[.slice o 0 c] w fun e w' => ∃ v', e = .returned v' ∧ Owns .u8 5 w.heap.size w' v' (bytesRow []) ∧ Below w.heap.size w w' := by
  go_enter Try.func15, Try.ntmps15
  go_wp2_with fail
  refine (number_any 0 (by decide) _).mono ?_
  rintro e w' ⟨v', rfl, ho, hb⟩
  go_wp2
  go_loop [3, 5, 12] (fun s _ i => i = .int .i64 0 ∧ s = v') (fun _ _ _ => 0)
  case atStart => exact ⟨rfl, rfl⟩
  case round =>
    obtain ⟨rfl, rfl⟩ := hrel
    go_wp2
    go_ret
    exact ⟨_, rfl, by simpa [bytesRow, rowB] using ho, hb⟩
set_option maxHeartbeats 1000000 in
theorem row_some (b f n c : Nat) (l : List Int) (w : World) (hn : l.length = n) (q : b < w.heap.size) (ha : ∀ i (h : i < l.length), w.cell? ⟨b, f + i, none⟩ = some (.int .u64 l[i])) (hb : ∀ x ∈ l, 0 ≤ x ∧ x < 18446744073709551616) (h6 : n ≤ 1000000) :
    Calls Try.prog 15 #[.slice (some ⟨b, f, none⟩) n c] w fun e w' => ∃ v', e = .returned v' ∧ Owns .u8 5 w.heap.size w' v' (bytesRow l) ∧ Below w.heap.size w w' := by
  have HN := Lib.hid hn
  have HA := Lib.hid ha
  have HB := Lib.hid hb
  clear hn ha hb
  go_enter Try.func15, Try.ntmps15
  go_wp2_with fail
  refine (number_any n (by omega) _).mono ?_
  rintro e w' ⟨v', rfl, ho, hb⟩
  have hsz : w.heap.size ≤ w'.heap.size := hb.size
  go_wp2
  go_loopw [3, 5, 12] (fun s _ i wr => ∃ k : Nat, k ≤ n ∧ i = .int .i64 k ∧ Owns .u8 5 w.heap.size wr s (sept n ++ rowB (l.take k)) ∧ Below w.heap.size w wr) (fun _ _ i _ => n - (intOf i).toNat)
  case atStart => exact ⟨0, Nat.zero_le _, rfl, by simpa [rowB] using ho, hb⟩
  case round =>
    obtain ⟨k, hk, rfl, hO, hB⟩ := hrel
    by_cases hlt : k < n
    · have hkl : k < l.length := by have := HN.out; omega
      have d := (hB.cell (p := ⟨b, f + k, none⟩) q).trans (HA.out k hkl)
      have hx := HB.out _ (List.getElem_mem hkl)
      obtain ⟨x, hx'⟩ : ∃ x : Nat, x = l[k].toNat := ⟨_, rfl⟩
      have hxi : l[k] = (x : Int) := by omega
      have hlen : (sept n ++ rowB (l.take k)).length ≤ 1000000000 := by
        have h1 := rowB_len (l.take k) (fun y hy => HB.out y (List.mem_of_mem_take hy))
        have h2 := sept_ten (n := n) (by omega)
        simp at h1 ⊢
        omega
      rw [hxi] at d hx
      have HX : Hid (rowB (l.take (k + 1)) = rowB (l.take k) ++ sept x) := Lib.hid (by rw [List.take_succ_eq_append_getElem hkl, rowB_snoc, ← hx'])
      have hx64 : x < 18446744073709551616 := by omega
      clear hx' hxi hx
      go_wp2_with fail
      refine (put_any w.heap.size x hx64 _ _ hlen _ hO hB.size).mono ?_
      rintro e w2 ⟨v2, rfl, ho2, hb2⟩
      go_wp2
      go_roundw
      case rel => exact ⟨k + 1, by omega, by go_num, by rw [HX.out, ← List.append_assoc]; exact ho2, hB.trans hb2⟩
      case measure => simp [intOf]; omega
    · go_wp2
      go_ret
      refine ⟨_, rfl, ?_, hB⟩
      have e : k = n := by omega
      have e2 := HN.out
      unfold bytesRow
      rwa [List.take_of_length_le (by omega), ← e2] at hO
theorem row_any (v : Value) (l : List Int) (w : World) (hs : Seg .u64 w v l) (hb : ∀ x ∈ l, 0 ≤ x ∧ x < 18446744073709551616) (h6 : l.length ≤ 1000000) :
    Calls Try.prog 15 #[v] w fun e w' => ∃ v', e = .returned v' ∧ Owns .u8 5 w.heap.size w' v' (bytesRow l) ∧ Below w.heap.size w w' := by
  obtain ⟨o, c, rfl, hc, hm, rfl | ⟨b, f, rfl, q, a⟩⟩ := hs.shape
  · exact row_none o c w
  · exact row_some b f _ c l w rfl q a hb h6

/-- A string's bytes. -/
def strB (s : ByteArray) : List Int := s.data.toList.map fun b => (b.toNat : Int)
theorem strB_len (s : ByteArray) : (strB s).length = s.size := by rw [strB, List.length_map, Array.length_toList]; rfl
theorem strB_byt (s : ByteArray) : Byt (strB s) := by
  intro x hx
  obtain ⟨b, _, rfl⟩ := List.mem_map.1 hx
  have := b.toNat_lt
  omega
theorem strB_cells (s : ByteArray) : Lib.strCells s = (strB s).map (Value.int .u8) := by simp [Lib.strCells, strB]
def bytesText (l : List Int) : List Int := sept l.length ++ l
set_option maxHeartbeats 1000000 in
theorem text_any (s : ByteArray) (hs : s.size ≤ 4000) (w : World) :
    Calls Try.prog 12 #[.string s] w fun e w' => ∃ v', e = .returned (.tuple #[v', .int .i64 0]) ∧ Owns .u8 5 w.heap.size w' v' (bytesText (strB s)) ∧ Below w.heap.size w w' := by
  obtain ⟨i0, hi, hz0, hz1, hz2⟩ := infob
  go_enter Try.func12, Try.ntmps12
  go_wp2_with fail
  refine (number_any s.size (by omega) _).mono ?_
  rintro e w' ⟨v', rfl, ho, hb⟩
  have hl := sept_ten (n := s.size) (by omega)
  go_wp2_with (at_builtin; refine Lib.wpList_append_own_string _ rfl _ _ 28 9 rfl w.heap.size 5 i0 Try.underlying28 Try.underlying9 hi hz0 hz1 hz2 _ _ _ rfl ho s rfl ?qc1 ?qc2 ?qc3 ?_)
  case qc1 => unfold maxLen; omega
  case qc2 => omega
  case qc3 => exact hb.size
  intro v2 w2 hown hgrow _
  go_wp2
  go_ret2
  refine ⟨v2, rfl, ?_, hb.grown hgrow hb.size (fun k hk => (ho.lt k hk).1)⟩
  unfold bytesText Owns
  rw [strB_len, List.length_append, strB_len, List.map_append, ← strB_cells]
  exact hown
set_option maxHeartbeats 1000000 in
theorem text_long (s : ByteArray) (hs : 4000 < s.size) (h63 : s.size ≤ 9223372036854775807) (w : World) :
    Calls Try.prog 12 #[.string s] w fun e w' => e = .returned (.tuple #[.slice none 0 0, .int .i64 3]) ∧ w' = w := by
  go_enter Try.func12, Try.ntmps12
  go_wp2
  go_ret2
  exact ⟨rfl, rfl⟩

/-- The lowest bytes of a number. -/
def lowB : Nat → Int → List Int
  | 0, _ => []
  | m + 1, s => s % 256 :: lowB m (s / 256)
/-- The four bytes of a sum. -/
def four (n : Int) : List Int := lowB 4 n
theorem lowB_len : ∀ (m : Nat) (s : Int), (lowB m s).length = m
  | 0, _ => rfl
  | m + 1, s => by simp [lowB, lowB_len m]
theorem lowB_byt : ∀ (m : Nat) (s : Int), Byt (lowB m s)
  | 0, _ => by simp [lowB, Byt]
  | m + 1, s => by
    intro x hx
    rcases List.mem_cons.1 hx with rfl | hx
    · omega
    · exact lowB_byt m _ x hx
def bytesFrame (l : List Int) : List Int := sept l.length ++ (l ++ four (sumB l))
theorem sumB_bd (l : List Int) : 0 ≤ sumB l ∧ sumB l < 4294967296 := by
  rcases List.eq_nil_or_concat l with rfl | ⟨t, x, rfl⟩
  · simp [sumB]
  · rw [List.concat_eq_append, sumB_snoc]; omega

set_option maxHeartbeats 1000000 in
theorem frame_some (b f n c : Nat) (l : List Int) (w : World) (hn : l.length = n) (hc : n ≤ c) (hm : c ≤ 9223372036854775807) (q : b < w.heap.size) (ha : ∀ i (h : i < l.length), w.cell? ⟨b, f + i, none⟩ = some (.int .u8 l[i])) (hb : Byt l) (h6 : n ≤ 1048576) :
    Calls Try.prog 22 #[.slice (some ⟨b, f, none⟩) n c] w fun e w' => ∃ v', e = .returned (.tuple #[v', .int .i64 0]) ∧ Owns .u8 5 w.heap.size w' v' (bytesFrame l) ∧ Below w.heap.size w w' := by
  obtain ⟨i0, hi, hz0, hz1, hz2⟩ := infob
  have hs : Seg .u8 w (.slice (some ⟨b, f, none⟩) n c) l := ⟨by omega, .inr ⟨b, f, c, by rw [hn], by omega, hm, q, ha⟩⟩
  obtain ⟨S, hS⟩ : ∃ S, S = sumB l := ⟨_, rfl⟩
  have hSb := sumB_bd l
  rw [← hS] at hSb
  have HS := Lib.hid hS
  have HN := Lib.hid hn
  have HA := Lib.hid ha
  have HB := Lib.hid hb
  clear hn ha hb hS
  have hl := sept_ten (n := n) (by omega)
  go_enter Try.func22, Try.ntmps22
  go_wp2_with fail
  refine (number_any n (by omega) _).mono ?_
  rintro e w' ⟨v', rfl, ho, hb⟩
  go_wp2_with (at_builtin; refine wpList_append_own _ rfl _ _ 28 rfl w.heap.size 5 i0 (.int .u8 0) 1 1 Try.underlying28 hi hz0 hz1 hz2 rfl (by decide) _ _ _ rfl ho ⟨b, f, none⟩ n c (l.map (Value.int .u8)) rfl ?qc1 ?qc2 (ints_oneCell _ _) ?qc4 ?qc5 ?qc6 ?_)
  case qc1 => rw [List.length_map, HN.out, Nat.mul_one]
  case qc2 =>
    intro j u hj
    have hjn : j < l.length := by have := (List.getElem?_eq_some_iff.1 hj).1; simpa using this
    rw [Addr.add_lit, hb.cell (p := ⟨b, f + j, none⟩) q, HA.out j hjn, ← hj]
    simp [hjn]
  case qc4 => unfold maxLen; omega
  case qc5 => omega
  case qc6 => exact hb.size
  intro v2 w2 hown hgrow _
  have hB2 : Below w.heap.size w w2 := hb.grown hgrow hb.size (fun k hk => (ho.lt k hk).1)
  have hO2 : Owns .u8 5 w.heap.size w2 v2 (sept n ++ l) := by
    unfold Owns
    rw [List.length_append, List.map_append, HN.out]
    exact hown
  have hs2 := hs.later hB2
  obtain ⟨m0, hm0⟩ : ∃ m0, m0 = sept n ++ l := ⟨_, rfl⟩
  rw [← hm0] at hO2
  have hml : m0.length ≤ 2000000 := by rw [hm0, List.length_append, HN.out]; omega
  have HM := Lib.hid hm0
  clear hm0 hown hgrow
  go_wp2_with fail
  refine (sum_any _ l _ hs2 HB.out).mono ?_
  rw [← HS.out]
  rintro e w3 ⟨rfl, rfl⟩
  go_wp2
  go_loopw [4, 5, 17] (fun out s i wr => ∃ (k : Nat) (pre : List Int) (T : Int), k ≤ 4 ∧ i = .int .i64 k ∧ s = .int .u32 T ∧ 0 ≤ T ∧ T < 4294967296 ∧ pre.length = k ∧ Hid (pre ++ lowB (4 - k) T = lowB 4 S) ∧ Owns .u8 5 w.heap.size wr out (m0 ++ pre) ∧ Below w.heap.size w wr) (fun _ _ i _ => 4 - (intOf i).toNat)
  case atStart => exact ⟨0, [], S, by omega, rfl, rfl, hSb.1, hSb.2, rfl, Lib.hid (by simp), by simpa using hO2, hB2⟩
  case round =>
    obtain ⟨k, pre, T, hk, rfl, rfl, hT0, hT1, hpl, hpre, hO, hB⟩ := hrel
    by_cases hlt : k < 4
    · obtain ⟨m, hm'⟩ : ∃ m, m = m0 ++ pre := ⟨_, rfl⟩
      rw [← hm'] at hO
      have hml : m.length ≤ 2000010 := by rw [hm', List.length_append]; omega
      have HMP := Lib.hid hm'
      have HPL := Lib.hid hpl
      clear hm' hpl
      go_wp2_with (at_builtin; refine wpList_append_own _ rfl _ _ 28 rfl w.heap.size 5 i0 (.int .u8 0) 1 1 Try.underlying28 hi hz0 hz1 hz2 rfl (by decide) _ _ _ rfl (World.ownsRow.alloc hO _) ⟨wr.heap.size, 0, none⟩ 1 1 [.int .u8 (T % 256)] rfl rfl ?qd1 ?qd2 ?qd3 ?qd4 ?qd5 ?_)
      case qd1 => exact cell_one_new _ _ _
      case qd2 => simp [Value.oneCell']
      case qd3 => unfold maxLen; omega
      case qd4 => omega
      case qd5 => have := hB.size; simp; omega
      intro v4 w4 hown hgrow _
      have hO4 : Owns .u8 5 w.heap.size w4 v4 (m ++ [T % 256]) := by
        unfold Owns
        rw [List.length_append, List.map_append]
        exact hown
      have hB4 : Below w.heap.size w w4 := (hB.alloc hB.size _).grown hgrow (by have := hB.size; simp; omega) (fun k hk => (World.ownsRow.lt hO k hk).1)
      clear hown hgrow
      go_wp2
      go_roundw
      case rel =>
        refine ⟨k + 1, pre ++ [T % 256], T / 256, by omega, by go_num, rfl, by omega, by omega, by have := HPL.out; simp; omega, Lib.hid ?_, ?_, hB4⟩
        · rw [← hpre.out, show 4 - k = (4 - (k + 1)) + 1 by omega, List.append_assoc]
          rfl
        · rw [← List.append_assoc, ← HMP.out]; exact hO4
      case measure => simp [intOf]; omega
    · go_wp2
      go_ret2
      refine ⟨_, rfl, ?_, hB⟩
      have e : k = 4 := by omega
      have h1 := hpre.out
      have h2 := HM.out
      have h3 := HS.out
      have h4 := HN.out
      rw [e] at h1
      simp only [Nat.sub_self, lowB, List.append_nil] at h1
      unfold bytesFrame four
      rw [h4, ← h3, ← List.append_assoc, ← h2]
      simp only [lowB]
      rw [← h1]
      exact hO
set_option maxHeartbeats 1000000 in
theorem frame_nil (w : World) :
    Calls Try.prog 22 #[.slice none 0 0] w fun e w' => ∃ v', e = .returned (.tuple #[v', .int .i64 0]) ∧ Owns .u8 5 w.heap.size w' v' (bytesFrame []) ∧ Below w.heap.size w w' := by
  obtain ⟨i0, hi, hz0, hz1, hz2⟩ := infob
  have hs : Seg .u8 w (.slice none 0 0) [] := Seg.nil _ _
  obtain ⟨S, hS⟩ : ∃ S, S = sumB [] := ⟨_, rfl⟩
  have hSb := sumB_bd []
  rw [← hS] at hSb
  have HS := Lib.hid hS
  clear hS
  have hl := sept_ten (n := 0) (by omega)
  go_enter Try.func22, Try.ntmps22
  go_wp2_with fail
  refine (number_any 0 (by omega) _).mono ?_
  rintro e w' ⟨v', rfl, ho, hb⟩
  go_wp2_with (at_builtin; refine wpList_append_own_none rfl _ _ 28 rfl w.heap.size 5 i0 1 Try.underlying28 hi _ _ _ rfl ho rfl ?_)
  have hB2 := hb
  have hO2 := ho
  have hs2 := hs.later hB2
  obtain ⟨m0, hm0⟩ : ∃ m0, m0 = sept 0 := ⟨_, rfl⟩
  rw [← hm0] at hO2
  have hml : m0.length ≤ 2000000 := by rw [hm0]; omega
  have HM := Lib.hid hm0
  clear hm0
  go_wp2_with fail
  refine (sum_any _ [] _ hs2 (by simp [Byt])).mono ?_
  rw [← HS.out]
  rintro e w3 ⟨rfl, rfl⟩
  go_wp2
  go_loopw [4, 5, 17] (fun out s i wr => ∃ (k : Nat) (pre : List Int) (T : Int), k ≤ 4 ∧ i = .int .i64 k ∧ s = .int .u32 T ∧ 0 ≤ T ∧ T < 4294967296 ∧ pre.length = k ∧ Hid (pre ++ lowB (4 - k) T = lowB 4 S) ∧ Owns .u8 5 w.heap.size wr out (m0 ++ pre) ∧ Below w.heap.size w wr) (fun _ _ i _ => 4 - (intOf i).toNat)
  case atStart => exact ⟨0, [], S, by omega, rfl, rfl, hSb.1, hSb.2, rfl, Lib.hid (by simp), by simpa using hO2, hB2⟩
  case round =>
    obtain ⟨k, pre, T, hk, rfl, rfl, hT0, hT1, hpl, hpre, hO, hB⟩ := hrel
    by_cases hlt : k < 4
    · obtain ⟨m, hm'⟩ : ∃ m, m = m0 ++ pre := ⟨_, rfl⟩
      rw [← hm'] at hO
      have hml : m.length ≤ 2000010 := by rw [hm', List.length_append]; omega
      have HMP := Lib.hid hm'
      have HPL := Lib.hid hpl
      clear hm' hpl
      go_wp2_with (at_builtin; refine wpList_append_own _ rfl _ _ 28 rfl w.heap.size 5 i0 (.int .u8 0) 1 1 Try.underlying28 hi hz0 hz1 hz2 rfl (by decide) _ _ _ rfl (World.ownsRow.alloc hO _) ⟨wr.heap.size, 0, none⟩ 1 1 [.int .u8 (T % 256)] rfl rfl ?qd1 ?qd2 ?qd3 ?qd4 ?qd5 ?_)
      case qd1 => exact cell_one_new _ _ _
      case qd2 => simp [Value.oneCell']
      case qd3 => unfold maxLen; omega
      case qd4 => omega
      case qd5 => have := hB.size; simp; omega
      intro v4 w4 hown hgrow _
      have hO4 : Owns .u8 5 w.heap.size w4 v4 (m ++ [T % 256]) := by
        unfold Owns
        rw [List.length_append, List.map_append]
        exact hown
      have hB4 : Below w.heap.size w w4 := (hB.alloc hB.size _).grown hgrow (by have := hB.size; simp; omega) (fun k hk => (World.ownsRow.lt hO k hk).1)
      clear hown hgrow
      go_wp2
      go_roundw
      case rel =>
        refine ⟨k + 1, pre ++ [T % 256], T / 256, by omega, by go_num, rfl, by omega, by omega, by have := HPL.out; simp; omega, Lib.hid ?_, ?_, hB4⟩
        · rw [← hpre.out, show 4 - k = (4 - (k + 1)) + 1 by omega, List.append_assoc]
          rfl
        · rw [← List.append_assoc, ← HMP.out]; exact hO4
      case measure => simp [intOf]; omega
    · go_wp2
      go_ret2
      refine ⟨_, rfl, ?_, hB⟩
      have e : k = 4 := by omega
      have h1 := hpre.out
      have h2 := HM.out
      have h3 := HS.out
      rw [e] at h1
      simp only [Nat.sub_self, lowB, List.append_nil] at h1
      unfold bytesFrame four
      rw [List.length_nil, ← h3, List.nil_append, ← h2]
      simp only [lowB]
      rw [← h1]
      exact hO
theorem frame_any (v : Value) (l : List Int) (w : World) (hs : Seg .u8 w v l) (hb : Byt l) (h6 : l.length ≤ 1048576) :
    Calls Try.prog 22 #[v] w fun e w' => ∃ v', e = .returned (.tuple #[v', .int .i64 0]) ∧ Owns .u8 5 w.heap.size w' v' (bytesFrame l) ∧ Below w.heap.size w w' := by
  rcases hs.2 with ⟨rfl, rfl⟩ | ⟨b, f, c, rfl, h2, h3, q, a⟩
  · exact frame_nil w
  · exact frame_some b f _ c l w rfl h2 h3 q a hb h6
end Go.Proofs.Ytdjcdhkdmgkdfaa
