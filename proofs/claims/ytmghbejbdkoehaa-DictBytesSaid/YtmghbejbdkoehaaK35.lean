/- The reference's Bytes. -/
import Derived.Test.YtmghbejbdkoehaaK15
import Derived.Test.YtmghbejbdkoehaaK22
import Derived.Test.YtmghbejbdkoehaaF1
namespace Go.Proofs.Ytmghbejbdkoehaa
open Go.RowKit Go.Proofs.Kit Go.Shelf

theorem bytesL_take {l : List ByteArray} {k : Nat} (hk : k < l.length) : ((l.take (k + 1)).flatMap fun s => bytesText (strB s)) = ((l.take k).flatMap fun s => bytesText (strB s)) ++ bytesText (strB l[k]) := by
  rw [List.take_succ_eq_append_getElem hk, List.flatMap_append]
  simp
theorem flat_take_len (l : List ByteArray) (h : ∀ s ∈ l, s.size ≤ 4000) (hl : l.length ≤ 128) (k : Nat) : ((l.take k).flatMap fun s => bytesText (strB s)).length ≤ 600000 := by
  have h1 := flat_len (l.take k) (fun s hs => h s (List.mem_of_mem_take hs))
  have h2 : (l.take k).length ≤ 128 := by simp; omega
  omega
set_option maxRecDepth 100000 in
set_option maxHeartbeats 2000000 in
theorem ebytes_any (a : Nat → Value) (T : Nat → List ByteArray) (w : World) (hT : ∀ k, Sl w (a k) ((T k).map .string)) (hz : ∀ k, k < 5 → (T k).length ≤ 128 ∧ ∀ s ∈ T k, s.size ≤ 4000) :
    Calls Try.prog 31 #[.agg (nms a)] w fun e w' => ∃ v', e = .returned v' ∧ Owns .u8 5 w.heap.size w' v' (bytesD T 5) ∧ Below w.heap.size w w' := by
  obtain ⟨i0, hi, hz0, hz1, hz2⟩ := infob
  have HT := Lib.hid hT
  have HZ := Lib.hid hz
  have ha : ∀ k, ∃ o m c, a k = .slice o m c := fun k => by obtain ⟨o, c, e, _⟩ := (hT k).mshape; exact ⟨o, _, c, e⟩
  have HIX : Hid (∀ j : Nat, j < 5 → ∀ w, (Instr.index 37 (.agg #[a 0, a 1, a 2, a 3, a 4]) (.int .i64 (j : Int))).run Try.prog w = .ok (a j) w) := Lib.hid fun j hj w => by
    obtain ⟨i, hi, hs⟩ := infoStrs
    exact run_index_plain (nms a) j (a j) w Try.underlying37 Try.underlying22 hi hs hj (nms_get a hj)
  clear hT hz
  simp only [nms]
  obtain ⟨W1, hW1⟩ : ∃ W1, W1 = w.alloc (.cells (nms a) 37) := ⟨_, rfl⟩
  have e1 : w.alloc (.cells #[a 0, a 1, a 2, a 3, a 4] 37) = W1 := by rw [hW1]; rfl
  have k0 : Blk W1 w.heap.size (nms a) 37 := by rw [hW1]; exact Blk.new w _ _
  have g1 : Below w.heap.size w W1 := by rw [hW1]; exact (Gr.alloc _ _).below
  clear hW1
  obtain ⟨c0, c1, c2, c3, c4⟩ := ncells k0
  clear k0
  go_enter Try.func31, Try.ntmps31
  go_wp2
  clear c0 c1 c2 c3 c4 e1
  go_loopw [3, 5, 7, 9] (fun s _ _ i wr => ∃ j : Nat, j ≤ 5 ∧ i = .int .i64 (j : Int) ∧ Owns .u8 5 w.heap.size wr s (bytesD T j) ∧ Below w.heap.size w wr) (fun _ _ _ i _ => 5 - (intOf i).toNat)
  case atStart => exact ⟨0, Nat.zero_le _, rfl, by simpa [bytesD] using Owns.nil _ _ _ _, g1⟩
  case round =>
    obtain ⟨j, hj, rfl, hO, hB⟩ := hrel
    by_cases hlt : j < 5
    · have hx := HIX.out j hlt
      obtain ⟨hn128, hs4⟩ := HZ.out j hlt
      have hd := bytesD_len T HZ.out j (by omega)
      obtain ⟨o, c, ea, _, _, hcell⟩ := (HT.out j).mshape
      rw [ea] at hx
      obtain ⟨l, hl⟩ : ∃ l, l = T j := ⟨_, rfl⟩
      rw [← hl] at hx hn128 hs4 hcell ea
      obtain ⟨n, hn⟩ : ∃ n, n = l.length := ⟨_, rfl⟩
      rw [← hn] at hx hn128 ea
      have hlt' : (j : Int) < 5 := by omega
      obtain ⟨pre, hpre⟩ : ∃ pre, pre = bytesD T j := ⟨_, rfl⟩
      rw [← hpre] at hO hd
      have HPR := Lib.hid hpre
      have HL := Lib.hid hl
      have HN := Lib.hid hn
      have HS4 := Lib.hid hs4
      have HC := Lib.hid hcell
      have hd2 : pre.length ≤ 25000000 := by omega
      clear hpre hl hn hs4 hcell ea ha hd
      go_wp2_with fail
      refine (rnumber_any n (by omega) _).mono ?_
      rintro e w2 ⟨v2, rfl, ho2, hb2⟩
      have hx10 := sept_ten (n := n) (by omega)
      have hO2 := hO.later hb2
      have hB2 := hB.trans (hb2.mono hB.size)
      go_wp2_with (at_builtin; refine wpList_append_seg rfl _ _ 59 rfl .u8 w.heap.size 5 i0 (.int .u8 0) 1 Try.underlying59 hi hz0 hz1 hz2 rfl _ _ rfl hO2 _ (sept n) rfl ho2.seg ?qe1 ?qe2 ?qe3 ?_)
      case qe1 => omega
      case qe2 => omega
      case qe3 => exact hB2.size
      intro v3 w3 hO3 hb3
      have hB3 := hB2.trans hb3
      clear hO hO2 hB hB2 hb2 ho2 hb3
      go_wp2
      go_loopw [3, 7, 20] (fun s _ i wx => ∃ k : Nat, k ≤ n ∧ i = .int .i64 (k : Int) ∧ Owns .u8 5 w.heap.size wx s (pre ++ sept n ++ (l.take k).flatMap fun s => bytesText (strB s)) ∧ Below w.heap.size w wx) (fun _ _ i _ => n - (intOf i).toNat)
      case atStart => exact ⟨0, Nat.zero_le _, rfl, by simpa using hO3, hB3⟩
      case round =>
        obtain ⟨k, hk, rfl, hO4, hB4⟩ := hrel
        by_cases hkn : k < n
        · have hkl : k < l.length := by have := HN.out; omega
          rcases HC.out with h | ⟨b, f, rfl, hbw, hcl⟩
          · rw [h] at hkl; simp at hkl
          · have d := (hB4.cell (p := ⟨b, f + k, none⟩) hbw).trans (hcl k hkl)
            have hs4 := HS4.out _ (List.getElem_mem hkl)
            have hfl := flat_take_len l HS4.out (by rw [← HN.out]; exact hn128) k
            have HX := Lib.hid (bytesL_take hkl)
            obtain ⟨t, ht⟩ : ∃ t, t = l[k] := ⟨_, rfl⟩
            obtain ⟨m, hm⟩ : ∃ m, m = pre ++ sept n ++ (l.take k).flatMap fun s => bytesText (strB s) := ⟨_, rfl⟩
            have hml : m.length ≤ 26000000 := by rw [hm, List.length_append, List.length_append]; omega
            rw [← ht] at d hs4 HX
            rw [← hm] at hO4
            have HM := Lib.hid hm
            have htl : (bytesText (strB t)).length ≤ 4010 := bytesText_len (by rw [strB_len]; exact hs4)
            clear ht hm hcl hkl hfl
            go_wp2_with fail
            refine (rtext_any t (by omega) _).mono ?_
            rintro e w5 ⟨v5, rfl, ho5, hb5⟩
            have hO5 := hO4.later hb5
            have hB5 := hB4.trans (hb5.mono hB4.size)
            go_wp2_with (at_builtin; refine wpList_append_seg rfl _ _ 59 rfl .u8 w.heap.size 5 i0 (.int .u8 0) 1 Try.underlying59 hi hz0 hz1 hz2 rfl _ _ rfl hO5 _ (bytesText (strB t)) rfl ho5.seg ?qf1 ?qf2 ?qf3 ?_)
            case qf1 => omega
            case qf2 => omega
            case qf3 => exact hB5.size
            intro v6 w6 hO6 hb6
            go_wp2
            go_roundw
            case rel => exact ⟨k + 1, by omega, by go_num, by rw [HX.out, ← List.append_assoc, ← HM.out]; exact hO6, hB5.trans hb6⟩
            case measure => simp [intOf]; omega
        · obtain rfl : k = n := by omega
          have hO7 : Owns .u8 5 w.heap.size wr u3 (bytesD T (j + 1)) := by
            have h := hO4
            rw [List.take_of_length_le (by have := HN.out; omega), List.append_assoc, HPR.out] at h
            rw [bytesD_succ]
            unfold bytesL
            rw [← HL.out, ← HN.out]
            exact h
          clear hO4
          go_wp2
          go_roundw
          case rel => exact ⟨j + 1, by omega, by go_num, hO7, hB4⟩
          case measure => simp [intOf]; omega
    · obtain rfl : j = 5 := by omega
      go_wp2
      go_ret
      exact ⟨_, rfl, hO, hB⟩
end Go.Proofs.Ytmghbejbdkoehaa

