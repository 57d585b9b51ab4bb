/- Equal against an argument; same. -/
import Derived.Test.YtfnlegnieilcbaaJ15
namespace Go.Proofs.Ytfnlegnieilcbaa
open Go.RowKit Go.Proofs.Kit Go.Shelf

set_option maxHeartbeats 1000000 in
theorem equals_arg (b1 f1 n c1 c2 : Nat) (a : Addr) (l : List ByteArray) (w : World) (hn : n ≤ 9223372036854775807) (e1 : l.length = n)
    (hc1 : ∀ i (h : i < l.length), w.cell? ⟨b1, f1 + i, none⟩ = some (Value.string l[i])) (hc2 : ∀ i (h : i < l.length), w.cell? (a.add i) = some (Value.string l[i])) :
    Calls Try.prog 22 #[.slice (some ⟨b1, f1, none⟩) n c1, .slice (some a) n c2] w fun e w' => e = .returned (.bool true) ∧ Dr w w' := by
  have H1 := Lib.hid hc1; clear hc1
  have H2 := Lib.hid hc2; clear hc2
  have E1 := Lib.hid e1; clear e1
  go_enter Try.func22, Try.ntmps22
  go_wp2
  go_loopw [5, 13] (fun _ i wr => ∃ k : Nat, k ≤ n ∧ i = .int .i64 k ∧ Dr w wr) (fun _ i _ => n - (intOf i).toNat)
  case atStart => exact ⟨0, Nat.zero_le _, rfl, Dr.refl _⟩
  case round =>
    obtain ⟨k, hk, rfl, hB⟩ := hrel
    by_cases hlt : k < n
    · have k1 : k < l.length := by have := E1.out; omega
      have d1 : wr.cell? ⟨b1, f1 + k, none⟩ = some (Value.string l[k]) := (hB.cell ⟨b1, f1 + k, none⟩).trans (H1.out k k1)
      have d2 : wr.cell? (a.add k) = some (Value.string l[k]) := (hB.cell (a.add k)).trans (H2.out k k1)
      obtain ⟨x, hx⟩ : ∃ x, x = l[k] := ⟨_, rfl⟩
      rw [← hx] at d1 d2
      have ht := eq_s (rfl : x = x)
      clear hx
      go_wp2
      go_quiet (fail)
      go_wp2
      go_roundw
      case rel => exact ⟨k + 1, by omega, by go_num, hB.trans (Dr.drewN _ _)⟩
      case measure => simp [intOf]; omega
    · go_wp2
      go_ret
      exact ⟨rfl, hB⟩
theorem equals_raw (v1 : Value) (o : Option Addr) (n c : Nat) (l : List ByteArray) (w : World) (h1 : Sl w v1 (l.map Value.string)) (hl : l.length = n) (h2 : ArgV w o c (l.map Value.string)) :
    Calls Try.prog 22 #[v1, .slice o n c] w fun e w' => e = .returned (.bool true) ∧ Dr w w' := by
  subst hl
  obtain ⟨o1, c1, rfl, hc1, hm1, a1⟩ := h1.mshape
  rcases a1 with rfl | ⟨b1, f1, rfl, q1, a1⟩
  · exact (equals_none o1 o c1 c w).mono fun e w' ⟨he, hw⟩ => ⟨he, hw ▸ Dr.refl _⟩
  · rcases h2 with ⟨rfl, h, rfl⟩ | ⟨a, rfl, h⟩
    · obtain rfl : l = [] := by simpa using h
      exact (equals_none _ _ c1 0 w).mono fun e w' ⟨he, hw⟩ => ⟨he, hw ▸ Dr.refl _⟩
    · exact equals_arg b1 f1 l.length c1 c a l w (by omega) rfl a1 (fun i hi => by have := h i (by simpa using hi); rw [List.getElem_map] at this; exact this)
set_option maxHeartbeats 1000000 in
theorem equali_arg (b1 f1 n c1 c2 : Nat) (a : Addr) (l : List Int) (w : World) (hn : n ≤ 9223372036854775807) (e1 : l.length = n)
    (hc1 : ∀ i (h : i < l.length), w.cell? ⟨b1, f1 + i, none⟩ = some ((Value.int .i64) l[i])) (hc2 : ∀ i (h : i < l.length), w.cell? (a.add i) = some ((Value.int .i64) l[i])) :
    Calls Try.prog 24 #[.slice (some ⟨b1, f1, none⟩) n c1, .slice (some a) n c2] w fun e w' => e = .returned (.bool true) ∧ Dr w w' := by
  have H1 := Lib.hid hc1; clear hc1
  have H2 := Lib.hid hc2; clear hc2
  have E1 := Lib.hid e1; clear e1
  go_enter Try.func24, Try.ntmps24
  go_wp2
  go_loopw [5, 13] (fun _ i wr => ∃ k : Nat, k ≤ n ∧ i = .int .i64 k ∧ Dr w wr) (fun _ i _ => n - (intOf i).toNat)
  case atStart => exact ⟨0, Nat.zero_le _, rfl, Dr.refl _⟩
  case round =>
    obtain ⟨k, hk, rfl, hB⟩ := hrel
    by_cases hlt : k < n
    · have k1 : k < l.length := by have := E1.out; omega
      have d1 : wr.cell? ⟨b1, f1 + k, none⟩ = some ((Value.int .i64) l[k]) := (hB.cell ⟨b1, f1 + k, none⟩).trans (H1.out k k1)
      have d2 : wr.cell? (a.add k) = some ((Value.int .i64) l[k]) := (hB.cell (a.add k)).trans (H2.out k k1)
      obtain ⟨x, hx⟩ : ∃ x, x = l[k] := ⟨_, rfl⟩
      rw [← hx] at d1 d2
      have ht := eq_i (rfl : x = x)
      clear hx
      go_wp2
      go_quiet (fail)
      go_wp2
      go_roundw
      case rel => exact ⟨k + 1, by omega, by go_num, hB.trans (Dr.drewN _ _)⟩
      case measure => simp [intOf]; omega
    · go_wp2
      go_ret
      exact ⟨rfl, hB⟩
theorem equali_raw (v1 : Value) (o : Option Addr) (n c : Nat) (l : List Int) (w : World) (h1 : Sl w v1 (l.map (Value.int .i64))) (hl : l.length = n) (h2 : ArgV w o c (l.map (Value.int .i64))) :
    Calls Try.prog 24 #[v1, .slice o n c] w fun e w' => e = .returned (.bool true) ∧ Dr w w' := by
  subst hl
  obtain ⟨o1, c1, rfl, hc1, hm1, a1⟩ := h1.mshape
  rcases a1 with rfl | ⟨b1, f1, rfl, q1, a1⟩
  · exact (equali_none o1 o c1 c w).mono fun e w' ⟨he, hw⟩ => ⟨he, hw ▸ Dr.refl _⟩
  · rcases h2 with ⟨rfl, h, rfl⟩ | ⟨a, rfl, h⟩
    · obtain rfl : l = [] := by simpa using h
      exact (equali_none _ _ c1 0 w).mono fun e w' ⟨he, hw⟩ => ⟨he, hw ▸ Dr.refl _⟩
    · exact equali_arg b1 f1 l.length c1 c a l w (by omega) rfl a1 (fun i hi => by have := h i (by simpa using hi); rw [List.getElem_map] at this; exact this)

set_option maxHeartbeats 1000000 in
theorem same_raw (vT vS : Value) (oT oS : Option Addr) (nT cT nS cS : Nat) (T : List ByteArray) (S : List Int) (w : World) (hT : Sl w vT (T.map Value.string)) (hS : Sl w vS (S.map (Value.int .i64))) (hlT : T.length = nT) (hlS : S.length = nS)
    (aT : ArgV w oT cT (T.map Value.string)) (aS : ArgV w oS cS (S.map (Value.int .i64))) :
    Calls Try.prog 19 #[.agg #[vT, vS], .agg #[.slice oT nT cT, .slice oS nS cS]] w fun e w' => e = .returned (.bool true) ∧ Gr w w' := by
  have HT := Lib.hid hT
  have HS := Lib.hid hS
  have AT := Lib.hid aT
  have AS := Lib.hid aS
  have HLT := Lib.hid hlT
  have HLS := Lib.hid hlS
  obtain ⟨o1, x1, rfl, _, _, _⟩ := hT.mshape
  obtain ⟨o2, x2, rfl, _, _, _⟩ := hS.mshape
  clear hT hS aT aS hlT hlS
  go_enter Try.func19, Try.ntmps19
  go_wp2_with fail
  obtain ⟨W, hW⟩ : ∃ W, W = (w.alloc (.cells #[.slice o1 T.length x1, .slice o2 S.length x2] 25)).alloc (.cells #[.slice oT nT cT, .slice oS nS cS] 25) := ⟨_, rfl⟩
  have hG : Gr w W := by rw [hW]; exact (Gr.alloc _ _).trans (Gr.alloc _ _)
  have k1 : Blk W w.heap.size #[.slice o1 T.length x1, .slice o2 S.length x2] 25 := by rw [hW]; exact (Blk.new _ _ _).alloc _
  have k2 : Blk W (w.heap.size + 1) #[.slice oT nT cT, .slice oS nS cS] 25 := by rw [hW]; have := Blk.new (w.alloc (.cells #[.slice o1 T.length x1, .slice o2 S.length x2] 25)) #[.slice oT nT cT, .slice oS nS cS] 25; simpa using this
  rw [← hW]
  clear hW
  refine (equals_raw _ oT nT cT T W (HT.out.gr hG) HLT.out (AT.out.later hG.below)).mono ?_
  rintro e w2 ⟨rfl, g2⟩
  have hG2 := hG.trans (Gr.of_dr g2)
  have k1' := k1.gr (Gr.of_dr g2)
  have k2' := k2.gr (Gr.of_dr g2)
  have c1 := k1'.cell 1
  have c2 := k2'.cell 1
  simp only [List.getElem?_toArray, List.getElem?_cons_zero, List.getElem?_cons_succ] at c1 c2
  clear g2 k1 k2 k1' k2'
  go_wp2_with fail
  refine (equali_raw _ oS nS cS S w2 (HS.out.gr hG2) HLS.out (AS.out.later hG2.below)).mono ?_
  rintro e w3 ⟨rfl, g3⟩
  go_wp2
  go_ret
  exact ⟨rfl, hG2.trans (Gr.of_dr g3)⟩
end Go.Proofs.Ytfnlegnieilcbaa
