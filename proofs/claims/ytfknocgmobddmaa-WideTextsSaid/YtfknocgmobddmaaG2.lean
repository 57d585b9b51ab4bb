/- The reference's rows of digits: Digits, Plus. -/
import Derived.Test.YtfknocgmobddmaaG1
namespace Go.Proofs.Ytfknocgmobddmaa
open Go.RowKit Go.Proofs.Kit

/-- What has been gathered of a number's two words. -/
def dw2 (lo hi : Int) : Nat → List Int
  | 0 => []
  | 1 => dw 4 lo
  | _ => dw 4 lo ++ dw 4 hi
theorem dw2_dv {lo hi : Int} (h1 : Wd lo) (h2 : Wd hi) : dv (dw2 lo hi 2) = num (hi, lo) := by
  obtain ⟨a, b⟩ := h1
  obtain ⟨c, d⟩ := h2
  simp only [dw2]
  rw [dv_append, dw_dv 4 lo a (by omega), dw_dv 4 hi c (by omega), dw_len]
  unfold num
  simp only
  omega
theorem dw2_dig (lo hi : Int) (k : Nat) : Dig (dw2 lo hi k) := by
  unfold dw2
  split
  · simp [Dig]
  · exact dw_dig 4 lo
  · intro x hx
    rcases List.mem_append.1 hx with hx | hx
    · exact dw_dig 4 lo x hx
    · exact dw_dig 4 hi x hx
theorem dw2_len (lo hi : Int) (k : Nat) (hk : k ≤ 2) : (dw2 lo hi k).length = 4 * k := by
  have : k = 0 ∨ k = 1 ∨ k = 2 := by omega
  rcases this with rfl | rfl | rfl <;> simp [dw2, dw_len]

set_option maxRecDepth 100000 in
set_option maxHeartbeats 2000000 in
theorem digits_any (hi lo : Int) (h1 : Wd hi) (h2 : Wd lo) (w : World) :
    Calls Try.prog 10 #[WV hi lo] w fun e w' => ∃ v', e = .returned v' ∧ Owns .u64 24 w.heap.size w' v' (dg (num (hi, lo)).toNat) ∧ Below w.heap.size w w' := by
  obtain ⟨i0, hi0, hz0, hz1, hz2⟩ := infou
  have H1 := Lib.hid h1
  have H2 := Lib.hid h2
  obtain ⟨hh0, hh1⟩ := h1
  obtain ⟨hl0, hl1⟩ := h2
  go_enter Try.func10, Try.ntmps10
  go_wp2
  obtain ⟨W, hW⟩ : ∃ W, W = (w.alloc (.cells #[.int .u64 hi, .int .u64 lo] 26)).alloc (.cells #[.int .u64 lo, .int .u64 hi] 24) := ⟨_, rfl⟩
  have B0 : Below w.heap.size w W := by rw [hW]; exact ((Below.refl _ _).alloc (Nat.le_refl _) _).alloc (by simp) _
  have bW : Blk W (w.heap.size + 1) #[.int .u64 lo, .int .u64 hi] 24 := by rw [hW]; have := Blk.new (w.alloc (.cells #[.int .u64 hi, .int .u64 lo] 26)) #[.int .u64 lo, .int .u64 hi] 24; simpa using this
  rw [← hW]
  clear hW
  go_loopw [3, 5, 12, 16] (fun s _ i _ wr => ∃ k : Nat, k ≤ 2 ∧ i = .int .i64 (k : Int) ∧ Owns .u64 24 (w.heap.size + 2) wr s (dw2 lo hi k) ∧ Blk wr (w.heap.size + 1) #[.int .u64 lo, .int .u64 hi] 24 ∧ Below w.heap.size w wr) (fun _ _ i _ _ => 2 - (intOf i).toNat)
  case atStart => exact ⟨0, by omega, rfl, Owns.nil _ _ _ _, bW, B0⟩
  case round =>
    obtain ⟨k, hk, rfl, hO, hbk, hB⟩ := hrel
    clear bW B0
    by_cases hlt : k < 2
    · have d0 := hbk.cell 0
      have d1 := hbk.cell 1
      simp only [List.getElem?_toArray, List.getElem?_cons_zero, List.getElem?_cons_succ] at d0 d1
      obtain ⟨X, hX0, hX1, hXc, hXd⟩ : ∃ X : Int, 0 ≤ X ∧ X < 18446744073709551616 ∧ wr.cell? ⟨w.heap.size + 1, k, none⟩ = some (.int .u64 X) ∧ dw2 lo hi (k + 1) = dw2 lo hi k ++ dw 4 X := by
        have : k = 0 ∨ k = 1 := by omega
        rcases this with rfl | rfl
        · exact ⟨lo, hl0, hl1, d0, by simp [dw2]⟩
        · exact ⟨hi, hh0, hh1, d1, by simp [dw2]⟩
      have HXD := Lib.hid hXd
      clear d0 d1 hXd
      obtain ⟨P, hP⟩ : ∃ P, P = dw2 lo hi k := ⟨_, rfl⟩
      have hPl : P.length ≤ 4 := by rw [hP, dw2_len _ _ _ hk]; omega
      rw [← hP] at hO HXD
      clear hP
      have hsz := hbk.lt
      have t13 : decide ((k : Int) < 2) = true := by simp; omega
      go_wp2
      clear t13
      obtain ⟨wo, rfl⟩ : ∃ wo : World, wo = wr := ⟨_, rfl⟩
      go_loopw [3, 5, 16] (fun s x j wr => ∃ (i : Nat) (pre : List Int) (Y : Int), i ≤ 4 ∧ j = .int .i64 (i : Int) ∧ x = .int .u64 Y ∧ 0 ≤ Y ∧ Y < 18446744073709551616 ∧ pre.length ≤ 4 + i ∧ Hid (pre ++ dw (4 - i) Y = P ++ dw 4 X) ∧ Owns .u64 24 (w.heap.size + 2) wr s pre ∧ Blk wr (w.heap.size + 1) #[.int .u64 lo, .int .u64 hi] 24 ∧ Below w.heap.size w wr) (fun _ _ j _ => 4 - (intOf j).toNat)
      case atStart => exact ⟨0, P, X, by omega, rfl, rfl, hX0, hX1, by omega, Lib.hid rfl, hO, hbk, hB⟩
      case round =>
        obtain ⟨i, pre, Y, hi4, rfl, rfl, hY0, hY1, hpl, hpre, hO2, hbk2, hB2⟩ := hrel
        have hsz2 := hbk2.lt
        clear hO hbk hB hsz hXc
        by_cases hlt2 : i < 4
        · go_wp2_with (at_builtin; refine wpList_append_own _ rfl _ _ 28 rfl (w.heap.size + 2) 24 i0 (.int .u64 0) 1 8 Try.underlying28 hi0 hz0 hz1 hz2 rfl (by decide) _ _ _ rfl (World.ownsRow.alloc hO2 _) ⟨wr.heap.size, 0, none⟩ 1 1 [.int .u64 (Y % 65536)] rfl rfl ?qa1 ?qa2 ?qa3 ?qa4 ?qa5 ?_)
          case qa1 => exact cell_one_new _ _ _
          case qa2 => simp [Value.oneCell']
          case qa3 => unfold maxLen; omega
          case qa4 => omega
          case qa5 => simp; omega
          intro v' w1 hown hgrow _
          have hO3 : Owns .u64 24 (w.heap.size + 2) w1 v' (pre ++ [Y % 65536]) := by
            unfold Owns
            rw [List.length_append, List.map_append]
            exact hown
          have hb3 : Below (w.heap.size + 2) wr w1 := ((Below.refl _ _).alloc (by omega) _).grown hgrow (by simp; omega) (fun k hk => (World.ownsRow.lt hO2 k hk).1)
          have hB3 := hB2.trans (hb3.mono (by omega))
          have hbk3 := hbk2.below hb3 (by omega)
          clear hown hgrow
          go_wp2
          go_roundw
          case rel =>
            refine ⟨i + 1, pre ++ [Y % 65536], Y / 65536, by omega, by go_num, rfl, by omega, by omega, by simp; omega, Lib.hid ?_, hO3, hbk3, hB3⟩
            rw [← hpre.out, show 4 - i = (4 - (i + 1)) + 1 by omega, List.append_assoc]
            rfl
          case measure => simp [intOf]; omega
        · go_wp2
          go_roundw
          case rel =>
            refine ⟨k + 1, by omega, by go_num, ?_, hbk2, hB2⟩
            have h4 := hpre.out
            rw [show 4 - i = 0 by omega] at h4
            simp only [dw, List.append_nil] at h4
            rw [HXD.out]
            simp only [dw]
            rw [← h4]
            exact hO2
          case measure => simp [intOf]; omega
    · obtain rfl : k = 2 := by omega
      go_wp2_with fail
      refine (trim_own _ _ _ _ hO (dw2_dig _ _ _)).mono ?_
      rintro e w' ⟨v', rfl, ho', rfl⟩
      rw [dw2_dv H2.out H1.out] at ho'
      go_wp2
      go_ret
      exact ⟨v', rfl, ho'.mono (by omega), hB⟩
end Go.Proofs.Ytfknocgmobddmaa
