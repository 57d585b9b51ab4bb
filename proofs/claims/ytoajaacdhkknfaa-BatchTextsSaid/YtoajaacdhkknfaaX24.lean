/- BatchTexts: the law. -/
import Derived.Test.YtoajaacdhkknfaaX23
import Derived.Test.YtoajaacdhkknfaaX13
namespace Go.Proofs.Kit
open Go.RowKit
theorem textL_snoc {L : List Chg} {k : Nat} (h : k < L.length) : textL (L.take (k + 1)) = textL (L.take k) ++ (lineL L[k] ++ [10]) := by
  rw [List.take_succ_eq_append_getElem h, textL_append]
  rfl
end Go.Proofs.Kit
namespace Go.Proofs.Ytoajaacdhkknfaa
open Go.RowKit Go.Proofs.Kit Go.Shelf
set_option hygiene false in
local macro "tl24" : tactic => `(tactic| (
  refine (text_any _ L _ ((HO2.out.later HBt.out).seg) HFL.out).mono ?_
  rw [← HTX.out, ← HBE.out]
  rintro e w6 ⟨rfl, b6⟩
  have HB6 := Lib.hid (below_later HBt.out b6)
  clear b6
  go_wp2_with fail
  refine (HF.out _ (below_later HB2.out HB6.out)).mono ?_
  rintro e w7 ⟨v7, rfl, o7, b7⟩
  have HB7 := Lib.hid (below_later HB6.out b7)
  have HO7 := Lib.hid o7
  clear b7 o7
  go_wp2_with fail
  refine (equalC_seg _ _ L L _ (HO2.out.later HB7.out).seg HO7.out.seg).mono ?_
  rw [show decide (L = L) = true by simp]
  rintro e w8 ⟨rfl, g8⟩
  have HB8 := Lib.hid (below_later HB2.out (below_later HB7.out g8.below))
  clear g8
  go_wp2_with fail
  go_ret
  exact ⟨rfl, HB8.out⟩))
set_option maxRecDepth 100000 in
set_option maxHeartbeats 4000000 in
theorem texts9_true (o : Option Addr) (n c : Nat) (X : List Chg) (m : Int) (w : World) (hl : X.length = n) (hc : n ≤ c) (hmx : c ≤ 9223372036854775807) (h : ArgE chgE w o c X) (hf : ∀ x ∈ X, Fits x)
    (hm : w.cell? ⟨0, 0, none⟩ = some (.int .i64 m)) :
    Calls Try.prog 4 #[.slice o n c] w fun e w' => e = .returned (.bool true) ∧ Below w.heap.size w w' := by
  have HW := Lib.hid (wakes9_true m w hm)
  have hfew : ∀ W, Below w.heap.size w W → _ := fun W (b : Below w.heap.size w W) => few9_any o n c X W hl hc hmx (h.later b) hf
  clear hm h hf hl hc hmx
  go_enter Try.func4, Try.ntmps4
  go_wp2_with fail
  refine HW.out.mono ?_
  rintro e w1 ⟨rfl, b1⟩
  have HB1 := Lib.hid b1
  clear b1 HW
  have hfit : ∀ x ∈ fewC X, Fits x := fun x hx => (fewC_fits x hx).1
  have h80 := fewC_len X
  obtain ⟨L, hL⟩ : ∃ L, L = fewC X := ⟨_, rfl⟩
  rw [← hL] at hfit h80 hfew
  have HF := Lib.hid hfew
  clear hfew
  go_wp2_with fail
  refine (HF.out _ HB1.out).mono ?_
  rintro e w2 ⟨v, rfl, o2, b2⟩
  have HO2 := Lib.hid o2
  have HB2 := Lib.hid (below_later HB1.out b2)
  have HFL := Lib.hid hfit
  have HBT := Lib.hid (batch_any _ L _ o2.seg hfit)
  obtain ⟨oL, cL, rfl⟩ := o2.shape
  obtain ⟨bn, hbn⟩ : ∃ x, x = batchN L := ⟨_, rfl⟩
  obtain ⟨be, hbe⟩ : ∃ x, x = batchE L := ⟨_, rfl⟩
  obtain ⟨tx, htx⟩ : ∃ x, x = textO L := ⟨_, rfl⟩
  rw [← hbn, ← hbe] at HBT
  have HBN := Lib.hid hbn
  have HBE := Lib.hid hbe
  have HTX := Lib.hid htx
  obtain ⟨k0, hk0⟩ : ∃ k, k = L.length := ⟨_, rfl⟩
  rw [← hk0] at HO2 HBT h80 ⊢
  have HK0 := Lib.hid hk0
  clear o2 b2 hfit hL hk0 HB1 hbn hbe htx
  go_wp2_with fail
  refine HBT.out.mono ?_
  rintro e w3 ⟨rfl, b3⟩
  have HB3 := Lib.hid b3
  clear b3 HBT
  by_cases h64 : 64 < k0
  · have e64 : decide ((k0 : Int) ≤ 64) = false := by simp; omega
    obtain rfl : bn = 0 := by rw [HBN.out, batchN, if_pos (by have := HK0.out; omega)]
    have hbe : be = 3 := by rw [HBE.out, batchE, if_pos (by have := HK0.out; omega)]
    obtain rfl : tx = noB := by rw [HTX.out, textO, ← HBE.out, hbe, if_neg (by decide)]
    subst hbe
    go_wp2_with fail
    have HBt := HB3
    tl24
  · have e64 : decide ((k0 : Int) ≤ 64) = true := by simp; omega
    have hk64 : k0 ≤ 64 := by omega
    clear h64
    have HN0 := Lib.hid (show batchN L = if goodN L < L.length then (goodN L : Int) + 1 else L.length by rw [batchN, if_neg (by have := HK0.out; omega)])
    have HE0 := Lib.hid (show batchE L = if goodN L < L.length then 190 else 0 by rw [batchE, if_neg (by have := HK0.out; omega)])
    go_wp2_with fail
    go_loopw [6, 7, 8, 29] (fun s6 s7 s8 s29 wr => ∃ (k : Nat) (A : ByteArray), k ≤ k0 ∧ s6 = .int .i64 (k0 : Int) ∧ s7 = .int .i64 0 ∧ s8 = .string A ∧ A.size ≤ 13000 ∧ s29 = .int .i64 (k : Int) ∧ Hid (A = lb (textL (L.take k))) ∧ Hid (∀ i (hi : i < L.length), i < k → rightB L[i] = true) ∧ Hid (Below w2.heap.size w2 wr)) (fun _ _ _ s29 _ => k0 - (intOf s29).toNat)
    case atStart => exact ⟨0, noB, Nat.zero_le _, rfl, rfl, rfl, by decide, rfl, Lib.hid rfl, Lib.hid (fun i _ h => by omega), HB3⟩
    case round =>
      obtain ⟨k, A, hk, rfl, rfl, rfl, hA, rfl, HA, HR, HB⟩ := hrel
      by_cases hlt : k < k0
      · have e1 : decide ((k : Int) < (k0 : Int)) = true := by simp; omega
        have hkl : k < L.length := by have := HK0.out; omega
        obtain ⟨b, f, rfl, _, _, _, hbl, hcells⟩ := (HO2.out.later HB.out).seg.has hkl
        obtain ⟨d0, d1, d2, d3, d4⟩ := ch_cells hcells k hkl
        obtain ⟨x, hx⟩ : ∃ x, x = L[k] := ⟨_, rfl⟩
        have hfx : Fits x := by rw [hx]; exact HFL.out _ (List.getElem_mem hkl)
        rw [← hx] at d0 d1 d2 d3 d4
        have HX := Lib.hid hx
        obtain ⟨x0, x1, x2, x3, x4⟩ := x
        simp only at d0 d1 d2 d3 d4
        have HRT := Lib.hid (fun W => rright_any x0 x1 x2 x3 x4 hfx.1 hfx.2.1 hfx.2.2.1 hfx.2.2.2 W)
        have HRL := Lib.hid (show ∀ (hr : rightB ⟨x0, x1, x2, x3, x4⟩ = true) W, Calls Try.prog 13 #[CV ⟨x0, x1, x2, x3, x4⟩] W fun e w' => e = .returned (.string (lineB ⟨x0, x1, x2, x3, x4⟩)) ∧ Gr W w' by
          intro hr W
          obtain ⟨q, e, h1, h8⟩ := kind_cases hr
          simp only at e
          subst e
          exact rline_any q x1 x2 x3 x4 h1 h8 hr W)
        have HLL := Lib.hid (fun hr : rightB ⟨x0, x1, x2, x3, x4⟩ = true => line_len hr)
        obtain ⟨rb, hrb⟩ : ∃ r, r = rightB ⟨x0, x1, x2, x3, x4⟩ := ⟨_, rfl⟩
        obtain ⟨lx, hlx⟩ : ∃ r, r = lineB ⟨x0, x1, x2, x3, x4⟩ := ⟨_, rfl⟩
        rw [← hrb] at HRT HRL HLL
        rw [← hlx] at HRL
        have HRB := Lib.hid hrb
        have HLX := Lib.hid hlx
        clear hx hcells hfx hrb hlx
        go_wp2_with fail
        refine (HRT.out _).mono ?_
        rintro e w4 ⟨rfl, g4⟩
        have gA := (Gr.alloc wr (.cells #[.int .i64 x0, .string x1, .string x2, .string x3, .string x4] 27))
        have B4 := (Blk.new wr #[.int .i64 x0, .string x1, .string x2, .string x3, .string x4] 27).gr g4
        obtain ⟨c0, c1, c2, c3, c4, c5⟩ := B4.fiveC
        have HB4 := Lib.hid (below_later HB.out (gA.trans g4).below)
        clear gA g4 B4 d0 d1 d2 d3 d4
        cases rb
        · have hg := goodN_at hkl HR.out (by rw [← HX.out]; exact HRB.out.symm)
          obtain rfl : bn = (k : Int) + 1 := by rw [HBN.out, HN0.out, if_pos (by omega), hg]
          have hbe : be = 190 := by rw [HBE.out, HE0.out, if_pos (by omega)]
          obtain rfl : tx = noB := by rw [HTX.out, textO, ← HBE.out, hbe, if_neg (by decide)]
          subst hbe
          clear hg HRL HLL HRT
          go_wp2_with fail
          have HBt := HB4
          tl24
        · have hll : (lineB ⟨x0, x1, x2, x3, x4⟩).size ≤ 200 := by rw [lineB, lb_size]; exact HLL.out (by trivial)
          rw [← HLX.out] at hll
          go_wp2_with fail
          refine (HRL.out (by trivial) _).mono ?_
          rintro e w5 ⟨rfl, g5⟩
          have HB5 := Lib.hid (below_later HB4.out g5.below)
          clear g5
          have e5 : (lx ++ (⟨#[10]⟩ : ByteArray)).size = lx.size + 1 := by rw [ByteArray.size_append]; rfl
          have hA2 : A ++ (lx ++ ⟨#[10]⟩) = lb (textL (L.take (k + 1))) := bl_inj (by
            rw [textL_snoc hkl, bl_append, bl_append, HA.out, HLX.out, bl_lb, bl_lb, ← HX.out]
            rfl)
          have HR2 := Lib.hid (show ∀ i (hi : i < L.length), i < k + 1 → rightB L[i] = true by
            intro i hi h
            by_cases e : i = k
            · subst e; rw [← HX.out]; exact HRB.out.symm
            · exact HR.out i hi (by omega))
          have hsz : (A ++ (lx ++ (⟨#[10]⟩ : ByteArray))).size ≤ 13000 := by
            rw [hA2, lb_size]
            have := text_len (l := L.take (k + 1)) (fun x hx => by
              obtain ⟨i, hi, rfl⟩ := List.mem_iff_getElem.1 hx
              rw [List.length_take] at hi
              rw [List.getElem_take]
              exact HR2.out i (by omega) (by omega))
            rw [List.length_take] at this
            omega
          have HA2 := Lib.hid hA2
          have HSZ := Lib.hid hsz
          have l1 : (A.size : Int) ≤ 13000 := by omega
          have l2 : (lx.size : Int) ≤ 200 := by omega
          clear hA2 hsz
          go_wp2_with fail
          go_roundw
          case measure => simp only [intOf]; omega
          case rel => exact ⟨k + 1, _, by omega, rfl, rfl, rfl, HSZ.out, by go_num, HA2, HR2, HB5⟩
      · have e1 : decide ((k : Int) < (k0 : Int)) = false := by simp; omega
        obtain rfl : k = k0 := by omega
        have hg := goodN_all (l := L) (fun i hi => HR.out i hi (by have := HK0.out; omega))
        obtain rfl : bn = (k : Int) := by rw [HBN.out, HN0.out, if_neg (by omega), HK0.out]
        have hbe : be = 0 := by rw [HBE.out, HE0.out, if_neg (by omega)]
        obtain rfl : tx = A := by rw [HTX.out, textO, ← HBE.out, hbe, if_pos rfl, HA.out, List.take_of_length_le (by have := HK0.out; omega)]
        subst hbe
        clear hg
        go_wp2_with fail
        have HBt := HB
        tl24
end Go.Proofs.Ytoajaacdhkknfaa

