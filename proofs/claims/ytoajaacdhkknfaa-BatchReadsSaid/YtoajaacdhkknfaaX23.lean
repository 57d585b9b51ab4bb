/- BatchMay: the law. -/
import Derived.Test.YtoajaacdhkknfaaX20
import Derived.Test.YtoajaacdhkknfaaX8
import Derived.Test.YtoajaacdhkknfaaJ3
import Derived.Test.YtoajaacdhkknfaaX12
import Derived.BigQuiet
import Derived.Lib.MinMax
namespace Go.Proofs.Kit
open Go.RowKit
theorem Blk.fiveC {w : World} {b : Nat} {v0 v1 v2 v3 v4 : Value} {t : TypeId} (h : Blk w b #[v0, v1, v2, v3, v4] t) : w.cell? ⟨b, 0, none⟩ = some v0 ∧ w.cell? ⟨b, 1, none⟩ = some v1 ∧ w.cell? ⟨b, 2, none⟩ = some v2 ∧ w.cell? ⟨b, 3, none⟩ = some v3 ∧ w.cell? ⟨b, 4, none⟩ = some v4 ∧ b < w.heap.size := ⟨h.cell 0, h.cell 1, h.cell 2, h.cell 3, h.cell 4, h.lt⟩
end Go.Proofs.Kit
namespace Go.Proofs.Ytoajaacdhkknfaa
open Go.RowKit Go.Proofs.Kit Go.Shelf
theorem min60' (n : Nat) : ∃ q : Nat, min (n : Int) 60 = (q : Int) ∧ q = min n 60 := ⟨min n 60, by omega, rfl⟩
set_option hygiene false in
local macro "tl23" : tactic => `(tactic| (
  go_loopw [63] (fun s63 wr => ∃ j : Nat, j ≤ nT ∧ s63 = .int .i64 (j : Int) ∧ Hid (Below w.heap.size w wr)) (fun s63 _ => nT - (intOf s63).toNat)
  case atStart => exact ⟨0, Nat.zero_le _, rfl, HBt⟩
  case round =>
    obtain ⟨j, hj, rfl, HBr⟩ := hrel
    by_cases hjt : j < nT
    · have hjl : j < T.length := by have := HLT.out; omega
      obtain ⟨a, rfl, dcell⟩ : ∃ a, oT = some a ∧ wr.cell? (a.add j) = some (.string T[j]) := by
        rcases HT.out.later HBr.out with ⟨_, e, _⟩ | ⟨a, e, hcell⟩
        · rw [List.map_eq_nil_iff] at e
          rw [e] at hjl
          simp at hjl
        · exact ⟨a, e, by have := hcell j (by simpa using hjl); simpa using this⟩
      obtain ⟨u, hu⟩ : ∃ u, u = T[j] := ⟨_, rfl⟩
      have hfu : u.size ≤ 9223372036854775807 := by rw [hu]; exact HFT.out _ (List.getElem_mem hjl)
      rw [← hu] at dcell
      obtain ⟨q, mq, eq⟩ := min60' u.size
      have lq : q ≤ u.size := by omega
      have hus : (u.extract 0 q).size ≤ 9223372036854775807 := by rw [ByteArray.size_extract]; omega
      have NA := Lib.hid (fun W => bname_any (u.extract 0 q) hus W)
      have NB := Lib.hid (fun W => rbName_any (u.extract 0 q) hus W)
      have VA := Lib.hid (fun W => bvalue_any (u.extract 0 q) hus W)
      have VB := Lib.hid (fun W => rbValue_any (u.extract 0 q) hus W)
      obtain ⟨nm, hnm⟩ : ∃ x, x = nameB (u.extract 0 q) := ⟨_, rfl⟩
      obtain ⟨vl, hvl⟩ : ∃ x, x = valueB (u.extract 0 q) := ⟨_, rfl⟩
      rw [← hnm] at NA NB
      rw [← hvl] at VA VB
      clear hnm hvl hu hus eq
      by_cases h20 : j < 20
      · have e20 : decide ((j : Int) < 20) = true := by simp; omega
        have i20 : (j : Int) < 20 := by omega
        go_wp2_with fail
        refine (NA.out _).mono ?_
        rintro e _ ⟨rfl, rfl⟩
        go_wp2_with fail
        refine (NB.out _).mono ?_
        rintro e _ ⟨rfl, rfl⟩
        go_wp2_with fail
        refine (VA.out _).mono ?_
        rintro e _ ⟨rfl, rfl⟩
        go_wp2_with fail
        refine (VB.out _).mono ?_
        rintro e _ ⟨rfl, rfl⟩
        go_wp2_with fail
        go_roundw
        case measure => simp only [intOf]; omega
        case rel => exact ⟨j + 1, by omega, by go_num, HBr⟩
      · have e20 : decide ((j : Int) < 20) = false := by simp; omega
        have i20 : ¬ (j : Int) < 20 := by omega
        go_wp2_with fail
        go_roundw
        case measure => simp only [intOf]; omega
        case rel => exact ⟨j + 1, by omega, by go_num, HBr⟩
    · go_wp2_with fail
      go_ret
      exact ⟨rfl, HBr.out⟩))
set_option maxRecDepth 100000 in
set_option maxHeartbeats 4000000 in
theorem may9_true (o : Option Addr) (n c : Nat) (X : List Chg) (oT : Option Addr) (nT cT : Nat) (T : List ByteArray) (m : Int) (w : World) (hl : X.length = n) (hc : n ≤ c) (hmx : c ≤ 9223372036854775807) (h : ArgE chgE w o c X) (hf : ∀ x ∈ X, Fits x)
    (hlT : T.length = nT) (hcT : nT ≤ cT) (hmT : cT ≤ 9223372036854775807) (hT : ArgV w oT cT (T.map Value.string)) (hfT : ∀ s ∈ T, s.size ≤ 9223372036854775807) (hm : w.cell? ⟨0, 0, none⟩ = some (.int .i64 m)) :
    Calls Try.prog 3 #[.slice o n c, .slice oT nT cT] w fun e w' => e = .returned (.bool true) ∧ Below w.heap.size w w' := by
  have HW := Lib.hid (wakes9_true m w hm)
  have HF := Lib.hid (fun W (b : Below w.heap.size w W) => few9_any o n c X W hl hc hmx (h.later b) hf)
  have HT := Lib.hid hT
  have HFT := Lib.hid hfT
  have HLT := Lib.hid hlT
  have hnT : nT ≤ 9223372036854775807 := by omega
  clear hm h hf hl hc hmx hlT hcT hmT hT hfT
  go_enter Try.func3, Try.ntmps3
  go_wp2_with fail
  refine HW.out.mono ?_
  rintro e w1 ⟨rfl, b1⟩
  have HB1 := Lib.hid b1
  clear b1 HW
  go_wp2_with fail
  refine (HF.out _ HB1.out).mono ?_
  rintro e w2 ⟨v, rfl, o2, b2⟩
  have hfit : ∀ x ∈ fewC X, Fits x := fun x hx => (fewC_fits x hx).1
  have h80 := fewC_len X
  obtain ⟨L, hL⟩ : ∃ L, L = fewC X := ⟨_, rfl⟩
  rw [← hL] at o2 hfit h80
  have HO2 := Lib.hid o2
  have HB2 := Lib.hid (below_later HB1.out b2)
  have HFL := Lib.hid hfit
  obtain ⟨oL, cL, rfl⟩ := o2.shape
  obtain ⟨k0, hk0⟩ : ∃ k, k = L.length := ⟨_, rfl⟩
  rw [← hk0] at HO2 h80 ⊢
  have HK0 := Lib.hid hk0
  clear o2 b2 hfit hL hk0 HF HB1
  go_wp2
  go_loopw [19] (fun s19 wr => ∃ k : Nat, k ≤ k0 ∧ k ≤ 20 ∧ s19 = .int .i64 (k : Int) ∧ Hid (Below w2.heap.size w2 wr)) (fun s19 _ => k0 - (intOf s19).toNat)
  case atStart => exact ⟨0, Nat.zero_le _, Nat.zero_le _, rfl, Lib.hid (Below.refl _ _)⟩
  case round =>
    obtain ⟨k, hk, hk20, rfl, HB⟩ := hrel
    by_cases hlt : k < k0
    · have hkl : k < L.length := by have := HK0.out; omega
      obtain ⟨b, f, rfl, _, _, _, hbl, hcells⟩ := (HO2.out.later HB.out).seg.has hkl
      obtain ⟨d0, d1, d2, d3, d4⟩ := ch_cells hcells k hkl
      obtain ⟨x, hx⟩ : ∃ x, x = L[k] := ⟨_, rfl⟩
      have hfx : Fits x := by rw [hx]; exact HFL.out _ (List.getElem_mem hkl)
      rw [← hx] at d0 d1 d2 d3 d4
      obtain ⟨x0, x1, x2, x3, x4⟩ := x
      simp only at d0 d1 d2 d3 d4
      have HR := Lib.hid (fun W => rright_any x0 x1 x2 x3 x4 hfx.1 hfx.2.1 hfx.2.2.1 hfx.2.2.2 W)
      have HC := Lib.hid (fun W => check_any ⟨x0, x1, x2, x3, x4⟩ hfx W)
      have HL := Lib.hid (fun W => bline_any ⟨x0, x1, x2, x3, x4⟩ hfx W)
      have HRL := Lib.hid (show ∀ (hr : rightB ⟨x0, x1, x2, x3, x4⟩ = true) W, Calls Try.prog 13 #[CV ⟨x0, x1, x2, x3, x4⟩] W fun e w' => e = .returned (.string (lineB ⟨x0, x1, x2, x3, x4⟩)) ∧ Gr W w' by
        intro hr W
        obtain ⟨q, e, h1, h8⟩ := kind_cases hr
        simp only at e
        subst e
        exact rline_any q x1 x2 x3 x4 h1 h8 hr W)
      have HLO := Lib.hid (show lineO ⟨x0, x1, x2, x3, x4⟩ = if rightB ⟨x0, x1, x2, x3, x4⟩ then lineB ⟨x0, x1, x2, x3, x4⟩ else noB from rfl)
      obtain ⟨rb, hrb⟩ : ∃ r, r = rightB ⟨x0, x1, x2, x3, x4⟩ := ⟨_, rfl⟩
      obtain ⟨lo, hlo⟩ : ∃ r, r = lineO ⟨x0, x1, x2, x3, x4⟩ := ⟨_, rfl⟩
      rw [← hrb] at HR HC HL HRL HLO
      rw [← hlo] at HL HLO
      clear hx hcells hfx hrb hlo
      have e1 : decide ((k : Int) < (k0 : Int)) = true := by simp; omega
      by_cases h20 : k = 20
      · have e20 : ((k : Int) == 20) = true := by simp; omega
        clear h20
        go_wp2_with fail
        have HBt := Lib.hid ((below_later HB2.out HB.out).alloc (by have := HB2.out.size; have := HB.out.size; omega) (.cells #[.int .i64 x0, .string x1, .string x2, .string x3, .string x4] 27))
        clear d0 d1 d2 d3 d4 HR HC HL HRL HLO HO2
        tl23
      have e20 : ((k : Int) == 20) = false := by simp; omega
      go_wp2_with fail
      refine (HR.out _).mono ?_
      rintro e w3 ⟨rfl, g3⟩
      have gA := (Gr.alloc wr (.cells #[.int .i64 x0, .string x1, .string x2, .string x3, .string x4] 27))
      have B3 := (Blk.new wr #[.int .i64 x0, .string x1, .string x2, .string x3, .string x4] 27).gr g3
      obtain ⟨c0, c1, c2, c3, c4, c5⟩ := B3.fiveC
      have HB3 := Lib.hid (below_later HB.out (gA.trans g3).below)
      have HK3 := Lib.hid B3
      clear gA g3 B3 d0 d1 d2 d3 d4
      go_wp2_with fail
      refine (HC.out _).mono ?_
      rintro e w4 ⟨rfl, b4⟩
      have B4 := HK3.out.later b4
      have HB4 := Lib.hid (below_later HB3.out b4)
      clear c0 c1 c2 c3 c4 c5
      obtain ⟨c0, c1, c2, c3, c4, c5⟩ := B4.fiveC
      have HK4 := Lib.hid B4
      clear b4 B4 HK3
      go_wp2_with fail
      refine (HL.out _).mono ?_
      rintro e w5 ⟨rfl, b5⟩
      have B5 := HK4.out.later b5
      have HB5 := Lib.hid (below_later HB4.out b5)
      clear c0 c1 c2 c3 c4 c5
      obtain ⟨c0, c1, c2, c3, c4, c5⟩ := B5.fiveC
      clear b5 B5 HK4
      cases rb
      · obtain rfl : lo = noB := by rw [HLO.out]; rfl
        clear HLO
        go_wp2_with fail
        go_roundw
        case measure => simp only [intOf]; omega
        case rel => exact ⟨k + 1, by omega, by omega, by go_num, HB5⟩
      · obtain rfl : lo = lineB ⟨x0, x1, x2, x3, x4⟩ := by rw [HLO.out]; rfl
        clear HLO
        go_wp2_with fail
        refine (HRL.out (by trivial) _).mono ?_
        rintro e w6 ⟨rfl, g6⟩
        have HB6 := Lib.hid (below_later HB5.out g6.below)
        clear g6
        go_wp2_with fail
        go_roundw
        case measure => simp only [intOf]; omega
        case rel => exact ⟨k + 1, by omega, by omega, by go_num, HB6⟩
    · have e1 : decide ((k : Int) < (k0 : Int)) = false := by simp; omega
      go_wp2_with fail
      have HBt := Lib.hid (below_later HB2.out HB.out)
      clear HO2
      tl23
end Go.Proofs.Ytoajaacdhkknfaa

