/- The layer does something: wakes. -/
import Derived.Test.YtoajaacdhkknfaaDoorX19
namespace Go.Proofs.Kit
open Go.RowKit
def wA : Chg := ⟨1, lb [97, 110, 110], noB, noB, noB⟩
def wB : Chg := ⟨3, lb [97, 110, 110], lb [112, 101, 114, 115, 111, 110], noB, noB⟩
def wC : Chg := ⟨5, lb [97, 110, 110], lb [97, 103, 101], lb [52, 49], noB⟩
theorem wake_line : lineO wC = lb [115, 101, 116, 32, 97, 110, 110, 32, 97, 103, 101, 32, 34, 52, 49, 34] := by decide
theorem wake_two : readS (bl ⟨#[97, 100, 100, 32, 97, 110, 110, 10, 108, 97, 98, 101, 108, 32, 97, 110, 110, 32, 112, 101, 114, 115, 111, 110, 10]⟩) = ([wA, wB], 2, 0) := by
  have h := read_text [wA, wB] [] (by decide) (by simp)
  rw [show textL [wA, wB] = bl ⟨#[97, 100, 100, 32, 97, 110, 110, 10, 108, 97, 98, 101, 108, 32, 97, 110, 110, 32, 112, 101, 114, 115, 111, 110, 10]⟩ by decide] at h
  exact h
theorem wake_none : saysO [97, 100, 100, 32, 65, 110, 110] = none := by
  refine no_says fun k h => ?_
  rw [show splitN 3 [97, 100, 100, 32, 65, 110, 110] = [[97, 100, 100], [65, 110, 110]] by decide] at h ⊢
  obtain ⟨h1, h8, h0, _⟩ := h
  rcases eight h1 h8 with rfl | rfl | rfl | rfl | rfl | rfl | rfl | rfl <;> first | exact absurd h0 (by decide) | decide
theorem wake_bad : readS (bl ⟨#[97, 100, 100, 32, 97, 110, 110, 10, 97, 100, 100, 32, 65, 110, 110, 10]⟩) = ([], 2, 191) := by
  show readR [] (linesL [97, 100, 100, 32, 97, 110, 110, 10, 97, 100, 100, 32, 65, 110, 110, 10]) = _
  rw [show linesL [97, 100, 100, 32, 97, 110, 110, 10, 97, 100, 100, 32, 65, 110, 110, 10] = [(lineL wA, true), ([97, 100, 100, 32, 65, 110, 110], true)] by decide]
  rw [readR_yes (by decide) (says_text (by decide)), readR_no (by decide) (.inl wake_none)]
  rfl
end Go.Proofs.Kit
namespace Go.Proofs.YtoajaacdhkknfaaDoor
open Go.RowKit Go.Proofs.Kit Go.Shelf
set_option maxRecDepth 100000 in
set_option maxHeartbeats 4000000 in
theorem wakes9_true (m : Int) (w : World) (hm : w.cell? ⟨0, 0, none⟩ = some (.int .i64 m)) : Calls Tryd.prog 4 #[] w fun e w' => e = .returned (.bool true) ∧ Below w.heap.size w w' := by
  have hN : 0 < w.heap.size := World.block_lt_of_cell? _ _ hm
  have HM := Lib.hid hm
  clear hm
  go_enter Tryd.func4, Tryd.ntmps4
  go_wp2_with fail
  refine (bline_any wC ⟨by decide, by decide, by decide, by decide⟩ _).mono ?_
  rw [wake_line, show codeC (rightB wC) = 0 by decide]
  rintro e w1 ⟨rfl, b1⟩
  go_wp2_with fail
  refine (readC_any _ (by decide) m w1 ((b1.cell (p := ⟨0, 0, none⟩) hN).trans HM.out)).mono ?_
  rw [wake_two]
  rintro e w2 ⟨v2, rfl, o2, b2⟩
  have hb2 := below_later b1 b2
  have HB2 := Lib.hid hb2
  have HO2 := Lib.hid o2
  clear b1 b2 o2 hb2
  go_wp2_with fail
  refine (readC_any _ (by decide) m w2 ((HB2.out.cell (p := ⟨0, 0, none⟩) hN).trans HM.out)).mono ?_
  rw [wake_bad]
  rintro e w3 ⟨v3, rfl, _, b3⟩
  obtain ⟨o, cp, rfl⟩ := HO2.out.shape
  obtain ⟨b, f, rfl, _, _, _, hb, hc⟩ := (HO2.out.later b3).seg.has (show 1 < [wA, wB].length by decide)
  obtain ⟨d1, d2, d3, d4, d5⟩ := ch_cells hc 1 (by decide)
  have HB3 := Lib.hid (below_later HB2.out b3)
  clear hc b3
  simp only [List.length_cons, List.length_nil, Nat.zero_add, Nat.reduceAdd, Nat.one_mul, List.getElem_cons_succ, List.getElem_cons_zero, wB] at d1 d2 d3 d4 d5 ⊢
  go_wp2_with fail
  go_ret
  exact ⟨rfl, HB3.out⟩
end Go.Proofs.YtoajaacdhkknfaaDoor

