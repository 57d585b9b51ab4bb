/- BatchBack: the law. -/
import Derived.Test.YtoajaacdhkknfaaX20
import Derived.Test.YtoajaacdhkknfaaX11
import Derived.Test.YtoajaacdhkknfaaX10
import Derived.Test.YtoajaacdhkknfaaX13
import Derived.BigQuiet
namespace Go.Proofs.Kit
open Go.RowKit
theorem batchE_right {l : List Chg} (h : l.length ≤ 64) (hr : ∀ c ∈ l, rightB c = true) : batchE l = 0 := by
  have := goodN_all (l := l) fun i hi => hr _ (List.getElem_mem hi)
  rw [batchE, if_neg (by omega), if_neg (by omega)]
theorem right_fits {c : Chg} (h : rightB c = true) : Fits c := by
  obtain ⟨a, b, d, e⟩ := sizes_of h
  exact ⟨by omega, by omega, by omega, by omega⟩
theorem min5000 (n : Nat) : ∃ q : Nat, min (n : Int) 5000 = (q : Int) ∧ q = min n 5000 := ⟨min n 5000, by omega, rfl⟩
end Go.Proofs.Kit
namespace Go.Proofs.Ytoajaacdhkknfaa
open Go.RowKit Go.Proofs.Kit Go.Shelf
set_option hygiene false in
local macro "tail9" : tactic => `(tactic| (
  obtain ⟨out, k, ee, hrd⟩ : ∃ out k ee, readS (bl (s.extract 0 q)) = (out, k, ee) := ⟨_, _, _, rfl⟩
  have hfin := @readS_ok (bl (s.extract 0 q)) out k
  have hno := @readS_no (bl (s.extract 0 q)) out k ee hrd
  refine (readC_any _ (by have := HS.out; omega) m _ (HM.out _ HBt.out)).mono ?_
  rw [hrd]
  rintro e w6 ⟨v6, rfl, o6, b6⟩
  have HB6 := Lib.hid (below_later HBt.out b6)
  have HO6 := Lib.hid o6
  obtain ⟨ob, cb, rfl⟩ := o6.shape
  clear b6 o6
  by_cases he : ee = 0
  · subst he
    obtain ⟨t1, t2, t3, t4⟩ := hfin hrd
    have HT2 := Lib.hid (fun x hx => right_fits (t2 x hx))
    have HT1 := Lib.hid (show textO out = s.extract 0 q by rw [textO, if_pos (batchE_right t4 t2), t1, lb_bl])
    have HT4 := Lib.hid (batchE_right t4 t2)
    subst t3
    clear t1 t2 hfin hno hrd
    go_wp2_with fail
    refine (text_any _ out _ HO6.out.seg HT2.out).mono ?_
    rw [HT1.out, HT4.out]
    rintro e w7 ⟨rfl, b7⟩
    have HB7 := Lib.hid (below_later HB6.out b7)
    clear b7
    go_wp2_with fail
    go_ret
    exact ⟨rfl, HB7.out⟩
  · have e0 : (ee == 0) = false := by simpa using he
    obtain rfl := hno he
    clear hfin hno hrd
    go_wp2_with fail
    go_ret
    exact ⟨rfl, HB6.out⟩))
set_option maxRecDepth 100000 in
set_option maxHeartbeats 4000000 in
theorem back9_true (o : Option Addr) (n c : Nat) (X : List Chg) (s : ByteArray) (m : Int) (w : World) (hl : X.length = n) (hc : n ≤ c) (hmx : c ≤ 9223372036854775807) (h : ArgE chgE w o c X) (hf : ∀ x ∈ X, Fits x) (hs : s.size ≤ 9223372036854775807)
    (hm : w.cell? ⟨0, 0, none⟩ = some (.int .i64 m)) :
    Calls Try.prog 6 #[.slice o n c, .string s] w fun e w' => e = .returned (.bool true) ∧ Below w.heap.size w w' := by
  have hN : 0 < w.heap.size := World.block_lt_of_cell? _ _ hm
  obtain ⟨q, mq, eq⟩ := min5000 s.size
  have lq : q ≤ s.size := by omega
  have HS := Lib.hid (show (s.extract 0 q).size ≤ 5000 by rw [ByteArray.size_extract]; omega)
  have HM := Lib.hid (fun W (b : Below w.heap.size w W) => (b.cell (p := ⟨0, 0, none⟩) hN).trans hm)
  have HW := Lib.hid (wakes9_true m w hm)
  have HF := Lib.hid (fun W (b : Below w.heap.size w W) => few9_any o n c X W hl hc hmx (h.later b) hf)
  clear hm hN h hf hl eq
  go_enter Try.func6, Try.ntmps6
  go_wp2_with fail
  refine HW.out.mono ?_
  rintro e w1 ⟨rfl, b1⟩
  have HB1 := Lib.hid b1
  clear b1
  go_wp2_with fail
  refine (HF.out _ HB1.out).mono ?_
  rintro e w2 ⟨v, rfl, o2, b2⟩
  have hfit : ∀ x ∈ fewC X, Fits x := fun x hx => (fewC_fits x hx).1
  obtain ⟨L, hL⟩ : ∃ L, L = fewC X := ⟨_, rfl⟩
  rw [← hL] at o2 hfit
  have HO2 := Lib.hid o2
  have HB2 := Lib.hid (below_later HB1.out b2)
  have HFT := Lib.hid hfit
  clear o2 b2 hfit hL
  go_wp2_with fail
  refine (text_any _ L _ HO2.out.seg HFT.out).mono ?_
  rintro e w3 ⟨rfl, b3⟩
  have HB3 := Lib.hid (below_later HB2.out b3)
  have HO3 := Lib.hid (HO2.out.later b3)
  clear b3
  by_cases hE : batchE L = 0
  · obtain ⟨h64, hR⟩ := batchE_zero hE
    have hT : textO L = lb (textL L) := by rw [textO, if_pos hE]
    rw [hE, hT]
    have hsz := text_len hR
    have hRS := readS_text hR h64
    have HRS := Lib.hid hRS
    have HSZ := Lib.hid (show (lb (textL L)).size ≤ 100000 by rw [lb_size]; omega)
    clear hT hE hsz hRS hR
    obtain ⟨o3, c3, rfl⟩ := HO3.out.shape
    go_wp2_with fail
    refine (readC_any _ HSZ.out m _ (HM.out _ HB3.out)).mono ?_
    rw [bl_lb, HRS.out]
    rintro e w4 ⟨v4, rfl, o4, b4⟩
    have HB4 := Lib.hid (below_later HB3.out b4)
    have HO4 := Lib.hid o4
    have HO3' := Lib.hid (HO3.out.later b4)
    clear b4 o4
    go_wp2_with fail
    refine (equalC_seg _ _ L L _ HO4.out.seg HO3'.out.seg).mono ?_
    rw [show decide (L = L) = true by simp]
    rintro e w5 ⟨rfl, g5⟩
    have HB5 := Lib.hid (below_later HB4.out g5.below)
    clear g5
    go_wp2_with fail
    have HBt := HB5
    tail9
  · have hE' : (batchE L == 0) = false := by simpa using hE
    obtain ⟨eL, heL⟩ : ∃ e, e = batchE L := ⟨_, rfl⟩
    rw [← heL] at hE hE' ⊢
    clear heL
    go_wp2_with fail
    have HBt := HB3
    tail9
end Go.Proofs.Ytoajaacdhkknfaa

