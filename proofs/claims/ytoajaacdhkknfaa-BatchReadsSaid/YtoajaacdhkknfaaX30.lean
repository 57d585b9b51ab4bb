/- BatchReads: the law. -/
import Derived.Test.YtoajaacdhkknfaaX29
import Derived.Test.YtoajaacdhkknfaaX22
namespace Go.Proofs.Ytoajaacdhkknfaa
open Go.RowKit Go.Proofs.Kit Go.Shelf
set_option maxRecDepth 100000 in
set_option maxHeartbeats 4000000 in
theorem reads9_true (s : ByteArray) (m : Int) (w : World) (hs : s.size ≤ 9223372036854775807) (hm : w.cell? ⟨0, 0, none⟩ = some (.int .i64 m)) :
    Calls Try.prog 5 #[.string s] w fun e w' => e = .returned (.bool true) ∧ Below w.heap.size w w' := by
  have hN : 0 < w.heap.size := World.block_lt_of_cell? _ _ hm
  obtain ⟨q, mq, eq⟩ := min5000 s.size
  have lq : q ≤ s.size := by omega
  have HS := Lib.hid (show (s.extract 0 q).size ≤ 5000 by rw [ByteArray.size_extract]; omega)
  have HM := Lib.hid (fun W (b : Below w.heap.size w W) => (b.cell (p := ⟨0, 0, none⟩) hN).trans hm)
  have HW := Lib.hid (wakes9_true m w hm)
  clear hm hN eq
  go_enter Try.func5, Try.ntmps5
  go_wp2_with fail
  refine HW.out.mono ?_
  rintro e w1 ⟨rfl, b1⟩
  have HB1 := Lib.hid b1
  clear b1 HW
  go_wp2_with fail
  have HRB := Lib.hid (fun W => rbRead_any (s.extract 0 q) HS.out W)
  obtain ⟨out, k, ee, hrd⟩ : ∃ out k ee, readS (bl (s.extract 0 q)) = (out, k, ee) := ⟨_, _, _, rfl⟩
  rw [hrd] at HRB
  refine (readC_any _ (by have := HS.out; omega) m _ (HM.out _ HB1.out)).mono ?_
  rw [hrd]
  rintro e w2 ⟨v2, rfl, o2, b2⟩
  have HB2 := Lib.hid (below_later HB1.out b2)
  have HO2 := Lib.hid o2
  clear b2 o2 hrd
  go_wp2_with fail
  refine (HRB.out _).mono ?_
  rintro e w3 ⟨v3, rfl, o3, b3⟩
  have HB3 := Lib.hid (below_later HB2.out b3)
  have HO3 := Lib.hid o3
  have HO2' := Lib.hid (HO2.out.later b3)
  clear b3 o3
  go_wp2_with fail
  refine (equalC_seg _ _ out out _ HO2'.out.seg HO3.out.seg).mono ?_
  rw [show decide (out = out) = true by simp]
  rintro e w4 ⟨rfl, g4⟩
  have HB4 := Lib.hid (below_later HB3.out g4.below)
  clear g4
  go_wp2_with fail
  go_ret
  exact ⟨rfl, HB4.out⟩
end Go.Proofs.Ytoajaacdhkknfaa

