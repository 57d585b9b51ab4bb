/- CodecApart: the law's walk. -/
import Derived.Test.YtdjcdhkdmgkdfaaD1
namespace Go.Proofs.Ytdjcdhkdmgkdfaa
open Go.RowKit Go.Proofs.Kit Go.Shelf

set_option maxHeartbeats 2000000 in
theorem apart_true (a b : Nat) (ha : a < 18446744073709551616) (hb : b < 18446744073709551616) (w : World) : Calls Try.prog 7 #[.int .u64 (a : Int), .int .u64 (b : Int)] w fun e w' => e = .returned (.bool true) ∧ Below w.heap.size w w' := by
  obtain ⟨A, hA⟩ : ∃ A, A = sept a := ⟨_, rfl⟩
  obtain ⟨B, hB⟩ : ∃ B, B = sept b := ⟨_, rfl⟩
  have a1 : 1 ≤ A.length := hA ▸ sept_pos a
  have a2 : A.length ≤ 10 := hA ▸ sept_ten ha
  have b2 : B.length ≤ 10 := hB ▸ sept_ten hb
  have hmono : a ≤ b → A.length ≤ B.length := fun h => by rw [hA, hB]; exact sept_mono h
  have HA := Lib.hid hA
  have HB := Lib.hid hB
  have HM := Lib.hid hmono
  clear hA hB hmono
  go_enter Try.func7, Try.ntmps7
  go_wp2_with fail
  refine (wakes_true _).mono ?_
  rintro e w1 ⟨rfl, B1⟩
  go_wp2_with fail
  refine (number_any a ha _).mono ?_
  rintro e w2 ⟨v2, rfl, o2, b2'⟩
  have B2 := B1.trans (b2'.mono B1.size)
  rw [← HA.out] at o2
  clear b2'
  go_wp2_with fail
  refine (number_any b hb _).mono ?_
  rintro e w3 ⟨v3, rfl, o3, b3⟩
  have B3 := B2.trans (b3.mono B2.size)
  rw [← HB.out] at o3
  have o2' := o2.later b3
  clear b3 o2 B1 B2
  have s2 := o2'.seg
  have s3 := o3.seg
  obtain ⟨p2, c2, rfl, _, _, _⟩ := s2.shape
  obtain ⟨p3, c3, rfl, hc3, hc3', _⟩ := s3.shape
  obtain ⟨n2, hn2⟩ : ∃ n, n = A.length := ⟨_, rfl⟩
  obtain ⟨n3, hn3⟩ : ∃ n, n = B.length := ⟨_, rfl⟩
  have HS2 := Lib.hid s2
  have HS3 := Lib.hid s3
  rw [← hn2] at a1 a2 HM HS2 ⊢
  rw [← hn3] at b2 HM HS3 hc3 ⊢
  have HN2 := Lib.hid hn2
  have HN3 := Lib.hid hn3
  clear s2 s3 o2' o3 hn2 hn3
  by_cases hle : n2 ≤ n3
  · have s4 : Seg .u8 w3 (.slice p3 n2 c3) (B.take n2) := by
      have h := HS3.out
      have e3 := HN3.out
      rw [e3] at h
      exact h.upto (by omega)
    have HS4 := Lib.hid s4
    clear s4
    go_wp2_with fail
    refine (equalb_seg _ _ _ _ _ HS2.out HS4.out).mono ?_
    rintro e w4 ⟨rfl, b4⟩
    have B4 := B3.trans (b4.mono B3.size)
    by_cases hab : a = b
    · have e1 : decide (A = B.take n2) = true := by
        rw [decide_eq_true_iff, HN2.out, HA.out, HB.out, hab]; simp
      have e2 : ((a : Int) == (b : Int)) = true := by simp; omega
      have hq : a ≤ b := by omega
      rw [e1]
      clear hab e1
      go_wp2_with fail
      go_ret
      exact ⟨rfl, B4⟩
    · have e1 : decide (A = B.take n2) = false := by
        rw [decide_eq_false_iff_not]
        intro e
        apply hab
        apply sept_apart
        rw [← HA.out, ← HB.out, ← HN2.out]
        exact e.symm
      have e2 : ((a : Int) == (b : Int)) = false := by simp; omega
      rw [e1]
      clear hab e1
      by_cases hlt : b < a
      · have h3 : decide ((b : Int) < (a : Int)) = true := by simpa using hlt
        go_wp2_with fail
        go_ret
        exact ⟨rfl, B4⟩
      · have h3 : decide ((b : Int) < (a : Int)) = false := by simp; omega
        go_wp2_with fail
        go_ret
        exact ⟨rfl, B4⟩
  · have hlt : b < a := by
      apply Classical.byContradiction
      intro h
      exact hle (HM.out (by omega))
    have e2 : ((a : Int) == (b : Int)) = false := by simp; omega
    have h3 : decide ((b : Int) < (a : Int)) = true := by simpa using hlt
    go_wp2_with fail
    go_ret
    exact ⟨rfl, B3⟩
end Go.Proofs.Ytdjcdhkdmgkdfaa
