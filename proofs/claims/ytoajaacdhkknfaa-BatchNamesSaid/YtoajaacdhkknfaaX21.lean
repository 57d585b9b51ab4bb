/- BatchNames: the law. -/
import Derived.Test.YtoajaacdhkknfaaX20
import Derived.Test.YtoajaacdhkknfaaX10
import Derived.BigQuiet
namespace Go.Proofs.Kit
open Go.RowKit
theorem allB_append (v : Bool) (s t : ByteArray) : allB v (s ++ t) = (allB v s && allB v t) := by simp [allB]
theorem nameB_no : nameB noB = false := by decide
theorem size_pos {s : ByteArray} (h : s ≠ noB) : 1 ≤ s.size := by
  rcases Nat.eq_zero_or_pos s.size with e | e
  · exact absurd (size_zero e) h
  · exact e
theorem noB_app (t : ByteArray) : noB ++ t = t := bl_inj (by simp)
theorem app_noB (t : ByteArray) : t ++ noB = t := bl_inj (by simp)
theorem name_both {s t : ByteArray} (hs : s ≠ noB) (ht : t ≠ noB) : nameB (s ++ t) = (decide (s.size + t.size ≤ 32) && (nameB s && nameB t)) := by
  have h1 := size_pos hs
  have h2 := size_pos ht
  have h3 : 1 ≤ s.size + t.size := by omega
  simp only [nameB, allB_append, ByteArray.size_append, decide_eq_true h1, decide_eq_true h2, decide_eq_true h3, Bool.true_and]
  by_cases h : s.size + t.size ≤ 32
  · simp only [decide_eq_true h, decide_eq_true (show s.size ≤ 32 by omega), decide_eq_true (show t.size ≤ 32 by omega), Bool.true_and]
  · simp only [decide_eq_false h, Bool.false_and]
theorem name_long {s : ByteArray} (h : 32 < s.size) : nameB s = false := by
  simp only [nameB, decide_eq_false (show ¬ s.size ≤ 32 by omega), Bool.and_false, Bool.false_and]
theorem names_law (s t : ByteArray) : nameB (s ++ t) = (decide (s.size + t.size ≤ 32) && (nameB s && nameB t || decide (s = noB) && nameB t || decide (t = noB) && nameB s)) := by
  by_cases h : s.size + t.size ≤ 32
  · by_cases hs : s = noB
    · subst hs
      rw [noB_app, nameB_no]
      simp [h]
    · by_cases ht : t = noB
      · subst ht
        rw [app_noB, nameB_no]
        simp [h, hs]
      · rw [name_both hs ht]
        simp [hs, ht]
  · rw [name_long (by rw [ByteArray.size_append]; omega), decide_eq_false h, Bool.false_and]
theorem name_value {s : ByteArray} (h : nameB s = true) : valueB s = true := by
  simp only [nameB, valueB, Bool.and_eq_true, decide_eq_true_eq, allB, List.all_eq_true] at h ⊢
  refine ⟨⟨by omega, by omega⟩, fun b hb => ?_⟩
  have := h.2 b hb
  rw [okN_key] at this
  rw [okN_val]
  rcases key_six b.toNat with ⟨_, h⟩ | ⟨_, h⟩ | ⟨_, h⟩ | ⟨h, _⟩ | ⟨h, _⟩ | ⟨h, _⟩ <;> rcases val_five b.toNat with ⟨g, _⟩ | ⟨_, g⟩ | ⟨_, g⟩ | ⟨_, g⟩ | ⟨_, g⟩ <;> first | exact g | omega | (rw [h] at this; cases this)
theorem name_right {s : ByteArray} (h : nameB s = true) : rightB ⟨1, s, noB, noB, noB⟩ = true := by
  simp [rightB, kindB, partOk, hasB, h]
theorem min40 (n : Nat) : ∃ q : Nat, min (n : Int) 40 = (q : Int) ∧ q = min n 40 := ⟨min n 40, by omega, rfl⟩
end Go.Proofs.Kit
namespace Go.Proofs.Ytoajaacdhkknfaa
open Go.RowKit Go.Proofs.Kit Go.Shelf
set_option hygiene false in
local macro "nm" : tactic => `(tactic| (go_wp2_with fail; repeat (first
  | (refine (HNS.out _).mono ?_; rintro e _ ⟨rfl, rfl⟩; go_wp2_with fail)
  | (refine (HNT.out _).mono ?_; rintro e _ ⟨rfl, rfl⟩; go_wp2_with fail)
  | (refine (HNB.out _).mono ?_; rintro e _ ⟨rfl, rfl⟩; go_wp2_with fail)
  | (refine (HVS.out _).mono ?_; rw [HV.out (by trivial)]; rintro e _ ⟨rfl, rfl⟩; go_wp2_with fail)
  | (refine (HCS.out _).mono ?_; rw [HC.out (by trivial), show codeC true = 0 from rfl]; rintro e w5 ⟨rfl, b5⟩; go_wp2_with fail))))
set_option maxRecDepth 100000 in
set_option maxHeartbeats 4000000 in
theorem names_true (s t : ByteArray) (hs : s.size ≤ 9223372036854775807) (ht : t.size ≤ 9223372036854775807) (m : Int) (w : World) (hm : w.cell? ⟨0, 0, none⟩ = some (.int .i64 m)) :
    Calls Try.prog 7 #[.string s, .string t] w fun e w' => e = .returned (.bool true) ∧ Below w.heap.size w w' := by
  obtain ⟨qa, ma, ea⟩ := min40 s.size
  obtain ⟨qb, mb, eb⟩ := min40 t.size
  have la : qa ≤ s.size := by omega
  have lb : qb ≤ t.size := by omega
  have EA := Lib.hid ea
  have EB := Lib.hid eb
  clear ea eb
  go_enter Try.func7, Try.ntmps7
  go_wp2_with fail
  refine (wakes9_true m _ hm).mono ?_
  rintro e w1 ⟨rfl, b1⟩
  have HB1 := Lib.hid b1
  clear b1 hm
  go_wp2_with fail
  go_quiet (fail)
  obtain ⟨S, hS⟩ : ∃ S, S = s.extract 0 qa := ⟨_, rfl⟩
  obtain ⟨T, hT⟩ : ∃ T, T = t.extract 0 qb := ⟨_, rfl⟩
  have sS : S.size ≤ 40 := by rw [hS, ByteArray.size_extract]; have := EA.out; omega
  have sT : T.size ≤ 40 := by rw [hT, ByteArray.size_extract]; have := EB.out; omega
  rw [← hS, ← hT]
  clear hS hT la lb ma mb hs ht EA EB
  have s1 : S.size ≤ 9223372036854775807 := by omega
  have s2 : T.size ≤ 9223372036854775807 := by omega
  have s3 : (S ++ T).size ≤ 9223372036854775807 := by rw [ByteArray.size_append]; omega
  have l1 : (S.size : Int) ≤ 40 := by omega
  have l2 : (T.size : Int) ≤ 40 := by omega
  have NS := fun W => bname_any S s1 W
  have NT := fun W => bname_any T s2 W
  have NB := fun W => bname_any (S ++ T) s3 W
  have VS := fun W => bvalue_any S s1 W
  have CS := fun W => check_any ⟨1, S, noB, noB, noB⟩ ⟨s1, (by decide : noB.size ≤ _), (by decide : noB.size ≤ _), (by decide : noB.size ≤ _)⟩ W
  have HV := Lib.hid (fun h : nameB S = true => name_value h)
  have HC := Lib.hid (fun h : nameB S = true => name_right h)
  obtain ⟨x, hx⟩ : ∃ x, x = nameB S := ⟨_, rfl⟩
  obtain ⟨y, hy⟩ : ∃ y, y = nameB T := ⟨_, rfl⟩
  obtain ⟨z, hz⟩ : ∃ z, z = nameB (S ++ T) := ⟨_, rfl⟩
  rw [← hx] at NS HV HC
  rw [← hy] at NT
  rw [← hz] at NB
  have HX := Lib.hid hx
  have HY := Lib.hid hy
  have HZ := Lib.hid hz
  have G1 := Lib.hid (below_drN HB1.out nq)
  have HNS := Lib.hid NS
  have HNT := Lib.hid NT
  have HNB := Lib.hid NB
  have HVS := Lib.hid VS
  have HCS := Lib.hid CS
  have hrel := names_law S T
  rw [← hx, ← hy, ← hz] at hrel
  have hex : S = noB → x = false := fun h => by rw [hx, h]; exact nameB_no
  have hey : T = noB → y = false := fun h => by rw [hy, h]; exact nameB_no
  clear hx hy hz NS NT NB VS CS s1 s2 s3
  by_cases hle : S.size + T.size ≤ 32
  · have i1 : (S.size : Int) + T.size ≤ 32 := by omega
    rw [decide_eq_true hle] at hrel
    by_cases hs : S = noB
    · have e1 : S.toList = [] := by rw [hs]; decide +kernel
      rw [decide_eq_true hs, hex hs] at hrel
      obtain rfl := hex hs
      clear hs hex
      by_cases ht : T = noB
      · have e2 : T.toList = [] := by rw [ht]; decide +kernel
        rw [decide_eq_true ht, hey ht] at hrel
        obtain rfl := hey ht
        clear ht hey
        simp only [Bool.and_false, Bool.or_false] at hrel
        subst hrel
        nm
        go_ret
        exact ⟨rfl, G1.out⟩
      · obtain ⟨n1, n2, n3⟩ := ne_empty ht
        rw [decide_eq_false ht] at hrel
        clear ht hey
        simp only [Bool.and_false, Bool.false_and, Bool.true_and, Bool.or_false, Bool.false_or] at hrel
        subst hrel
        cases z <;> (nm; go_ret; exact ⟨rfl, G1.out⟩)
    · obtain ⟨n1, n2, n3⟩ := ne_empty hs
      rw [decide_eq_false hs] at hrel
      clear hs hex
      by_cases ht : T = noB
      · have e2 : T.toList = [] := by rw [ht]; decide +kernel
        rw [decide_eq_true ht, hey ht] at hrel
        obtain rfl := hey ht
        clear ht hey
        simp only [Bool.and_false, Bool.true_and, Bool.or_false, Bool.false_or] at hrel
        subst hrel
        cases z
        · nm
          go_ret
          exact ⟨rfl, G1.out⟩
        · nm
          go_ret
          exact ⟨rfl, below_later G1.out b5⟩
      · obtain ⟨n4, n5, n6⟩ := ne_empty ht
        rw [decide_eq_false ht] at hrel
        clear ht hey
        simp only [Bool.false_and, Bool.true_and, Bool.or_false] at hrel
        subst hrel
        cases x
        · cases y <;> (nm; go_ret; exact ⟨rfl, G1.out⟩)
        · cases y <;> (nm; go_ret; exact ⟨rfl, below_later G1.out b5⟩)
  · have i1 : (32 : Int) < (S.size : Int) + T.size := by omega
    rw [decide_eq_false hle, Bool.false_and] at hrel
    subst hrel
    clear hex hey
    cases x
    · cases y <;> (nm; go_ret; exact ⟨rfl, G1.out⟩)
    · cases y <;> (nm; go_ret; exact ⟨rfl, below_later G1.out b5⟩)
end Go.Proofs.Ytoajaacdhkknfaa

