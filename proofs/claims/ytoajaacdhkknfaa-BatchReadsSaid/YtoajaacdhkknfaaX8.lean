/- The reference's Line. -/
import Derived.Test.YtoajaacdhkknfaaX6
namespace Go.Proofs.Kit
open Go.RowKit
theorem ret_s {a b : ByteArray} (h : a = b) : Ending.returned (.string a) = .returned (.string b) := by rw [h]
theorem name_size {s : ByteArray} (h : nameB s = true) : s.size ≤ 32 := by simp [nameB] at h; omega
theorem value_size {s : ByteArray} (h : valueB s = true) : s.size ≤ 40 := by simp [valueB] at h; omega
theorem part_size {k : Int} {p : Nat} {s : ByteArray} (h : partOk k p s = true) : s.size ≤ 40 := by
  unfold partOk at h
  split at h
  · split at h
    · exact value_size h
    · have := name_size h; omega
  · have : s = noB := by simpa using h
    subst this
    decide
theorem sizes_of {c : Chg} (h : rightB c = true) : c.key.size ≤ 40 ∧ c.name.size ≤ 40 ∧ c.val.size ≤ 40 ∧ c.to.size ≤ 40 := by
  simp only [rightB, Bool.and_eq_true] at h
  exact ⟨part_size h.2.1, part_size h.2.2.1, part_size h.2.2.2.1, part_size h.2.2.2.2⟩
theorem word_len (k : Nat) : (wordN k).length ≤ 7 := by unfold wordN; split <;> decide
end Go.Proofs.Kit
namespace Go.Proofs.Ytoajaacdhkknfaa
open Go.RowKit Go.Proofs.Kit Go.Shelf
set_option maxRecDepth 100000 in
set_option maxHeartbeats 8000000 in
theorem rline_any (k : Nat) (key name val dst : ByteArray) (h1 : 1 ≤ k) (h8 : k ≤ 8) (hr : rightB ⟨k, key, name, val, dst⟩ = true) (w : World) :
    Calls Try.prog 13 #[CV ⟨k, key, name, val, dst⟩] w fun e w' => e = .returned (.string (lineB ⟨k, key, name, val, dst⟩)) ∧ Gr w w' := by
  obtain ⟨s1, s2, s3, s4⟩ := sizes_of hr
  simp only at s1 s2 s3 s4
  clear hr
  have hix : ∀ w, (Instr.index 56 (.agg #[.string ⟨#[]⟩, .string (lb (wordN 1)), .string (lb (wordN 2)), .string (lb (wordN 3)), .string (lb (wordN 4)), .string (lb (wordN 5)), .string (lb (wordN 6)), .string (lb (wordN 7)), .string (lb (wordN 8))]) (.int .i64 (k : Int))).run Try.prog w = .ok (.string (lb (wordN k))) w := fun w => by
    rcases eight h1 h8 with rfl | rfl | rfl | rfl | rfl | rfl | rfl | rfl <;> kernel_rfl
  obtain ⟨u, hu⟩ : ∃ u, u = lb (wordN k) := ⟨_, rfl⟩
  rw [← hu] at hix
  simp only [lb, wordN] at hix
  have HU := Lib.hid hu
  have hus : u.size ≤ 7 := by rw [hu, lb_size]; exact word_len k
  have H18 := Lib.hid (And.intro h1 h8)
  have hk0 : (0 : Int) ≤ (k : Int) := by omega
  have hk9 : (k : Int) < 9 := by omega
  clear hu h1 h8
  have HG : Hid (lineL ⟨k, key, name, val, dst⟩ = wordN k ++ 32 :: bl key ++ (if 3 ≤ (k : Int) then 32 :: bl name else []) ++ (if (k : Int) = 5 then 32 :: 34 :: bl val ++ [34] else []) ++ (if 7 ≤ (k : Int) then 32 :: bl dst else [])) := Lib.hid (by simp [lineL])
  have hcl : ((k : Int) ≤ 2) ∨ (3 ≤ (k : Int) ∧ (k : Int) ≠ 5 ∧ (k : Int) < 7) ∨ ((k : Int) = 5) ∨ (7 ≤ (k : Int)) := by omega
  rcases hcl with hc | hc | hc | hc
  · have hg := HG.out
    rw [if_neg (by omega), if_neg (by omega), if_neg (by omega)] at hg
    have d2 : decide (2 < (k : Int)) = false := by simp; omega
    have d5 : ((k : Int) == 5) = false := by simp; omega
    have d7 : decide (7 ≤ (k : Int)) = false := by simp; omega
    have HG := Lib.hid hg
    clear hc hg
    go_enter Try.func13, Try.ntmps13
    go_wp2
    go_quiet (fail)
    go_wp2
    go_ret
    exact ⟨ret_s (bl_inj (by rw [lineB, bl_lb, HG.out, HU.out]; simp)), (Gr.alloc _ _).trans (Gr.drewN _ _)⟩
  · have hg := HG.out
    rw [if_pos (by omega), if_neg (by omega), if_neg (by omega)] at hg
    have d2 : decide (2 < (k : Int)) = true := by simp; omega
    have d5 : ((k : Int) == 5) = false := by simp; omega
    have d7 : decide (7 ≤ (k : Int)) = false := by simp; omega
    have HG := Lib.hid hg
    clear hc hg
    go_enter Try.func13, Try.ntmps13
    go_wp2
    go_quiet (fail)
    go_wp2
    go_ret
    exact ⟨ret_s (bl_inj (by rw [lineB, bl_lb, HG.out, HU.out]; simp)), (Gr.alloc _ _).trans (Gr.drewN _ _)⟩
  · have hg := HG.out
    rw [if_pos (by omega), if_pos (by omega), if_neg (by omega)] at hg
    have d2 : decide (2 < (k : Int)) = true := by simp; omega
    have d5 : ((k : Int) == 5) = true := by simp; omega
    have d7 : decide (7 ≤ (k : Int)) = false := by simp; omega
    have HG := Lib.hid hg
    clear hc hg
    go_enter Try.func13, Try.ntmps13
    go_wp2
    go_quiet (fail)
    go_wp2
    go_ret
    exact ⟨ret_s (bl_inj (by rw [lineB, bl_lb, HG.out, HU.out]; simp)), (Gr.alloc _ _).trans (Gr.drewN _ _)⟩
  · have hg := HG.out
    rw [if_pos (by omega), if_neg (by omega), if_pos (by omega)] at hg
    have d2 : decide (2 < (k : Int)) = true := by simp; omega
    have d5 : ((k : Int) == 5) = false := by simp; omega
    have d7 : decide (7 ≤ (k : Int)) = true := by simp; omega
    have HG := Lib.hid hg
    clear hc hg
    go_enter Try.func13, Try.ntmps13
    go_wp2
    go_quiet (fail)
    go_wp2
    go_ret
    exact ⟨ret_s (bl_inj (by rw [lineB, bl_lb, HG.out, HU.out]; simp)), (Gr.alloc _ _).trans (Gr.drewN _ _)⟩
end Go.Proofs.Ytoajaacdhkknfaa

