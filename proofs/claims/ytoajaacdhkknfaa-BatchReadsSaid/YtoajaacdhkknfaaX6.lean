/- The reference's Right and Line. -/
import Derived.Test.YtoajaacdhkknfaaX4
import Derived.Deep.DeepCutAuto
namespace Go.Proofs.Kit
open Go.RowKit
theorem ne_empty {s : ByteArray} (h : s ≠ noB) : s.toList.isEmpty = false ∧ s.toList ≠ [] ∧ (s.toList == []) = false := by
  have hl : s.toList ≠ [] := by
    rw [Lib.toList_data]
    exact fun e => h (bl_inj e)
  refine ⟨?_, hl, ?_⟩
  · cases e : s.toList with
    | nil => exact absurd e hl
    | cons a b => rfl
  · simpa using hl
theorem right_parts (c : Chg) : rightB c = (kindB c.kind && ((nameB c.key && partOk c.kind 1 c.name) && (partOk c.kind 2 c.val && partOk c.kind 3 c.to))) := by
  have : partOk c.kind 0 c.key = nameB c.key := by simp [partOk, hasB]
  rw [rightB, this, Bool.and_assoc]
end Go.Proofs.Kit
namespace Go.Proofs.Ytoajaacdhkknfaa
open Go.RowKit Go.Proofs.Kit Go.Shelf
set_option maxRecDepth 100000 in
set_option maxHeartbeats 8000000 in
theorem rright_any (k : Int) (key name val dst : ByteArray) (h0 : key.size ≤ 9223372036854775807) (h1 : name.size ≤ 9223372036854775807) (h2 : val.size ≤ 9223372036854775807) (h3 : dst.size ≤ 9223372036854775807) (w : World) :
    Calls Try.prog 10 #[CV ⟨k, key, name, val, dst⟩] w fun e w' => e = .returned (.bool (rightB ⟨k, key, name, val, dst⟩)) ∧ Gr w w' := by
  rw [right_parts]
  have HK := Lib.hid (fun W => rbName_any key h0 W)
  have HN := Lib.hid (fun W => rbName_any name h1 W)
  have HV := Lib.hid (fun W => rbValue_any val h2 W)
  have HT := Lib.hid (fun W => rbName_any dst h3 W)
  simp only
  have P1 := Lib.hid (show partOk k 1 name = if 3 ≤ k then nameB name else decide (name = noB) by simp [partOk, hasB])
  have P2 := Lib.hid (show partOk k 2 val = if k = 5 then valueB val else decide (val = noB) by simp [partOk, hasB])
  have P3 := Lib.hid (show partOk k 3 dst = if 7 ≤ k then nameB dst else decide (dst = noB) by simp [partOk, hasB])
  generalize nameB key = bk at HK ⊢
  generalize nameB name = bn at HN P1
  generalize valueB val = bv at HV P2
  generalize nameB dst = bt at HT P3
  generalize partOk k 1 name = p1 at P1 ⊢
  generalize partOk k 2 val = p2 at P2 ⊢
  generalize partOk k 3 dst = p3 at P3 ⊢
  clear h0 h1 h2 h3
  go_enter Try.func10, Try.ntmps10
  go_upto_region 1 with (fail)
  obtain ⟨W1, hW1⟩ : ∃ W1, W1 = w.alloc (.cells #[.int .i64 k, .string key, .string name, .string val, .string dst] 27) := ⟨_, rfl⟩
  have b1 : Blk W1 w.heap.size #[.int .i64 k, .string key, .string name, .string val, .string dst] 27 := by rw [hW1]; exact Blk.new _ _ _
  have g1 : Gr w W1 := by rw [hW1]; exact Gr.alloc _ _
  rw [← hW1]
  clear hW1
  have G1 := Lib.hid g1
  obtain ⟨c0, c1, c2, c3, c4⟩ : W1.cell? ⟨w.heap.size, 0, none⟩ = some (.int .i64 k) ∧ W1.cell? ⟨w.heap.size, 1, none⟩ = some (.string key) ∧ W1.cell? ⟨w.heap.size, 2, none⟩ = some (.string name) ∧ W1.cell? ⟨w.heap.size, 3, none⟩ = some (.string val) ∧ W1.cell? ⟨w.heap.size, 4, none⟩ = some (.string dst) := ⟨b1.cell 0, b1.cell 1, b1.cell 2, b1.cell 3, b1.cell 4⟩
  have lb1 := b1.lt
  clear b1 g1
  go_cut [3] (fun s3 wc => s3 = .bool (bk && p1) ∧ wc = W1)
  case first =>
    go_wp2_with fail
    refine (HK.out _).mono ?_
    rintro e w' ⟨rfl, rfl⟩
    cases bk
    · go_wp2
      go_meet
      exact ⟨rfl, rfl⟩
    · by_cases h3 : 3 ≤ k
      · have E := P1.out
        rw [if_pos h3] at E
        have HE := Lib.hid E
        have d1 : decide (k ≤ 2) = false := by simp; omega
        have d2 : decide (2 < k) = true := by simp; omega
        clear E h3
        go_wp2_with fail
        refine (HN.out _).mono ?_
        rintro e w' ⟨rfl, rfl⟩
        go_wp2
        go_meet
        exact ⟨by rw [HE.out]; rfl, rfl⟩
      · have E := P1.out
        rw [if_neg h3] at E
        have d1 : decide (k ≤ 2) = true := by simp; omega
        have d2 : decide (2 < k) = false := by simp; omega
        clear h3
        by_cases he : name = noB
        · rw [decide_eq_true he] at E
          subst he
          have HE := Lib.hid E
          clear E
          go_wp2
          go_meet
          exact ⟨by rw [HE.out]; rfl, rfl⟩
        · rw [decide_eq_false he] at E
          obtain ⟨n1, n2, n3⟩ := ne_empty he
          have HE := Lib.hid E
          clear E he
          go_wp2
          go_meet
          exact ⟨by rw [HE.out]; rfl, rfl⟩
  case rest =>
    obtain ⟨rfl, rfl⟩ := hcut
    obtain ⟨W1, rfl⟩ : ∃ x : World, x = wc := ⟨_, rfl⟩
    go_upto_region 2 with (fail)
    go_cut [4] (fun s4 wc => s4 = .bool p2 ∧ wc = W1)
    case first =>
      by_cases h5 : k = 5
      · have E := P2.out
        rw [if_pos h5] at E
        have HE := Lib.hid E
        have d1 : (k == 5) = true := by simpa using h5
        have d2 : (k != 5) = false := by simpa using h5
        clear E h5
        go_wp2_with fail
        refine (HV.out _).mono ?_
        rintro e w' ⟨rfl, rfl⟩
        cases bv
        all_goals
          go_wp2
          go_meet
          exact ⟨by rw [HE.out], rfl⟩
      · have E := P2.out
        rw [if_neg h5] at E
        have d1 : (k == 5) = false := by simpa using h5
        have d2 : (k != 5) = true := by simpa using h5
        clear h5
        by_cases he : val = noB
        · rw [decide_eq_true he] at E
          subst he
          have HE := Lib.hid E
          clear E
          go_wp2
          go_meet
          exact ⟨by rw [HE.out], rfl⟩
        · rw [decide_eq_false he] at E
          obtain ⟨n1, n2, n3⟩ := ne_empty he
          have HE := Lib.hid E
          clear E he
          go_wp2
          go_meet
          exact ⟨by rw [HE.out], rfl⟩
    case rest =>
      obtain ⟨rfl, rfl⟩ := hcut
      obtain ⟨W1, rfl⟩ : ∃ x : World, x = wc := ⟨_, rfl⟩
      go_upto_region 3 with (fail)
      go_cut [5] (fun s5 wc => s5 = .bool p3 ∧ wc = W1)
      case first =>
        by_cases h7 : 7 ≤ k
        · have E := P3.out
          rw [if_pos h7] at E
          have HE := Lib.hid E
          have d1 : decide (7 ≤ k) = true := by simpa using h7
          have d2 : decide (k < 7) = false := by simpa using h7
          clear E h7
          go_wp2_with fail
          refine (HT.out _).mono ?_
          rintro e w' ⟨rfl, rfl⟩
          cases bt
          all_goals
            go_wp2
            go_meet
            exact ⟨by rw [HE.out], rfl⟩
        · have E := P3.out
          rw [if_neg h7] at E
          have d1 : decide (7 ≤ k) = false := by simpa using h7
          have d2 : decide (k < 7) = true := by simp; omega
          clear h7
          by_cases he : dst = noB
          · rw [decide_eq_true he] at E
            subst he
            have HE := Lib.hid E
            clear E
            go_wp2
            go_meet
            exact ⟨by rw [HE.out], rfl⟩
          · rw [decide_eq_false he] at E
            obtain ⟨n1, n2, n3⟩ := ne_empty he
            have HE := Lib.hid E
            clear E he
            go_wp2
            go_meet
            exact ⟨by rw [HE.out], rfl⟩
      case rest =>
        obtain ⟨rfl, rfl⟩ := hcut
        have HK8 := Lib.hid (show kindB k = (decide (1 ≤ k) && decide (k ≤ 8)) from rfl)
        by_cases k1 : 1 ≤ k
        · have d1 : decide (1 ≤ k) = true := by simpa using k1
          by_cases k8 : k ≤ 8
          · have d2 : decide (k ≤ 8) = true := by simpa using k8
            have HQ := Lib.hid (show kindB k = true by simp [kindB, k1, k8])
            clear k1 k8
            obtain ⟨b1, hb1⟩ : ∃ b, b = (bk && p1) := ⟨_, rfl⟩
            rw [← hb1]
            have HB1 := Lib.hid hb1
            clear hb1
            cases b1 <;> cases p2
            all_goals
              go_wp2
              go_ret
              exact ⟨by rw [HQ.out, ← HB1.out]; rfl, G1.out⟩
          · have d2 : decide (k ≤ 8) = false := by simpa using k8
            have HQ := Lib.hid (show kindB k = false by simp [kindB, k8])
            clear k1 k8
            go_wp2
            go_ret
            exact ⟨by rw [HQ.out]; rfl, G1.out⟩
        · have d1 : decide (1 ≤ k) = false := by simpa using k1
          have HQ := Lib.hid (show kindB k = false by simp [kindB, k1])
          clear k1
          go_wp2
          go_ret
          exact ⟨by rw [HQ.out]; rfl, G1.out⟩
end Go.Proofs.Ytoajaacdhkknfaa

