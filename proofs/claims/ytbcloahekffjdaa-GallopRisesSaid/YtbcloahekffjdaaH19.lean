/- Parting a part in equal and greater. -/
import Derived.Test.YtbcloahekffjdaaH15
import Derived.Test.YtbcloahekffjdaaH18
import Derived.Deep.CutBlock
namespace Go.Proofs.Ytbcloahekffjdaa
open Go.RowKit Go.Proofs.Kit
/-- What parting in equal and greater comes to. -/
def PeP (B g n cap a b : Nat) (p : Int) (d0 : Array Int) (w0 : World) (e : Ending) (w' : World) : Prop :=
  ∃ (m : Nat) (d : Array Int), e = .returned (.int .i64 (m : Int)) ∧ a < m ∧ m ≤ b ∧ Sort.PermIn a b d0 d ∧ (∀ t, a ≤ t → t < m → ¬ p < d[t]!) ∧ (∀ t, m ≤ t → t < b → p < d[t]!) ∧ SRt B g n cap w0 d w'
set_option maxHeartbeats 8000000 in
theorem partEq_any (B g n cap a b pv : Nat) (d0 : Array Int) (w0 w : World) (h : SRt B g n cap w0 d0 w) (ha : a ≤ pv) (hpb : pv < b) (hb : b ≤ n) (hn : n ≤ 1000000) :
    Calls Try.prog 54 #[.slice (some ⟨g, 0, none⟩) n cap, .int .i64 a, .int .i64 b, .int .i64 pv] w (PeP B g n cap a b d0[pv]! d0 w0) := by
  have HK := Lib.hid h
  have hsz : b ≤ d0.size := by rw [h.len]; exact hb
  have hp0 := PT.start (P := PNg d0[pv]!) ha hpb hsz
  obtain ⟨p, hp⟩ : ∃ p, p = d0[pv]! := ⟨_, rfl⟩
  rw [← hp] at hp0 ⊢
  have HP0 := Lib.hid hp0
  clear h hp0 hp
  go_enter Try.func54, Try.ntmps54
  go_upto_region 1 with fail
  go_cut [8] from 11 to 24 (fun s wx => s = .int .i64 0 ∧ Hid (SRt B g n cap w0 (Sort.swp d0 a pv) wx))
  case first =>
    have hg := HK.out.lt
    have d1 := HK.out.cell (i := a) (by omega)
    have d2 := HK.out.cell (i := pv) (by omega)
    have f1 := HK.out.frozen (i := a) (by omega)
    have f2 := HK.out.frozen (i := pv) (by omega)
    obtain ⟨x, hx⟩ : ∃ x, x = d0[a]! := ⟨_, rfl⟩
    obtain ⟨y, hy⟩ : ∃ y, y = d0[pv]! := ⟨_, rfl⟩
    rw [← hx] at d1
    rw [← hy] at d2
    have HX := Lib.hid hx
    have HY := Lib.hid hy
    clear hx hy
    by_cases e : pv = a
    · subst e
      clear d1 f1
      go_wp2
      go_region
      all_goals
        go_wp2
        go_meet
        exact ⟨rfl, Lib.hid (HK.out.swpN (by omega) (by omega) HY.out HY.out _)⟩
    · have hne : a ≠ pv := fun h => e h.symm
      go_wp2
      go_region
      all_goals
        go_wp2
        go_meet
        exact ⟨rfl, Lib.hid (HK.out.swpN (by omega) (by omega) HX.out HY.out _)⟩
  case rest =>
    obtain ⟨rfl, HK1⟩ := hcut
    have hb1 : (1 : Int) ≤ (b : Int) := by omega
    have hbb : (b : Int) - 1 = ((b - 1 : Nat) : Int) := by omega
    go_wp2
    go_loopw [9, 10] (fun s v wr => ∃ (i j : Nat) (d : Array Int), s = .int .i64 (i : Int) ∧ v = .int .i64 (j : Int) ∧ Hid (PT (PNg p) a b p d0 i j d) ∧ Hid (SRt B g n cap w0 d wr)) (fun s v _ => (intOf v + 1 - intOf s).toNat)
    case atStart => exact ⟨a + 1, b - 1, _, by go_num, by first | rfl | rw [hbb], HP0, HK1⟩
    case round =>
      obtain ⟨i1, j1, d, rfl, rfl, HP, HK2⟩ := hrel
      clear HK HK1 HP0
      have HK := HK2
      clear HK2 hbb
      have hjb := HP.out.jb
      have hai := HP.out.ai
      have hib := HP.out.ib
      go_upto_block 2 with fail
      go_cut [9] from 29 to 45 (fun s wx => ∃ i : Nat, s = .int .i64 (i : Int) ∧ i1 ≤ i ∧ Hid (PT (PNg p) a b p d0 i j1 d) ∧ Hid (SRt B g n cap w0 d wx) ∧ Hid (j1 < i ∨ ¬ (PNg p) d[i]!))
      case first =>
        go_wp2
        go_loopw [9] (fun s wr => ∃ i : Nat, s = .int .i64 (i : Int) ∧ i1 ≤ i ∧ i ≤ b ∧ a + 1 ≤ i ∧ Hid (PT (PNg p) a b p d0 i j1 d) ∧ Hid (SRt B g n cap w0 d wr)) (fun s _ => b - (intOf s).toNat)
        case atStart => exact ⟨_, rfl, by omega, HP.out.ib, HP.out.ai, HP, HK⟩
        case round =>
          obtain ⟨i, rfl, hlo, hib, hai, HP, HK⟩ := hrel
          by_cases hij : i ≤ j1
          · have hij1 : decide ((i : Int) ≤ (j1 : Int)) = true := by rw [decide_eq_true_eq]; omega
            have hij2 : decide (i ≤ j1) = true := by rw [decide_eq_true_eq]; omega
            have dx := HK.out.cell (i := i) (by omega)
            have dp := HK.out.cell (i := a) (by omega)
            rw [HP.out.pa] at dp
            obtain ⟨x, hx⟩ : ∃ x, x = d[i]! := ⟨_, rfl⟩
            rw [← hx] at dx
            have HX := Lib.hid hx
            clear hx
            by_cases hl : p < x
            · have hd : decide (p < x) = true := by rw [decide_eq_true_eq]; exact hl
              have HL := Lib.hid hl
              go_wp2
              go_quiet (first | (go_at_call 53; refine Calls.quiet_of_same (less_any _ _ _)) | (go_at_call 53; refine less_from _ _))
              go_wp2
              go_meet
              exact ⟨i, rfl, hlo, HP, Lib.hid (HK.out.drewN _), Lib.hid (.inr (by rw [← HX.out]; exact (fun h => h HL.out)))⟩
            · have hd : decide (p < x) = false := by rw [decide_eq_false_iff_not]; exact hl
              have HL := Lib.hid hl
              go_wp2
              go_quiet (first | (go_at_call 53; refine Calls.quiet_of_same (less_any _ _ _)) | (go_at_call 53; refine less_from _ _))
              go_wp2
              go_roundw
              case rel => exact ⟨i + 1, by go_num, by omega, by omega, by omega, Lib.hid (HP.out.up hij (by rw [← HX.out]; exact (fun h => by have h2 := HL.out; have h3 : p < x := h; omega))), Lib.hid (HK.out.drewN _)⟩
              case measure => simp [intOf]; omega
          · have hij1 : decide ((i : Int) ≤ (j1 : Int)) = false := by rw [decide_eq_false_iff_not]; omega
            have hij2 : decide (i ≤ j1) = false := by rw [decide_eq_false_iff_not]; omega
            go_wp2
            go_quiet (first | (go_at_call 53; refine Calls.quiet_of_same (less_any _ _ _)) | (go_at_call 53; refine less_from _ _))
            go_wp2
            go_meet
            exact ⟨i, rfl, hlo, HP, Lib.hid (HK.out.drewN _), Lib.hid (.inl (by omega))⟩
      case rest =>
        obtain ⟨i2, rfl, hlo, HP2, HK2, HU⟩ := hcut
        clear HP HK hai hib
        have HP := HP2
        have HK := HK2
        clear HP2 HK2
        have hai := HP.out.ai
        have hib := HP.out.ib
        go_upto_block 4 with fail
        go_cut [10] from 46 to 61 (fun s wx => ∃ j : Nat, s = .int .i64 (j : Int) ∧ j ≤ j1 ∧ Hid (PT (PNg p) a b p d0 i2 j d) ∧ Hid (SRt B g n cap w0 d wx) ∧ Hid (j < i2 ∨ (¬ (PNg p) d[i2]! ∧ (PNg p) d[j]!)))
        case first =>
          go_wp2
          go_loopw [10] (fun s wr => ∃ j : Nat, s = .int .i64 (j : Int) ∧ j ≤ j1 ∧ j < b ∧ a + 1 ≤ i2 ∧ Hid (PT (PNg p) a b p d0 i2 j d) ∧ Hid (SRt B g n cap w0 d wr) ∧ Hid (j < i2 ∨ ¬ (PNg p) d[i2]!)) (fun s _ => (intOf s).toNat)
          case atStart => exact ⟨_, rfl, by omega, HP.out.jb, HP.out.ai, HP, HK, HU⟩
          case round =>
            obtain ⟨j, rfl, hhi, hjb, hai, HP, HK, HU⟩ := hrel
            by_cases hij : i2 ≤ j
            · have hij1 : decide ((i2 : Int) ≤ (j : Int)) = true := by rw [decide_eq_true_eq]; omega
              have hij2 : decide (i2 ≤ j) = true := by rw [decide_eq_true_eq]; omega
              have dx := HK.out.cell (i := j) (by omega)
              have dp := HK.out.cell (i := a) (by omega)
              rw [HP.out.pa] at dp
              obtain ⟨x, hx⟩ : ∃ x, x = d[j]! := ⟨_, rfl⟩
              rw [← hx] at dx
              have HX := Lib.hid hx
              clear hx
              by_cases hl : p < x
              · have hd : decide (p < x) = true := by rw [decide_eq_true_eq]; exact hl
                have HL := Lib.hid hl
                go_wp2
                go_quiet (first | (go_at_call 53; refine Calls.quiet_of_same (less_any _ _ _)) | (go_at_call 53; refine less_from _ _))
                go_wp2
                go_roundw
                case rel => exact ⟨j - 1, by go_num, by omega, by omega, by omega, Lib.hid (HP.out.down hij (by rw [← HX.out]; exact (fun h => h HL.out))), Lib.hid (HK.out.drewN _), Lib.hid (HU.out.imp (fun h => by omega) id)⟩
                case measure => simp [intOf]; omega
              · have hd : decide (p < x) = false := by rw [decide_eq_false_iff_not]; exact hl
                have HL := Lib.hid hl
                go_wp2
                go_quiet (first | (go_at_call 53; refine Calls.quiet_of_same (less_any _ _ _)) | (go_at_call 53; refine less_from _ _))
                go_wp2
                go_meet
                exact ⟨j, rfl, hhi, HP, Lib.hid (HK.out.drewN _), Lib.hid (.inr ⟨HU.out.resolve_left (by omega), by rw [← HX.out]; exact (fun h => by have h2 := HL.out; have h3 : p < x := h; omega)⟩)⟩
            · have hij1 : decide ((i2 : Int) ≤ (j : Int)) = false := by rw [decide_eq_false_iff_not]; omega
              have hij2 : decide (i2 ≤ j) = false := by rw [decide_eq_false_iff_not]; omega
              go_wp2
              go_quiet (first | (go_at_call 53; refine Calls.quiet_of_same (less_any _ _ _)) | (go_at_call 53; refine less_from _ _))
              go_wp2
              go_meet
              exact ⟨j, rfl, hhi, HP, Lib.hid (HK.out.drewN _), Lib.hid (.inl (by omega))⟩
        case rest =>
          obtain ⟨j2, rfl, hhi, HP2, HK2, HU2⟩ := hcut
          clear HP HK hai hib hjb HU
          have HP := HP2
          have HK := HK2
          clear HP2 HK2
          have hai := HP.out.ai
          have hib := HP.out.ib
          have hjb := HP.out.jb
          have haj := HP.out.aj
          by_cases hij : j2 < i2
          · have hij1 : decide ((j2 : Int) < (i2 : Int)) = true := by rw [decide_eq_true_eq]; omega
            have hr : a < i2 ∧ i2 ≤ b ∧ Sort.PermIn a b d0 d ∧ (∀ t, a ≤ t → t < i2 → ¬ p < d[t]!) ∧ (∀ t, i2 ≤ t → t < b → p < d[t]!) :=
              ⟨by omega, by omega, HP.out.perm, fun t h1 h2 => by
                by_cases e : t = a
                · subst e; rw [HP.out.pa]; omega
                · exact HP.out.lo t (by omega) h2, fun t h1 h2 => Classical.byContradiction fun h3 => HP.out.hi t (by omega) h2 h3⟩
            have HR := Lib.hid hr
            clear hr
            go_wp2
            exact bodyPost_ret (v := .int .i64 (i2 : Int)) (by simp [results, Try.results54, go_sem]) rfl ⟨i2, d, rfl, HR.out.1, HR.out.2.1, HR.out.2.2.1, fun t h1 h2 => by have := HR.out.2.2.2.1 t h1 h2; omega, HR.out.2.2.2.2, HK.out⟩
          · have hij1 : decide ((j2 : Int) < (i2 : Int)) = false := by rw [decide_eq_false_iff_not]; omega
            have hu := HU2.out.resolve_left hij
            have hne : i2 ≠ j2 := by rintro rfl; exact hu.1 hu.2
            have hg := HK.out.lt
            have d1 := HK.out.cell (i := i2) (by omega)
            have d2 := HK.out.cell (i := j2) (by omega)
            have f1 := HK.out.frozen (i := i2) (by omega)
            have f2 := HK.out.frozen (i := j2) (by omega)
            obtain ⟨x, hx⟩ : ∃ x, x = d[i2]! := ⟨_, rfl⟩
            obtain ⟨y, hy⟩ : ∃ y, y = d[j2]! := ⟨_, rfl⟩
            rw [← hx] at d1
            rw [← hy] at d2
            have HX := Lib.hid hx
            have HY := Lib.hid hy
            have HPS := Lib.hid (HP.out.swap (by omega) hu.1 hu.2)
            have hjj : (j2 : Int) - 1 = ((j2 - 1 : Nat) : Int) := by omega
            clear hx hy hu
            go_wp2
            go_region
            all_goals
              go_wp2
              go_roundw
              case rel => exact ⟨i2 + 1, j2 - 1, _, by go_num, by first | rfl | rw [hjj], HPS, Lib.hid (HK.out.swpN (by omega) (by omega) HX.out HY.out _)⟩
              case measure => simp [intOf]; omega
end Go.Proofs.Ytbcloahekffjdaa
