/- Parting a part in less and not less. -/
import Derived.Test.YtbcloahekffjdaaH15
import Derived.Test.YtbcloahekffjdaaH18
import Derived.Deep.CutBlock
namespace Go.Proofs.Ytbcloahekffjdaa
open Go.RowKit Go.Proofs.Kit
/-- What parting comes to. -/
def PaP (B g n cap a b : Nat) (p : Int) (d0 : Array Int) (w0 : World) (e : Ending) (w' : World) : Prop :=
  ∃ (m : Nat) (ok : Bool) (d : Array Int), e = .returned (.tuple #[.int .i64 (m : Int), .bool ok]) ∧ a ≤ m ∧ m < b ∧ Sort.PermIn a b d0 d ∧ d[m]! = p ∧ (∀ t, a ≤ t → t < m → PLt p d[t]!) ∧ (∀ t, m < t → t < b → ¬ PLt p d[t]!) ∧ Hid (SRt B g n cap w0 d w')
set_option maxRecDepth 100000 in
set_option maxHeartbeats 16000000 in
theorem part_any (B g n cap a b pv : Nat) (d0 : Array Int) (w0 w : World) (h : SRt B g n cap w0 d0 w) (ha : a ≤ pv) (hpb : pv < b) (hb : b ≤ n) (hn : n ≤ 1000000) :
    Calls Try.prog 55 #[.slice (some ⟨g, 0, none⟩) n cap, .int .i64 a, .int .i64 b, .int .i64 pv] w (PaP B g n cap a b d0[pv]! d0 w0) := by
  have HK := Lib.hid h
  have hsz : b ≤ d0.size := by rw [h.len]; exact hb
  have hp0 := PT.start (P := PLt d0[pv]!) ha hpb hsz
  obtain ⟨p, hp⟩ : ∃ p, p = d0[pv]! := ⟨_, rfl⟩
  rw [← hp] at hp0 ⊢
  have HP0 := Lib.hid hp0
  clear h hp0 hp
  go_enter Try.func55, Try.ntmps55
  go_upto_region 1 with fail
  go_cut [8] from 12 to 25 (fun s wx => s = .int .i64 0 ∧ Hid (SRt B g n cap w0 (Sort.swp d0 a pv) wx))
  case first =>
    have hg := HK.out.lt
    have d1 := HK.out.cell (i := a) (by omega)
    have d2 := HK.out.cell (i := pv) (by omega)
    have f1 := HK.out.frozen (i := a) (by omega)
    have f2 := HK.out.frozen (i := pv) (by omega)
    obtain ⟨x, hx⟩ : ∃ x, x = d0[a]! := ⟨_, rfl⟩
    obtain ⟨y, hy⟩ : ∃ y, y = d0[pv]! := ⟨_, rfl⟩
    rw [← hx] at d1
    rw [← hy] at d2
    have HX := Lib.hid hx
    have HY := Lib.hid hy
    clear hx hy
    by_cases e : pv = a
    · subst e
      clear d1 f1
      go_wp2
      go_region
      all_goals
        go_wp2
        go_meet
        exact ⟨rfl, Lib.hid (HK.out.swpN (by omega) (by omega) HY.out HY.out _)⟩
    · have hne : a ≠ pv := fun h => e h.symm
      go_wp2
      go_region
      all_goals
        go_wp2
        go_meet
        exact ⟨rfl, Lib.hid (HK.out.swpN (by omega) (by omega) HX.out HY.out _)⟩
  case rest =>
    obtain ⟨rfl, HK1⟩ := hcut
    have hb1 : (1 : Int) ≤ (b : Int) := by omega
    have hbb : (b : Int) - 1 = ((b - 1 : Nat) : Int) := by omega
    obtain ⟨d, hd⟩ : ∃ d, d = Sort.swp d0 a pv := ⟨_, rfl⟩
    rw [← hd] at HK1 HP0
    clear hd HK
    have HK := HK1
    have HP := HP0
    clear HK1 HP0
    obtain ⟨j1, hj1⟩ : ∃ j1, j1 = b - 1 := ⟨_, rfl⟩
    obtain ⟨i1, hi1⟩ : ∃ i1, i1 = a + 1 := ⟨_, rfl⟩
    rw [← hj1, ← hi1] at HP
    rw [← hj1] at hbb
    have hii : (a : Int) + 1 = (i1 : Int) := by omega
    have hjb := HP.out.jb
    have hai := HP.out.ai
    have hib := HP.out.ib
    clear hj1 hi1
    go_upto_block 0 with fail
    go_cut [10] from 30 to 45 (fun s wx => ∃ i : Nat, s = .int .i64 (i : Int) ∧ i1 ≤ i ∧ Hid (PT (PLt p) a b p d0 i j1 d) ∧ Hid (SRt B g n cap w0 d wx) ∧ Hid (j1 < i ∨ ¬ (PLt p) d[i]!))
    case first =>
      go_wp2
      go_loopw [10] (fun s wr => ∃ i : Nat, s = .int .i64 (i : Int) ∧ i1 ≤ i ∧ i ≤ b ∧ a + 1 ≤ i ∧ Hid (PT (PLt p) a b p d0 i j1 d) ∧ Hid (SRt B g n cap w0 d wr)) (fun s _ => b - (intOf s).toNat)
      case atStart => exact ⟨_, rfl, by omega, HP.out.ib, HP.out.ai, HP, HK⟩
      case round =>
        obtain ⟨i, rfl, hlo, hib, hai, HP, HK⟩ := hrel
        by_cases hij : i ≤ j1
        · have hij1 : decide ((i : Int) ≤ (j1 : Int)) = true := by rw [decide_eq_true_eq]; omega
          have hij2 : decide (i ≤ j1) = true := by rw [decide_eq_true_eq]; omega
          have dx := HK.out.cell (i := i) (by omega)
          have dp := HK.out.cell (i := a) (by omega)
          rw [HP.out.pa] at dp
          obtain ⟨x, hx⟩ : ∃ x, x = d[i]! := ⟨_, rfl⟩
          rw [← hx] at dx
          have HX := Lib.hid hx
          clear hx
          by_cases hl : x < p
          · have hd : decide (x < p) = true := by rw [decide_eq_true_eq]; exact hl
            have HL := Lib.hid hl
            go_wp2
            go_quiet (first | (go_at_call 53; refine Calls.quiet_of_same (less_any _ _ _)) | (go_at_call 53; refine less_from _ _))
            go_wp2
            go_roundw
            case rel => exact ⟨i + 1, by go_num, by omega, by omega, by omega, Lib.hid (HP.out.up hij (by rw [← HX.out]; exact HL.out)), Lib.hid (HK.out.drewN _)⟩
            case measure => simp [intOf]; omega
          · have hd : decide (x < p) = false := by rw [decide_eq_false_iff_not]; exact hl
            have HL := Lib.hid hl
            go_wp2
            go_quiet (first | (go_at_call 53; refine Calls.quiet_of_same (less_any _ _ _)) | (go_at_call 53; refine less_from _ _))
            go_wp2
            go_meet
            exact ⟨i, rfl, hlo, HP, Lib.hid (HK.out.drewN _), Lib.hid (.inr (by rw [← HX.out]; exact (fun h => by have h2 := HL.out; have h3 : x < p := h; omega)))⟩
        · have hij1 : decide ((i : Int) ≤ (j1 : Int)) = false := by rw [decide_eq_false_iff_not]; omega
          have hij2 : decide (i ≤ j1) = false := by rw [decide_eq_false_iff_not]; omega
          go_wp2
          go_quiet (first | (go_at_call 53; refine Calls.quiet_of_same (less_any _ _ _)) | (go_at_call 53; refine less_from _ _))
          go_wp2
          go_meet
          exact ⟨i, rfl, hlo, HP, Lib.hid (HK.out.drewN _), Lib.hid (.inl (by omega))⟩
    case rest =>
      obtain ⟨i2, rfl, hlo, HP2, HK2, HU⟩ := hcut
      clear HP HK hai hib
      have HP := HP2
      have HK := HK2
      clear HP2 HK2
      have hai := HP.out.ai
      have hib := HP.out.ib
      go_upto_block 2 with fail
      go_cut [11] from 46 to 62 (fun s wx => ∃ j : Nat, s = .int .i64 (j : Int) ∧ j ≤ j1 ∧ Hid (PT (PLt p) a b p d0 i2 j d) ∧ Hid (SRt B g n cap w0 d wx) ∧ Hid (j < i2 ∨ (¬ (PLt p) d[i2]! ∧ (PLt p) d[j]!)))
      case first =>
        go_wp2
        go_loopw [11] (fun s wr => ∃ j : Nat, s = .int .i64 (j : Int) ∧ j ≤ j1 ∧ j < b ∧ a + 1 ≤ i2 ∧ Hid (PT (PLt p) a b p d0 i2 j d) ∧ Hid (SRt B g n cap w0 d wr) ∧ Hid (j < i2 ∨ ¬ (PLt p) d[i2]!)) (fun s _ => (intOf s).toNat)
        case atStart => exact ⟨_, rfl, by omega, HP.out.jb, HP.out.ai, HP, HK, HU⟩
        case round =>
          obtain ⟨j, rfl, hhi, hjb, hai, HP, HK, HU⟩ := hrel
          by_cases hij : i2 ≤ j
          · have hij1 : decide ((i2 : Int) ≤ (j : Int)) = true := by rw [decide_eq_true_eq]; omega
            have hij2 : decide (i2 ≤ j) = true := by rw [decide_eq_true_eq]; omega
            have dx := HK.out.cell (i := j) (by omega)
            have dp := HK.out.cell (i := a) (by omega)
            rw [HP.out.pa] at dp
            obtain ⟨x, hx⟩ : ∃ x, x = d[j]! := ⟨_, rfl⟩
            rw [← hx] at dx
            have HX := Lib.hid hx
            clear hx
            by_cases hl : x < p
            · have hd : decide (x < p) = true := by rw [decide_eq_true_eq]; exact hl
              have HL := Lib.hid hl
              go_wp2
              go_quiet (first | (go_at_call 53; refine Calls.quiet_of_same (less_any _ _ _)) | (go_at_call 53; refine less_from _ _))
              go_wp2
              go_meet
              exact ⟨j, rfl, hhi, HP, Lib.hid (HK.out.drewN _), Lib.hid (.inr ⟨HU.out.resolve_left (by omega), by rw [← HX.out]; exact HL.out⟩)⟩
            · have hd : decide (x < p) = false := by rw [decide_eq_false_iff_not]; exact hl
              have HL := Lib.hid hl
              go_wp2
              go_quiet (first | (go_at_call 53; refine Calls.quiet_of_same (less_any _ _ _)) | (go_at_call 53; refine less_from _ _))
              go_wp2
              go_roundw
              case rel => exact ⟨j - 1, by go_num, by omega, by omega, by omega, Lib.hid (HP.out.down hij (by rw [← HX.out]; exact (fun h => by have h2 := HL.out; have h3 : x < p := h; omega))), Lib.hid (HK.out.drewN _), Lib.hid (HU.out.imp (fun h => by omega) id)⟩
              case measure => simp [intOf]; omega
          · have hij1 : decide ((i2 : Int) ≤ (j : Int)) = false := by rw [decide_eq_false_iff_not]; omega
            have hij2 : decide (i2 ≤ j) = false := by rw [decide_eq_false_iff_not]; omega
            go_wp2
            go_quiet (first | (go_at_call 53; refine Calls.quiet_of_same (less_any _ _ _)) | (go_at_call 53; refine less_from _ _))
            go_wp2
            go_meet
            exact ⟨j, rfl, hhi, HP, Lib.hid (HK.out.drewN _), Lib.hid (.inl (by omega))⟩
      case rest =>
        obtain ⟨j2, rfl, hhi, HP2, HK2, HU2⟩ := hcut
        clear HP HK hai hib hjb HU
        have HP := HP2
        have HK := HK2
        clear HP2 HK2 hii hbb
        have hai := HP.out.ai
        have hib := HP.out.ib
        have hjb := HP.out.jb
        have haj := HP.out.aj
        by_cases hij : j2 < i2
        · have hij1 : decide ((j2 : Int) < (i2 : Int)) = true := by rw [decide_eq_true_eq]; omega
          have HR := Lib.hid (HP.out.exit (by omega : j2 < i2))
          have hg := HK.out.lt
          have d1 := HK.out.cell (i := j2) (by omega)
          have d2 := HK.out.cell (i := a) (by omega)
          have f1 := HK.out.frozen (i := j2) (by omega)
          have f2 := HK.out.frozen (i := a) (by omega)
          obtain ⟨x, hx⟩ : ∃ x, x = d[j2]! := ⟨_, rfl⟩
          obtain ⟨y, hy⟩ : ∃ y, y = d[a]! := ⟨_, rfl⟩
          rw [← hx] at d1
          rw [← hy] at d2
          have HX := Lib.hid hx
          have HY := Lib.hid hy
          clear hx hy
          by_cases e : j2 = a
          · subst e
            clear d2 f2
            go_wp2
            go_region
            all_goals
              go_wp2
              exact bodyPost_ret (v := .tuple #[.int .i64 (j2 : Int), .bool true]) (by simp [results, Try.results55, go_sem]) rfl ⟨j2, true, _, rfl, by omega, by omega, HR.out.1, HR.out.2.1, HR.out.2.2.1, HR.out.2.2.2, Lib.hid (HK.out.swpN (by omega) (by omega) HX.out HX.out _)⟩
          · go_wp2
            go_region
            all_goals
              go_wp2
              exact bodyPost_ret (v := .tuple #[.int .i64 (j2 : Int), .bool true]) (by simp [results, Try.results55, go_sem]) rfl ⟨j2, true, _, rfl, by omega, by omega, HR.out.1, HR.out.2.1, HR.out.2.2.1, HR.out.2.2.2, Lib.hid (HK.out.swpN (by omega) (by omega) HX.out HY.out _)⟩
        · have hij1 : decide ((j2 : Int) < (i2 : Int)) = false := by rw [decide_eq_false_iff_not]; omega
          have hu := HU2.out.resolve_left hij
          have hne : i2 ≠ j2 := by rintro rfl; exact hu.1 hu.2
          have hg := HK.out.lt
          have d1 := HK.out.cell (i := i2) (by omega)
          have d2 := HK.out.cell (i := j2) (by omega)
          have f1 := HK.out.frozen (i := i2) (by omega)
          have f2 := HK.out.frozen (i := j2) (by omega)
          obtain ⟨x, hx⟩ : ∃ x, x = d[i2]! := ⟨_, rfl⟩
          obtain ⟨y, hy⟩ : ∃ y, y = d[j2]! := ⟨_, rfl⟩
          rw [← hx] at d1
          rw [← hy] at d2
          have HX := Lib.hid hx
          have HY := Lib.hid hy
          have HPS := Lib.hid (HP.out.swap (by omega) hu.1 hu.2)
          have hjj : (j2 : Int) - 1 = ((j2 - 1 : Nat) : Int) := by omega
          clear hx hy hu
          go_wp2
          go_region
          all_goals
            go_wp2
            go_loopw [10, 11] (fun s v wr => ∃ (i j : Nat) (d : Array Int), s = .int .i64 (i : Int) ∧ v = .int .i64 (j : Int) ∧ Hid (PT (PLt p) a b p d0 i j d) ∧ Hid (SRt B g n cap w0 d wr)) (fun s v _ => (intOf v + 1 - intOf s).toNat)
            case atStart => exact ⟨i2 + 1, j2 - 1, _, by go_num, by first | rfl | rw [hjj], HPS, Lib.hid (HK.out.swpN (by omega) (by omega) HX.out HY.out _)⟩
            case round =>
              clear HP HK HPS HX HY d1 d2 f1 f2 hne hij hij1 hai hib hjb haj hlo hhi hjj
              obtain ⟨i1, j1, d, rfl, rfl, HP, HK2⟩ := hrel
              have HK := HK2
              clear HK2
              have hjb := HP.out.jb
              have hai := HP.out.ai
              have hib := HP.out.ib
              go_upto_block 6 with fail
              go_cut [10] from 99 to 114 (fun s wx => ∃ i : Nat, s = .int .i64 (i : Int) ∧ i1 ≤ i ∧ Hid (PT (PLt p) a b p d0 i j1 d) ∧ Hid (SRt B g n cap w0 d wx) ∧ Hid (j1 < i ∨ ¬ (PLt p) d[i]!))
              case first =>
                go_wp2
                go_loopw [10] (fun s wr => ∃ i : Nat, s = .int .i64 (i : Int) ∧ i1 ≤ i ∧ i ≤ b ∧ a + 1 ≤ i ∧ Hid (PT (PLt p) a b p d0 i j1 d) ∧ Hid (SRt B g n cap w0 d wr)) (fun s _ => b - (intOf s).toNat)
                case atStart => exact ⟨_, rfl, by omega, HP.out.ib, HP.out.ai, HP, HK⟩
                case round =>
                  obtain ⟨i, rfl, hlo, hib, hai, HP, HK⟩ := hrel
                  by_cases hij : i ≤ j1
                  · have hij1 : decide ((i : Int) ≤ (j1 : Int)) = true := by rw [decide_eq_true_eq]; omega
                    have hij2 : decide (i ≤ j1) = true := by rw [decide_eq_true_eq]; omega
                    have dx := HK.out.cell (i := i) (by omega)
                    have dp := HK.out.cell (i := a) (by omega)
                    rw [HP.out.pa] at dp
                    obtain ⟨x, hx⟩ : ∃ x, x = d[i]! := ⟨_, rfl⟩
                    rw [← hx] at dx
                    have HX := Lib.hid hx
                    clear hx
                    by_cases hl : x < p
                    · have hd : decide (x < p) = true := by rw [decide_eq_true_eq]; exact hl
                      have HL := Lib.hid hl
                      go_wp2
                      go_quiet (first | (go_at_call 53; refine Calls.quiet_of_same (less_any _ _ _)) | (go_at_call 53; refine less_from _ _))
                      go_wp2
                      go_roundw
                      case rel => exact ⟨i + 1, by go_num, by omega, by omega, by omega, Lib.hid (HP.out.up hij (by rw [← HX.out]; exact HL.out)), Lib.hid (HK.out.drewN _)⟩
                      case measure => simp [intOf]; omega
                    · have hd : decide (x < p) = false := by rw [decide_eq_false_iff_not]; exact hl
                      have HL := Lib.hid hl
                      go_wp2
                      go_quiet (first | (go_at_call 53; refine Calls.quiet_of_same (less_any _ _ _)) | (go_at_call 53; refine less_from _ _))
                      go_wp2
                      go_meet
                      exact ⟨i, rfl, hlo, HP, Lib.hid (HK.out.drewN _), Lib.hid (.inr (by rw [← HX.out]; exact (fun h => by have h2 := HL.out; have h3 : x < p := h; omega)))⟩
                  · have hij1 : decide ((i : Int) ≤ (j1 : Int)) = false := by rw [decide_eq_false_iff_not]; omega
                    have hij2 : decide (i ≤ j1) = false := by rw [decide_eq_false_iff_not]; omega
                    go_wp2
                    go_quiet (first | (go_at_call 53; refine Calls.quiet_of_same (less_any _ _ _)) | (go_at_call 53; refine less_from _ _))
                    go_wp2
                    go_meet
                    exact ⟨i, rfl, hlo, HP, Lib.hid (HK.out.drewN _), Lib.hid (.inl (by omega))⟩
              case rest =>
                obtain ⟨i2, rfl, hlo, HP2, HK2, HU⟩ := hcut
                clear HP HK hai hib
                have HP := HP2
                have HK := HK2
                clear HP2 HK2
                have hai := HP.out.ai
                have hib := HP.out.ib
                go_upto_block 8 with fail
                go_cut [11] from 115 to 131 (fun s wx => ∃ j : Nat, s = .int .i64 (j : Int) ∧ j ≤ j1 ∧ Hid (PT (PLt p) a b p d0 i2 j d) ∧ Hid (SRt B g n cap w0 d wx) ∧ Hid (j < i2 ∨ (¬ (PLt p) d[i2]! ∧ (PLt p) d[j]!)))
                case first =>
                  go_wp2
                  go_loopw [11] (fun s wr => ∃ j : Nat, s = .int .i64 (j : Int) ∧ j ≤ j1 ∧ j < b ∧ a + 1 ≤ i2 ∧ Hid (PT (PLt p) a b p d0 i2 j d) ∧ Hid (SRt B g n cap w0 d wr) ∧ Hid (j < i2 ∨ ¬ (PLt p) d[i2]!)) (fun s _ => (intOf s).toNat)
                  case atStart => exact ⟨_, rfl, by omega, HP.out.jb, HP.out.ai, HP, HK, HU⟩
                  case round =>
                    obtain ⟨j, rfl, hhi, hjb, hai, HP, HK, HU⟩ := hrel
                    by_cases hij : i2 ≤ j
                    · have hij1 : decide ((i2 : Int) ≤ (j : Int)) = true := by rw [decide_eq_true_eq]; omega
                      have hij2 : decide (i2 ≤ j) = true := by rw [decide_eq_true_eq]; omega
                      have dx := HK.out.cell (i := j) (by omega)
                      have dp := HK.out.cell (i := a) (by omega)
                      rw [HP.out.pa] at dp
                      obtain ⟨x, hx⟩ : ∃ x, x = d[j]! := ⟨_, rfl⟩
                      rw [← hx] at dx
                      have HX := Lib.hid hx
                      clear hx
                      by_cases hl : x < p
                      · have hd : decide (x < p) = true := by rw [decide_eq_true_eq]; exact hl
                        have HL := Lib.hid hl
                        go_wp2
                        go_quiet (first | (go_at_call 53; refine Calls.quiet_of_same (less_any _ _ _)) | (go_at_call 53; refine less_from _ _))
                        go_wp2
                        go_meet
                        exact ⟨j, rfl, hhi, HP, Lib.hid (HK.out.drewN _), Lib.hid (.inr ⟨HU.out.resolve_left (by omega), by rw [← HX.out]; exact HL.out⟩)⟩
                      · have hd : decide (x < p) = false := by rw [decide_eq_false_iff_not]; exact hl
                        have HL := Lib.hid hl
                        go_wp2
                        go_quiet (first | (go_at_call 53; refine Calls.quiet_of_same (less_any _ _ _)) | (go_at_call 53; refine less_from _ _))
                        go_wp2
                        go_roundw
                        case rel => exact ⟨j - 1, by go_num, by omega, by omega, by omega, Lib.hid (HP.out.down hij (by rw [← HX.out]; exact (fun h => by have h2 := HL.out; have h3 : x < p := h; omega))), Lib.hid (HK.out.drewN _), Lib.hid (HU.out.imp (fun h => by omega) id)⟩
                        case measure => simp [intOf]; omega
                    · have hij1 : decide ((i2 : Int) ≤ (j : Int)) = false := by rw [decide_eq_false_iff_not]; omega
                      have hij2 : decide (i2 ≤ j) = false := by rw [decide_eq_false_iff_not]; omega
                      go_wp2
                      go_quiet (first | (go_at_call 53; refine Calls.quiet_of_same (less_any _ _ _)) | (go_at_call 53; refine less_from _ _))
                      go_wp2
                      go_meet
                      exact ⟨j, rfl, hhi, HP, Lib.hid (HK.out.drewN _), Lib.hid (.inl (by omega))⟩
                case rest =>
                  obtain ⟨j2, rfl, hhi, HP2, HK2, HU2⟩ := hcut
                  clear HP HK hai hib hjb HU
                  have HP := HP2
                  have HK := HK2
                  clear HP2 HK2
                  have hai := HP.out.ai
                  have hib := HP.out.ib
                  have hjb := HP.out.jb
                  have haj := HP.out.aj
                  by_cases hij : j2 < i2
                  · have hij1 : decide ((j2 : Int) < (i2 : Int)) = true := by rw [decide_eq_true_eq]; omega
                    have HR := Lib.hid (HP.out.exit (by omega : j2 < i2))
                    have hg := HK.out.lt
                    have d1 := HK.out.cell (i := j2) (by omega)
                    have d2 := HK.out.cell (i := a) (by omega)
                    have f1 := HK.out.frozen (i := j2) (by omega)
                    have f2 := HK.out.frozen (i := a) (by omega)
                    obtain ⟨x, hx⟩ : ∃ x, x = d[j2]! := ⟨_, rfl⟩
                    obtain ⟨y, hy⟩ : ∃ y, y = d[a]! := ⟨_, rfl⟩
                    rw [← hx] at d1
                    rw [← hy] at d2
                    have HX := Lib.hid hx
                    have HY := Lib.hid hy
                    clear hx hy
                    by_cases e : j2 = a
                    · subst e
                      clear d2 f2
                      go_wp2
                      go_region
                      all_goals
                        go_wp2
                        exact bodyPost_ret (v := .tuple #[.int .i64 (j2 : Int), .bool false]) (by simp [results, Try.results55, go_sem]) rfl ⟨j2, false, _, rfl, by omega, by omega, HR.out.1, HR.out.2.1, HR.out.2.2.1, HR.out.2.2.2, Lib.hid (HK.out.swpN (by omega) (by omega) HX.out HX.out _)⟩
                    · go_wp2
                      go_region
                      all_goals
                        go_wp2
                        exact bodyPost_ret (v := .tuple #[.int .i64 (j2 : Int), .bool false]) (by simp [results, Try.results55, go_sem]) rfl ⟨j2, false, _, rfl, by omega, by omega, HR.out.1, HR.out.2.1, HR.out.2.2.1, HR.out.2.2.2, Lib.hid (HK.out.swpN (by omega) (by omega) HX.out HY.out _)⟩
                  · have hij1 : decide ((j2 : Int) < (i2 : Int)) = false := by rw [decide_eq_false_iff_not]; omega
                    have hu := HU2.out.resolve_left hij
                    have hne : i2 ≠ j2 := by rintro rfl; exact hu.1 hu.2
                    have hg := HK.out.lt
                    have d1 := HK.out.cell (i := i2) (by omega)
                    have d2 := HK.out.cell (i := j2) (by omega)
                    have f1 := HK.out.frozen (i := i2) (by omega)
                    have f2 := HK.out.frozen (i := j2) (by omega)
                    obtain ⟨x, hx⟩ : ∃ x, x = d[i2]! := ⟨_, rfl⟩
                    obtain ⟨y, hy⟩ : ∃ y, y = d[j2]! := ⟨_, rfl⟩
                    rw [← hx] at d1
                    rw [← hy] at d2
                    have HX := Lib.hid hx
                    have HY := Lib.hid hy
                    have HPS := Lib.hid (HP.out.swap (by omega) hu.1 hu.2)
                    have hjj : (j2 : Int) - 1 = ((j2 - 1 : Nat) : Int) := by omega
                    clear hx hy hu
                    go_wp2
                    go_region
                    all_goals
                      go_wp2
                      go_roundw
                      case rel => exact ⟨i2 + 1, j2 - 1, _, by go_num, by first | rfl | rw [hjj], HPS, Lib.hid (HK.out.swpN (by omega) (by omega) HX.out HY.out _)⟩
                      case measure => simp [intOf]; omega
end Go.Proofs.Ytbcloahekffjdaa
