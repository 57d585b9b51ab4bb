/- A part that may all but be sorted: the library's few insertions. -/
import Derived.Test.YtbcloahekffjdaaH15
import Derived.Deep.CutBlock
namespace Go.Proofs.Kit
section
variable {d : Array Int}
theorem SR.swpD {ti : TypeId} {B g n cap : Nat} {w0 w : World} (h : SR ti B g n cap w0 d w) {i j : Nat} (hi : i < n) (hj : j < n) {x y : Int} (hx : x = d[i]!) (hy : y = d[j]!) : SR ti B g n cap w0 (Sort.swp d i j) (((w.setCell ⟨g, i, none⟩ (.int .u64 y)).setCell ⟨g, j, none⟩ (.int .u64 x)).drew) := by
  subst hx hy
  exact (h.swp hi hj).drew
theorem scS_go {b q : Nat} (h : q + 1 < b) (hl : ¬ d[q + 1]! < d[q]!) : Sort.scanSorted ltI d b (q + 1) = Sort.scanSorted ltI d b (q + 1 + 1) := by
  rw [Sort.scanSorted, Nat.add_sub_cancel, ltI_f hl, if_pos (by simpa using h)]
theorem scS_stop {b q : Nat} (h : ¬ q + 1 < b ∨ d[q + 1]! < d[q]!) : Sort.scanSorted ltI d b (q + 1) = q + 1 := by
  rw [Sort.scanSorted, Nat.add_sub_cancel]
  rcases h with h | h
  · rw [if_neg (by simp; omega)]
  · rw [ltI_t h, if_neg (by simp)]
theorem shD_zero : Sort.shiftDown ltI 0 d = d := by rw [Sort.shiftDown]
theorem shD_go {q : Nat} (hl : d[q + 1]! < d[q]!) : Sort.shiftDown ltI (q + 1) d = Sort.shiftDown ltI q (Sort.swp d (q + 1) q) := by rw [Sort.shiftDown, ltI_t hl, if_neg (by simp)]
theorem shD_stop {q : Nat} (hl : ¬ d[q + 1]! < d[q]!) : Sort.shiftDown ltI (q + 1) d = d := by rw [Sort.shiftDown, ltI_f hl, if_pos (by simp)]
theorem shU_go {b q : Nat} (h : q + 1 < b) (hl : d[q + 1]! < d[q]!) : Sort.shiftUp ltI b (q + 1) d = Sort.shiftUp ltI b (q + 1 + 1) (Sort.swp d (q + 1) q) := by rw [Sort.shiftUp, if_pos h, Nat.add_sub_cancel, ltI_t hl, if_neg (by simp)]
theorem shU_stop {b q : Nat} (h : ¬ q + 1 < b ∨ ¬ d[q + 1]! < d[q]!) : Sort.shiftUp ltI b (q + 1) d = d := by
  rw [Sort.shiftUp, Nat.add_sub_cancel]
  split
  · next h0 => rw [ltI_f (h.resolve_left (by omega)), if_pos (by simp)]
  · rfl
/-- What one step makes of a part. -/
def pIs (a i : Nat) (d : Array Int) : Array Int := if i - a ≥ 2 then Sort.shiftDown ltI (i - 1) d else d
def pIu (b i : Nat) (d : Array Int) : Array Int := if b - i ≥ 2 then Sort.shiftUp ltI b (i + 1) d else d
theorem pI_true {a b i r : Nat} (h : Sort.scanSorted ltI d b i = b) : Sort.partialIns ltI a b (r + 1) i d = (d, true) := by rw [Sort.partialIns]; simp only []; rw [if_pos h]
theorem pI_short {a b i r k : Nat} (h : Sort.scanSorted ltI d b i = k) (hk : k ≠ b) (h5 : b - a < 50) : Sort.partialIns ltI a b (r + 1) i d = (d, false) := by rw [Sort.partialIns]; simp only []; rw [if_neg (by omega), if_pos h5]
theorem pI_go {a b i r k : Nat} (h : Sort.scanSorted ltI d b i = k) (hk : k ≠ b) (h5 : ¬ b - a < 50) : Sort.partialIns ltI a b (r + 1) i d = Sort.partialIns ltI a b r k (pIu b k (pIs a k (Sort.swp d k (k - 1)))) := by
  subst h
  rw [Sort.partialIns]; simp only []; rw [if_neg hk, if_neg h5]; rfl
end
end Go.Proofs.Kit
namespace Go.Proofs.Ytbcloahekffjdaa
open Go.RowKit Go.Proofs.Kit
/-- What the few insertions come to. -/
def PiP (B g n cap a b : Nat) (d0 : Array Int) (w0 : World) (e : Ending) (w' : World) : Prop :=
  ∃ (ok : Bool) (d : Array Int), e = .returned (.bool ok) ∧ Sort.partialInsertionSort ltI d0 a b = (d, ok) ∧ Hid (SRt B g n cap w0 d w')
set_option maxRecDepth 100000 in
set_option maxHeartbeats 16000000 in
theorem pins_any (B g n cap a b : Nat) (d0 : Array Int) (w0 w : World) (h : SRt B g n cap w0 d0 w) (hab : a < b) (hb : b ≤ n) (hn : n ≤ 1000000) :
    Calls Try.prog 52 #[.slice (some ⟨g, 0, none⟩) n cap, .int .i64 a, .int .i64 b] w (PiP B g n cap a b d0 w0) := by
  have HK0 := Lib.hid h
  clear h
  go_enter Try.func52, Try.ntmps52
  go_wp2
  go_loopw [7, 8, 9, 10] (fun v s _ _ wr => ∃ (i j r : Nat) (d : Array Int), v = .int .i64 (i : Int) ∧ s = .int .i64 (j : Int) ∧ j + r = 5 ∧ a + 1 ≤ i ∧ i ≤ b ∧ Hid (SRt B g n cap w0 d wr) ∧ Hid (Sort.partialIns ltI a b r i d = Sort.partialInsertionSort ltI d0 a b)) (fun _ s _ _ _ => 5 - (intOf s).toNat)
  case atStart => exact ⟨a + 1, 0, 5, d0, by go_num, rfl, rfl, Nat.le_refl _, by omega, HK0, Lib.hid rfl⟩
  case round =>
    obtain ⟨i1, j, r, d, rfl, rfl, hjr, hai, hib, HK, HE⟩ := hrel
    clear HK0
    by_cases hj : j < 5
    · have hj' : decide ((j : Int) < 5) = true := by rw [decide_eq_true_eq]; omega
      obtain ⟨r, rfl⟩ : ∃ q, r = q + 1 := ⟨r - 1, by omega⟩
      go_upto_block 2 with fail
      go_cut [7] from 17 to 34 (fun s wx => ∃ i : Nat, s = .int .i64 (i : Int) ∧ i1 ≤ i ∧ i ≤ b ∧ Hid (SRt B g n cap w0 d wx) ∧ Hid (Sort.scanSorted ltI d b i1 = i))
      case first =>
        go_wp2
        go_loopw [7] (fun s wr => ∃ i : Nat, s = .int .i64 (i : Int) ∧ i1 ≤ i ∧ i ≤ b ∧ Hid (SRt B g n cap w0 d wr) ∧ Hid (Sort.scanSorted ltI d b i1 = Sort.scanSorted ltI d b i)) (fun s _ => b - (intOf s).toNat)
        case atStart => exact ⟨i1, rfl, Nat.le_refl _, hib, HK, Lib.hid rfl⟩
        case round =>
          obtain ⟨i, rfl, hi1, hi2, HK, HS⟩ := hrel
          obtain ⟨q, rfl⟩ : ∃ q, i = q + 1 := ⟨i - 1, by omega⟩
          by_cases hib2 : q + 1 < b
          · have hij1 : decide ((q : Int) + 1 < (b : Int)) = true := by rw [decide_eq_true_eq]; omega
            have hij2 : decide (q + 1 < b) = true := by rw [decide_eq_true_eq]; omega
            have dx := HK.out.cell (i := q + 1) (by omega)
            have dy := HK.out.cell (i := q) (by omega)
            obtain ⟨x, hx⟩ : ∃ x, x = d[q + 1]! := ⟨_, rfl⟩
            obtain ⟨y, hy⟩ : ∃ y, y = d[q]! := ⟨_, rfl⟩
            rw [← hx] at dx
            rw [← hy] at dy
            have HX := Lib.hid hx
            have HY := Lib.hid hy
            clear hx hy
            by_cases hl : x < y
            · have hd : decide (x < y) = true := by rw [decide_eq_true_eq]; exact hl
              go_wp2
              go_quiet (first | (go_at_call 53; refine Calls.quiet_of_same (less_any _ _ _)) | (go_at_call 53; refine less_from _ _))
              go_wp2
              go_meet
              exact ⟨q + 1, by go_num, hi1, hi2, Lib.hid (HK.out.drewN _), Lib.hid (by rw [HS.out, scS_stop (.inr (by rw [← HX.out, ← HY.out]; exact hl))])⟩
            · have hd : decide (x < y) = false := by rw [decide_eq_false_iff_not]; exact hl
              go_wp2
              go_quiet (first | (go_at_call 53; refine Calls.quiet_of_same (less_any _ _ _)) | (go_at_call 53; refine less_from _ _))
              go_wp2
              go_roundw
              case rel => exact ⟨q + 1 + 1, by go_num, by omega, by omega, Lib.hid (HK.out.drewN _), Lib.hid (by rw [HS.out, scS_go hib2 (by rw [← HX.out, ← HY.out]; omega)])⟩
              case measure => simp [intOf]; omega
          · have hij1 : decide ((q : Int) + 1 < (b : Int)) = false := by rw [decide_eq_false_iff_not]; omega
            have hij2 : decide (q + 1 < b) = false := by rw [decide_eq_false_iff_not]; omega
            go_wp2
            go_quiet (first | (go_at_call 53; refine Calls.quiet_of_same (less_any _ _ _)) | (go_at_call 53; refine less_from _ _))
            go_wp2
            go_meet
            exact ⟨q + 1, by go_num, hi1, hi2, Lib.hid (HK.out.drewN _), Lib.hid (by rw [HS.out, scS_stop (.inl hib2)])⟩
      case rest =>
        obtain ⟨i, rfl, hi1, hi2, HK2, HS⟩ := hcut
        clear HK
        have HK := HK2
        clear HK2
        by_cases hE : i = b
        · have hE1 : ((i : Int) == (b : Int)) = true := by rw [beq_iff_eq]; omega
          have HR := Lib.hid (pI_true (a := a) (r := r) (HS.out.trans hE))
          clear hE
          go_wp2
          exact bodyPost_ret (v := .bool true) (by simp [results, Try.results52, go_sem]) rfl ⟨true, d, rfl, by rw [← HE.out, HR.out], HK⟩
        · have hE1 : ((i : Int) == (b : Int)) = false := by rw [beq_eq_false_iff_ne]; omega
          have hib' : i < b := by omega
          by_cases h50 : b - a < 50
          · have h51 : decide ((b : Int) - (a : Int) < 50) = true := by rw [decide_eq_true_eq]; omega
            go_wp2
            exact bodyPost_ret (v := .bool false) (by simp [results, Try.results52, go_sem]) rfl ⟨false, d, rfl, by rw [← HE.out, pI_short HS.out hE h50], HK⟩
          · have h51 : decide ((b : Int) - (a : Int) < 50) = false := by rw [decide_eq_false_iff_not]; omega
            obtain ⟨q, hq⟩ : ∃ q, i = q + 1 := ⟨i - 1, by omega⟩
            have hiq : (i : Int) - 1 = (q : Int) := by omega
            clear hq
            have HGO := Lib.hid (pI_go (a := a) (r := r) HS.out hE h50)
            have dx := HK.out.cell (i := i) (by omega)
            have dy := HK.out.cell (i := q) (by omega)
            have fx := HK.out.frozen (i := i) (by omega)
            have fy := HK.out.frozen (i := q) (by omega)
            have hg := HK.out.lt
            obtain ⟨x, hx⟩ : ∃ x, x = d[i]! := ⟨_, rfl⟩
            obtain ⟨y, hy⟩ : ∃ y, y = d[q]! := ⟨_, rfl⟩
            rw [← hx] at dx
            rw [← hy] at dy
            have HX := Lib.hid hx
            have HY := Lib.hid hy
            clear hx hy hE
            go_wp2
            go_region
            all_goals
              have HSW := Lib.hid (HK.out.swpD (i := i) (j := q) (by omega) (by omega) HX.out HY.out)
              obtain ⟨d2, hd2⟩ : ∃ d2, d2 = Sort.swp d i q := ⟨_, rfl⟩
              have hgo2 := HGO.out
              rw [show i - 1 = q by omega, ← hd2] at hgo2
              rw [← hd2] at HSW
              have HGO2 := Lib.hid hgo2
              obtain ⟨W2, hW2⟩ : ∃ W2, W2 = ((wc.setCell ⟨g, i, none⟩ (.int .u64 y)).setCell ⟨g, q, none⟩ (.int .u64 x)).drew := ⟨_, rfl⟩
              rw [← hW2] at HSW ⊢
              clear hgo2 hd2 hW2 HX HY dx dy fx fy hg HK HGO
              go_upto_if 61 with (fail)
              go_cut [9, 61] from 62 to 94 (fun _ _ wx => Hid (SRt B g n cap w0 (pIs a i d2) wx))
              case first =>
                by_cases h2 : i - a ≥ 2
                · have HPS : Hid (pIs a i d2 = Sort.shiftDown ltI q d2) := Lib.hid (by unfold pIs; rw [if_pos h2, show i - 1 = q by omega])
                  have h21 : decide (2 ≤ (i : Int) - (a : Int)) = true := by rw [decide_eq_true_eq]; omega
                  go_wp2
                  go_loopw [9] (fun s wr => ∃ (m : Nat) (dm : Array Int), s = .int .i64 (m : Int) ∧ m ≤ q ∧ Hid (SRt B g n cap w0 dm wr) ∧ Hid (Sort.shiftDown ltI m dm = Sort.shiftDown ltI q d2)) (fun s _ => (intOf s).toNat)
                  case atStart => exact ⟨q, d2, by go_num, Nat.le_refl _, HSW, Lib.hid rfl⟩
                  case round =>
                    obtain ⟨m, dm, rfl, hm, HK, HS⟩ := hrel
                    by_cases hm0 : m = 0
                    · subst hm0
                      go_wp2
                      go_meet
                      exact Lib.hid (by rw [HPS.out, ← HS.out, shD_zero]; exact HK.out)
                    · obtain ⟨t, rfl⟩ : ∃ t, m = t + 1 := ⟨m - 1, by omega⟩
                      have dx := HK.out.cell (i := t + 1) (by omega)
                      have dy := HK.out.cell (i := t) (by omega)
                      have fx := HK.out.frozen (i := t + 1) (by omega)
                      have fy := HK.out.frozen (i := t) (by omega)
                      have hg := HK.out.lt
                      obtain ⟨x, hx⟩ : ∃ x, x = dm[t + 1]! := ⟨_, rfl⟩
                      obtain ⟨y, hy⟩ : ∃ y, y = dm[t]! := ⟨_, rfl⟩
                      rw [← hx] at dx
                      rw [← hy] at dy
                      have HX := Lib.hid hx
                      have HY := Lib.hid hy
                      clear hx hy
                      by_cases hl : x < y
                      · have hd : decide (x < y) = true := by rw [decide_eq_true_eq]; exact hl
                        have HL := Lib.hid hl
                        go_wp2
                        go_quiet (first | (go_at_call 53; refine Calls.quiet_of_same (less_any _ _ _)) | (go_at_call 53; refine less_from _ _))
                        go_wp2
                        go_region
                        all_goals
                          go_wp2
                          go_roundw
                          case rel => exact ⟨t, _, by go_num, by omega, Lib.hid (HK.out.swpN (by omega) (by omega) HX.out HY.out _), Lib.hid (by rw [← HS.out, shD_go (by rw [← HX.out, ← HY.out]; exact HL.out)])⟩
                          case measure => first | (simp [intOf]; done) | (simp [intOf]; omega)
                      · have hd : decide (x < y) = false := by rw [decide_eq_false_iff_not]; exact hl
                        have HL := Lib.hid hl
                        go_wp2
                        go_quiet (first | (go_at_call 53; refine Calls.quiet_of_same (less_any _ _ _)) | (go_at_call 53; refine less_from _ _))
                        go_wp2
                        go_meet
                        exact Lib.hid (by rw [HPS.out, ← HS.out, shD_stop (by rw [← HX.out, ← HY.out]; have := HL.out; omega)]; exact HK.out.drewN _)
                · have HPS : Hid (pIs a i d2 = d2) := Lib.hid (by unfold pIs; rw [if_neg h2])
                  have h21 : decide (2 ≤ (i : Int) - (a : Int)) = false := by rw [decide_eq_false_iff_not]; omega
                  go_wp2
                  go_meet
                  exact Lib.hid (by rw [HPS.out]; exact HSW.out)
              case rest =>
                have HK := hcut
                obtain ⟨d3, hd3⟩ : ∃ d3, d3 = pIs a i d2 := ⟨_, rfl⟩
                rw [← hd3] at HK HGO2
                clear hd3 HSW hcut
                have HSW := HK
                by_cases h2 : b - i ≥ 2
                · have HPU : Hid (pIu b i d3 = Sort.shiftUp ltI b (i + 1) d3) := Lib.hid (by unfold pIu; rw [if_pos h2])
                  have h21 : decide (2 ≤ (b : Int) - (i : Int)) = true := by rw [decide_eq_true_eq]; omega
                  go_wp2
                  go_loopw [10] (fun s wr => ∃ (m : Nat) (dm : Array Int), s = .int .i64 (m : Int) ∧ 1 ≤ m ∧ m ≤ b ∧ Hid (SRt B g n cap w0 dm wr) ∧ Hid (Sort.shiftUp ltI b m dm = Sort.shiftUp ltI b (i + 1) d3)) (fun s _ => b - (intOf s).toNat)
                  case atStart => exact ⟨i + 1, d3, by go_num, by omega, by omega, HSW, Lib.hid rfl⟩
                  case round =>
                    obtain ⟨m, dm, rfl, hm0, hm, HK, HS⟩ := hrel
                    obtain ⟨t, rfl⟩ : ∃ t, m = t + 1 := ⟨m - 1, by omega⟩
                    by_cases hm2 : t + 1 < b
                    · have hmm : decide ((t : Int) + 1 < (b : Int)) = true := by rw [decide_eq_true_eq]; omega
                      have dx := HK.out.cell (i := t + 1) (by omega)
                      have dy := HK.out.cell (i := t) (by omega)
                      have fx := HK.out.frozen (i := t + 1) (by omega)
                      have fy := HK.out.frozen (i := t) (by omega)
                      have hg := HK.out.lt
                      obtain ⟨x, hx⟩ : ∃ x, x = dm[t + 1]! := ⟨_, rfl⟩
                      obtain ⟨y, hy⟩ : ∃ y, y = dm[t]! := ⟨_, rfl⟩
                      rw [← hx] at dx
                      rw [← hy] at dy
                      have HX := Lib.hid hx
                      have HY := Lib.hid hy
                      clear hx hy
                      by_cases hl : x < y
                      · have hd : decide (x < y) = true := by rw [decide_eq_true_eq]; exact hl
                        have HL := Lib.hid hl
                        go_wp2
                        go_quiet (first | (go_at_call 53; refine Calls.quiet_of_same (less_any _ _ _)) | (go_at_call 53; refine less_from _ _))
                        go_wp2
                        go_region
                        all_goals
                          go_wp2
                          go_roundw
                          case rel => exact ⟨t + 1 + 1, _, by go_num, by omega, by omega, Lib.hid (HK.out.swpN (by omega) (by omega) HX.out HY.out _), Lib.hid (by rw [← HS.out, shU_go hm2 (by rw [← HX.out, ← HY.out]; exact HL.out)])⟩
                          case measure => first | (simp [intOf]; done) | (simp [intOf]; omega)
                      · have hd : decide (x < y) = false := by rw [decide_eq_false_iff_not]; exact hl
                        have HL := Lib.hid hl
                        go_wp2
                        go_quiet (first | (go_at_call 53; refine Calls.quiet_of_same (less_any _ _ _)) | (go_at_call 53; refine less_from _ _))
                        go_wp2
                        go_roundw
                        case rel => exact ⟨i, j + 1, r, pIu b i d3, by first | rfl | go_num, by go_num, by omega, by omega, by omega, Lib.hid (by rw [HPU.out, ← HS.out, shU_stop (.inr (by rw [← HX.out, ← HY.out]; have := HL.out; omega))]; exact HK.out.drewN _), Lib.hid (by rw [← HE.out, HGO2.out])⟩
                        case measure => simp [intOf]; omega
                    · have hmm : decide ((t : Int) + 1 < (b : Int)) = false := by rw [decide_eq_false_iff_not]; omega
                      go_wp2
                      go_roundw
                      case rel => exact ⟨i, j + 1, r, pIu b i d3, by first | rfl | go_num, by go_num, by omega, by omega, by omega, Lib.hid (by rw [HPU.out, ← HS.out, shU_stop (.inl hm2)]; exact HK.out), Lib.hid (by rw [← HE.out, HGO2.out])⟩
                      case measure => simp [intOf]; omega
                · have HPU : Hid (pIu b i d3 = d3) := Lib.hid (by unfold pIu; rw [if_neg h2])
                  have h21 : decide (2 ≤ (b : Int) - (i : Int)) = false := by rw [decide_eq_false_iff_not]; omega
                  go_wp2
                  go_roundw
                  case rel => exact ⟨i, j + 1, r, pIu b i d3, by first | rfl | go_num, by go_num, by omega, by omega, by omega, Lib.hid (by rw [HPU.out]; exact HSW.out), Lib.hid (by rw [← HE.out, HGO2.out])⟩
                  case measure => simp [intOf]; omega
    · have hj' : decide ((j : Int) < 5) = false := by rw [decide_eq_false_iff_not]; omega
      obtain rfl : r = 0 := by omega
      go_wp2
      exact bodyPost_ret (v := .bool false) (by simp [results, Try.results52, go_sem]) rfl ⟨false, d, rfl, by rw [← HE.out, Sort.partialIns], HK⟩
end Go.Proofs.Ytbcloahekffjdaa
