/- Sorting by a heap; a part turned round. -/
import Derived.Test.YtbcloahekffjdaaH16
import Derived.Deep.CutBlock
namespace Go.Proofs.Ytbcloahekffjdaa
open Go.RowKit Go.Proofs.Kit
set_option maxHeartbeats 4000000 in
theorem heap_any (B g n cap a b : Nat) (d : Array Int) (w0 w : World) (h : SRt B g n cap w0 d w) (hab : a ≤ b) (hb : b ≤ n) (hn : n ≤ 1000000) :
    Calls Try.prog 48 #[.slice (some ⟨g, 0, none⟩) n cap, .int .i64 a, .int .i64 b] w fun e w' => e = .returned (.tuple #[]) ∧ SRt B g n cap w0 (Sort.heapSort ltI d a b) w' := by
  obtain ⟨l, hl⟩ : ∃ l, l = b - a := ⟨_, rfl⟩
  have H := Lib.hid h
  have hs : Hid (Sort.heapSort ltI d a b = Sort.heapPop ltI a l (Sort.heapBuild ltI l a ((l - 1) / 2 + 1) d)) := Lib.hid (by unfold Sort.heapSort; rw [hl])
  have hlb : a + l ≤ n := by omega
  have hal : (b : Int) - (a : Int) = (l : Int) := by omega
  clear h hab hl
  go_enter Try.func48, Try.ntmps48
  go_wp2
  go_loopw [9] (fun i wr => ∃ (k : Nat) (z : Int) (dk : Array Int), k ≤ (l - 1) / 2 + 1 ∧ i = .int .i64 z ∧ z = (k : Int) - 1 ∧ Hid (SRt B g n cap w0 dk wr) ∧ Hid (Sort.heapBuild ltI l a k dk = Sort.heapBuild ltI l a ((l - 1) / 2 + 1) d)) (fun i _ => (intOf i + 1).toNat)
  case atStart => exact ⟨(l - 1) / 2 + 1, _, d, Nat.le_refl _, rfl, half_start2 _, H, Lib.hid rfl⟩
  case round =>
    obtain ⟨k, z, dk, hk, rfl, hz, HK, HE⟩ := hrel
    clear H
    by_cases h0 : k = 0
    · subst h0
      obtain rfl : z = -1 := by omega
      clear hz
      go_wp2
      go_loopw [10] (fun i wr => ∃ (k : Nat) (z : Int) (dk : Array Int), k ≤ l ∧ i = .int .i64 z ∧ z = (k : Int) - 1 ∧ Hid (SRt B g n cap w0 dk wr) ∧ Hid (Sort.heapPop ltI a k dk = Sort.heapSort ltI d a b)) (fun i _ => (intOf i + 1).toNat)
      case atStart => exact ⟨l, _, dk, Nat.le_refl _, rfl, rfl, HK, Lib.hid (by rw [hs.out, ← HE.out]; rfl)⟩
      case round =>
        obtain ⟨k, z, dk, hk, rfl, hz, HK, HE⟩ := hrel
        by_cases h0 : k = 0
        · subst h0
          obtain rfl : z = -1 := by omega
          clear hz
          go_wp2
          go_end0
          exact ⟨rfl, by rw [← HE.out]; exact HK.out⟩
        · obtain ⟨q, rfl⟩ : ∃ q, k = q + 1 := ⟨k - 1, by omega⟩
          obtain rfl : z = (q : Int) := by omega
          clear hz
          have hg := HK.out.lt
          have d1 := HK.out.cell (i := a) (by omega)
          have d2 := HK.out.cell (i := a + q) (by omega)
          have f1 := HK.out.frozen (i := a) (by omega)
          have f2 := HK.out.frozen (i := a + q) (by omega)
          obtain ⟨x, hx⟩ : ∃ x, x = dk[a]! := ⟨_, rfl⟩
          obtain ⟨y, hy⟩ : ∃ y, y = dk[a + q]! := ⟨_, rfl⟩
          rw [← hx] at d1
          rw [← hy] at d2
          have HX := Lib.hid hx
          have HY := Lib.hid hy
          clear hx hy
          by_cases hq : q = 0
          · subst hq
            clear d2 f2
            go_wp2
            go_region
            all_goals
              go_wp2_with (go_at_call 58; refine (sift_any B g n cap 0 0 a (Sort.swp dk a (a + 0)) w0 _ (HK.out.swpN (by omega) (by omega) HX.out HX.out _) (by omega) (by omega) hn).mono ?_; rintro e w' ⟨rfl, hS⟩)
              go_roundw
              case rel => exact ⟨0, _, _, by omega, rfl, by go_num, Lib.hid hS, Lib.hid (by rw [← HE.out, heapP_go])⟩
              case measure => simp [intOf] <;> omega
          · have hne : a + q ≠ a := by omega
            go_wp2
            go_region
            all_goals
              go_wp2_with (go_at_call 58; refine (sift_any B g n cap 0 q a (Sort.swp dk a (a + q)) w0 _ (HK.out.swpN (by omega) (by omega) HX.out HY.out _) (by omega) (by omega) hn).mono ?_; rintro e w' ⟨rfl, hS⟩)
              go_roundw
              case rel => exact ⟨q, _, _, by omega, rfl, by go_num, Lib.hid hS, Lib.hid (by rw [← HE.out, heapP_go])⟩
              case measure => simp [intOf] <;> omega
    · obtain ⟨q, rfl⟩ : ∃ q, k = q + 1 := ⟨k - 1, by omega⟩
      obtain rfl : z = (q : Int) := by omega
      clear hz
      go_wp2_with (go_at_call 58; refine (sift_any B g n cap q l a dk w0 _ HK.out (by omega) (by omega) hn).mono ?_; rintro e w' ⟨rfl, hS⟩)
      go_roundw
      case rel => exact ⟨q, _, _, by omega, rfl, by go_num, Lib.hid hS, Lib.hid (by rw [← HE.out, heapB_go])⟩
      case measure => simp [intOf] <;> omega
end Go.Proofs.Ytbcloahekffjdaa
