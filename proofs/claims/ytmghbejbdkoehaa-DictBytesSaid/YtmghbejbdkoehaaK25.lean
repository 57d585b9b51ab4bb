/- The reference's Id. -/
import Derived.Test.YtmghbejbdkoehaaK22
import Derived.Test.YtmghbejbdkoehaaMm
namespace Go.Proofs.Kit
open Go.RowKit
/-- A name's id; -1: it has none. -/
def idI (T : Nat → List ByteArray) (k : Int) (s : ByteArray) : Int := if 0 ≤ k ∧ k < 5 then fdI (T k.toNat) s else -1
theorem idI_in (T : Nat → List ByteArray) {n : Nat} (h : n < 5) (s : ByteArray) : idI T (n : Int) s = fdI (T n) s := by
  unfold idI
  rw [if_pos (by omega), Int.toNat_natCast]
theorem idI_out (T : Nat → List ByteArray) {k : Int} (h : ¬ (0 ≤ k ∧ k < 5)) (s : ByteArray) : idI T k s = -1 := if_neg h
end Go.Proofs.Kit
namespace Go.Proofs.Ytmghbejbdkoehaa
open Go.RowKit Go.Proofs.Kit Go.Shelf

set_option maxRecDepth 100000 in
set_option maxHeartbeats 1000000 in
theorem eid_any (a : Nat → Value) (T : Nat → List ByteArray) (w : World) (hT : ∀ k, Sl w (a k) ((T k).map .string)) (k : Int) (s : ByteArray) :
    Calls Try.prog 24 #[.agg (nms a), .int .i64 k, .string s] w fun e w' => e = .returned (.int .i64 (idI T k s)) ∧ Below w.heap.size w w' := by
  have HT := Lib.hid hT
  have ha : ∀ k, ∃ o m c, a k = .slice o m c := fun k => by obtain ⟨o, c, e, _⟩ := (hT k).mshape; exact ⟨o, _, c, e⟩
  clear hT
  simp only [nms]
  obtain ⟨W1, hW1⟩ : ∃ W1, W1 = w.alloc (.cells (nms a) 37) := ⟨_, rfl⟩
  have e1 : w.alloc (.cells #[a 0, a 1, a 2, a 3, a 4] 37) = W1 := by rw [hW1]; rfl
  have k0 : Blk W1 w.heap.size (nms a) 37 := by rw [hW1]; exact Blk.new w _ _
  have g1 : Below w.heap.size w W1 := by rw [hW1]; exact (Gr.alloc _ _).below
  clear hW1
  by_cases hk : 0 ≤ k ∧ k < 5
  · obtain ⟨n, rfl⟩ : ∃ n : Nat, k = (n : Int) := ⟨k.toNat, by omega⟩
    have hn : n < 5 := by omega
    clear hk
    rw [idI_in T hn s]
    have F := Lib.hid (fun w' (h : Below w.heap.size w w') => rfind_any (a n) (T n) s w' ((HT.out n).later h))
    obtain ⟨c0, c1, c2, c3, c4⟩ := ncells k0
    have HB := Lib.hid g1
    clear k0 g1 HT
    obtain ⟨o, m, c, e⟩ := ha n
    rw [e] at F
    have q1 : decide ((n : Int) < 0) = false := by simp
    have q2 : decide ((4 : Int) < (n : Int)) = false := by simp; omega
    obtain rfl | rfl | rfl | rfl | rfl := five hn
    all_goals
      simp only [e] at c0 c1 c2 c3 c4 e1
      clear q1 q2
      go_enter Try.func24, Try.ntmps24
      go_wp2_with (go_at_call 50; refine (F.out _ HB.out).mono ?_; rintro en w2 ⟨rfl, h2⟩; subst h2)
      go_ret
      exact ⟨rfl, HB.out⟩
  · rw [idI_out T hk s]
    clear HT
    have hc : k < 0 ∨ 4 < k := by omega
    clear hk
    rcases hc with hc | hc
    · have q1 : decide (k < 0) = true := by simp; omega
      go_enter Try.func24, Try.ntmps24
      go_wp2
      go_ret
      exact ⟨rfl, g1⟩
    · have q1 : decide (k < 0) = false := by simp; omega
      have q2 : decide (4 < k) = true := by simp; omega
      go_enter Try.func24, Try.ntmps24
      go_wp2
      go_ret
      exact ⟨rfl, g1⟩
end Go.Proofs.Ytmghbejbdkoehaa

