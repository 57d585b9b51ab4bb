/- tiers.Content; Has. -/
import Derived.Test.YtlhigfphfbmbjaaW12
import Derived.Test.YtlhigfphfbmbjaaW13
import Derived.Test.YtlhigfphfbmbjaaN8
namespace Go.Proofs.Ytlhigfphfbmbjaa
open Go.RowKit Go.Proofs.Kit Go.Shelf
attribute [local go_sem] Oper.semAt_some
set_option maxRecDepth 100000 in
set_option maxHeartbeats 1000000 in
theorem content11_any (v : Value) (L : List Tr) (w : World) (h : SegT w v L) (hW : Wl L) (hS : SmT 500000 L) :
    Calls Try.prog 29 #[v] w fun e w' => ∃ v', e = .returned v' ∧ OwnP 53 w.heap.size w' v' (cont L) ∧ Below w.heap.size w w' := by
  obtain ⟨o, c, rfl, hc, hm⟩ := h.shape
  have HA := Lib.hid h
  have HW := Lib.hid hW
  have HS := Lib.hid hS
  have HC := Lib.hid (check11_any _ L w h hS)
  clear h hW hS
  by_cases hg : goodT L
  · have e1 : ckT L = 0 := ckT_yes hg
    have e2 : cont L = those L 1 := if_pos hg
    have HG := Lib.hid hg
    have hf : ∀ (a1 a2 a3 : _) (b1 b2 b3 : _) (w : World), (Instr.field 24 (.agg #[.slice a1 a2 a3, .slice b1 b2 b3]) 0).run Try.prog w = .ok (.slice a1 a2 a3) w := fun _ _ _ _ _ _ _ => by kernel_rfl
    rw [e1] at HC
    rw [e2]
    clear e1 e2 hg
    go_enter Try.func29, Try.ntmps29
    go_wp2_with fail
    refine HC.out.mono ?_
    rintro e w1 ⟨rfl, b1⟩
    have HA1 := Lib.hid (HA.out.later b1)
    have LOW := Lib.hid b1
    clear b1
    go_wp2_with fail
    refine (asOne_any true _ L _ HA1.out HW.out (HS.out.mono (by decide)) (by have := HG.out.2; omega)).mono ?_
    rintro e w2 ⟨x, rfl, q2, b2⟩
    have LOW2 := Lib.hid (below_later LOW.out b2)
    have Q := Lib.hid (q2.1.mono (B' := w.heap.size) LOW.out.size)
    clear b2 q2
    go_wp2
    go_ret
    exact ⟨_, rfl, Q.out, LOW2.out⟩
  · have e1 : ckT L = 210 := ckT_no hg
    have e2 : cont L = [] := if_neg hg
    rw [e1] at HC
    rw [e2]
    clear e1 e2 hg
    go_enter Try.func29, Try.ntmps29
    go_wp2_with fail
    refine HC.out.mono ?_
    rintro e w1 ⟨rfl, b1⟩
    go_wp2
    go_ret
    exact ⟨_, rfl, OwnP.nil _ _ _, b1⟩
theorem hasP_ok {l : List Pr} (h : okP l) (p : Pr) : hasP l p = decide (p ∈ l) := by
  unfold hasP
  simp [h.1, h.2]
theorem wpIn_scope {n : Nat} {P : Program} {c : Code} {Q : Exit → Act → World → Prop} {a : Act} {w : World} (h : c.wpIn Fence.wide n P (Exit.noGoto Q) a w) : (Code.scope c).wpIn Fence.wide n P Q a w := wpIn_wide.2 (wp_scope_straight (wpIn_wide.1 h))
/-- What holds between two rounds of Has' loop. -/
structure HInv (w : World) (bp b5 bx : Nat) (p1 p2 : Int) (v : Value) (r : Bool) (X : World) : Prop where
  p : Blk X bp #[.int .u64 p1, .int .u64 p2] 53
  h : Blk X b5 #[.bool r] 4
  x : Blk X bx #[v] 45
  low : Below w.heap.size w X
theorem HInv.later {w X X' : World} {bp b5 bx : Nat} {p1 p2 : Int} {v : Value} {r : Bool} (h : HInv w bp b5 bx p1 p2 v r X) (hb : Below X.heap.size X X') : HInv w bp b5 bx p1 p2 v r X' := ⟨h.p.later hb, h.h.later hb, h.x.later hb, below_later h.low hb⟩
theorem HInv.aside {w X X' : World} {bp b5 bx D : Nat} {p1 p2 : Int} {v : Value} {r : Bool} (h : HInv w bp b5 bx p1 p2 v r X) (ha : Kit.Aside D X X') (hD : w.heap.size ≤ D) : HInv w bp b5 bx p1 p2 v r X' := ⟨ha.blk h.p, ha.blk h.h, ha.blk h.x, ha.below h.low hD (Nat.le_refl _)⟩
end Go.Proofs.Ytlhigfphfbmbjaa

