/- gallop's closures; the leaps told one by one. -/
import Derived.Test.YtjfnhjmdgfkgnaaH1x
import Derived.Test.YtjfnhjmdgfkgnaaRngG
import Derived.Shelf.RegionOpen
import Derived.OwnWalkIn
import Derived.TacticsInMore
import Derived.LoopNIn
import Derived.LoopIn
import Derived.WalkMore
import Derived.ScopeJumps
import Derived.Deep.LoopGhost
import Derived.Deep.DeepCutAuto
namespace Go.Proofs.Ytjfnhjmdgfkgnaa
open Go.RowKit Go.Proofs.Kit Go.Shelf
attribute [local go_sem] Oper.semAt_some

theorem wp_scope_jumps1 {P : Program} {a : Act} {w : World} {Q : Exit → Act → World → Prop} {c rest : Code} (l : Nat) (J : Act → World → Prop) (μ : Act → World → Nat) (hf : findLabel c l = some (Code.skip.seq rest))
    (pass : ∀ a w, J a w → rest.wp P (Exit.jump l (fun a' w' => J a' w' ∧ μ a' w' < μ a w) Q) a w)
    (first : (∀ a w, J a w → rest.wp P (Exit.jump l J Q) a w) → c.wp P (Exit.jump l J Q) a w) : (Code.scope c).wp P Q a w :=
  wp_scope_jumps l J μ hf (first (fun a w h => Code.wp_mono (fun e a' w' he => by
    cases e with
    | goto l' =>
      simp only [Exit.jump] at he ⊢
      exact ⟨he.1, he.2.1⟩
    | _ => exact he) (pass a w h))) (fun a w h => wp_seq (wp_skip (pass a w h)))

set_option maxRecDepth 100000 in
set_option maxHeartbeats 400000 in
theorem gatLeast1_any (bk : Nat) (key x : Int) (w : World) (hb : Blk w bk #[.int .u64 key] 32) :
    Calls Try.prog 139 #[.int .u64 x, .pointer (some ⟨bk, 0, none⟩)] w fun e w' => e = .returned (.bool (ge key x)) ∧ w' = w := by
  have c0 := hb.cell 0
  simp only [List.getElem?_toArray, List.getElem?_cons_zero] at c0
  clear hb
  go_enter Try.func139, Try.ntmps139
  go_wp2
  go_ret
  exact ⟨rfl, rfl⟩
set_option maxRecDepth 100000 in
set_option maxHeartbeats 400000 in
theorem gatLeast_any (key : Int) (w : World) :
    Calls Try.prog 136 #[.int .u64 key] w fun e w' => e = .returned (.func (.func 139) #[] #[.pointer (some ⟨w.heap.size, 0, none⟩)]) ∧ w' = w.alloc (.cells #[.int .u64 key] 32) := by
  have hmf : ∀ (fn : Fn) (first cap : Array Value) (w : World), (Instr.makeFunc fn first cap).run Try.prog w = .ok (.func fn first cap) w := fun _ _ _ _ => rfl
  go_enter Try.func136, Try.ntmps136
  go_wp2
  go_ret
  exact ⟨rfl, rfl⟩
set_option maxRecDepth 100000 in
set_option maxHeartbeats 400000 in
theorem leaps_any (bound : Int) (w : World) :
    Calls Try.prog 140 #[.int .i64 bound] w fun e w' => e = .returned (.func (.func 141) #[] #[.pointer (some ⟨w.heap.size, 0, none⟩)]) ∧ w' = w.alloc (.cells #[.int .i64 bound] 3) := by
  have hmf : ∀ (fn : Fn) (first cap : Array Value) (w : World), (Instr.makeFunc fn first cap).run Try.prog w = .ok (.func fn first cap) w := fun _ _ _ _ => rfl
  go_enter Try.func140, Try.ntmps140
  go_wp2
  go_ret
  exact ⟨rfl, rfl⟩

/-- A leap below a bound. -/
abbrev Lp (bound : Nat) : Type := { k : Nat // 2 ^ k ≤ bound }
/-- What a leap is told as. -/
abbrev encLp {bound : Nat} (x : Lp bound) : Array Value := #[.int .i64 (((2 ^ x.1 : Nat) : Int) - 1)]
/-- The leaps from the first one on. -/
def FirstL {bound : Nat} (xs : List (Lp bound)) : Prop := xs.map (·.1) = List.range xs.length
theorem FirstL.snoc {bound : Nat} {xs : List (Lp bound)} (h : FirstL xs) (x : Lp bound) (hx : x.1 = xs.length) : FirstL (xs ++ [x]) := by
  unfold FirstL at *
  simp [List.range_succ, h, hx]
set_option maxRecDepth 100000 in
set_option maxHeartbeats 2000000 in
theorem leaps1_in (n : Nat) (hn : 1 ≤ n) (bx bound : Nat) (hbd : bound ≤ 1000000) :
    SeqG Fence.wide n Try.prog 141 #[.pointer (some ⟨bx, 0, none⟩)] (encLp (bound := bound)) (fun xs => FirstL xs ∧ bound < 2 ^ xs.length) FirstL 64 (fun X => Blk X bx #[.int .i64 (bound : Int)] 3) (fun _ => True) := by
  intro l J Jx W hJK hJB hY h0
  have HJK := Lib.hid hJK
  have HY := Lib.hid hY
  clear hJK hJB hY
  refine callsIn_wide.2 ?_
  go_enter Try.func141, Try.ntmps141
  go_wp2
  refine wp_scope_jumps1 0 (fun a' wr => ∃ (pre : List (Lp bound)) (X : Nat) (u4 u5 u6 u7 u8 u9 u10 u11 u12 u13 u14 : Value), a' = { tmps := #[.func (.yield l) #[] #[], .pointer (some ⟨bx, 0, none⟩), undef, .int .i64 (X : Int), u4, u5, u6, u7, u8, u9, u10, u11, u12, u13, u14], defers := [] } ∧ Hid (X = 2 ^ pre.length) ∧ 1 ≤ X ∧ X ≤ 2 * bound + 1 ∧ FirstL pre ∧ Hid (J pre wr)) (fun a' _ => 2 * bound + 2 - (intOf (a'.tmps.getD 3 undef)).toNat) rfl ?pass ?first
  case pass =>
    rintro a' wr ⟨pre, X, u4, u5, u6, u7, u8, u9, u10, u11, u12, u13, u14, rfl, hX, hX1, hX2, hF, hJ⟩
    have hK := (HJK.out _ _ hJ.out).cell 0
    simp only [List.getElem?_toArray, List.getElem?_cons_zero] at hK
    have HF := Lib.hid hF
    clear hF
    by_cases hle : X ≤ bound
    · have hlen : pre.length < 64 := by
        by_cases c : pre.length < 64
        · exact c
        · exfalso
          have h1 : 2 ^ 64 ≤ 2 ^ pre.length := Nat.pow_le_pow_right (by decide) (by omega)
          rw [← hX.out] at h1
          omega
      have hx : 2 ^ pre.length ≤ bound := by rw [← hX.out]; exact hle
      obtain ⟨x0, hx0⟩ : ∃ x0 : Lp bound, x0.1 = pre.length := ⟨⟨_, hx⟩, rfl⟩
      obtain ⟨fn, tmps, assign, body, hy, hRd⟩ := HY.out pre x0 wr hJ.out hlen trivial
      dsimp only [encLp] at hy
      rw [hx0, ← hX.out] at hy
      have HX0 := Lib.hid hx0
      clear hlen hx hx0
      go_upto_region 1 with (fail)
      refine (wpIn_wide (n := n)).1 ?_
      gi_wp2_with fail
      refine hRd.mono ?_
      rintro e W3 (⟨rfl, hJ3⟩ | ⟨rfl, hJ3⟩)
      · gi_wp2_with fail
        go_wp2
        go_step3
        have e2 : (X : Int) * 2 = ((X * 2 : Nat) : Int) := by omega
        rw [e2]
        refine ⟨rfl, ⟨pre ++ [x0], X * 2, _, _, _, _, _, _, _, _, _, _, _, rfl, Lib.hid ?_, by omega, by omega, FirstL.snoc HF.out _ HX0.out, Lib.hid hJ3⟩, ?_⟩
        · rw [List.length_append, hX.out, List.length_singleton, Nat.pow_succ]
        · simp [intOf]; omega
      · gi_wp2_with fail
        go_wp2
        simp only [Exit.jump]
        go_end0
        exact ⟨⟨_, rfl⟩, .inr ⟨_, FirstL.snoc HF.out _ HX0.out, hJ3⟩⟩
    · have hle' : decide (X ≤ bound) = false := by simpa using hle
      go_wp2
      simp only [Exit.jump]
      go_end0
      exact ⟨⟨_, rfl⟩, .inl ⟨_, ⟨HF.out, by rw [← hX.out]; omega⟩, hJ.out⟩⟩
  case first =>
    intro hp
    go_wp2
    go_step3
    rename_i K hK
    exact hK _ _ (hp _ _ ⟨[], 1, _, _, _, _, _, _, _, _, _, _, _, rfl, Lib.hid rfl, by omega, by omega, rfl, Lib.hid h0⟩)
end Go.Proofs.Ytjfnhjmdgfkgnaa

