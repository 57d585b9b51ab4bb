/- The lines of a text, told one by one. -/
import Derived.Test.YtoajaacdhkknfaaDoorX13
import Derived.Test.YtoajaacdhkknfaaDoorRngG
import Derived.Shelf.RegionOpen
import Derived.OwnWalkIn
import Derived.TacticsInMore
import Derived.LoopNIn
import Derived.LoopIn
import Derived.WalkMore
import Derived.Deep.LoopGhost
import Derived.Deep.DeepCutAuto
namespace Go.Proofs.Kit
open Go.RowKit
/-- What a line is told as. -/
abbrev encY (x : List UInt8 × Bool) : Array Value := #[.string (lb x.1), .bool x.2]
/-- What the iterator reads. -/
def KY (t : TypeId) (g bx : Nat) (s : ByteArray) (m : Int) (X : World) : Prop := Blk X bx #[.string s] t ∧ X.cell? ⟨g, 0, none⟩ = some (.int .i64 m)
theorem KY.later {t : TypeId} {g bx : Nat} {s : ByteArray} {m : Int} {X X' : World} (h : KY t g bx s m X) (hb : Below X.heap.size X X') : KY t g bx s m X' := ⟨h.1.later hb, (hb.cell (p := ⟨g, 0, none⟩) (World.block_lt_of_cell? _ _ h.2)).trans h.2⟩
end Go.Proofs.Kit
namespace Go.Proofs.YtoajaacdhkknfaaDoor
open Go.RowKit Go.Proofs.Kit Go.Shelf
attribute [local go_sem] Oper.semAt_some
set_option maxRecDepth 100000 in
set_option maxHeartbeats 4000000 in
theorem lines1_in (n : Nat) (hn : 1 ≤ n) (bx : Nat) (s : ByteArray) (m : Int) (hs : s.size < 4294967281) :
    SeqG Fence.wide n Tryd.prog 17 #[.pointer (some ⟨bx, 0, none⟩)] encY (fun xs => xs = linesL (bl s)) (fun pre => ∃ r, linesL (bl s) = pre ++ r) (linesL (bl s)).length (KY 9 0 bx s m) (fun x => x.1.length ≤ s.size) := by
  intro l J Jx W hJK hJB hY h0
  have hK0 := hJK _ _ h0
  have c0 := hK0.1.cell 0
  have lb0 := hK0.1.lt
  simp only [List.getElem?_toArray, List.getElem?_cons_zero] at c0
  have HJK := Lib.hid hJK
  have HJB := Lib.hid hJB
  have HY := Lib.hid hY
  clear hJK hJB hY hK0
  refine callsIn_wide.2 ?_
  go_enter Tryd.func17, Tryd.ntmps17
  go_wp2
  clear c0 lb0
  go_loopg [3] s.size (fun kx x wr => ∃ (pre : List (List UInt8 × Bool)) (rest : ByteArray), x = .string rest ∧ rest.size ≤ kx ∧ rest.size ≤ s.size ∧ Hid (J pre wr) ∧ Hid (pre ++ linesL (bl rest) = linesL (bl s)))
  case atStart => exact ⟨[], s, rfl, Nat.le_refl _, Nat.le_refl _, Lib.hid h0, Lib.hid rfl⟩
  case round =>
    obtain ⟨pre, rest, rfl, hkx, hle, HJ, HP⟩ := hrel
    by_cases he : rest = noB
    · subst he
      have HE := Lib.hid (show pre = linesL (bl s) by have := HP.out; rwa [show linesL (bl noB) = [] from rfl, List.append_nil] at this)
      go_wp2
      go_end0
      exact ⟨⟨_, rfl⟩, .inl ⟨_, HE.out, HJ.out⟩⟩
    · obtain ⟨n1, n2, n3⟩ := ne_empty he
      have hbne : bl rest ≠ [] := fun e => he (bl_inj e)
      obtain ⟨q1, q2⟩ := cut_feed hbne
      have HQ1 := Lib.hid q1
      rw [bl_len] at q2
      have hKr := HJK.out _ _ HJ.out
      have HC := Lib.hid (Tryd.strings_Cut rest ⟨#[10]⟩ m wr (by omega) hKr.2)
      obtain ⟨a, ha⟩ : ∃ a, a = (Lib.cut (bl rest) [10]).1 := ⟨_, rfl⟩
      obtain ⟨r, hr⟩ : ∃ r, r = (Lib.cut (bl rest) [10]).2.1 := ⟨_, rfl⟩
      obtain ⟨en, hen⟩ : ∃ en, en = (Lib.cut (bl rest) [10]).2.2 := ⟨_, rfl⟩
      have HC' : Hid (Calls Tryd.prog 18 #[.string rest, .string ⟨#[10]⟩] wr fun e w' => e = .returned (.tuple #[.string (lb a), .string (lb r), .bool en]) ∧ ∃ n, w' = wr.drewN n) := Lib.hid (by rw [ha, hr, hen]; exact HC.out)
      rw [← ha, ← hr, ← hen] at HQ1
      rw [← hr] at q2
      have HPR := Lib.hid (show (pre ++ [(a, en)]) ++ linesL r = linesL (bl s) by rw [← HP.out, HQ1.out]; simp)
      have hlen : pre.length < (linesL (bl s)).length := by rw [← HPR.out]; simp
      have HLEN := Lib.hid hlen
      have HAL := Lib.hid (show a.length ≤ s.size by
        have hg := glue_lines (bl rest)
        rw [HQ1.out, glue] at hg
        have := congrArg List.length hg
        rw [bl_len, List.length_append, withF, List.length_append] at this
        dsimp only at this
        omega)
      clear he hbne q1 hKr HC ha hr hen hlen
      go_wp2_with fail
      refine HC'.out.mono ?_
      rintro e w2 ⟨rfl, nd, rfl⟩
      have hJ1 : J pre (wr.drewN nd) := HJB.out _ _ _ HJ.out (Gr.drewN _ _).below
      go_upto_region 3 with (fail)
      refine (wpIn_wide (n := n)).1 ?_
      obtain ⟨fn, tmps, assign, body, hy, hRd⟩ := HY.out pre (a, en) _ hJ1 HLEN.out HAL.out
      dsimp only [encY] at hy
      clear hJ1
      gi_wp2_with fail
      refine hRd.mono ?_
      rintro e W3 (⟨rfl, hJ3⟩ | ⟨rfl, hJ3⟩)
      · gi_wp2_with fail
        go_wp2
        go_roundg r.length
        case measure => omega
        case rel => exact ⟨pre ++ [(a, en)], lb r, rfl, by rw [lb_size]; exact Nat.le_refl _, by rw [lb_size]; omega, Lib.hid hJ3, Lib.hid (by rw [bl_lb]; exact HPR.out)⟩
      · gi_wp2_with fail
        go_wp2
        exact bodyPost_ret (v := .tuple #[]) (by simp [results, Tryd.results17]) rfl ⟨⟨_, rfl⟩, .inr ⟨_, ⟨_, HPR.out.symm⟩, hJ3⟩⟩
set_option maxRecDepth 100000 in
set_option maxHeartbeats 1000000 in
theorem lines_any (s : ByteArray) (w : World) : Calls Tryd.prog 9 #[.string s] w fun e w' => e = .returned (.func (.func 17) #[] #[.pointer (some ⟨w.heap.size, 0, none⟩)]) ∧ w' = w.alloc (.cells #[.string s] 9) := by
  have hmf : ∀ (fn : Fn) (first cap : Array Value) (w : World), (Instr.makeFunc fn first cap).run Tryd.prog w = .ok (.func fn first cap) w := fun _ _ _ _ => rfl
  go_enter Tryd.func9, Tryd.ntmps9
  go_wp2
  go_ret
  exact ⟨rfl, rfl⟩
end Go.Proofs.YtoajaacdhkknfaaDoor

