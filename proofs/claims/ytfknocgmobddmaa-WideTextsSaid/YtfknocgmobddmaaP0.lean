/- What the rows' proofs of this seat share: the program's own facts, and how arguments are opened. -/
import Derived.Test.YtfknocgmobddmaaT5
import Derived.Test.YtfknocgmobddmaaRow
import Derived.Lib.SmallJoins
namespace Go.Proofs.Ytfknocgmobddmaa
open Go.ChangeShapes Go.WideShapes Go.ChangeAt Go.RowKit Go.Joins Go.Proofs.Kit

theorem own : ownKnob Try.prog.godebug = none := by kernel_rfl
theorem laidOut : laidOutB Try.prog = true := by kernel_rfl
theorem cells26 : Try.prog.cellsOf 26 = 2 := by kernel_rfl
theorem wd_of_wf {x : Int} (h : (Lit.int .u64 x).wf = true) : Wd x := by
  simp [Lit.wf, IntKind.min, IntKind.max, IntKind.signed, IntKind.bits] at h
  exact ⟨by omega, by omega⟩
set_option maxRecDepth 100000 in
/-- An argument that is a wide number. -/
theorem open_wide {H : Type} {enc : TypeId × Value → H} {W : World} {r : Reach} {b0 : Nat} {v : Value} {d : DataW H} {p : List MemPlace} (hv : Value.okWide Try.prog W r b0 26 v) (h : DataW.Trod enc Try.prog W 0 (fun _ => true) true 26 v d p) :
    ∃ a b : Int, v = WV a b ∧ Wd a ∧ Wd b := by
  obtain ⟨c0, c1, y0, y1, m, rfl, rfl, rfl, hy0, hy1⟩ := open_agg2 Try.underlying26 (by kernel_rfl) cells26 hv h
  obtain ⟨a, e0, rfl, wa⟩ := DataW.trod_int Try.underlying24 hy0
  obtain ⟨b, e1, rfl, wb⟩ := DataW.trod_int Try.underlying24 hy1
  simp at e0 e1
  subst e0 e1
  exact ⟨a, b, rfl, wd_of_wf wa, wd_of_wf wb⟩
end Go.Proofs.Ytfknocgmobddmaa
