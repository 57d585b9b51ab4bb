/- What the rows' proofs of this seat share: the program's own facts, and how arguments are opened. -/
import Derived.Test.YtbcloahekffjdaaH1
import Derived.Test.YtbcloahekffjdaaRow
import Derived.Test.YtbcloahekffjdaaRows
import Derived.Lib.SmallJoins
import Derived.Deep.Slices
namespace Go.Proofs.Ytbcloahekffjdaa
open Go.ChangeShapes Go.WideShapes Go.ChangeAt Go.RowKit Go.Joins Go.Proofs.Kit

theorem own : ownKnob Try.prog.godebug = none := by kernel_rfl
theorem laidOut : laidOutB Try.prog = true := by kernel_rfl
theorem wf_u64 {x : Int} (h : (Lit.int .u64 x).wf = true) : 0 ≤ x ∧ x < 18446744073709551616 := by
  simp [Lit.wf, IntKind.min, IntKind.max, IntKind.signed, IntKind.bits] at h
  omega
theorem wf_i64 {x : Int} (h : (Lit.int .i64 x).wf = true) : -9223372036854775808 ≤ x ∧ x ≤ 9223372036854775807 := by
  simp [Lit.wf, IntKind.min, IntKind.max, IntKind.signed, IntKind.bits] at h
  omega
/-- An argument that is a slice of integers. -/
theorem open_argI {H : Type} {enc : TypeId × Value → H} {W : World} {r : Reach} {b0 : Nat} {v : Value} {d : DataW H} {p : List MemPlace} {t e : TypeId} {k : IntKind} (ht : Try.prog.underlying t = some (.slice e)) (he : Try.prog.underlying e = some (.int k)) (hc : Try.prog.cellsOf e = 1)
    (hv : Value.okWide Try.prog W r b0 t v) (h : DataW.Trod enc Try.prog W 0 (fun _ => true) true t v d p) :
    ∃ (o : Option Addr) (n c : Nat) (l : List Int), v = .slice o n c ∧ l.length = n ∧ n ≤ c ∧ c ≤ 9223372036854775807 ∧ ArgI k W o c l ∧ ∀ x ∈ l, (Lit.int k x).wf = true := by
  obtain ⟨o, len, cap, rfl⟩ := okWide_slice ht hv
  obtain ⟨fuel, hf⟩ := h
  rcases open_ints ht he hc hf with ⟨h0, _⟩ | ⟨a, len', cap', zs, h0, _, hlc, hcm, hz, _, hcell, hwf⟩
  · simp [Value.cells] at h0
    obtain ⟨rfl, rfl, rfl⟩ := h0
    exact ⟨none, 0, 0, [], rfl, rfl, by omega, by omega, .inl ⟨rfl, rfl, rfl⟩, by simp⟩
  · simp [Value.cells] at h0
    obtain ⟨rfl, rfl, rfl⟩ := h0
    simp only [if_true] at hz
    unfold maxLen at hcm
    refine ⟨some a, len, cap, zs.take len, rfl, by simp; omega, hlc, by omega, .inr ⟨a, rfl, fun i hi => ?_⟩, fun x hx => hwf x (List.mem_of_mem_take hx)⟩
    have hi' : i < zs.length := by simp at hi; omega
    rw [hcell i hi', List.getElem_take]
    simp [List.getD, hi']
theorem cells_u64 : Try.prog.cellsOf 27 = 1 := by kernel_rfl
theorem cells_int : Try.prog.cellsOf 3 = 1 := by kernel_rfl
end Go.Proofs.Ytbcloahekffjdaa
