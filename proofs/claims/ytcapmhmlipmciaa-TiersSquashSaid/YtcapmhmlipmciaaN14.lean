/- The layer does something: wakes. -/
import Derived.Test.YtcapmhmlipmciaaN13
import Derived.Test.YtcapmhmlipmciaaKitB
import Derived.Deep.RegionHeld3
namespace Go.Proofs.Ytcapmhmlipmciaa
open Go.RowKit Go.Proofs.Kit
def sm : List Pr := [(1, 5), (2, 3), (2, 9)]
theorem wkOf : ofP [(2, 9), (1, 5), (2, 3), (1, 5)] = sm := by decide
theorem wkTurn : turnP sm = [(3, 2), (5, 1), (9, 2)] := by decide
theorem wkCk : ckP sm = 0 := by decide
theorem wkCk2 : ck2 sm [(2, 3), (7, 7)] = 0 := by decide
theorem wkMinus : (cmb true false false sm [(2, 3), (7, 7)]).length = 2 := by
  have h : cmb true false false sm [(2, 3), (7, 7)] = comb true false false sm [(2, 3), (7, 7)] := if_pos (by decide)
  rw [h, comb, sm]
  simp [tog, keepP, keepF, lt2]
theorem wkFirsts : firstsP sm = [1, 2] := by decide
theorem wkSeconds : secondsP sm 2 = [3, 9] := by decide
theorem wkHas : hasP sm (2, 3) = true := by decide
/-- The chapter's run lies where it lay. -/
def WS (b : Nat) (w0 w' : World) : Prop := Blk w' b #[.int .u64 1, .int .u64 5, .int .u64 2, .int .u64 3, .int .u64 2, .int .u64 9] 36 ∧ Below w0.heap.size w0 w'
theorem WS.later {b : Nat} {w0 w' w'' : World} (h : WS b w0 w') (hb : Below w'.heap.size w' w'') : WS b w0 w'' := ⟨h.1.later hb, below_later h.2 hb⟩
theorem WS.drew {b : Nat} {w0 w' : World} (h : WS b w0 w') : WS b w0 w'.drew := h.later (Below.refl _ _).drew
theorem WS.alloc {b : Nat} {w0 w' : World} (h : WS b w0 w') (o : Obj) : WS b w0 (w'.alloc o) := h.later ((Below.refl _ _).alloc (Nat.le_refl _) o)
theorem WS.all {b : Nat} {w0 w' : World} (h : WS b w0 w') : (w'.cell? ⟨b, 0, none⟩ = some (.int .u64 1) ∧ w'.cell? ⟨b, 1, none⟩ = some (.int .u64 5) ∧ w'.cell? ⟨b, 2, none⟩ = some (.int .u64 2) ∧ w'.cell? ⟨b, 3, none⟩ = some (.int .u64 3) ∧ w'.cell? ⟨b, 4, none⟩ = some (.int .u64 2) ∧ w'.cell? ⟨b, 5, none⟩ = some (.int .u64 9) ∧ b < w'.heap.size) ∧ WS b w0 w' :=
  ⟨⟨h.1.cell 0, h.1.cell 1, h.1.cell 2, h.1.cell 3, h.1.cell 4, h.1.cell 5, h.1.lt⟩, h⟩
theorem WS.seg {b : Nat} {w0 w' : World} (h : WS b w0 w') : SegP w' (.slice (some ⟨b, 0, none⟩) 3 3) sm := SegP.of_blk (l := sm) h.1 (by decide) (by omega) rfl
end Go.Proofs.Ytcapmhmlipmciaa

