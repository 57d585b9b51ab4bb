/-
  No cell of these rows narrows 'for every input' (looked for: loops, veiled, ifaces, maps, wideKeys, modest, calm, conditions, laid).
  DERIVED. THE GIVEN ROWS OF THIS SEAT. 5 by the template 'for every input the law returns true; each argument reads behind the call as it read before'; 0 by the template 'total and deterministic' (their statements: YtifhfeldjfcbfaaTotals.lean).
  GIVEN WITH THE SEED: the statements are not yours to turn. If you find one false, say at which input.
  Laid BY PROGRAM, IN A SANDBOX (cutbox-rows.mjs): the forced cells as the released guide's own fill.sh prints them over the translation 2a87cb2a27040163… (all of the seat's roots in one cut). By AI agents, Wed Nov 11 2026. No macro, syntax, notation, axiom, sorry.
-/
import Derived.Test.YtifhfeldjfcbfaaChecked
import GoSem.Claim
import GoSem.ClaimJoined
import GoSem.ClaimMapViews
import Derived.JoinedTies
import Derived.KernelRfl
namespace Go.Proofs.Ytifhfeldjfcbfaa
/- THE CELL 'sum', in the pinned program and in every row, IS THE sha256 OF THE DUMP (.gsa) THAT YtifhfeldjfcbfaaProg.lean LOADS. Nothing in Lean hashes anything: it is a label: what it is worth is what the hold of that sum in a sandbox is worth. -/
noncomputable def Try.pinned : Pinned := { name := "ytifhfeldjfcbfaa", sum := "2a87cb2a2704016382b26745b48b4e9ed2dd597619dc225b6ead5337176d5907", checked := Try.checked }
namespace Rows
def none {H : Type} : Left H := { results := [], args := [] }

/-- 'colanderlaw12.MergeMay': WHATEVER THE INPUT: true; the input reads as it did. -/
def mergeMaySpec : ChangeSpec := { name := "mergeMay", fn := fun _ => fun
  | [d1, d2] => { results := [.lit (.bool true)], args := [d1, d2] }
  | _ => none }
def mergeMayRow : OpenClaim := { program := "ytifhfeldjfcbfaa", sum := "2a87cb2a2704016382b26745b48b4e9ed2dd597619dc225b6ead5337176d5907", func := "colander/colanderlaw12.MergeMay", spec := "mergeMay", unfollowed := true, recurses := true, plainKeys := false, apart := false }
def MergeMaySaid : Prop := mergeMayRow.holds Try.pinned (OpenSpec.ofChange mergeMaySpec)

/-- ITS FALSE NEIGHBOUR: 'it returns false'. Refute it at one input. -/
def mergeMayWrong : ChangeSpec := { name := "mergeMay", fn := fun _ => fun
  | [d1, d2] => { results := [.lit (.bool false)], args := [d1, d2] }
  | _ => none }
def MergeMayWrongFalsely : Prop := mergeMayRow.holds Try.pinned (OpenSpec.ofChange mergeMayWrong)

/-- 'colanderlaw12.MergeSteps': WHATEVER THE INPUT: true; the input reads as it did. -/
def mergeStepsSpec : ChangeSpec := { name := "mergeSteps", fn := fun _ => fun
  | [d1, d2] => { results := [.lit (.bool true)], args := [d1, d2] }
  | _ => none }
def mergeStepsRow : OpenClaim := { program := "ytifhfeldjfcbfaa", sum := "2a87cb2a2704016382b26745b48b4e9ed2dd597619dc225b6ead5337176d5907", func := "colander/colanderlaw12.MergeSteps", spec := "mergeSteps", unfollowed := true, recurses := true, plainKeys := false, apart := false }
def MergeStepsSaid : Prop := mergeStepsRow.holds Try.pinned (OpenSpec.ofChange mergeStepsSpec)

/-- ITS FALSE NEIGHBOUR: 'it returns false'. Refute it at one input. -/
def mergeStepsWrong : ChangeSpec := { name := "mergeSteps", fn := fun _ => fun
  | [d1, d2] => { results := [.lit (.bool false)], args := [d1, d2] }
  | _ => none }
def MergeStepsWrongFalsely : Prop := mergeStepsRow.holds Try.pinned (OpenSpec.ofChange mergeStepsWrong)

/-- 'colanderlaw12.MergeEnds': WHATEVER THE INPUT: true; the input reads as it did. -/
def mergeEndsSpec : ChangeSpec := { name := "mergeEnds", fn := fun _ => fun
  | [d1, d2, d3] => { results := [.lit (.bool true)], args := [d1, d2, d3] }
  | _ => none }
def mergeEndsRow : OpenClaim := { program := "ytifhfeldjfcbfaa", sum := "2a87cb2a2704016382b26745b48b4e9ed2dd597619dc225b6ead5337176d5907", func := "colander/colanderlaw12.MergeEnds", spec := "mergeEnds", unfollowed := true, recurses := true, plainKeys := false, apart := false }
def MergeEndsSaid : Prop := mergeEndsRow.holds Try.pinned (OpenSpec.ofChange mergeEndsSpec)

/-- ITS FALSE NEIGHBOUR: 'it returns false'. Refute it at one input. -/
def mergeEndsWrong : ChangeSpec := { name := "mergeEnds", fn := fun _ => fun
  | [d1, d2, d3] => { results := [.lit (.bool false)], args := [d1, d2, d3] }
  | _ => none }
def MergeEndsWrongFalsely : Prop := mergeEndsRow.holds Try.pinned (OpenSpec.ofChange mergeEndsWrong)

/-- 'colanderlaw12.MergeParts': WHATEVER THE INPUT: true; the input reads as it did. -/
def mergePartsSpec : ChangeSpec := { name := "mergeParts", fn := fun _ => fun
  | [d1, d2, d3] => { results := [.lit (.bool true)], args := [d1, d2, d3] }
  | _ => none }
def mergePartsRow : OpenClaim := { program := "ytifhfeldjfcbfaa", sum := "2a87cb2a2704016382b26745b48b4e9ed2dd597619dc225b6ead5337176d5907", func := "colander/colanderlaw12.MergeParts", spec := "mergeParts", unfollowed := true, recurses := true, plainKeys := false, apart := false }
def MergePartsSaid : Prop := mergePartsRow.holds Try.pinned (OpenSpec.ofChange mergePartsSpec)

/-- ITS FALSE NEIGHBOUR: 'it returns false'. Refute it at one input. -/
def mergePartsWrong : ChangeSpec := { name := "mergeParts", fn := fun _ => fun
  | [d1, d2, d3] => { results := [.lit (.bool false)], args := [d1, d2, d3] }
  | _ => none }
def MergePartsWrongFalsely : Prop := mergePartsRow.holds Try.pinned (OpenSpec.ofChange mergePartsWrong)

/-- 'colanderlaw12.MergeContent': WHATEVER THE INPUT: true; the input reads as it did. -/
def mergeContentSpec : ChangeSpec := { name := "mergeContent", fn := fun _ => fun
  | [d1, d2, d3] => { results := [.lit (.bool true)], args := [d1, d2, d3] }
  | _ => none }
def mergeContentRow : OpenClaim := { program := "ytifhfeldjfcbfaa", sum := "2a87cb2a2704016382b26745b48b4e9ed2dd597619dc225b6ead5337176d5907", func := "colander/colanderlaw12.MergeContent", spec := "mergeContent", unfollowed := true, recurses := true, plainKeys := false, apart := false }
def MergeContentSaid : Prop := mergeContentRow.holds Try.pinned (OpenSpec.ofChange mergeContentSpec)

/-- ITS FALSE NEIGHBOUR: 'it returns false'. Refute it at one input. -/
def mergeContentWrong : ChangeSpec := { name := "mergeContent", fn := fun _ => fun
  | [d1, d2, d3] => { results := [.lit (.bool false)], args := [d1, d2, d3] }
  | _ => none }
def MergeContentWrongFalsely : Prop := mergeContentRow.holds Try.pinned (OpenSpec.ofChange mergeContentWrong)

/- THE SECOND FORM. 'bulk': how many values and letters a reading holds, each counted each time it is reached (what is shared counts as often as it is met; a slice's spare places count too). A statement '..UptoSaid' is the law's where the arguments, and the package variables that the reading takes, are together of bulk at most 1048576: NARROWER than '..Said'. Prove '..Said' where nothing that the law and all that it calls make is longer than what came in: it says more and counts as full. Else prove '..UptoSaid'. A law counts once. -/
mutual
def uptoBulk {H : Type} : DataW H → Nat
  | .lit (.string bytes) => bytes.length + 1
  | .lit _ => 1
  | .nil => 1
  | .ptr d => uptoBulk d + 1
  | .slice elems spare => uptoBulkAll elems + uptoBulkAll spare + 1
  | .agg parts => uptoBulkAll parts + 1
  | .iface _ d => uptoBulk d + 1
  | .map entries => uptoBulkEntries entries + 1
  | .held _ => 1
def uptoBulkAll {H : Type} : List (DataW H) → Nat
  | [] => 0
  | d :: r => uptoBulk d + uptoBulkAll r
def uptoBulkEntries {H : Type} : List (Lit × DataW H) → Nat
  | [] => 0
  | x :: r => uptoBulkEntry x + uptoBulkEntries r
def uptoBulkEntry {H : Type} : Lit × DataW H → Nat
  | (.string bytes, d) => bytes.length + uptoBulk d + 1
  | (_, d) => uptoBulk d + 1
 end
def uptoSmall : (H : Type) → List (DataW H) → Bool := fun _ ds => decide (uptoBulkAll ds ≤ 1048576)
def OpenSpec.upto (s : _root_.Go.ChangeSpec) : _root_.Go.OpenSpec := { _root_.Go.OpenSpec.ofChange s with cond := some uptoSmall }

/-- 'colanderlaw12.MergeMay', WHERE WHAT IT READS IS OF BULK AT MOST 1048576: true; the input reads as it did. -/
def mergeMayUptoRow : OpenClaim := { program := "ytifhfeldjfcbfaa", sum := "2a87cb2a2704016382b26745b48b4e9ed2dd597619dc225b6ead5337176d5907", func := "colander/colanderlaw12.MergeMay", spec := "mergeMay", unfollowed := true, recurses := true, plainKeys := false, apart := false, narrowed := true }
def MergeMayUptoSaid : Prop := mergeMayUptoRow.holds Try.pinned (OpenSpec.upto mergeMaySpec)

/-- 'colanderlaw12.MergeSteps', WHERE WHAT IT READS IS OF BULK AT MOST 1048576: true; the input reads as it did. -/
def mergeStepsUptoRow : OpenClaim := { program := "ytifhfeldjfcbfaa", sum := "2a87cb2a2704016382b26745b48b4e9ed2dd597619dc225b6ead5337176d5907", func := "colander/colanderlaw12.MergeSteps", spec := "mergeSteps", unfollowed := true, recurses := true, plainKeys := false, apart := false, narrowed := true }
def MergeStepsUptoSaid : Prop := mergeStepsUptoRow.holds Try.pinned (OpenSpec.upto mergeStepsSpec)

/-- 'colanderlaw12.MergeEnds', WHERE WHAT IT READS IS OF BULK AT MOST 1048576: true; the input reads as it did. -/
def mergeEndsUptoRow : OpenClaim := { program := "ytifhfeldjfcbfaa", sum := "2a87cb2a2704016382b26745b48b4e9ed2dd597619dc225b6ead5337176d5907", func := "colander/colanderlaw12.MergeEnds", spec := "mergeEnds", unfollowed := true, recurses := true, plainKeys := false, apart := false, narrowed := true }
def MergeEndsUptoSaid : Prop := mergeEndsUptoRow.holds Try.pinned (OpenSpec.upto mergeEndsSpec)

/-- 'colanderlaw12.MergeParts', WHERE WHAT IT READS IS OF BULK AT MOST 1048576: true; the input reads as it did. -/
def mergePartsUptoRow : OpenClaim := { program := "ytifhfeldjfcbfaa", sum := "2a87cb2a2704016382b26745b48b4e9ed2dd597619dc225b6ead5337176d5907", func := "colander/colanderlaw12.MergeParts", spec := "mergeParts", unfollowed := true, recurses := true, plainKeys := false, apart := false, narrowed := true }
def MergePartsUptoSaid : Prop := mergePartsUptoRow.holds Try.pinned (OpenSpec.upto mergePartsSpec)

/-- 'colanderlaw12.MergeContent', WHERE WHAT IT READS IS OF BULK AT MOST 1048576: true; the input reads as it did. -/
def mergeContentUptoRow : OpenClaim := { program := "ytifhfeldjfcbfaa", sum := "2a87cb2a2704016382b26745b48b4e9ed2dd597619dc225b6ead5337176d5907", func := "colander/colanderlaw12.MergeContent", spec := "mergeContent", unfollowed := true, recurses := true, plainKeys := false, apart := false, narrowed := true }
def MergeContentUptoSaid : Prop := mergeContentUptoRow.holds Try.pinned (OpenSpec.upto mergeContentSpec)

end Rows
end Go.Proofs.Ytifhfeldjfcbfaa
