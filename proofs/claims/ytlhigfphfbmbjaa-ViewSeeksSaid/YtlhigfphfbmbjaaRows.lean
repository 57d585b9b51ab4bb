/-
  No cell of these rows narrows 'for every input' (looked for: loops, veiled, ifaces, maps, wideKeys, modest, calm, conditions, laid).
  DERIVED. THE GIVEN ROWS OF THIS SEAT. 7 by the template 'for every input the law returns true; each argument reads behind the call as it read before'; 0 by the template 'total and deterministic' (their statements: YtlhigfphfbmbjaaTotals.lean).
  GIVEN WITH THE SEED: the statements are not yours to turn. If you find one false, say at which input.
  Laid BY PROGRAM, IN A SANDBOX (cutbox-rows.mjs): the forced cells as the released guide's own fill.sh prints them over the translation 84b2b15173b1ba39… (all of the seat's roots in one cut). By AI agents, Wed Nov 11 2026. No macro, syntax, notation, axiom, sorry.
-/
import Derived.Test.YtlhigfphfbmbjaaChecked
import GoSem.Claim
import GoSem.ClaimJoined
import GoSem.ClaimMapViews
import Derived.JoinedTies
import Derived.KernelRfl
namespace Go.Proofs.Ytlhigfphfbmbjaa
/- THE CELL 'sum', in the pinned program and in every row, IS THE sha256 OF THE DUMP (.gsa) THAT YtlhigfphfbmbjaaProg.lean LOADS. Nothing in Lean hashes anything: it is a label: what it is worth is what the hold of that sum in a sandbox is worth. -/
noncomputable def Try.pinned : Pinned := { name := "ytlhigfphfbmbjaa", sum := "84b2b15173b1ba39a03e656304ef62bbe12ba6bbad096218731a421aeac35c43", checked := Try.checked }
namespace Rows
def none {H : Type} : Left H := { results := [], args := [] }

/-- 'colanderlaw12.MergeMay': WHATEVER THE INPUT: true; the input reads as it did. -/
def mergeMaySpec : ChangeSpec := { name := "mergeMay", fn := fun _ => fun
  | [d1, d2] => { results := [.lit (.bool true)], args := [d1, d2] }
  | _ => none }
def mergeMayRow : OpenClaim := { program := "ytlhigfphfbmbjaa", sum := "84b2b15173b1ba39a03e656304ef62bbe12ba6bbad096218731a421aeac35c43", func := "colander/colanderlaw12.MergeMay", spec := "mergeMay", unfollowed := true, recurses := true, plainKeys := false, apart := false }
def MergeMaySaid : Prop := mergeMayRow.holds Try.pinned (OpenSpec.ofChange mergeMaySpec)

/-- ITS FALSE NEIGHBOUR: 'it returns false'. Refute it at one input. -/
def mergeMayWrong : ChangeSpec := { name := "mergeMay", fn := fun _ => fun
  | [d1, d2] => { results := [.lit (.bool false)], args := [d1, d2] }
  | _ => none }
def MergeMayWrongFalsely : Prop := mergeMayRow.holds Try.pinned (OpenSpec.ofChange mergeMayWrong)

/-- 'colanderlaw12.MergeSteps': WHATEVER THE INPUT: true; the input reads as it did. -/
def mergeStepsSpec : ChangeSpec := { name := "mergeSteps", fn := fun _ => fun
  | [d1, d2] => { results := [.lit (.bool true)], args := [d1, d2] }
  | _ => none }
def mergeStepsRow : OpenClaim := { program := "ytlhigfphfbmbjaa", sum := "84b2b15173b1ba39a03e656304ef62bbe12ba6bbad096218731a421aeac35c43", func := "colander/colanderlaw12.MergeSteps", spec := "mergeSteps", unfollowed := true, recurses := true, plainKeys := false, apart := false }
def MergeStepsSaid : Prop := mergeStepsRow.holds Try.pinned (OpenSpec.ofChange mergeStepsSpec)

/-- ITS FALSE NEIGHBOUR: 'it returns false'. Refute it at one input. -/
def mergeStepsWrong : ChangeSpec := { name := "mergeSteps", fn := fun _ => fun
  | [d1, d2] => { results := [.lit (.bool false)], args := [d1, d2] }
  | _ => none }
def MergeStepsWrongFalsely : Prop := mergeStepsRow.holds Try.pinned (OpenSpec.ofChange mergeStepsWrong)

/-- 'colanderlaw12.MergeContent': WHATEVER THE INPUT: true; the input reads as it did. -/
def mergeContentSpec : ChangeSpec := { name := "mergeContent", fn := fun _ => fun
  | [d1, d2, d3] => { results := [.lit (.bool true)], args := [d1, d2, d3] }
  | _ => none }
def mergeContentRow : OpenClaim := { program := "ytlhigfphfbmbjaa", sum := "84b2b15173b1ba39a03e656304ef62bbe12ba6bbad096218731a421aeac35c43", func := "colander/colanderlaw12.MergeContent", spec := "mergeContent", unfollowed := true, recurses := true, plainKeys := false, apart := false }
def MergeContentSaid : Prop := mergeContentRow.holds Try.pinned (OpenSpec.ofChange mergeContentSpec)

/-- ITS FALSE NEIGHBOUR: 'it returns false'. Refute it at one input. -/
def mergeContentWrong : ChangeSpec := { name := "mergeContent", fn := fun _ => fun
  | [d1, d2, d3] => { results := [.lit (.bool false)], args := [d1, d2, d3] }
  | _ => none }
def MergeContentWrongFalsely : Prop := mergeContentRow.holds Try.pinned (OpenSpec.ofChange mergeContentWrong)

/-- 'colanderlaw13.ViewGoes': WHATEVER THE INPUT: true; the input reads as it did. -/
def viewGoesSpec : ChangeSpec := { name := "viewGoes", fn := fun _ => fun
  | [d1, d2] => { results := [.lit (.bool true)], args := [d1, d2] }
  | _ => none }
def viewGoesRow : OpenClaim := { program := "ytlhigfphfbmbjaa", sum := "84b2b15173b1ba39a03e656304ef62bbe12ba6bbad096218731a421aeac35c43", func := "colander/colanderlaw13.ViewGoes", spec := "viewGoes", unfollowed := true, recurses := true, plainKeys := false, apart := false }
def ViewGoesSaid : Prop := viewGoesRow.holds Try.pinned (OpenSpec.ofChange viewGoesSpec)

/-- ITS FALSE NEIGHBOUR: 'it returns false'. Refute it at one input. -/
def viewGoesWrong : ChangeSpec := { name := "viewGoes", fn := fun _ => fun
  | [d1, d2] => { results := [.lit (.bool false)], args := [d1, d2] }
  | _ => none }
def ViewGoesWrongFalsely : Prop := viewGoesRow.holds Try.pinned (OpenSpec.ofChange viewGoesWrong)

/-- 'colanderlaw13.ViewCopies': WHATEVER THE INPUT: true; the input reads as it did. -/
def viewCopiesSpec : ChangeSpec := { name := "viewCopies", fn := fun _ => fun
  | [d1, d2, d3] => { results := [.lit (.bool true)], args := [d1, d2, d3] }
  | _ => none }
def viewCopiesRow : OpenClaim := { program := "ytlhigfphfbmbjaa", sum := "84b2b15173b1ba39a03e656304ef62bbe12ba6bbad096218731a421aeac35c43", func := "colander/colanderlaw13.ViewCopies", spec := "viewCopies", unfollowed := true, recurses := true, plainKeys := false, apart := false }
def ViewCopiesSaid : Prop := viewCopiesRow.holds Try.pinned (OpenSpec.ofChange viewCopiesSpec)

/-- ITS FALSE NEIGHBOUR: 'it returns false'. Refute it at one input. -/
def viewCopiesWrong : ChangeSpec := { name := "viewCopies", fn := fun _ => fun
  | [d1, d2, d3] => { results := [.lit (.bool false)], args := [d1, d2, d3] }
  | _ => none }
def ViewCopiesWrongFalsely : Prop := viewCopiesRow.holds Try.pinned (OpenSpec.ofChange viewCopiesWrong)

/-- 'colanderlaw13.ViewAll': WHATEVER THE INPUT: true; the input reads as it did. -/
def viewAllSpec : ChangeSpec := { name := "viewAll", fn := fun _ => fun
  | [d] => { results := [.lit (.bool true)], args := [d] }
  | _ => none }
def viewAllRow : OpenClaim := { program := "ytlhigfphfbmbjaa", sum := "84b2b15173b1ba39a03e656304ef62bbe12ba6bbad096218731a421aeac35c43", func := "colander/colanderlaw13.ViewAll", spec := "viewAll", unfollowed := true, recurses := true, plainKeys := false, apart := false }
def ViewAllSaid : Prop := viewAllRow.holds Try.pinned (OpenSpec.ofChange viewAllSpec)

/-- ITS FALSE NEIGHBOUR: 'it returns false'. Refute it at one input. -/
def viewAllWrong : ChangeSpec := { name := "viewAll", fn := fun _ => fun
  | [d] => { results := [.lit (.bool false)], args := [d] }
  | _ => none }
def ViewAllWrongFalsely : Prop := viewAllRow.holds Try.pinned (OpenSpec.ofChange viewAllWrong)

/-- 'colanderlaw13.ViewSeeks': WHATEVER THE INPUT: true; the input reads as it did. -/
def viewSeeksSpec : ChangeSpec := { name := "viewSeeks", fn := fun _ => fun
  | [d1, d2, d3] => { results := [.lit (.bool true)], args := [d1, d2, d3] }
  | _ => none }
def viewSeeksRow : OpenClaim := { program := "ytlhigfphfbmbjaa", sum := "84b2b15173b1ba39a03e656304ef62bbe12ba6bbad096218731a421aeac35c43", func := "colander/colanderlaw13.ViewSeeks", spec := "viewSeeks", unfollowed := true, recurses := true, plainKeys := false, apart := false }
def ViewSeeksSaid : Prop := viewSeeksRow.holds Try.pinned (OpenSpec.ofChange viewSeeksSpec)

/-- ITS FALSE NEIGHBOUR: 'it returns false'. Refute it at one input. -/
def viewSeeksWrong : ChangeSpec := { name := "viewSeeks", fn := fun _ => fun
  | [d1, d2, d3] => { results := [.lit (.bool false)], args := [d1, d2, d3] }
  | _ => none }
def ViewSeeksWrongFalsely : Prop := viewSeeksRow.holds Try.pinned (OpenSpec.ofChange viewSeeksWrong)

/- THE SECOND FORM. 'bulk': how many values and letters a reading holds, each counted each time it is reached (what is shared counts as often as it is met; a slice's spare places count too). A statement '..UptoSaid' is the law's where the arguments, and the package variables that the reading takes, are together of bulk at most 1048576: NARROWER than '..Said'. Prove '..Said' where nothing that the law and all that it calls make is longer than what came in: it says more and counts as full. Else prove '..UptoSaid'. A law counts once. -/
mutual
def uptoBulk {H : Type} : DataW H → Nat
  | .lit (.string bytes) => bytes.length + 1
  | .lit _ => 1
  | .nil => 1
  | .ptr d => uptoBulk d + 1
  | .slice elems spare => uptoBulkAll elems + uptoBulkAll spare + 1
  | .agg parts => uptoBulkAll parts + 1
  | .iface _ d => uptoBulk d + 1
  | .map entries => uptoBulkEntries entries + 1
  | .held _ => 1
def uptoBulkAll {H : Type} : List (DataW H) → Nat
  | [] => 0
  | d :: r => uptoBulk d + uptoBulkAll r
def uptoBulkEntries {H : Type} : List (Lit × DataW H) → Nat
  | [] => 0
  | x :: r => uptoBulkEntry x + uptoBulkEntries r
def uptoBulkEntry {H : Type} : Lit × DataW H → Nat
  | (.string bytes, d) => bytes.length + uptoBulk d + 1
  | (_, d) => uptoBulk d + 1
 end
def uptoSmall : (H : Type) → List (DataW H) → Bool := fun _ ds => decide (uptoBulkAll ds ≤ 1048576)
def OpenSpec.upto (s : _root_.Go.ChangeSpec) : _root_.Go.OpenSpec := { _root_.Go.OpenSpec.ofChange s with cond := some uptoSmall }

/-- 'colanderlaw12.MergeMay', WHERE WHAT IT READS IS OF BULK AT MOST 1048576: true; the input reads as it did. -/
def mergeMayUptoRow : OpenClaim := { program := "ytlhigfphfbmbjaa", sum := "84b2b15173b1ba39a03e656304ef62bbe12ba6bbad096218731a421aeac35c43", func := "colander/colanderlaw12.MergeMay", spec := "mergeMay", unfollowed := true, recurses := true, plainKeys := false, apart := false, narrowed := true }
def MergeMayUptoSaid : Prop := mergeMayUptoRow.holds Try.pinned (OpenSpec.upto mergeMaySpec)

/-- 'colanderlaw12.MergeSteps', WHERE WHAT IT READS IS OF BULK AT MOST 1048576: true; the input reads as it did. -/
def mergeStepsUptoRow : OpenClaim := { program := "ytlhigfphfbmbjaa", sum := "84b2b15173b1ba39a03e656304ef62bbe12ba6bbad096218731a421aeac35c43", func := "colander/colanderlaw12.MergeSteps", spec := "mergeSteps", unfollowed := true, recurses := true, plainKeys := false, apart := false, narrowed := true }
def MergeStepsUptoSaid : Prop := mergeStepsUptoRow.holds Try.pinned (OpenSpec.upto mergeStepsSpec)

/-- 'colanderlaw12.MergeContent', WHERE WHAT IT READS IS OF BULK AT MOST 1048576: true; the input reads as it did. -/
def mergeContentUptoRow : OpenClaim := { program := "ytlhigfphfbmbjaa", sum := "84b2b15173b1ba39a03e656304ef62bbe12ba6bbad096218731a421aeac35c43", func := "colander/colanderlaw12.MergeContent", spec := "mergeContent", unfollowed := true, recurses := true, plainKeys := false, apart := false, narrowed := true }
def MergeContentUptoSaid : Prop := mergeContentUptoRow.holds Try.pinned (OpenSpec.upto mergeContentSpec)

/-- 'colanderlaw13.ViewGoes', WHERE WHAT IT READS IS OF BULK AT MOST 1048576: true; the input reads as it did. -/
def viewGoesUptoRow : OpenClaim := { program := "ytlhigfphfbmbjaa", sum := "84b2b15173b1ba39a03e656304ef62bbe12ba6bbad096218731a421aeac35c43", func := "colander/colanderlaw13.ViewGoes", spec := "viewGoes", unfollowed := true, recurses := true, plainKeys := false, apart := false, narrowed := true }
def ViewGoesUptoSaid : Prop := viewGoesUptoRow.holds Try.pinned (OpenSpec.upto viewGoesSpec)

/-- 'colanderlaw13.ViewCopies', WHERE WHAT IT READS IS OF BULK AT MOST 1048576: true; the input reads as it did. -/
def viewCopiesUptoRow : OpenClaim := { program := "ytlhigfphfbmbjaa", sum := "84b2b15173b1ba39a03e656304ef62bbe12ba6bbad096218731a421aeac35c43", func := "colander/colanderlaw13.ViewCopies", spec := "viewCopies", unfollowed := true, recurses := true, plainKeys := false, apart := false, narrowed := true }
def ViewCopiesUptoSaid : Prop := viewCopiesUptoRow.holds Try.pinned (OpenSpec.upto viewCopiesSpec)

/-- 'colanderlaw13.ViewAll', WHERE WHAT IT READS IS OF BULK AT MOST 1048576: true; the input reads as it did. -/
def viewAllUptoRow : OpenClaim := { program := "ytlhigfphfbmbjaa", sum := "84b2b15173b1ba39a03e656304ef62bbe12ba6bbad096218731a421aeac35c43", func := "colander/colanderlaw13.ViewAll", spec := "viewAll", unfollowed := true, recurses := true, plainKeys := false, apart := false, narrowed := true }
def ViewAllUptoSaid : Prop := viewAllUptoRow.holds Try.pinned (OpenSpec.upto viewAllSpec)

/-- 'colanderlaw13.ViewSeeks', WHERE WHAT IT READS IS OF BULK AT MOST 1048576: true; the input reads as it did. -/
def viewSeeksUptoRow : OpenClaim := { program := "ytlhigfphfbmbjaa", sum := "84b2b15173b1ba39a03e656304ef62bbe12ba6bbad096218731a421aeac35c43", func := "colander/colanderlaw13.ViewSeeks", spec := "viewSeeks", unfollowed := true, recurses := true, plainKeys := false, apart := false, narrowed := true }
def ViewSeeksUptoSaid : Prop := viewSeeksUptoRow.holds Try.pinned (OpenSpec.upto viewSeeksSpec)

end Rows
end Go.Proofs.Ytlhigfphfbmbjaa
