/-
  No cell of these rows narrows 'for every input' (looked for: loops, veiled, ifaces, maps, wideKeys, modest, calm, conditions, laid).
  DERIVED. THE GIVEN ROWS OF THIS SEAT. 6 by the template 'for every input the law returns true; each argument reads behind the call as it read before'; 0 by the template 'total and deterministic' (their statements: YteipihoebnmagaaTotals.lean).
  GIVEN WITH THE SEED: the statements are not yours to turn. If you find one false, say at which input.
  Laid BY PROGRAM, IN A SANDBOX (cutbox-rows.mjs): the forced cells as the released guide's own fill.sh prints them over the translation c5d7d11a2f3a36b6… (all of the seat's roots in one cut). By AI agents, Wed Nov 11 2026. No macro, syntax, notation, axiom, sorry.
-/
import Derived.Test.YteipihoebnmagaaChecked
import GoSem.Claim
import GoSem.ClaimJoined
import GoSem.ClaimMapViews
import Derived.JoinedTies
import Derived.KernelRfl
namespace Go.Proofs.Yteipihoebnmagaa
/- THE CELL 'sum', in the pinned program and in every row, IS THE sha256 OF THE DUMP (.gsa) THAT YteipihoebnmagaaProg.lean LOADS. Nothing in Lean hashes anything: it is a label: what it is worth is what the hold of that sum in a sandbox is worth. -/
noncomputable def Try.pinned : Pinned := { name := "yteipihoebnmagaa", sum := "c5d7d11a2f3a36b6ccaf0e52e6e34beb49056ecd5665ac06c6385fe341a10ca6", checked := Try.checked }
namespace Rows
def none {H : Type} : Left H := { results := [], args := [] }

/-- 'colanderlaw03.RunMay': WHATEVER THE INPUT: true; the input reads as it did. -/
def runMaySpec : ChangeSpec := { name := "runMay", fn := fun _ => fun
  | [d] => { results := [.lit (.bool true)], args := [d] }
  | _ => none }
def runMayRow : OpenClaim := { program := "yteipihoebnmagaa", sum := "c5d7d11a2f3a36b6ccaf0e52e6e34beb49056ecd5665ac06c6385fe341a10ca6", func := "colander/colanderlaw03.RunMay", spec := "runMay", unfollowed := true, recurses := true, apart := false }
def RunMaySaid : Prop := runMayRow.holds Try.pinned (OpenSpec.ofChange runMaySpec)

/-- ITS FALSE NEIGHBOUR: 'it returns false'. Refute it at one input. -/
def runMayWrong : ChangeSpec := { name := "runMay", fn := fun _ => fun
  | [d] => { results := [.lit (.bool false)], args := [d] }
  | _ => none }
def RunMayWrongFalsely : Prop := runMayRow.holds Try.pinned (OpenSpec.ofChange runMayWrong)

/-- 'colanderlaw03.RunTells': WHATEVER THE INPUT: true; the input reads as it did. -/
def runTellsSpec : ChangeSpec := { name := "runTells", fn := fun _ => fun
  | [d1, d2, d3] => { results := [.lit (.bool true)], args := [d1, d2, d3] }
  | _ => none }
def runTellsRow : OpenClaim := { program := "yteipihoebnmagaa", sum := "c5d7d11a2f3a36b6ccaf0e52e6e34beb49056ecd5665ac06c6385fe341a10ca6", func := "colander/colanderlaw03.RunTells", spec := "runTells", unfollowed := true, recurses := true, apart := false }
def RunTellsSaid : Prop := runTellsRow.holds Try.pinned (OpenSpec.ofChange runTellsSpec)

/-- ITS FALSE NEIGHBOUR: 'it returns false'. Refute it at one input. -/
def runTellsWrong : ChangeSpec := { name := "runTells", fn := fun _ => fun
  | [d1, d2, d3] => { results := [.lit (.bool false)], args := [d1, d2, d3] }
  | _ => none }
def RunTellsWrongFalsely : Prop := runTellsRow.holds Try.pinned (OpenSpec.ofChange runTellsWrong)

/-- 'colanderlaw03.RunJoins': WHATEVER THE INPUT: true; the input reads as it did. -/
def runJoinsSpec : ChangeSpec := { name := "runJoins", fn := fun _ => fun
  | [d1, d2] => { results := [.lit (.bool true)], args := [d1, d2] }
  | _ => none }
def runJoinsRow : OpenClaim := { program := "yteipihoebnmagaa", sum := "c5d7d11a2f3a36b6ccaf0e52e6e34beb49056ecd5665ac06c6385fe341a10ca6", func := "colander/colanderlaw03.RunJoins", spec := "runJoins", unfollowed := true, recurses := true, apart := false }
def RunJoinsSaid : Prop := runJoinsRow.holds Try.pinned (OpenSpec.ofChange runJoinsSpec)

/-- ITS FALSE NEIGHBOUR: 'it returns false'. Refute it at one input. -/
def runJoinsWrong : ChangeSpec := { name := "runJoins", fn := fun _ => fun
  | [d1, d2] => { results := [.lit (.bool false)], args := [d1, d2] }
  | _ => none }
def RunJoinsWrongFalsely : Prop := runJoinsRow.holds Try.pinned (OpenSpec.ofChange runJoinsWrong)

/-- 'colanderlaw03.RunParts': WHATEVER THE INPUT: true; the input reads as it did. -/
def runPartsSpec : ChangeSpec := { name := "runParts", fn := fun _ => fun
  | [d1, d2] => { results := [.lit (.bool true)], args := [d1, d2] }
  | _ => none }
def runPartsRow : OpenClaim := { program := "yteipihoebnmagaa", sum := "c5d7d11a2f3a36b6ccaf0e52e6e34beb49056ecd5665ac06c6385fe341a10ca6", func := "colander/colanderlaw03.RunParts", spec := "runParts", unfollowed := true, recurses := true, apart := false }
def RunPartsSaid : Prop := runPartsRow.holds Try.pinned (OpenSpec.ofChange runPartsSpec)

/-- ITS FALSE NEIGHBOUR: 'it returns false'. Refute it at one input. -/
def runPartsWrong : ChangeSpec := { name := "runParts", fn := fun _ => fun
  | [d1, d2] => { results := [.lit (.bool false)], args := [d1, d2] }
  | _ => none }
def RunPartsWrongFalsely : Prop := runPartsRow.holds Try.pinned (OpenSpec.ofChange runPartsWrong)

/-- 'colanderlaw03.RunTurns': WHATEVER THE INPUT: true; the input reads as it did. -/
def runTurnsSpec : ChangeSpec := { name := "runTurns", fn := fun _ => fun
  | [d] => { results := [.lit (.bool true)], args := [d] }
  | _ => none }
def runTurnsRow : OpenClaim := { program := "yteipihoebnmagaa", sum := "c5d7d11a2f3a36b6ccaf0e52e6e34beb49056ecd5665ac06c6385fe341a10ca6", func := "colander/colanderlaw03.RunTurns", spec := "runTurns", unfollowed := true, recurses := true, apart := false }
def RunTurnsSaid : Prop := runTurnsRow.holds Try.pinned (OpenSpec.ofChange runTurnsSpec)

/-- ITS FALSE NEIGHBOUR: 'it returns false'. Refute it at one input. -/
def runTurnsWrong : ChangeSpec := { name := "runTurns", fn := fun _ => fun
  | [d] => { results := [.lit (.bool false)], args := [d] }
  | _ => none }
def RunTurnsWrongFalsely : Prop := runTurnsRow.holds Try.pinned (OpenSpec.ofChange runTurnsWrong)

/-- 'colanderlaw03.RunWhole': WHATEVER THE INPUT: true; the input reads as it did. -/
def runWholeSpec : ChangeSpec := { name := "runWhole", fn := fun _ => fun
  | [d1, d2, d3] => { results := [.lit (.bool true)], args := [d1, d2, d3] }
  | _ => none }
def runWholeRow : OpenClaim := { program := "yteipihoebnmagaa", sum := "c5d7d11a2f3a36b6ccaf0e52e6e34beb49056ecd5665ac06c6385fe341a10ca6", func := "colander/colanderlaw03.RunWhole", spec := "runWhole", unfollowed := true, recurses := true, apart := false }
def RunWholeSaid : Prop := runWholeRow.holds Try.pinned (OpenSpec.ofChange runWholeSpec)

/-- ITS FALSE NEIGHBOUR: 'it returns false'. Refute it at one input. -/
def runWholeWrong : ChangeSpec := { name := "runWhole", fn := fun _ => fun
  | [d1, d2, d3] => { results := [.lit (.bool false)], args := [d1, d2, d3] }
  | _ => none }
def RunWholeWrongFalsely : Prop := runWholeRow.holds Try.pinned (OpenSpec.ofChange runWholeWrong)

/- THE SECOND FORM. 'bulk': how many values and letters a reading holds, each counted each time it is reached (what is shared counts as often as it is met; a slice's spare places count too). A statement '..UptoSaid' is the law's where the arguments, and the package variables that the reading takes, are together of bulk at most 1048576: NARROWER than '..Said'. Prove '..Said' where nothing that the law and all that it calls make is longer than what came in: it says more and counts as full. Else prove '..UptoSaid'. A law counts once. -/
mutual
def uptoBulk {H : Type} : DataW H → Nat
  | .lit (.string bytes) => bytes.length + 1
  | .lit _ => 1
  | .nil => 1
  | .ptr d => uptoBulk d + 1
  | .slice elems spare => uptoBulkAll elems + uptoBulkAll spare + 1
  | .agg parts => uptoBulkAll parts + 1
  | .iface _ d => uptoBulk d + 1
  | .map entries => uptoBulkEntries entries + 1
  | .held _ => 1
def uptoBulkAll {H : Type} : List (DataW H) → Nat
  | [] => 0
  | d :: r => uptoBulk d + uptoBulkAll r
def uptoBulkEntries {H : Type} : List (Lit × DataW H) → Nat
  | [] => 0
  | x :: r => uptoBulkEntry x + uptoBulkEntries r
def uptoBulkEntry {H : Type} : Lit × DataW H → Nat
  | (.string bytes, d) => bytes.length + uptoBulk d + 1
  | (_, d) => uptoBulk d + 1
 end
def uptoSmall : (H : Type) → List (DataW H) → Bool := fun _ ds => decide (uptoBulkAll ds ≤ 1048576)
def OpenSpec.upto (s : _root_.Go.ChangeSpec) : _root_.Go.OpenSpec := { _root_.Go.OpenSpec.ofChange s with cond := some uptoSmall }

/-- 'colanderlaw03.RunMay', WHERE WHAT IT READS IS OF BULK AT MOST 1048576: true; the input reads as it did. -/
def runMayUptoRow : OpenClaim := { program := "yteipihoebnmagaa", sum := "c5d7d11a2f3a36b6ccaf0e52e6e34beb49056ecd5665ac06c6385fe341a10ca6", func := "colander/colanderlaw03.RunMay", spec := "runMay", unfollowed := true, recurses := true, apart := false, narrowed := true }
def RunMayUptoSaid : Prop := runMayUptoRow.holds Try.pinned (OpenSpec.upto runMaySpec)

/-- 'colanderlaw03.RunTells', WHERE WHAT IT READS IS OF BULK AT MOST 1048576: true; the input reads as it did. -/
def runTellsUptoRow : OpenClaim := { program := "yteipihoebnmagaa", sum := "c5d7d11a2f3a36b6ccaf0e52e6e34beb49056ecd5665ac06c6385fe341a10ca6", func := "colander/colanderlaw03.RunTells", spec := "runTells", unfollowed := true, recurses := true, apart := false, narrowed := true }
def RunTellsUptoSaid : Prop := runTellsUptoRow.holds Try.pinned (OpenSpec.upto runTellsSpec)

/-- 'colanderlaw03.RunJoins', WHERE WHAT IT READS IS OF BULK AT MOST 1048576: true; the input reads as it did. -/
def runJoinsUptoRow : OpenClaim := { program := "yteipihoebnmagaa", sum := "c5d7d11a2f3a36b6ccaf0e52e6e34beb49056ecd5665ac06c6385fe341a10ca6", func := "colander/colanderlaw03.RunJoins", spec := "runJoins", unfollowed := true, recurses := true, apart := false, narrowed := true }
def RunJoinsUptoSaid : Prop := runJoinsUptoRow.holds Try.pinned (OpenSpec.upto runJoinsSpec)

/-- 'colanderlaw03.RunParts', WHERE WHAT IT READS IS OF BULK AT MOST 1048576: true; the input reads as it did. -/
def runPartsUptoRow : OpenClaim := { program := "yteipihoebnmagaa", sum := "c5d7d11a2f3a36b6ccaf0e52e6e34beb49056ecd5665ac06c6385fe341a10ca6", func := "colander/colanderlaw03.RunParts", spec := "runParts", unfollowed := true, recurses := true, apart := false, narrowed := true }
def RunPartsUptoSaid : Prop := runPartsUptoRow.holds Try.pinned (OpenSpec.upto runPartsSpec)

/-- 'colanderlaw03.RunTurns', WHERE WHAT IT READS IS OF BULK AT MOST 1048576: true; the input reads as it did. -/
def runTurnsUptoRow : OpenClaim := { program := "yteipihoebnmagaa", sum := "c5d7d11a2f3a36b6ccaf0e52e6e34beb49056ecd5665ac06c6385fe341a10ca6", func := "colander/colanderlaw03.RunTurns", spec := "runTurns", unfollowed := true, recurses := true, apart := false, narrowed := true }
def RunTurnsUptoSaid : Prop := runTurnsUptoRow.holds Try.pinned (OpenSpec.upto runTurnsSpec)

/-- 'colanderlaw03.RunWhole', WHERE WHAT IT READS IS OF BULK AT MOST 1048576: true; the input reads as it did. -/
def runWholeUptoRow : OpenClaim := { program := "yteipihoebnmagaa", sum := "c5d7d11a2f3a36b6ccaf0e52e6e34beb49056ecd5665ac06c6385fe341a10ca6", func := "colander/colanderlaw03.RunWhole", spec := "runWhole", unfollowed := true, recurses := true, apart := false, narrowed := true }
def RunWholeUptoSaid : Prop := runWholeUptoRow.holds Try.pinned (OpenSpec.upto runWholeSpec)

end Rows
end Go.Proofs.Yteipihoebnmagaa
