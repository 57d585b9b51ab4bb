/-
  No cell of these rows narrows 'for every input' (looked for: loops, veiled, ifaces, maps, wideKeys, modest, calm, conditions, laid).
  DERIVED. THE GIVEN ROWS OF THIS SEAT. 5 by the template 'for every input the law returns true; each argument reads behind the call as it read before'; 0 by the template 'total and deterministic' (their statements: YtbanemaiiifcaaaTotals.lean).
  GIVEN WITH THE SEED: the statements are not yours to turn. If you find one false, say at which input.
  Laid BY PROGRAM, IN A SANDBOX (cutbox-rows.mjs): the forced cells as the released guide's own fill.sh prints them over the translation f776c3c721e58bc2… (all of the seat's roots in one cut). By AI agents, Wed Nov 11 2026. No macro, syntax, notation, axiom, sorry.
-/
import Derived.Test.YtbanemaiiifcaaaChecked
import GoSem.Claim
import GoSem.ClaimJoined
import GoSem.ClaimMapViews
import Derived.JoinedTies
import Derived.KernelRfl
namespace Go.Proofs.Ytbanemaiiifcaaa
/- THE CELL 'sum', in the pinned program and in every row, IS THE sha256 OF THE DUMP (.gsa) THAT YtbanemaiiifcaaaProg.lean LOADS. Nothing in Lean hashes anything: it is a label: what it is worth is what the hold of that sum in a sandbox is worth. -/
noncomputable def Try.pinned : Pinned := { name := "ytbanemaiiifcaaa", sum := "f776c3c721e58bc2ab8de911db344360a91bae40f9326bca5320c4443368827f", checked := Try.checked }
namespace Rows
def none {H : Type} : Left H := { results := [], args := [] }

/-- 'colanderlaw07.TrieOf': WHATEVER THE INPUT: true; the input reads as it did. -/
def trieOfSpec : ChangeSpec := { name := "trieOf", fn := fun _ => fun
  | [d1, d2] => { results := [.lit (.bool true)], args := [d1, d2] }
  | _ => none }
def trieOfRow : OpenClaim := { program := "ytbanemaiiifcaaa", sum := "f776c3c721e58bc2ab8de911db344360a91bae40f9326bca5320c4443368827f", func := "colander/colanderlaw07.TrieOf", spec := "trieOf", unfollowed := true, recurses := true, apart := false }
def TrieOfSaid : Prop := trieOfRow.holds Try.pinned (OpenSpec.ofChange trieOfSpec)

/-- ITS FALSE NEIGHBOUR: 'it returns false'. Refute it at one input. -/
def trieOfWrong : ChangeSpec := { name := "trieOf", fn := fun _ => fun
  | [d1, d2] => { results := [.lit (.bool false)], args := [d1, d2] }
  | _ => none }
def TrieOfWrongFalsely : Prop := trieOfRow.holds Try.pinned (OpenSpec.ofChange trieOfWrong)

/-- 'colanderlaw07.TrieTells': WHATEVER THE INPUT: true; the input reads as it did. -/
def trieTellsSpec : ChangeSpec := { name := "trieTells", fn := fun _ => fun
  | [d1, d2] => { results := [.lit (.bool true)], args := [d1, d2] }
  | _ => none }
def trieTellsRow : OpenClaim := { program := "ytbanemaiiifcaaa", sum := "f776c3c721e58bc2ab8de911db344360a91bae40f9326bca5320c4443368827f", func := "colander/colanderlaw07.TrieTells", spec := "trieTells", unfollowed := true, recurses := true, apart := false }
def TrieTellsSaid : Prop := trieTellsRow.holds Try.pinned (OpenSpec.ofChange trieTellsSpec)

/-- ITS FALSE NEIGHBOUR: 'it returns false'. Refute it at one input. -/
def trieTellsWrong : ChangeSpec := { name := "trieTells", fn := fun _ => fun
  | [d1, d2] => { results := [.lit (.bool false)], args := [d1, d2] }
  | _ => none }
def TrieTellsWrongFalsely : Prop := trieTellsRow.holds Try.pinned (OpenSpec.ofChange trieTellsWrong)

/-- 'colanderlaw07.TrieJoins': WHATEVER THE INPUT: true; the input reads as it did. -/
def trieJoinsSpec : ChangeSpec := { name := "trieJoins", fn := fun _ => fun
  | [d1, d2, d3] => { results := [.lit (.bool true)], args := [d1, d2, d3] }
  | _ => none }
def trieJoinsRow : OpenClaim := { program := "ytbanemaiiifcaaa", sum := "f776c3c721e58bc2ab8de911db344360a91bae40f9326bca5320c4443368827f", func := "colander/colanderlaw07.TrieJoins", spec := "trieJoins", unfollowed := true, recurses := true, apart := false }
def TrieJoinsSaid : Prop := trieJoinsRow.holds Try.pinned (OpenSpec.ofChange trieJoinsSpec)

/-- ITS FALSE NEIGHBOUR: 'it returns false'. Refute it at one input. -/
def trieJoinsWrong : ChangeSpec := { name := "trieJoins", fn := fun _ => fun
  | [d1, d2, d3] => { results := [.lit (.bool false)], args := [d1, d2, d3] }
  | _ => none }
def TrieJoinsWrongFalsely : Prop := trieJoinsRow.holds Try.pinned (OpenSpec.ofChange trieJoinsWrong)

/-- 'colanderlaw07.TrieBack': WHATEVER THE INPUT: true; the input reads as it did. -/
def trieBackSpec : ChangeSpec := { name := "trieBack", fn := fun _ => fun
  | [d1, d2, d3] => { results := [.lit (.bool true)], args := [d1, d2, d3] }
  | _ => none }
def trieBackRow : OpenClaim := { program := "ytbanemaiiifcaaa", sum := "f776c3c721e58bc2ab8de911db344360a91bae40f9326bca5320c4443368827f", func := "colander/colanderlaw07.TrieBack", spec := "trieBack", unfollowed := true, recurses := true, apart := false }
def TrieBackSaid : Prop := trieBackRow.holds Try.pinned (OpenSpec.ofChange trieBackSpec)

/-- ITS FALSE NEIGHBOUR: 'it returns false'. Refute it at one input. -/
def trieBackWrong : ChangeSpec := { name := "trieBack", fn := fun _ => fun
  | [d1, d2, d3] => { results := [.lit (.bool false)], args := [d1, d2, d3] }
  | _ => none }
def TrieBackWrongFalsely : Prop := trieBackRow.holds Try.pinned (OpenSpec.ofChange trieBackWrong)

/-- 'colanderlaw07.TrieMerges': WHATEVER THE INPUT: true; the input reads as it did. -/
def trieMergesSpec : ChangeSpec := { name := "trieMerges", fn := fun _ => fun
  | [d1, d2, d3] => { results := [.lit (.bool true)], args := [d1, d2, d3] }
  | _ => none }
def trieMergesRow : OpenClaim := { program := "ytbanemaiiifcaaa", sum := "f776c3c721e58bc2ab8de911db344360a91bae40f9326bca5320c4443368827f", func := "colander/colanderlaw07.TrieMerges", spec := "trieMerges", unfollowed := true, recurses := true, apart := false }
def TrieMergesSaid : Prop := trieMergesRow.holds Try.pinned (OpenSpec.ofChange trieMergesSpec)

/-- ITS FALSE NEIGHBOUR: 'it returns false'. Refute it at one input. -/
def trieMergesWrong : ChangeSpec := { name := "trieMerges", fn := fun _ => fun
  | [d1, d2, d3] => { results := [.lit (.bool false)], args := [d1, d2, d3] }
  | _ => none }
def TrieMergesWrongFalsely : Prop := trieMergesRow.holds Try.pinned (OpenSpec.ofChange trieMergesWrong)

/- THE SECOND FORM. 'bulk': how many values and letters a reading holds, each counted each time it is reached (what is shared counts as often as it is met; a slice's spare places count too). A statement '..UptoSaid' is the law's where the arguments, and the package variables that the reading takes, are together of bulk at most 1048576: NARROWER than '..Said'. Prove '..Said' where nothing that the law and all that it calls make is longer than what came in: it says more and counts as full. Else prove '..UptoSaid'. A law counts once. -/
mutual
def uptoBulk {H : Type} : DataW H → Nat
  | .lit (.string bytes) => bytes.length + 1
  | .lit _ => 1
  | .nil => 1
  | .ptr d => uptoBulk d + 1
  | .slice elems spare => uptoBulkAll elems + uptoBulkAll spare + 1
  | .agg parts => uptoBulkAll parts + 1
  | .iface _ d => uptoBulk d + 1
  | .map entries => uptoBulkEntries entries + 1
  | .held _ => 1
def uptoBulkAll {H : Type} : List (DataW H) → Nat
  | [] => 0
  | d :: r => uptoBulk d + uptoBulkAll r
def uptoBulkEntries {H : Type} : List (Lit × DataW H) → Nat
  | [] => 0
  | x :: r => uptoBulkEntry x + uptoBulkEntries r
def uptoBulkEntry {H : Type} : Lit × DataW H → Nat
  | (.string bytes, d) => bytes.length + uptoBulk d + 1
  | (_, d) => uptoBulk d + 1
 end
def uptoSmall : (H : Type) → List (DataW H) → Bool := fun _ ds => decide (uptoBulkAll ds ≤ 1048576)
def OpenSpec.upto (s : _root_.Go.ChangeSpec) : _root_.Go.OpenSpec := { _root_.Go.OpenSpec.ofChange s with cond := some uptoSmall }

/-- 'colanderlaw07.TrieOf', WHERE WHAT IT READS IS OF BULK AT MOST 1048576: true; the input reads as it did. -/
def trieOfUptoRow : OpenClaim := { program := "ytbanemaiiifcaaa", sum := "f776c3c721e58bc2ab8de911db344360a91bae40f9326bca5320c4443368827f", func := "colander/colanderlaw07.TrieOf", spec := "trieOf", unfollowed := true, recurses := true, apart := false, narrowed := true }
def TrieOfUptoSaid : Prop := trieOfUptoRow.holds Try.pinned (OpenSpec.upto trieOfSpec)

/-- 'colanderlaw07.TrieTells', WHERE WHAT IT READS IS OF BULK AT MOST 1048576: true; the input reads as it did. -/
def trieTellsUptoRow : OpenClaim := { program := "ytbanemaiiifcaaa", sum := "f776c3c721e58bc2ab8de911db344360a91bae40f9326bca5320c4443368827f", func := "colander/colanderlaw07.TrieTells", spec := "trieTells", unfollowed := true, recurses := true, apart := false, narrowed := true }
def TrieTellsUptoSaid : Prop := trieTellsUptoRow.holds Try.pinned (OpenSpec.upto trieTellsSpec)

/-- 'colanderlaw07.TrieJoins', WHERE WHAT IT READS IS OF BULK AT MOST 1048576: true; the input reads as it did. -/
def trieJoinsUptoRow : OpenClaim := { program := "ytbanemaiiifcaaa", sum := "f776c3c721e58bc2ab8de911db344360a91bae40f9326bca5320c4443368827f", func := "colander/colanderlaw07.TrieJoins", spec := "trieJoins", unfollowed := true, recurses := true, apart := false, narrowed := true }
def TrieJoinsUptoSaid : Prop := trieJoinsUptoRow.holds Try.pinned (OpenSpec.upto trieJoinsSpec)

/-- 'colanderlaw07.TrieBack', WHERE WHAT IT READS IS OF BULK AT MOST 1048576: true; the input reads as it did. -/
def trieBackUptoRow : OpenClaim := { program := "ytbanemaiiifcaaa", sum := "f776c3c721e58bc2ab8de911db344360a91bae40f9326bca5320c4443368827f", func := "colander/colanderlaw07.TrieBack", spec := "trieBack", unfollowed := true, recurses := true, apart := false, narrowed := true }
def TrieBackUptoSaid : Prop := trieBackUptoRow.holds Try.pinned (OpenSpec.upto trieBackSpec)

/-- 'colanderlaw07.TrieMerges', WHERE WHAT IT READS IS OF BULK AT MOST 1048576: true; the input reads as it did. -/
def trieMergesUptoRow : OpenClaim := { program := "ytbanemaiiifcaaa", sum := "f776c3c721e58bc2ab8de911db344360a91bae40f9326bca5320c4443368827f", func := "colander/colanderlaw07.TrieMerges", spec := "trieMerges", unfollowed := true, recurses := true, apart := false, narrowed := true }
def TrieMergesUptoSaid : Prop := trieMergesUptoRow.holds Try.pinned (OpenSpec.upto trieMergesSpec)

end Rows
end Go.Proofs.Ytbanemaiiifcaaa
