/-
  No cell of these rows narrows 'for every input' (looked for: loops, veiled, ifaces, maps, wideKeys, modest, calm, conditions, laid).
  DERIVED. THE GIVEN ROWS OF THIS SEAT. 8 by the template 'for every input the law returns true; each argument reads behind the call as it read before'; 0 by the template 'total and deterministic' (their statements: YtjfnhjmdgfkgnaaTotals.lean).
  GIVEN WITH THE SEED: the statements are not yours to turn. If you find one false, say at which input.
  Laid BY PROGRAM, IN A SANDBOX (cutbox-rows.mjs): the forced cells as the released guide's own fill.sh prints them over the translation 9da4ad40554a12f7… (all of the seat's roots in one cut). By AI agents, Wed Nov 11 2026. No macro, syntax, notation, axiom, sorry.
-/
import Derived.Test.YtjfnhjmdgfkgnaaChecked
import GoSem.Claim
import GoSem.ClaimJoined
import GoSem.ClaimMapViews
import Derived.JoinedTies
import Derived.KernelRfl
namespace Go.Proofs.Ytjfnhjmdgfkgnaa
/- THE CELL 'sum', in the pinned program and in every row, IS THE sha256 OF THE DUMP (.gsa) THAT YtjfnhjmdgfkgnaaProg.lean LOADS. Nothing in Lean hashes anything: it is a label: what it is worth is what the hold of that sum in a sandbox is worth. -/
noncomputable def Try.pinned : Pinned := { name := "ytjfnhjmdgfkgnaa", sum := "9da4ad40554a12f77634dc41d8db4be66d58245ea740345e15dcf0185bd07962", checked := Try.checked }
namespace Rows
def none {H : Type} : Left H := { results := [], args := [] }

/-- 'colanderlaw07.TrieTells': WHATEVER THE INPUT: true; the input reads as it did. -/
def trieTellsSpec : ChangeSpec := { name := "trieTells", fn := fun _ => fun
  | [d1, d2] => { results := [.lit (.bool true)], args := [d1, d2] }
  | _ => none }
def trieTellsRow : OpenClaim := { program := "ytjfnhjmdgfkgnaa", sum := "9da4ad40554a12f77634dc41d8db4be66d58245ea740345e15dcf0185bd07962", func := "colander/colanderlaw07.TrieTells", spec := "trieTells", unfollowed := true, recurses := true, apart := false }
def TrieTellsSaid : Prop := trieTellsRow.holds Try.pinned (OpenSpec.ofChange trieTellsSpec)

/-- ITS FALSE NEIGHBOUR: 'it returns false'. Refute it at one input. -/
def trieTellsWrong : ChangeSpec := { name := "trieTells", fn := fun _ => fun
  | [d1, d2] => { results := [.lit (.bool false)], args := [d1, d2] }
  | _ => none }
def TrieTellsWrongFalsely : Prop := trieTellsRow.holds Try.pinned (OpenSpec.ofChange trieTellsWrong)

/-- 'colanderlaw07.TrieJoins': WHATEVER THE INPUT: true; the input reads as it did. -/
def trieJoinsSpec : ChangeSpec := { name := "trieJoins", fn := fun _ => fun
  | [d1, d2, d3] => { results := [.lit (.bool true)], args := [d1, d2, d3] }
  | _ => none }
def trieJoinsRow : OpenClaim := { program := "ytjfnhjmdgfkgnaa", sum := "9da4ad40554a12f77634dc41d8db4be66d58245ea740345e15dcf0185bd07962", func := "colander/colanderlaw07.TrieJoins", spec := "trieJoins", unfollowed := true, recurses := true, apart := false }
def TrieJoinsSaid : Prop := trieJoinsRow.holds Try.pinned (OpenSpec.ofChange trieJoinsSpec)

/-- ITS FALSE NEIGHBOUR: 'it returns false'. Refute it at one input. -/
def trieJoinsWrong : ChangeSpec := { name := "trieJoins", fn := fun _ => fun
  | [d1, d2, d3] => { results := [.lit (.bool false)], args := [d1, d2, d3] }
  | _ => none }
def TrieJoinsWrongFalsely : Prop := trieJoinsRow.holds Try.pinned (OpenSpec.ofChange trieJoinsWrong)

/-- 'colanderlaw07.TrieMerges': WHATEVER THE INPUT: true; the input reads as it did. -/
def trieMergesSpec : ChangeSpec := { name := "trieMerges", fn := fun _ => fun
  | [d1, d2, d3] => { results := [.lit (.bool true)], args := [d1, d2, d3] }
  | _ => none }
def trieMergesRow : OpenClaim := { program := "ytjfnhjmdgfkgnaa", sum := "9da4ad40554a12f77634dc41d8db4be66d58245ea740345e15dcf0185bd07962", func := "colander/colanderlaw07.TrieMerges", spec := "trieMerges", unfollowed := true, recurses := true, apart := false }
def TrieMergesSaid : Prop := trieMergesRow.holds Try.pinned (OpenSpec.ofChange trieMergesSpec)

/-- ITS FALSE NEIGHBOUR: 'it returns false'. Refute it at one input. -/
def trieMergesWrong : ChangeSpec := { name := "trieMerges", fn := fun _ => fun
  | [d1, d2, d3] => { results := [.lit (.bool false)], args := [d1, d2, d3] }
  | _ => none }
def TrieMergesWrongFalsely : Prop := trieMergesRow.holds Try.pinned (OpenSpec.ofChange trieMergesWrong)

/-- 'colanderlaw08.CursorGoes': WHATEVER THE INPUT: true; the input reads as it did. -/
def cursorGoesSpec : ChangeSpec := { name := "cursorGoes", fn := fun _ => fun
  | [d1, d2] => { results := [.lit (.bool true)], args := [d1, d2] }
  | _ => none }
def cursorGoesRow : OpenClaim := { program := "ytjfnhjmdgfkgnaa", sum := "9da4ad40554a12f77634dc41d8db4be66d58245ea740345e15dcf0185bd07962", func := "colander/colanderlaw08.CursorGoes", spec := "cursorGoes", unfollowed := true, recurses := true, apart := false }
def CursorGoesSaid : Prop := cursorGoesRow.holds Try.pinned (OpenSpec.ofChange cursorGoesSpec)

/-- ITS FALSE NEIGHBOUR: 'it returns false'. Refute it at one input. -/
def cursorGoesWrong : ChangeSpec := { name := "cursorGoes", fn := fun _ => fun
  | [d1, d2] => { results := [.lit (.bool false)], args := [d1, d2] }
  | _ => none }
def CursorGoesWrongFalsely : Prop := cursorGoesRow.holds Try.pinned (OpenSpec.ofChange cursorGoesWrong)

/-- 'colanderlaw08.CursorKinds': WHATEVER THE INPUT: true; the input reads as it did. -/
def cursorKindsSpec : ChangeSpec := { name := "cursorKinds", fn := fun _ => fun
  | [d1, d2] => { results := [.lit (.bool true)], args := [d1, d2] }
  | _ => none }
def cursorKindsRow : OpenClaim := { program := "ytjfnhjmdgfkgnaa", sum := "9da4ad40554a12f77634dc41d8db4be66d58245ea740345e15dcf0185bd07962", func := "colander/colanderlaw08.CursorKinds", spec := "cursorKinds", unfollowed := true, recurses := true, apart := false }
def CursorKindsSaid : Prop := cursorKindsRow.holds Try.pinned (OpenSpec.ofChange cursorKindsSpec)

/-- ITS FALSE NEIGHBOUR: 'it returns false'. Refute it at one input. -/
def cursorKindsWrong : ChangeSpec := { name := "cursorKinds", fn := fun _ => fun
  | [d1, d2] => { results := [.lit (.bool false)], args := [d1, d2] }
  | _ => none }
def CursorKindsWrongFalsely : Prop := cursorKindsRow.holds Try.pinned (OpenSpec.ofChange cursorKindsWrong)

/-- 'colanderlaw08.CursorAll': WHATEVER THE INPUT: true; the input reads as it did. -/
def cursorAllSpec : ChangeSpec := { name := "cursorAll", fn := fun _ => fun
  | [d] => { results := [.lit (.bool true)], args := [d] }
  | _ => none }
def cursorAllRow : OpenClaim := { program := "ytjfnhjmdgfkgnaa", sum := "9da4ad40554a12f77634dc41d8db4be66d58245ea740345e15dcf0185bd07962", func := "colander/colanderlaw08.CursorAll", spec := "cursorAll", unfollowed := true, recurses := true, apart := false }
def CursorAllSaid : Prop := cursorAllRow.holds Try.pinned (OpenSpec.ofChange cursorAllSpec)

/-- ITS FALSE NEIGHBOUR: 'it returns false'. Refute it at one input. -/
def cursorAllWrong : ChangeSpec := { name := "cursorAll", fn := fun _ => fun
  | [d] => { results := [.lit (.bool false)], args := [d] }
  | _ => none }
def CursorAllWrongFalsely : Prop := cursorAllRow.holds Try.pinned (OpenSpec.ofChange cursorAllWrong)

/-- 'colanderlaw08.CursorSeeks': WHATEVER THE INPUT: true; the input reads as it did. -/
def cursorSeeksSpec : ChangeSpec := { name := "cursorSeeks", fn := fun _ => fun
  | [d1, d2, d3] => { results := [.lit (.bool true)], args := [d1, d2, d3] }
  | _ => none }
def cursorSeeksRow : OpenClaim := { program := "ytjfnhjmdgfkgnaa", sum := "9da4ad40554a12f77634dc41d8db4be66d58245ea740345e15dcf0185bd07962", func := "colander/colanderlaw08.CursorSeeks", spec := "cursorSeeks", unfollowed := true, recurses := true, apart := false }
def CursorSeeksSaid : Prop := cursorSeeksRow.holds Try.pinned (OpenSpec.ofChange cursorSeeksSpec)

/-- ITS FALSE NEIGHBOUR: 'it returns false'. Refute it at one input. -/
def cursorSeeksWrong : ChangeSpec := { name := "cursorSeeks", fn := fun _ => fun
  | [d1, d2, d3] => { results := [.lit (.bool false)], args := [d1, d2, d3] }
  | _ => none }
def CursorSeeksWrongFalsely : Prop := cursorSeeksRow.holds Try.pinned (OpenSpec.ofChange cursorSeeksWrong)

/-- 'colanderlaw08.CursorUp': WHATEVER THE INPUT: true; the input reads as it did. -/
def cursorUpSpec : ChangeSpec := { name := "cursorUp", fn := fun _ => fun
  | [d1, d2] => { results := [.lit (.bool true)], args := [d1, d2] }
  | _ => none }
def cursorUpRow : OpenClaim := { program := "ytjfnhjmdgfkgnaa", sum := "9da4ad40554a12f77634dc41d8db4be66d58245ea740345e15dcf0185bd07962", func := "colander/colanderlaw08.CursorUp", spec := "cursorUp", unfollowed := true, recurses := true, apart := false }
def CursorUpSaid : Prop := cursorUpRow.holds Try.pinned (OpenSpec.ofChange cursorUpSpec)

/-- ITS FALSE NEIGHBOUR: 'it returns false'. Refute it at one input. -/
def cursorUpWrong : ChangeSpec := { name := "cursorUp", fn := fun _ => fun
  | [d1, d2] => { results := [.lit (.bool false)], args := [d1, d2] }
  | _ => none }
def CursorUpWrongFalsely : Prop := cursorUpRow.holds Try.pinned (OpenSpec.ofChange cursorUpWrong)

/- THE SECOND FORM. 'bulk': how many values and letters a reading holds, each counted each time it is reached (what is shared counts as often as it is met; a slice's spare places count too). A statement '..UptoSaid' is the law's where the arguments, and the package variables that the reading takes, are together of bulk at most 1048576: NARROWER than '..Said'. Prove '..Said' where nothing that the law and all that it calls make is longer than what came in: it says more and counts as full. Else prove '..UptoSaid'. A law counts once. -/
mutual
def uptoBulk {H : Type} : DataW H → Nat
  | .lit (.string bytes) => bytes.length + 1
  | .lit _ => 1
  | .nil => 1
  | .ptr d => uptoBulk d + 1
  | .slice elems spare => uptoBulkAll elems + uptoBulkAll spare + 1
  | .agg parts => uptoBulkAll parts + 1
  | .iface _ d => uptoBulk d + 1
  | .map entries => uptoBulkEntries entries + 1
  | .held _ => 1
def uptoBulkAll {H : Type} : List (DataW H) → Nat
  | [] => 0
  | d :: r => uptoBulk d + uptoBulkAll r
def uptoBulkEntries {H : Type} : List (Lit × DataW H) → Nat
  | [] => 0
  | x :: r => uptoBulkEntry x + uptoBulkEntries r
def uptoBulkEntry {H : Type} : Lit × DataW H → Nat
  | (.string bytes, d) => bytes.length + uptoBulk d + 1
  | (_, d) => uptoBulk d + 1
 end
def uptoSmall : (H : Type) → List (DataW H) → Bool := fun _ ds => decide (uptoBulkAll ds ≤ 1048576)
def OpenSpec.upto (s : _root_.Go.ChangeSpec) : _root_.Go.OpenSpec := { _root_.Go.OpenSpec.ofChange s with cond := some uptoSmall }

/-- 'colanderlaw07.TrieTells', WHERE WHAT IT READS IS OF BULK AT MOST 1048576: true; the input reads as it did. -/
def trieTellsUptoRow : OpenClaim := { program := "ytjfnhjmdgfkgnaa", sum := "9da4ad40554a12f77634dc41d8db4be66d58245ea740345e15dcf0185bd07962", func := "colander/colanderlaw07.TrieTells", spec := "trieTells", unfollowed := true, recurses := true, apart := false, narrowed := true }
def TrieTellsUptoSaid : Prop := trieTellsUptoRow.holds Try.pinned (OpenSpec.upto trieTellsSpec)

/-- 'colanderlaw07.TrieJoins', WHERE WHAT IT READS IS OF BULK AT MOST 1048576: true; the input reads as it did. -/
def trieJoinsUptoRow : OpenClaim := { program := "ytjfnhjmdgfkgnaa", sum := "9da4ad40554a12f77634dc41d8db4be66d58245ea740345e15dcf0185bd07962", func := "colander/colanderlaw07.TrieJoins", spec := "trieJoins", unfollowed := true, recurses := true, apart := false, narrowed := true }
def TrieJoinsUptoSaid : Prop := trieJoinsUptoRow.holds Try.pinned (OpenSpec.upto trieJoinsSpec)

/-- 'colanderlaw07.TrieMerges', WHERE WHAT IT READS IS OF BULK AT MOST 1048576: true; the input reads as it did. -/
def trieMergesUptoRow : OpenClaim := { program := "ytjfnhjmdgfkgnaa", sum := "9da4ad40554a12f77634dc41d8db4be66d58245ea740345e15dcf0185bd07962", func := "colander/colanderlaw07.TrieMerges", spec := "trieMerges", unfollowed := true, recurses := true, apart := false, narrowed := true }
def TrieMergesUptoSaid : Prop := trieMergesUptoRow.holds Try.pinned (OpenSpec.upto trieMergesSpec)

/-- 'colanderlaw08.CursorGoes', WHERE WHAT IT READS IS OF BULK AT MOST 1048576: true; the input reads as it did. -/
def cursorGoesUptoRow : OpenClaim := { program := "ytjfnhjmdgfkgnaa", sum := "9da4ad40554a12f77634dc41d8db4be66d58245ea740345e15dcf0185bd07962", func := "colander/colanderlaw08.CursorGoes", spec := "cursorGoes", unfollowed := true, recurses := true, apart := false, narrowed := true }
def CursorGoesUptoSaid : Prop := cursorGoesUptoRow.holds Try.pinned (OpenSpec.upto cursorGoesSpec)

/-- 'colanderlaw08.CursorKinds', WHERE WHAT IT READS IS OF BULK AT MOST 1048576: true; the input reads as it did. -/
def cursorKindsUptoRow : OpenClaim := { program := "ytjfnhjmdgfkgnaa", sum := "9da4ad40554a12f77634dc41d8db4be66d58245ea740345e15dcf0185bd07962", func := "colander/colanderlaw08.CursorKinds", spec := "cursorKinds", unfollowed := true, recurses := true, apart := false, narrowed := true }
def CursorKindsUptoSaid : Prop := cursorKindsUptoRow.holds Try.pinned (OpenSpec.upto cursorKindsSpec)

/-- 'colanderlaw08.CursorAll', WHERE WHAT IT READS IS OF BULK AT MOST 1048576: true; the input reads as it did. -/
def cursorAllUptoRow : OpenClaim := { program := "ytjfnhjmdgfkgnaa", sum := "9da4ad40554a12f77634dc41d8db4be66d58245ea740345e15dcf0185bd07962", func := "colander/colanderlaw08.CursorAll", spec := "cursorAll", unfollowed := true, recurses := true, apart := false, narrowed := true }
def CursorAllUptoSaid : Prop := cursorAllUptoRow.holds Try.pinned (OpenSpec.upto cursorAllSpec)

/-- 'colanderlaw08.CursorSeeks', WHERE WHAT IT READS IS OF BULK AT MOST 1048576: true; the input reads as it did. -/
def cursorSeeksUptoRow : OpenClaim := { program := "ytjfnhjmdgfkgnaa", sum := "9da4ad40554a12f77634dc41d8db4be66d58245ea740345e15dcf0185bd07962", func := "colander/colanderlaw08.CursorSeeks", spec := "cursorSeeks", unfollowed := true, recurses := true, apart := false, narrowed := true }
def CursorSeeksUptoSaid : Prop := cursorSeeksUptoRow.holds Try.pinned (OpenSpec.upto cursorSeeksSpec)

/-- 'colanderlaw08.CursorUp', WHERE WHAT IT READS IS OF BULK AT MOST 1048576: true; the input reads as it did. -/
def cursorUpUptoRow : OpenClaim := { program := "ytjfnhjmdgfkgnaa", sum := "9da4ad40554a12f77634dc41d8db4be66d58245ea740345e15dcf0185bd07962", func := "colander/colanderlaw08.CursorUp", spec := "cursorUp", unfollowed := true, recurses := true, apart := false, narrowed := true }
def CursorUpUptoSaid : Prop := cursorUpUptoRow.holds Try.pinned (OpenSpec.upto cursorUpSpec)

end Rows
end Go.Proofs.Ytjfnhjmdgfkgnaa
