/-
  No cell of these rows narrows 'for every input' (looked for: loops, veiled, ifaces, maps, wideKeys, modest, calm, conditions, laid).
  DERIVED. THE GIVEN ROWS OF THIS SEAT. 6 by the template 'for every input the law returns true; each argument reads behind the call as it read before'; 0 by the template 'total and deterministic' (their statements: YtcapmhmlipmciaaTotals.lean).
  GIVEN WITH THE SEED: the statements are not yours to turn. If you find one false, say at which input.
  Laid BY PROGRAM, IN A SANDBOX (cutbox-rows.mjs): the forced cells as the released guide's own fill.sh prints them over the translation 9b66881140e34150… (all of the seat's roots in one cut). By AI agents, Wed Nov 11 2026. No macro, syntax, notation, axiom, sorry.
-/
import Derived.Test.YtcapmhmlipmciaaChecked
import GoSem.Claim
import GoSem.ClaimJoined
import GoSem.ClaimMapViews
import Derived.JoinedTies
import Derived.KernelRfl
namespace Go.Proofs.Ytcapmhmlipmciaa
/- THE CELL 'sum', in the pinned program and in every row, IS THE sha256 OF THE DUMP (.gsa) THAT YtcapmhmlipmciaaProg.lean LOADS. Nothing in Lean hashes anything: it is a label: what it is worth is what the hold of that sum in a sandbox is worth. -/
noncomputable def Try.pinned : Pinned := { name := "ytcapmhmlipmciaa", sum := "9b66881140e341503bee20cf69959e60de7b6f41965ccffd35fd30aaacf56512", checked := Try.checked }
namespace Rows
def none {H : Type} : Left H := { results := [], args := [] }

/-- 'colanderlaw11.TiersTell': WHATEVER THE INPUT: true; the input reads as it did. -/
def tiersTellSpec : ChangeSpec := { name := "tiersTell", fn := fun _ => fun
  | [d1, d2, d3] => { results := [.lit (.bool true)], args := [d1, d2, d3] }
  | _ => none }
def tiersTellRow : OpenClaim := { program := "ytcapmhmlipmciaa", sum := "9b66881140e341503bee20cf69959e60de7b6f41965ccffd35fd30aaacf56512", func := "colander/colanderlaw11.TiersTell", spec := "tiersTell", unfollowed := true, recurses := true, plainKeys := false, apart := false }
def TiersTellSaid : Prop := tiersTellRow.holds Try.pinned (OpenSpec.ofChange tiersTellSpec)

/-- ITS FALSE NEIGHBOUR: 'it returns false'. Refute it at one input. -/
def tiersTellWrong : ChangeSpec := { name := "tiersTell", fn := fun _ => fun
  | [d1, d2, d3] => { results := [.lit (.bool false)], args := [d1, d2, d3] }
  | _ => none }
def TiersTellWrongFalsely : Prop := tiersTellRow.holds Try.pinned (OpenSpec.ofChange tiersTellWrong)

/-- 'colanderlaw11.TiersPush': WHATEVER THE INPUT: true; the input reads as it did. -/
def tiersPushSpec : ChangeSpec := { name := "tiersPush", fn := fun _ => fun
  | [d1, d2, d3] => { results := [.lit (.bool true)], args := [d1, d2, d3] }
  | _ => none }
def tiersPushRow : OpenClaim := { program := "ytcapmhmlipmciaa", sum := "9b66881140e341503bee20cf69959e60de7b6f41965ccffd35fd30aaacf56512", func := "colander/colanderlaw11.TiersPush", spec := "tiersPush", unfollowed := true, recurses := true, plainKeys := false, apart := false }
def TiersPushSaid : Prop := tiersPushRow.holds Try.pinned (OpenSpec.ofChange tiersPushSpec)

/-- ITS FALSE NEIGHBOUR: 'it returns false'. Refute it at one input. -/
def tiersPushWrong : ChangeSpec := { name := "tiersPush", fn := fun _ => fun
  | [d1, d2, d3] => { results := [.lit (.bool false)], args := [d1, d2, d3] }
  | _ => none }
def TiersPushWrongFalsely : Prop := tiersPushRow.holds Try.pinned (OpenSpec.ofChange tiersPushWrong)

/-- 'colanderlaw11.TiersSquash': WHATEVER THE INPUT: true; the input reads as it did. -/
def tiersSquashSpec : ChangeSpec := { name := "tiersSquash", fn := fun _ => fun
  | [d1, d2, d3] => { results := [.lit (.bool true)], args := [d1, d2, d3] }
  | _ => none }
def tiersSquashRow : OpenClaim := { program := "ytcapmhmlipmciaa", sum := "9b66881140e341503bee20cf69959e60de7b6f41965ccffd35fd30aaacf56512", func := "colander/colanderlaw11.TiersSquash", spec := "tiersSquash", unfollowed := true, recurses := true, plainKeys := false, apart := false }
def TiersSquashSaid : Prop := tiersSquashRow.holds Try.pinned (OpenSpec.ofChange tiersSquashSpec)

/-- ITS FALSE NEIGHBOUR: 'it returns false'. Refute it at one input. -/
def tiersSquashWrong : ChangeSpec := { name := "tiersSquash", fn := fun _ => fun
  | [d1, d2, d3] => { results := [.lit (.bool false)], args := [d1, d2, d3] }
  | _ => none }
def TiersSquashWrongFalsely : Prop := tiersSquashRow.holds Try.pinned (OpenSpec.ofChange tiersSquashWrong)

/-- 'colanderlaw11.TiersStay': WHATEVER THE INPUT: true; the input reads as it did. -/
def tiersStaySpec : ChangeSpec := { name := "tiersStay", fn := fun _ => fun
  | [d1, d2] => { results := [.lit (.bool true)], args := [d1, d2] }
  | _ => none }
def tiersStayRow : OpenClaim := { program := "ytcapmhmlipmciaa", sum := "9b66881140e341503bee20cf69959e60de7b6f41965ccffd35fd30aaacf56512", func := "colander/colanderlaw11.TiersStay", spec := "tiersStay", unfollowed := true, recurses := true, plainKeys := false, apart := false }
def TiersStaySaid : Prop := tiersStayRow.holds Try.pinned (OpenSpec.ofChange tiersStaySpec)

/-- ITS FALSE NEIGHBOUR: 'it returns false'. Refute it at one input. -/
def tiersStayWrong : ChangeSpec := { name := "tiersStay", fn := fun _ => fun
  | [d1, d2] => { results := [.lit (.bool false)], args := [d1, d2] }
  | _ => none }
def TiersStayWrongFalsely : Prop := tiersStayRow.holds Try.pinned (OpenSpec.ofChange tiersStayWrong)

/-- 'colanderlaw11.TiersNews': WHATEVER THE INPUT: true; the input reads as it did. -/
def tiersNewsSpec : ChangeSpec := { name := "tiersNews", fn := fun _ => fun
  | [d1, d2, d3] => { results := [.lit (.bool true)], args := [d1, d2, d3] }
  | _ => none }
def tiersNewsRow : OpenClaim := { program := "ytcapmhmlipmciaa", sum := "9b66881140e341503bee20cf69959e60de7b6f41965ccffd35fd30aaacf56512", func := "colander/colanderlaw11.TiersNews", spec := "tiersNews", unfollowed := true, recurses := true, plainKeys := false, apart := false }
def TiersNewsSaid : Prop := tiersNewsRow.holds Try.pinned (OpenSpec.ofChange tiersNewsSpec)

/-- ITS FALSE NEIGHBOUR: 'it returns false'. Refute it at one input. -/
def tiersNewsWrong : ChangeSpec := { name := "tiersNews", fn := fun _ => fun
  | [d1, d2, d3] => { results := [.lit (.bool false)], args := [d1, d2, d3] }
  | _ => none }
def TiersNewsWrongFalsely : Prop := tiersNewsRow.holds Try.pinned (OpenSpec.ofChange tiersNewsWrong)

/-- 'colanderlaw11.TiersThree': WHATEVER THE INPUT: true; the input reads as it did. -/
def tiersThreeSpec : ChangeSpec := { name := "tiersThree", fn := fun _ => fun
  | [d1, d2] => { results := [.lit (.bool true)], args := [d1, d2] }
  | _ => none }
def tiersThreeRow : OpenClaim := { program := "ytcapmhmlipmciaa", sum := "9b66881140e341503bee20cf69959e60de7b6f41965ccffd35fd30aaacf56512", func := "colander/colanderlaw11.TiersThree", spec := "tiersThree", unfollowed := true, recurses := true, plainKeys := false, apart := false }
def TiersThreeSaid : Prop := tiersThreeRow.holds Try.pinned (OpenSpec.ofChange tiersThreeSpec)

/-- ITS FALSE NEIGHBOUR: 'it returns false'. Refute it at one input. -/
def tiersThreeWrong : ChangeSpec := { name := "tiersThree", fn := fun _ => fun
  | [d1, d2] => { results := [.lit (.bool false)], args := [d1, d2] }
  | _ => none }
def TiersThreeWrongFalsely : Prop := tiersThreeRow.holds Try.pinned (OpenSpec.ofChange tiersThreeWrong)

/- THE SECOND FORM. 'bulk': how many values and letters a reading holds, each counted each time it is reached (what is shared counts as often as it is met; a slice's spare places count too). A statement '..UptoSaid' is the law's where the arguments, and the package variables that the reading takes, are together of bulk at most 1048576: NARROWER than '..Said'. Prove '..Said' where nothing that the law and all that it calls make is longer than what came in: it says more and counts as full. Else prove '..UptoSaid'. A law counts once. -/
mutual
def uptoBulk {H : Type} : DataW H → Nat
  | .lit (.string bytes) => bytes.length + 1
  | .lit _ => 1
  | .nil => 1
  | .ptr d => uptoBulk d + 1
  | .slice elems spare => uptoBulkAll elems + uptoBulkAll spare + 1
  | .agg parts => uptoBulkAll parts + 1
  | .iface _ d => uptoBulk d + 1
  | .map entries => uptoBulkEntries entries + 1
  | .held _ => 1
def uptoBulkAll {H : Type} : List (DataW H) → Nat
  | [] => 0
  | d :: r => uptoBulk d + uptoBulkAll r
def uptoBulkEntries {H : Type} : List (Lit × DataW H) → Nat
  | [] => 0
  | x :: r => uptoBulkEntry x + uptoBulkEntries r
def uptoBulkEntry {H : Type} : Lit × DataW H → Nat
  | (.string bytes, d) => bytes.length + uptoBulk d + 1
  | (_, d) => uptoBulk d + 1
 end
def uptoSmall : (H : Type) → List (DataW H) → Bool := fun _ ds => decide (uptoBulkAll ds ≤ 1048576)
def OpenSpec.upto (s : _root_.Go.ChangeSpec) : _root_.Go.OpenSpec := { _root_.Go.OpenSpec.ofChange s with cond := some uptoSmall }

/-- 'colanderlaw11.TiersTell', WHERE WHAT IT READS IS OF BULK AT MOST 1048576: true; the input reads as it did. -/
def tiersTellUptoRow : OpenClaim := { program := "ytcapmhmlipmciaa", sum := "9b66881140e341503bee20cf69959e60de7b6f41965ccffd35fd30aaacf56512", func := "colander/colanderlaw11.TiersTell", spec := "tiersTell", unfollowed := true, recurses := true, plainKeys := false, apart := false, narrowed := true }
def TiersTellUptoSaid : Prop := tiersTellUptoRow.holds Try.pinned (OpenSpec.upto tiersTellSpec)

/-- 'colanderlaw11.TiersPush', WHERE WHAT IT READS IS OF BULK AT MOST 1048576: true; the input reads as it did. -/
def tiersPushUptoRow : OpenClaim := { program := "ytcapmhmlipmciaa", sum := "9b66881140e341503bee20cf69959e60de7b6f41965ccffd35fd30aaacf56512", func := "colander/colanderlaw11.TiersPush", spec := "tiersPush", unfollowed := true, recurses := true, plainKeys := false, apart := false, narrowed := true }
def TiersPushUptoSaid : Prop := tiersPushUptoRow.holds Try.pinned (OpenSpec.upto tiersPushSpec)

/-- 'colanderlaw11.TiersSquash', WHERE WHAT IT READS IS OF BULK AT MOST 1048576: true; the input reads as it did. -/
def tiersSquashUptoRow : OpenClaim := { program := "ytcapmhmlipmciaa", sum := "9b66881140e341503bee20cf69959e60de7b6f41965ccffd35fd30aaacf56512", func := "colander/colanderlaw11.TiersSquash", spec := "tiersSquash", unfollowed := true, recurses := true, plainKeys := false, apart := false, narrowed := true }
def TiersSquashUptoSaid : Prop := tiersSquashUptoRow.holds Try.pinned (OpenSpec.upto tiersSquashSpec)

/-- 'colanderlaw11.TiersStay', WHERE WHAT IT READS IS OF BULK AT MOST 1048576: true; the input reads as it did. -/
def tiersStayUptoRow : OpenClaim := { program := "ytcapmhmlipmciaa", sum := "9b66881140e341503bee20cf69959e60de7b6f41965ccffd35fd30aaacf56512", func := "colander/colanderlaw11.TiersStay", spec := "tiersStay", unfollowed := true, recurses := true, plainKeys := false, apart := false, narrowed := true }
def TiersStayUptoSaid : Prop := tiersStayUptoRow.holds Try.pinned (OpenSpec.upto tiersStaySpec)

/-- 'colanderlaw11.TiersNews', WHERE WHAT IT READS IS OF BULK AT MOST 1048576: true; the input reads as it did. -/
def tiersNewsUptoRow : OpenClaim := { program := "ytcapmhmlipmciaa", sum := "9b66881140e341503bee20cf69959e60de7b6f41965ccffd35fd30aaacf56512", func := "colander/colanderlaw11.TiersNews", spec := "tiersNews", unfollowed := true, recurses := true, plainKeys := false, apart := false, narrowed := true }
def TiersNewsUptoSaid : Prop := tiersNewsUptoRow.holds Try.pinned (OpenSpec.upto tiersNewsSpec)

/-- 'colanderlaw11.TiersThree', WHERE WHAT IT READS IS OF BULK AT MOST 1048576: true; the input reads as it did. -/
def tiersThreeUptoRow : OpenClaim := { program := "ytcapmhmlipmciaa", sum := "9b66881140e341503bee20cf69959e60de7b6f41965ccffd35fd30aaacf56512", func := "colander/colanderlaw11.TiersThree", spec := "tiersThree", unfollowed := true, recurses := true, plainKeys := false, apart := false, narrowed := true }
def TiersThreeUptoSaid : Prop := tiersThreeUptoRow.holds Try.pinned (OpenSpec.upto tiersThreeSpec)

end Rows
end Go.Proofs.Ytcapmhmlipmciaa
