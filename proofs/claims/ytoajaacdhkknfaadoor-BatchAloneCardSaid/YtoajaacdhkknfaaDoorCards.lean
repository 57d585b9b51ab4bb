/-
  DERIVED. GIVEN WITH THE SEED: THE CARDS: each row of YtoajaacdhkknfaaDoorRows.lean that lists a variable, with what it lists TIED to the program's text (the seventh form; the later family's looks); each row that meets fmt, with fmt's text TOLD by the authors' own Lean function (tested against real Go, not proved from fmt's source: count such statements apart). THE CARD IS WHAT COUNTS. Prove the row's statement (the work); the ties are given (YtoajaacdhkknfaaDoorTie.lean); close each card by the builder's one call (the guide's Derived/Test/ToyasCard.lean, 'card_holds'). Laid BY PROGRAM, IN A SANDBOX (cutbox-door.mjs). By AI agents, Wed Nov 11 2026. No macro, syntax, notation, axiom, sorry.
-/
import Derived.Test.YtoajaacdhkknfaaDoorRows
import GoSem.ClaimSeven
namespace Go.Proofs.YtoajaacdhkknfaaDoor
namespace Rows

/-- THE TIED CARD OF 'colanderlaw09.BatchAlone'. -/
def batchAloneCard : Claim7 := { stood := { row := batchAloneRow, standIns := [], harness := (true, "f9a45c12c68f6f4a85862be0cf55b4661c357dbd2dba79bb4c76ae960ae93fb0"), looks := false }, kinds := [], alts := [], laidByText := true, laidKinds := [.data, .pinned], laidTests := true, laidLooks := .later }
def BatchAloneCardSaid : Prop := Claim7.holds Tryd.pinned (.plain (OpenSpec.ofChange batchAloneSpec)) batchAloneCard

/-- THE SECOND FORM's CARD OF 'colanderlaw09.BatchAlone'. -/
def batchAloneUptoCard : Claim7 := { stood := { row := batchAloneUptoRow, standIns := [], harness := (true, "f9a45c12c68f6f4a85862be0cf55b4661c357dbd2dba79bb4c76ae960ae93fb0"), looks := false }, kinds := [], alts := [], laidByText := true, laidKinds := [.data, .pinned], laidTests := true, laidLooks := .later }
def BatchAloneUptoCardSaid : Prop := Claim7.holds Tryd.pinned (.plain (OpenSpec.upto batchAloneSpec)) batchAloneUptoCard
end Rows
end Go.Proofs.YtoajaacdhkknfaaDoor
