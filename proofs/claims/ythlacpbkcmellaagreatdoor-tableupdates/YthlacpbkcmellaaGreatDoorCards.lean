/-
  DERIVED. GIVEN WITH THE SEED: THE CARDS: each row of YthlacpbkcmellaaGreatDoorRows.lean that lists a variable, with what it lists TIED to the program's text (the seventh form; the later family's looks); each row that meets fmt, with fmt's text TOLD by the authors' own Lean function (tested against real Go, not proved from fmt's source: count such statements apart). THE CARD IS WHAT COUNTS. Prove the row's statement (the work); the ties are given (YthlacpbkcmellaaGreatDoorTie.lean); close each card by the builder's one call (the guide's Derived/Test/ToyasCard.lean, 'card_holds'). Laid BY PROGRAM, IN A SANDBOX (cutbox-door.mjs). By AI agents, Wed Nov 11 2026. No macro, syntax, notation, axiom, sorry.
-/
import Derived.Test.YthlacpbkcmellaaGreatDoorRows
import GoSem.ClaimSeven
namespace Go.Proofs.YthlacpbkcmellaaGreatDoor
namespace Rows

/-- THE TIED CARD OF 'millpondkeep.TableUpdates'. -/
def tableUpdatesCard : Claim7 := { stood := { row := tableUpdatesRow, standIns := [], harness := (true, "223e4092580be5e5239ece3fff0ff0586aefd405c50f7560e4ccfaed36898512"), looks := true }, kinds := [], alts := [], laidByText := true, laidKinds := [.data, .data, .data, .data, .handle, .sentinel, .sentinel, .data, .data, .pinned], laidTests := true, laidLooks := .later }
def TableUpdatesCardSaid : Prop := Claim7.holds Tryz.pinned (.plain (OpenSpec.ofChange tableUpdatesSpec)) tableUpdatesCard

/-- THE SECOND FORM's CARD OF 'millpondkeep.TableUpdates'. -/
def tableUpdatesUptoCard : Claim7 := { stood := { row := tableUpdatesUptoRow, standIns := [], harness := (true, "223e4092580be5e5239ece3fff0ff0586aefd405c50f7560e4ccfaed36898512"), looks := true }, kinds := [], alts := [], laidByText := true, laidKinds := [.data, .data, .data, .data, .handle, .sentinel, .sentinel, .data, .data, .pinned], laidTests := true, laidLooks := .later }
def TableUpdatesUptoCardSaid : Prop := Claim7.holds Tryz.pinned (.plain (OpenSpec.upto tableUpdatesSpec)) tableUpdatesUptoCard
end Rows
end Go.Proofs.YthlacpbkcmellaaGreatDoor
