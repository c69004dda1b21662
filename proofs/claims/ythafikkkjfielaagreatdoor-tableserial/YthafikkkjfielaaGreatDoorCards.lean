/-
  DERIVED. GIVEN WITH THE SEED: THE CARDS: each row of YthafikkkjfielaaGreatDoorRows.lean that lists a variable, with what it lists TIED to the program's text (the seventh form; the later family's looks); each row that meets fmt, with fmt's text TOLD by the authors' own Lean function (tested against real Go, not proved from fmt's source: count such statements apart). THE CARD IS WHAT COUNTS. Prove the row's statement (the work); the ties are given (YthafikkkjfielaaGreatDoorTie.lean); close each card by the builder's one call (the guide's Derived/Test/ToyasCard.lean, 'card_holds'). Laid BY PROGRAM, IN A SANDBOX (cutbox-door.mjs). By AI agents, Wed Nov 11 2026. No macro, syntax, notation, axiom, sorry.
-/
import Derived.Test.YthafikkkjfielaaGreatDoorRows
import GoSem.ClaimSeven
namespace Go.Proofs.YthafikkkjfielaaGreatDoor
namespace Rows

/-- THE TIED CARD OF 'millpondkeep.TableSerial'. -/
def tableSerialCard : Claim7 := { stood := { row := tableSerialRow, standIns := [], harness := (true, "a1906867c9fe3f5dc1224e6a8d3643991bd3330b90aa938beac1113e65e877b7"), looks := true }, kinds := [], alts := [], laidByText := true, laidKinds := [.data, .data, .data, .data, .handle, .sentinel, .sentinel, .data, .data, .pinned], laidTests := true, laidLooks := .later }
def TableSerialCardSaid : Prop := Claim7.holds Tryz.pinned (.plain (OpenSpec.ofChange tableSerialSpec)) tableSerialCard

/-- THE SECOND FORM's CARD OF 'millpondkeep.TableSerial'. -/
def tableSerialUptoCard : Claim7 := { stood := { row := tableSerialUptoRow, standIns := [], harness := (true, "a1906867c9fe3f5dc1224e6a8d3643991bd3330b90aa938beac1113e65e877b7"), looks := true }, kinds := [], alts := [], laidByText := true, laidKinds := [.data, .data, .data, .data, .handle, .sentinel, .sentinel, .data, .data, .pinned], laidTests := true, laidLooks := .later }
def TableSerialUptoCardSaid : Prop := Claim7.holds Tryz.pinned (.plain (OpenSpec.upto tableSerialSpec)) tableSerialUptoCard
end Rows
end Go.Proofs.YthafikkkjfielaaGreatDoor
