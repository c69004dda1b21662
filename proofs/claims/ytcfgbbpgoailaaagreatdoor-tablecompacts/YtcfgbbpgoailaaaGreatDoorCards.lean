/-
  DERIVED. GIVEN WITH THE SEED: THE CARDS: each row of YtcfgbbpgoailaaaGreatDoorRows.lean that lists a variable, with what it lists TIED to the program's text (the seventh form; the later family's looks); each row that meets fmt, with fmt's text TOLD by the authors' own Lean function (tested against real Go, not proved from fmt's source: count such statements apart). THE CARD IS WHAT COUNTS. Prove the row's statement (the work); the ties are given (YtcfgbbpgoailaaaGreatDoorTie.lean); close each card by the builder's one call (the guide's Derived/Test/ToyasCard.lean, 'card_holds'). Laid BY PROGRAM, IN A SANDBOX (cutbox-door.mjs). By AI agents, Wed Nov 11 2026. No macro, syntax, notation, axiom, sorry.
-/
import Derived.Test.YtcfgbbpgoailaaaGreatDoorRows
import GoSem.ClaimSeven
namespace Go.Proofs.YtcfgbbpgoailaaaGreatDoor
namespace Rows

/-- THE TIED CARD OF 'millpondkeep.TableCompacts'. -/
def tableCompactsCard : Claim7 := { stood := { row := tableCompactsRow, standIns := [], harness := (true, "6ee80fb4331dccf5b23de457e4f85de38d6148e3e73f870afb5cf7c4f94b44ba"), looks := true }, kinds := [], alts := [], laidByText := true, laidKinds := [.data, .data, .data, .data, .handle, .sentinel, .sentinel, .data, .data, .pinned], laidTests := true, laidLooks := .later }
def TableCompactsCardSaid : Prop := Claim7.holds Tryz.pinned (.plain (OpenSpec.ofChange tableCompactsSpec)) tableCompactsCard

/-- THE SECOND FORM's CARD OF 'millpondkeep.TableCompacts'. -/
def tableCompactsUptoCard : Claim7 := { stood := { row := tableCompactsUptoRow, standIns := [], harness := (true, "6ee80fb4331dccf5b23de457e4f85de38d6148e3e73f870afb5cf7c4f94b44ba"), looks := true }, kinds := [], alts := [], laidByText := true, laidKinds := [.data, .data, .data, .data, .handle, .sentinel, .sentinel, .data, .data, .pinned], laidTests := true, laidLooks := .later }
def TableCompactsUptoCardSaid : Prop := Claim7.holds Tryz.pinned (.plain (OpenSpec.upto tableCompactsSpec)) tableCompactsUptoCard
end Rows
end Go.Proofs.YtcfgbbpgoailaaaGreatDoor
