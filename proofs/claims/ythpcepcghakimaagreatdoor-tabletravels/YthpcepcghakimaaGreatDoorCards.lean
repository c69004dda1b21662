/-
  DERIVED. GIVEN WITH THE SEED: THE CARDS: each row of YthpcepcghakimaaGreatDoorRows.lean that lists a variable, with what it lists TIED to the program's text (the seventh form; the later family's looks); each row that meets fmt, with fmt's text TOLD by the authors' own Lean function (tested against real Go, not proved from fmt's source: count such statements apart). THE CARD IS WHAT COUNTS. Prove the row's statement (the work); the ties are given (YthpcepcghakimaaGreatDoorTie.lean); close each card by the builder's one call (the guide's Derived/Test/ToyasCard.lean, 'card_holds'). Laid BY PROGRAM, IN A SANDBOX (cutbox-door.mjs). By AI agents, Wed Nov 11 2026. No macro, syntax, notation, axiom, sorry.
-/
import Derived.Test.YthpcepcghakimaaGreatDoorRows
import GoSem.ClaimSeven
namespace Go.Proofs.YthpcepcghakimaaGreatDoor
namespace Rows

/-- THE TIED CARD OF 'millpondkeep.TableTravels'. -/
def tableTravelsCard : Claim7 := { stood := { row := tableTravelsRow, standIns := [], harness := (true, "7a1f416de7a1a4a9cf4fd92ad26eca126b021a720c48ef4e4c34d31feab4f451"), looks := true }, kinds := [], alts := [], laidByText := true, laidKinds := [.data, .data, .data, .data, .handle, .sentinel, .sentinel, .data, .data, .pinned], laidTests := true, laidLooks := .later }
def TableTravelsCardSaid : Prop := Claim7.holds Tryz.pinned (.plain (OpenSpec.ofChange tableTravelsSpec)) tableTravelsCard

/-- THE SECOND FORM's CARD OF 'millpondkeep.TableTravels'. -/
def tableTravelsUptoCard : Claim7 := { stood := { row := tableTravelsUptoRow, standIns := [], harness := (true, "7a1f416de7a1a4a9cf4fd92ad26eca126b021a720c48ef4e4c34d31feab4f451"), looks := true }, kinds := [], alts := [], laidByText := true, laidKinds := [.data, .data, .data, .data, .handle, .sentinel, .sentinel, .data, .data, .pinned], laidTests := true, laidLooks := .later }
def TableTravelsUptoCardSaid : Prop := Claim7.holds Tryz.pinned (.plain (OpenSpec.upto tableTravelsSpec)) tableTravelsUptoCard
end Rows
end Go.Proofs.YthpcepcghakimaaGreatDoor
