/-
  DERIVED. GIVEN WITH THE SEED: THE CARDS: each row of YtneakjbkbmfleaaGreatDoorRows.lean that lists a variable, with what it lists TIED to the program's text (the seventh form; the later family's looks); each row that meets fmt, with fmt's text TOLD by the authors' own Lean function (tested against real Go, not proved from fmt's source: count such statements apart). THE CARD IS WHAT COUNTS. Prove the row's statement (the work); the ties are given (YtneakjbkbmfleaaGreatDoorTie.lean); close each card by the builder's one call (the guide's Derived/Test/ToyasCard.lean, 'card_holds'). Laid BY PROGRAM, IN A SANDBOX (cutbox-door.mjs). By AI agents, Wed Nov 11 2026. No macro, syntax, notation, axiom, sorry.
-/
import Derived.Test.YtneakjbkbmfleaaGreatDoorRows
import GoSem.ClaimSeven
namespace Go.Proofs.YtneakjbkbmfleaaGreatDoor
namespace Rows

/-- THE TIED CARD OF 'millpondkeep.TableDeletes'. -/
def tableDeletesCard : Claim7 := { stood := { row := tableDeletesRow, standIns := [], harness := (true, "81e31e186ec7fc0aae24c21abb30664b2570804b0937922dd4e4a7396b129a94"), looks := true }, kinds := [], alts := [], laidByText := true, laidKinds := [.data, .data, .data, .data, .handle, .sentinel, .sentinel, .data, .data, .pinned], laidTests := true, laidLooks := .later }
def TableDeletesCardSaid : Prop := Claim7.holds Tryz.pinned (.plain (OpenSpec.ofChange tableDeletesSpec)) tableDeletesCard

/-- THE SECOND FORM's CARD OF 'millpondkeep.TableDeletes'. -/
def tableDeletesUptoCard : Claim7 := { stood := { row := tableDeletesUptoRow, standIns := [], harness := (true, "81e31e186ec7fc0aae24c21abb30664b2570804b0937922dd4e4a7396b129a94"), looks := true }, kinds := [], alts := [], laidByText := true, laidKinds := [.data, .data, .data, .data, .handle, .sentinel, .sentinel, .data, .data, .pinned], laidTests := true, laidLooks := .later }
def TableDeletesUptoCardSaid : Prop := Claim7.holds Tryz.pinned (.plain (OpenSpec.upto tableDeletesSpec)) tableDeletesUptoCard
end Rows
end Go.Proofs.YtneakjbkbmfleaaGreatDoor
