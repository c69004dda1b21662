/-
  DERIVED. GIVEN WITH THE SEED: THE CARDS: each row of YtfppidnfomelpaaGreatDoorRows.lean that lists a variable, with what it lists TIED to the program's text (the seventh form; the later family's looks); each row that meets fmt, with fmt's text TOLD by the authors' own Lean function (tested against real Go, not proved from fmt's source: count such statements apart). THE CARD IS WHAT COUNTS. Prove the row's statement (the work); the ties are given (YtfppidnfomelpaaGreatDoorTie.lean); close each card by the builder's one call (the guide's Derived/Test/ToyasCard.lean, 'card_holds'). Laid BY PROGRAM, IN A SANDBOX (cutbox-door.mjs). By AI agents, Wed Nov 11 2026. No macro, syntax, notation, axiom, sorry.
-/
import Derived.Test.YtfppidnfomelpaaGreatDoorRows
import GoSem.ClaimSeven
namespace Go.Proofs.YtfppidnfomelpaaGreatDoor
namespace Rows

/-- THE TIED CARD OF 'millpondkeep.LogBack'. -/
def logBackCard : Claim7 := { stood := { row := logBackRow, standIns := [], harness := (true, "77e05d94aae5a923b0f7dd5021e811c3489f49a21abce2f9a243c2e2e8bd68ab"), looks := true }, kinds := [], alts := [], laidByText := true, laidKinds := [.data, .data, .data, .data, .sentinel, .sentinel, .data, .pinned], laidTests := true, laidLooks := .later }
def LogBackCardSaid : Prop := Claim7.holds Tryz.pinned (.plain (OpenSpec.ofChange logBackSpec)) logBackCard

/-- THE TIED CARD OF 'millpondkeep.CommitOne'. -/
def commitOneCard : Claim7 := { stood := { row := commitOneRow, standIns := [], harness := (true, "77e05d94aae5a923b0f7dd5021e811c3489f49a21abce2f9a243c2e2e8bd68ab"), looks := true }, kinds := [], alts := [], laidByText := true, laidKinds := [.data, .data, .data, .data, .handle, .sentinel, .sentinel, .data, .pinned], laidTests := true, laidLooks := .later }
def CommitOneCardSaid : Prop := Claim7.holds Tryz.pinned (.plain (OpenSpec.ofChange commitOneSpec)) commitOneCard

/-- THE SECOND FORM's CARD OF 'millpondkeep.LogBack'. -/
def logBackUptoCard : Claim7 := { stood := { row := logBackUptoRow, standIns := [], harness := (true, "77e05d94aae5a923b0f7dd5021e811c3489f49a21abce2f9a243c2e2e8bd68ab"), looks := true }, kinds := [], alts := [], laidByText := true, laidKinds := [.data, .data, .data, .data, .sentinel, .sentinel, .data, .pinned], laidTests := true, laidLooks := .later }
def LogBackUptoCardSaid : Prop := Claim7.holds Tryz.pinned (.plain (OpenSpec.upto logBackSpec)) logBackUptoCard

/-- THE SECOND FORM's CARD OF 'millpondkeep.CommitOne'. -/
def commitOneUptoCard : Claim7 := { stood := { row := commitOneUptoRow, standIns := [], harness := (true, "77e05d94aae5a923b0f7dd5021e811c3489f49a21abce2f9a243c2e2e8bd68ab"), looks := true }, kinds := [], alts := [], laidByText := true, laidKinds := [.data, .data, .data, .data, .handle, .sentinel, .sentinel, .data, .pinned], laidTests := true, laidLooks := .later }
def CommitOneUptoCardSaid : Prop := Claim7.holds Tryz.pinned (.plain (OpenSpec.upto commitOneSpec)) commitOneUptoCard
end Rows
end Go.Proofs.YtfppidnfomelpaaGreatDoor
