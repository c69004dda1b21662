/-
  DERIVED. GIVEN WITH THE SEED: THE CARDS: each row of YtbhhpheailbebaaGreatDoorRows.lean that lists a variable, with what it lists TIED to the program's text (the seventh form; the later family's looks); each row that meets fmt, with fmt's text TOLD by the authors' own Lean function (tested against real Go, not proved from fmt's source: count such statements apart). THE CARD IS WHAT COUNTS. Prove the row's statement (the work); the ties are given (YtbhhpheailbebaaGreatDoorTie.lean); close each card by the builder's one call (the guide's Derived/Test/ToyasCard.lean, 'card_holds'). Laid BY PROGRAM, IN A SANDBOX (cutbox-door.mjs). By AI agents, Wed Nov 11 2026. No macro, syntax, notation, axiom, sorry.
-/
import Derived.Test.YtbhhpheailbebaaGreatDoorRows
import GoSem.ClaimSeven
namespace Go.Proofs.YtbhhpheailbebaaGreatDoor
namespace Rows

/-- THE TIED CARD OF 'millpondkeep.ScanFilters'. -/
def scanFiltersCard : Claim7 := { stood := { row := scanFiltersRow, standIns := [], harness := (true, "d1535c44654683306ee9a68282c41f94e183d7aefe38a336b42d46f4adf6426f"), looks := true }, kinds := [], alts := [], laidByText := true, laidKinds := [.data, .data, .data, .data, .handle, .sentinel, .sentinel, .data, .data, .pinned], laidTests := true, laidLooks := .later }
def ScanFiltersCardSaid : Prop := Claim7.holds Tryz.pinned (.plain (OpenSpec.ofChange scanFiltersSpec)) scanFiltersCard

/-- THE TIED CARD OF 'millpondkeep.TableRight'. -/
def tableRightCard : Claim7 := { stood := { row := tableRightRow, standIns := [], harness := (true, "d1535c44654683306ee9a68282c41f94e183d7aefe38a336b42d46f4adf6426f"), looks := true }, kinds := [], alts := [], laidByText := true, laidKinds := [.data, .data, .data, .data, .handle, .sentinel, .sentinel, .data, .data, .pinned], laidTests := true, laidLooks := .later }
def TableRightCardSaid : Prop := Claim7.holds Tryz.pinned (.plain (OpenSpec.ofChange tableRightSpec)) tableRightCard

/-- THE SECOND FORM's CARD OF 'millpondkeep.ScanFilters'. -/
def scanFiltersUptoCard : Claim7 := { stood := { row := scanFiltersUptoRow, standIns := [], harness := (true, "d1535c44654683306ee9a68282c41f94e183d7aefe38a336b42d46f4adf6426f"), looks := true }, kinds := [], alts := [], laidByText := true, laidKinds := [.data, .data, .data, .data, .handle, .sentinel, .sentinel, .data, .data, .pinned], laidTests := true, laidLooks := .later }
def ScanFiltersUptoCardSaid : Prop := Claim7.holds Tryz.pinned (.plain (OpenSpec.upto scanFiltersSpec)) scanFiltersUptoCard

/-- THE SECOND FORM's CARD OF 'millpondkeep.TableRight'. -/
def tableRightUptoCard : Claim7 := { stood := { row := tableRightUptoRow, standIns := [], harness := (true, "d1535c44654683306ee9a68282c41f94e183d7aefe38a336b42d46f4adf6426f"), looks := true }, kinds := [], alts := [], laidByText := true, laidKinds := [.data, .data, .data, .data, .handle, .sentinel, .sentinel, .data, .data, .pinned], laidTests := true, laidLooks := .later }
def TableRightUptoCardSaid : Prop := Claim7.holds Tryz.pinned (.plain (OpenSpec.upto tableRightSpec)) tableRightUptoCard
end Rows
end Go.Proofs.YtbhhpheailbebaaGreatDoor
