/-
  DERIVED. GIVEN WITH THE SEED: THE CARDS: each row of YtjghcilcmmlobaaDoorRows.lean that lists a variable, with what it lists TIED to the program's text (the seventh form; the later family's looks); each row that meets fmt, with fmt's text TOLD by the authors' own Lean function (tested against real Go, not proved from fmt's source: count such statements apart). THE CARD IS WHAT COUNTS. Prove the row's statement (the work); the ties are given (YtjghcilcmmlobaaDoorTie.lean); close each card by the builder's one call (the guide's Derived/Test/ToyasCard.lean, 'card_holds'). Laid BY PROGRAM, IN A SANDBOX (cutbox-door.mjs). By AI agents, Wed Nov 11 2026. No macro, syntax, notation, axiom, sorry.
-/
import Derived.Test.YtjghcilcmmlobaaDoorRows
import GoSem.ClaimSeven
namespace Go.Proofs.YtjghcilcmmlobaaDoor
namespace Rows

/-- THE TIED CARD OF 'millpondkeep.ValueOrder'. -/
def valueOrderCard : Claim7 := { stood := { row := valueOrderRow, standIns := [], harness := (true, "ec3c624043665532b8a23d2ceb4e7c43acfb32002b7c1547efd67d839ff3b9c7"), looks := true }, kinds := [], alts := [], laidByText := true, laidKinds := [.data, .data, .data], laidTests := true, laidLooks := .later }
def ValueOrderCardSaid : Prop := Claim7.holds Tryd.pinned (.plain (OpenSpec.ofChange valueOrderSpec)) valueOrderCard

/-- THE TIED CARD OF 'millpondkeep.ValueLogic'. -/
def valueLogicCard : Claim7 := { stood := { row := valueLogicRow, standIns := [], harness := (true, "ec3c624043665532b8a23d2ceb4e7c43acfb32002b7c1547efd67d839ff3b9c7"), looks := true }, kinds := [], alts := [], laidByText := true, laidKinds := [.data, .data, .data], laidTests := true, laidLooks := .later }
def ValueLogicCardSaid : Prop := Claim7.holds Tryd.pinned (.plain (OpenSpec.ofChange valueLogicSpec)) valueLogicCard

/-- THE TIED CARD OF 'millpondkeep.StatsSound'. -/
def statsSoundCard : Claim7 := { stood := { row := statsSoundRow, standIns := [], harness := (true, "ec3c624043665532b8a23d2ceb4e7c43acfb32002b7c1547efd67d839ff3b9c7"), looks := true }, kinds := [], alts := [], laidByText := true, laidKinds := [.data], laidTests := true, laidLooks := .later }
def StatsSoundCardSaid : Prop := Claim7.holds Tryd.pinned (.plain (OpenSpec.ofChange statsSoundSpec)) statsSoundCard

/-- THE TIED CARD OF 'millpondkeep.SchemaNumbers'. -/
def schemaNumbersCard : Claim7 := { stood := { row := schemaNumbersRow, standIns := [], harness := (true, "ec3c624043665532b8a23d2ceb4e7c43acfb32002b7c1547efd67d839ff3b9c7"), looks := true }, kinds := [], alts := [], laidByText := true, laidKinds := [.handle, .data], laidTests := true, laidLooks := .later }
def SchemaNumbersCardSaid : Prop := Claim7.holds Tryd.pinned (.plain (OpenSpec.ofChange schemaNumbersSpec)) schemaNumbersCard

/-- THE SECOND FORM's CARD OF 'millpondkeep.ValueOrder'. -/
def valueOrderUptoCard : Claim7 := { stood := { row := valueOrderUptoRow, standIns := [], harness := (true, "ec3c624043665532b8a23d2ceb4e7c43acfb32002b7c1547efd67d839ff3b9c7"), looks := true }, kinds := [], alts := [], laidByText := true, laidKinds := [.data, .data, .data], laidTests := true, laidLooks := .later }
def ValueOrderUptoCardSaid : Prop := Claim7.holds Tryd.pinned (.plain (OpenSpec.upto valueOrderSpec)) valueOrderUptoCard

/-- THE SECOND FORM's CARD OF 'millpondkeep.ValueLogic'. -/
def valueLogicUptoCard : Claim7 := { stood := { row := valueLogicUptoRow, standIns := [], harness := (true, "ec3c624043665532b8a23d2ceb4e7c43acfb32002b7c1547efd67d839ff3b9c7"), looks := true }, kinds := [], alts := [], laidByText := true, laidKinds := [.data, .data, .data], laidTests := true, laidLooks := .later }
def ValueLogicUptoCardSaid : Prop := Claim7.holds Tryd.pinned (.plain (OpenSpec.upto valueLogicSpec)) valueLogicUptoCard

/-- THE SECOND FORM's CARD OF 'millpondkeep.StatsSound'. -/
def statsSoundUptoCard : Claim7 := { stood := { row := statsSoundUptoRow, standIns := [], harness := (true, "ec3c624043665532b8a23d2ceb4e7c43acfb32002b7c1547efd67d839ff3b9c7"), looks := true }, kinds := [], alts := [], laidByText := true, laidKinds := [.data], laidTests := true, laidLooks := .later }
def StatsSoundUptoCardSaid : Prop := Claim7.holds Tryd.pinned (.plain (OpenSpec.upto statsSoundSpec)) statsSoundUptoCard

/-- THE SECOND FORM's CARD OF 'millpondkeep.SchemaNumbers'. -/
def schemaNumbersUptoCard : Claim7 := { stood := { row := schemaNumbersUptoRow, standIns := [], harness := (true, "ec3c624043665532b8a23d2ceb4e7c43acfb32002b7c1547efd67d839ff3b9c7"), looks := true }, kinds := [], alts := [], laidByText := true, laidKinds := [.handle, .data], laidTests := true, laidLooks := .later }
def SchemaNumbersUptoCardSaid : Prop := Claim7.holds Tryd.pinned (.plain (OpenSpec.upto schemaNumbersSpec)) schemaNumbersUptoCard
end Rows
end Go.Proofs.YtjghcilcmmlobaaDoor
