/- QueryParts's closed facts of the program, one by one. -/
import Derived.Test.YtlnkbhbpkmnkaaaGreatDoorCards
import Derived.JoinedCond
import Derived.KernelRfl
namespace Go.Proofs.YtlnkbhbpkmnkaaaGreatDoor.queryParts
open Go

theorem k10 : (Rows.queryPartsRow.inPlace == Tryz.prog.inPlace 3) = true := by kernel_rfl
theorem k11 : (Rows.queryPartsRow.unfollowed == Tryz.prog.unfollowed 3) = true := by kernel_rfl
theorem k12 : (Rows.queryPartsRow.recurses == Tryz.prog.recurses 3) = true := by kernel_rfl
theorem k13 : (Rows.queryPartsRow.named == Tryz.prog.varsNamed 3) = true := by kernel_rfl
end Go.Proofs.YtlnkbhbpkmnkaaaGreatDoor.queryParts
