/- QueryOrders's closed facts of the program, one by one. -/
import Derived.Test.YtlnkbhbpkmnkaaaGreatDoorCards
import Derived.JoinedCond
import Derived.KernelRfl
namespace Go.Proofs.YtlnkbhbpkmnkaaaGreatDoor.queryOrders
open Go

theorem k10 : (Rows.queryOrdersRow.inPlace == Tryz.prog.inPlace 4) = true := by kernel_rfl
theorem k11 : (Rows.queryOrdersRow.unfollowed == Tryz.prog.unfollowed 4) = true := by kernel_rfl
theorem k12 : (Rows.queryOrdersRow.recurses == Tryz.prog.recurses 4) = true := by kernel_rfl
theorem k13 : (Rows.queryOrdersRow.named == Tryz.prog.varsNamed 4) = true := by kernel_rfl
end Go.Proofs.YtlnkbhbpkmnkaaaGreatDoor.queryOrders
