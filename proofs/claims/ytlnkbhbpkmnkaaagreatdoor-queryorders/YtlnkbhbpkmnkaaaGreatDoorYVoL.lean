/- QueryOrders's closed facts of the program, together. -/
import Derived.Test.YtlnkbhbpkmnkaaaGreatDoorYVoK
namespace Go.Proofs.YtlnkbhbpkmnkaaaGreatDoor.queryOrders
open Go

theorem closed : joinedFacts Tryz.prog 4 Tryz.f4 (OpenSpec.ofChange Rows.queryOrdersSpec).bare Rows.queryOrdersRow = true := by
  unfold joinedFacts
  rw [k10, k11, k12, k13]
  kernel_rfl
end Go.Proofs.YtlnkbhbpkmnkaaaGreatDoor.queryOrders
