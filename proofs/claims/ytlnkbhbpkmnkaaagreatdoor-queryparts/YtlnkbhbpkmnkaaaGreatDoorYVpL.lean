/- QueryParts's closed facts of the program, together. -/
import Derived.Test.YtlnkbhbpkmnkaaaGreatDoorYVpK
namespace Go.Proofs.YtlnkbhbpkmnkaaaGreatDoor.queryParts
open Go

theorem closed : joinedFacts Tryz.prog 3 Tryz.f3 (OpenSpec.ofChange Rows.queryPartsSpec).bare Rows.queryPartsRow = true := by
  unfold joinedFacts
  rw [k10, k11, k12, k13]
  kernel_rfl
end Go.Proofs.YtlnkbhbpkmnkaaaGreatDoor.queryParts
