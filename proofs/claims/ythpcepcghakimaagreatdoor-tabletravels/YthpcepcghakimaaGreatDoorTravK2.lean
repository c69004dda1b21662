import Derived.Test.YthpcepcghakimaaGreatDoorTravK
set_option maxHeartbeats 40000000
set_option maxRecDepth 100000
namespace Go.Proofs.YthpcepcghakimaaGreatDoor
open _root_.Go.Proofs.Tryz 
namespace tableTravels
theorem closed:joinedFacts prog 3 f3 (OpenSpec.ofChange Rows.tableTravelsSpec).bare Rows.tableTravelsRow=true:=by
 unfold joinedFacts;rw[k10,k11,k12,k13]
 kernel_rfl
