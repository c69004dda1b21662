import Derived.Test.YtbhhpheailbebaaGreatDoorCards
import Derived.JoinedCond
import Derived.Test.YtbhhpheailbebaaGreatDoorAb
set_option maxHeartbeats 40000000
set_option maxRecDepth 100000
namespace Go.Proofs.YtbhhpheailbebaaGreatDoor
open _root_.Go.Proofs.Tryz 
namespace tableRight
theorem k10:(Rows.tableRightRow.inPlace==prog.inPlace 4)=true:=by kernel_rfl
theorem k11:(Rows.tableRightRow.unfollowed==prog.unfollowed 4)=true:=by kernel_rfl
theorem k12:(Rows.tableRightRow.recurses==prog.recurses 4)=true:=by kernel_rfl
theorem k13:(Rows.tableRightRow.named==prog.varsNamed 4)=true:=by kernel_rfl
theorem closed:joinedFacts prog 4 f4 (OpenSpec.ofChange Rows.tableRightSpec).bare Rows.tableRightRow=true:=by
 unfold joinedFacts;rw[k10,k11,k12,k13]
 kernel_rfl
