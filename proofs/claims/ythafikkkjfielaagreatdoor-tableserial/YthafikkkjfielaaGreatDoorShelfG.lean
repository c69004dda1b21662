import Derived.Shelf.SlicesQ.IndexFunc
import Derived.Shelf.SlicesE.IndexFunc
import Derived.Shelf.SlicesQ.Equal
import Derived.Shelf.SlicesE.Clone
import Derived.Shelf.SlicesE.Index
import Derived.Shelf.Spec.SlicesGrow
import Derived.Test.YthafikkkjfielaaGreatDoorProg
namespace Go.Proofs
open Tryz
open Tryz RowKit
set_option maxRecDepth 9999
theorem Kh {α:Type}{a:Option α}{x y:α}(h:a=some x)(e:x=y):a=some y:=h.trans (congrArg some e)
open Go.Shelf
def Tryz.layCon_ren:Go.Shelf.Ren:=⟨λ|8=>131|6=>142|n=>n,λ|22=>32|23=>69|25=>158|4=>4|3=>3|0=>0|n=>n,λ|n=>n⟩
theorem Tryz.layCon : Go.Proofs.SlLaysH0.n8 Tryz.prog Tryz.layCon_ren := by refine ⟨?_,⟨Tryz.f142.name, by decide, ?_⟩,⟨Tryz.f131.name, by decide, ?_⟩,?_,?_,?_,?_,?_,?_,?_,?_,?_,?_,?_,?_,?_,?_,?_,?_,?_,?_,?_,?_⟩<;>(intros;kernel_rfl)
theorem Tryz.layIdx : SlLaysH0.n6 Tryz.prog Tryz.layCon_ren := {Tryz.layCon with}
def Tryz.layConE_ren:Go.Shelf.Ren:=⟨λ|8=>86|6=>145|n=>n,λ|22=>54|23=>143|25=>173|4=>4|3=>3|0=>0|n=>n,λ|n=>n⟩
theorem Tryz.layConE : Go.Proofs.SlLaysH0.n8 Tryz.prog Tryz.layConE_ren := by refine ⟨?_,⟨Tryz.f145.name, by decide, ?_⟩,⟨Tryz.f86.name, by decide, ?_⟩,?_,?_,?_,?_,?_,?_,?_,?_,?_,?_,?_,?_,?_,?_,?_,?_,?_,?_,?_,?_⟩<;>(intros;kernel_rfl)
theorem Tryz.layIdxE : SlLaysH0.n6 Tryz.prog Tryz.layConE_ren := {Tryz.layConE with}
def Tryz.layAnyA_ren:Go.Shelf.Ren:=⟨λ|8=>163|6=>209|n=>n,λ|22=>51|23=>111|25=>181|4=>4|3=>3|0=>0|n=>n,λ|n=>n⟩
theorem Tryz.layAnyA : Go.Proofs.SlLaysH0.n8 Tryz.prog Tryz.layAnyA_ren := by refine ⟨?_,⟨Tryz.f209.name, by decide, ?_⟩,⟨Tryz.f163.name, by decide, ?_⟩,?_,?_,?_,?_,?_,?_,?_,?_,?_,?_,?_,?_,?_,?_,?_,?_,?_,?_,?_,?_⟩<;>(intros;kernel_rfl)
def Tryz.layAnyI_ren:Go.Shelf.Ren:=⟨λ|8=>193|6=>236|n=>n,λ|22=>23|23=>3|25=>224|4=>4|3=>3|0=>0|n=>n,λ|n=>n⟩
theorem Tryz.layAnyI : Go.Proofs.SlLaysH.n8 Tryz.prog Tryz.layAnyI_ren := by refine ⟨?_,⟨Tryz.f236.name, by decide, ?_⟩,⟨Tryz.f193.name, by decide, ?_⟩,?_,?_,?_,?_,?_,?_,?_,?_,?_,?_,?_,?_,?_,?_,?_,?_,?_,?_,?_,?_,?_,?_⟩<;>(intros;kernel_rfl)
def Tryz.layEqS_ren:Go.Shelf.Ren:=⟨λ|8=>230|n=>n,λ|22=>204|24=>261|4=>4|3=>3|0=>0|n=>n,λ|n=>n⟩
theorem Tryz.layEqS : Go.Proofs.SlLaysQ.n8 Tryz.prog Tryz.layEqS_ren := by refine ⟨?_,⟨Tryz.f230.name, by decide, ?_⟩,?_,?_,?_,?_,?_,?_,?_,?_,?_,?_,?_,?_,?_,?_,?_,?_⟩<;>(intros;kernel_rfl)
def Tryz.layClo_ren:Go.Shelf.Ren:=⟨λ|41=>71|n=>n,λ|22=>32|23=>69|4=>4|n=>n,λ|n=>n⟩
theorem Tryz.layClo : Go.Proofs.SlLaysE0.n41 Tryz.prog Tryz.layClo_ren := by refine ⟨?_,⟨Tryz.f71.name, by decide, ?_⟩,?_,?_,?_,?_,?_,?_,?_,?_⟩<;>(intros;kernel_rfl)
def Tryz.layCloneE_ren:Go.Shelf.Ren:=⟨λ|41=>154|n=>n,λ|22=>54|23=>143|4=>4|n=>n,λ|n=>n⟩
theorem Tryz.layCloneE : Go.Proofs.SlLaysE0.n41 Tryz.prog Tryz.layCloneE_ren := by refine ⟨?_,⟨Tryz.f154.name, by decide, ?_⟩,?_,?_,?_,?_,?_,?_,?_,?_⟩<;>(intros;kernel_rfl)
def Tryz.layCloneI_ren:Go.Shelf.Ren:=⟨λ|41=>17|n=>n,λ|22=>23|23=>3|4=>4|n=>n,λ|n=>n⟩
theorem Tryz.layCloneI : Go.Proofs.SlLaysE0.n41 Tryz.prog Tryz.layCloneI_ren := by refine ⟨?_,⟨Tryz.f17.name, by decide, ?_⟩,?_,?_,?_,?_,?_,?_,?_,?_⟩<;>(intros;kernel_rfl)
def Tryz.layHasI_ren:Go.Shelf.Ren:=⟨λ|31=>85|29=>144|n=>n,λ|22=>23|23=>3|4=>4|3=>3|0=>0|n=>n,λ|n=>n⟩
theorem Tryz.layHasI : Go.Proofs.SlLaysE.n31 Tryz.prog Tryz.layHasI_ren := by refine ⟨?_,⟨Tryz.f144.name, by decide, ?_⟩,⟨Tryz.f85.name, by decide, ?_⟩,?_,?_,?_,?_,?_,?_,?_,?_,?_,?_,?_,?_,?_,?_,?_,?_,?_,?_⟩<;>(intros;kernel_rfl)
def Tryz.layEqT_ren:Go.Shelf.Ren:=⟨λ|33=>231|n=>n,λ|22=>205|23=>9|4=>4|3=>3|0=>0|n=>n,λ|n=>n⟩
theorem Tryz.layEqT : Go.Proofs.SlLaysE.n33 Tryz.prog Tryz.layEqT_ren := by refine ⟨?_,⟨Tryz.f231.name, by decide, ?_⟩,?_,?_,?_,?_,?_,?_,?_,?_,?_,?_,?_,?_,?_,?_,?_,?_,?_,?_⟩<;>(intros;kernel_rfl)
def Tryz.layGro_ren:Go.Shelf.Ren:=⟨λ|4=>184|n=>n,λ|22=>32|25=>69|3=>3|4=>4|9=>9|20=>20|0=>0|n=>n,λ|n=>n⟩
theorem Tryz.layGro : Go.Proofs.Lays8.n4 Tryz.prog Tryz.layGro_ren := by refine ⟨?_,⟨Tryz.f184.name, by decide, ?_⟩,?_,?_,?_,?_,?_,?_,?_,?_,?_,?_,?_,?_,?_,?_,?_,?_,?_,?_,?_,?_,?_,?_,?_,?_⟩<;>(intros;kernel_rfl)
def Tryz.layGroA_ren:Go.Shelf.Ren:=⟨λ|4=>89|n=>n,λ|22=>51|25=>111|3=>3|4=>4|9=>9|20=>20|0=>0|n=>n,λ|n=>n⟩
theorem Tryz.layGroA : Go.Proofs.Lays8.n4 Tryz.prog Tryz.layGroA_ren := by refine ⟨?_,⟨Tryz.f89.name, by decide, ?_⟩,?_,?_,?_,?_,?_,?_,?_,?_,?_,?_,?_,?_,?_,?_,?_,?_,?_,?_,?_,?_,?_,?_,?_,?_⟩<;>(intros;kernel_rfl)
end Go.Proofs
