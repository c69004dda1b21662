import Derived.Shelf.SlicesQ.IndexFunc
import Derived.Shelf.SlicesE.IndexFunc
import Derived.Shelf.SlicesQ.Equal
import Derived.Shelf.SlicesE.Clone
import Derived.Shelf.SlicesE.Index
import Derived.Shelf.Spec.SlicesGrow
import Derived.Test.YthlacpbkcmellaaGreatDoorProg
namespace Go.Proofs
open Tryz renaming underlying0→U0,isAgg0→G0,sizeOf0→S0,zeroValue0→V0,underlying3→U3,isAgg3→G3,sizeOf3→S3,zeroValue3→V3,underlying4→U4,isAgg4→G4,sizeOf4→S4,zeroValue4→V4,underlying40→U40,isAgg40→G40,sizeOf40→S40,zeroValue40→V40,underlying35→U35,isAgg35→G35,sizeOf35→S35,zeroValue35→V35,underlying29→U29,isAgg29→G29,sizeOf29→S29,zeroValue29→V29
open Tryz RowKit
set_option maxRecDepth 9999
theorem Kh {α:Type}{a:Option α}{x y:α}(h:a=some x)(e:x=y):a=some y:=h.trans (congrArg some e)
open Go.Shelf
def Tryz.layIdxE_ren:Go.Shelf.Ren:=⟨λ|6=>185|n=>n,λ|22=>40|23=>119|25=>217|3=>3|0=>0|4=>4|n=>n,λ|n=>n⟩
theorem Tryz.layIdxE : Go.Proofs.SlLaysH0.n6 Tryz.prog Tryz.layIdxE_ren := ⟨by kernel_rfl,⟨Tryz.f185.name, by decide, Kh func185 (by kernel_rfl)⟩,U0,G0,S0,V0,U3,G3,S3,V3,U4,G4,S4,V4,U40,G40,S40,V40,underlying217,isAgg217,sizeOf217,zeroValue217⟩
def Tryz.layIdx_ren:Go.Shelf.Ren:=⟨λ|6=>31|n=>n,λ|22=>35|23=>64|25=>97|3=>3|0=>0|4=>4|n=>n,λ|n=>n⟩
theorem Tryz.layIdx : Go.Proofs.SlLaysH0.n6 Tryz.prog Tryz.layIdx_ren := ⟨by kernel_rfl,⟨Tryz.f31.name, by decide, Kh func31 (by kernel_rfl)⟩,U0,G0,S0,V0,U3,G3,S3,V3,U4,G4,S4,V4,U35,G35,S35,V35,underlying97,isAgg97,sizeOf97,zeroValue97⟩
def Tryz.layCon_ren:Go.Shelf.Ren:=⟨λ|8=>175|6=>31|n=>n,λ|22=>35|23=>64|25=>97|4=>4|3=>3|0=>0|n=>n,λ|n=>n⟩
theorem Tryz.layCon : Go.Proofs.SlLaysH0.n8 Tryz.prog Tryz.layCon_ren := ⟨by kernel_rfl,⟨Tryz.f31.name, by decide, Kh func31 (by kernel_rfl)⟩,⟨Tryz.f175.name, by decide, Kh func175 (by kernel_rfl)⟩,U0,G0,S0,V0,U3,G3,S3,V3,U4,G4,S4,V4,U35,G35,S35,V35,underlying97,isAgg97,sizeOf97,zeroValue97⟩
def Tryz.layConE_ren:Go.Shelf.Ren:=⟨λ|8=>126|6=>185|n=>n,λ|22=>40|23=>119|25=>217|4=>4|3=>3|0=>0|n=>n,λ|n=>n⟩
theorem Tryz.layConE : Go.Proofs.SlLaysH0.n8 Tryz.prog Tryz.layConE_ren := ⟨by kernel_rfl,⟨Tryz.f185.name, by decide, Kh func185 (by kernel_rfl)⟩,⟨Tryz.f126.name, by decide, Kh func126 (by kernel_rfl)⟩,U0,G0,S0,V0,U3,G3,S3,V3,U4,G4,S4,V4,U40,G40,S40,V40,underlying217,isAgg217,sizeOf217,zeroValue217⟩
def Tryz.layAnyA_ren:Go.Shelf.Ren:=⟨λ|8=>193|6=>233|n=>n,λ|22=>76|23=>145|25=>225|4=>4|3=>3|0=>0|n=>n,λ|n=>n⟩
theorem Tryz.layAnyA : Go.Proofs.SlLaysH0.n8 Tryz.prog Tryz.layAnyA_ren := ⟨by kernel_rfl,⟨Tryz.f233.name, by decide, Kh func233 (by kernel_rfl)⟩,⟨Tryz.f193.name, by decide, Kh func193 (by kernel_rfl)⟩,U0,G0,S0,V0,U3,G3,S3,V3,U4,G4,S4,V4,underlying76,isAgg76,sizeOf76,zeroValue76,underlying225,isAgg225,sizeOf225,zeroValue225⟩
def Tryz.layAnyI_ren:Go.Shelf.Ren:=⟨λ|8=>229|6=>269|n=>n,λ|22=>29|23=>3|25=>202|4=>4|3=>3|0=>0|n=>n,λ|n=>n⟩
theorem Tryz.layAnyI : Go.Proofs.SlLaysH.n8 Tryz.prog Tryz.layAnyI_ren := ⟨by kernel_rfl,⟨Tryz.f269.name, by decide, Kh func269 (by kernel_rfl)⟩,⟨Tryz.f229.name, by decide, Kh func229 (by kernel_rfl)⟩,U0,G0,S0,V0,U3,G3,S3,V3,U4,G4,S4,V4,U29,G29,S29,V29,G3,S3,underlying202,isAgg202,sizeOf202,zeroValue202⟩
def Tryz.layEqS_ren:Go.Shelf.Ren:=⟨λ|8=>267|n=>n,λ|22=>179|24=>253|4=>4|3=>3|0=>0|n=>n,λ|n=>n⟩
theorem Tryz.layEqS : Go.Proofs.SlLaysQ.n8 Tryz.prog Tryz.layEqS_ren := ⟨by kernel_rfl,⟨Tryz.f267.name, by decide, Kh func267 (by kernel_rfl)⟩,U0,G0,S0,V0,U3,G3,S3,V3,U4,G4,S4,V4,underlying179,isAgg179,sizeOf179,zeroValue179⟩
def Tryz.layClo_ren:Go.Shelf.Ren:=⟨λ|41=>115|n=>n,λ|22=>35|23=>64|4=>4|n=>n,λ|n=>n⟩
theorem Tryz.layClo : Go.Proofs.SlLaysE0.n41 Tryz.prog Tryz.layClo_ren := ⟨by kernel_rfl,⟨Tryz.f115.name, by decide, Kh func115 (by kernel_rfl)⟩,U4,G4,S4,V4,U35,G35,S35,V35⟩
def Tryz.layCloneE_ren:Go.Shelf.Ren:=⟨λ|41=>151|n=>n,λ|22=>40|23=>119|4=>4|n=>n,λ|n=>n⟩
theorem Tryz.layCloneE : Go.Proofs.SlLaysE0.n41 Tryz.prog Tryz.layCloneE_ren := ⟨by kernel_rfl,⟨Tryz.f151.name, by decide, Kh func151 (by kernel_rfl)⟩,U4,G4,S4,V4,U40,G40,S40,V40⟩
def Tryz.layCloneI_ren:Go.Shelf.Ren:=⟨λ|41=>152|n=>n,λ|22=>29|23=>3|4=>4|n=>n,λ|n=>n⟩
theorem Tryz.layCloneI : Go.Proofs.SlLaysE0.n41 Tryz.prog Tryz.layCloneI_ren := ⟨by kernel_rfl,⟨Tryz.f152.name, by decide, Kh func152 (by kernel_rfl)⟩,U4,G4,S4,V4,U29,G29,S29,V29⟩
def Tryz.layHasI_ren:Go.Shelf.Ren:=⟨λ|31=>125|29=>184|n=>n,λ|22=>29|23=>3|4=>4|3=>3|0=>0|n=>n,λ|n=>n⟩
theorem Tryz.layHasI : Go.Proofs.SlLaysE.n31 Tryz.prog Tryz.layHasI_ren := ⟨by kernel_rfl,⟨Tryz.f184.name, by decide, Kh func184 (by kernel_rfl)⟩,⟨Tryz.f125.name, by decide, Kh func125 (by kernel_rfl)⟩,U0,G0,S0,V0,U3,G3,S3,V3,U4,G4,S4,V4,U29,G29,S29,V29,G3,S3⟩
def Tryz.layEqT_ren:Go.Shelf.Ren:=⟨λ|33=>268|n=>n,λ|22=>180|23=>9|4=>4|3=>3|0=>0|n=>n,λ|n=>n⟩
theorem Tryz.layEqT : Go.Proofs.SlLaysE.n33 Tryz.prog Tryz.layEqT_ren := ⟨by kernel_rfl,⟨Tryz.f268.name, by decide, Kh func268 (by kernel_rfl)⟩,U0,G0,S0,V0,U3,G3,S3,V3,U4,G4,S4,V4,underlying180,isAgg180,sizeOf180,zeroValue180,isAgg9,sizeOf9⟩
def Tryz.layGro_ren:Go.Shelf.Ren:=⟨λ|4=>222|n=>n,λ|22=>35|25=>64|3=>3|4=>4|9=>9|20=>20|0=>0|n=>n,λ|n=>n⟩
theorem Tryz.layGro : Go.Proofs.Lays8.n4 Tryz.prog Tryz.layGro_ren := ⟨by kernel_rfl,⟨Tryz.f222.name, by decide, Kh func222 (by kernel_rfl)⟩,U0,G0,S0,V0,U3,G3,S3,V3,U4,G4,S4,V4,underlying9,isAgg9,sizeOf9,zeroValue9,underlying20,isAgg20,sizeOf20,zeroValue20,U35,G35,S35,V35⟩
def Tryz.layGroA_ren:Go.Shelf.Ren:=⟨λ|4=>129|n=>n,λ|22=>76|25=>145|3=>3|4=>4|9=>9|20=>20|0=>0|n=>n,λ|n=>n⟩
theorem Tryz.layGroA : Go.Proofs.Lays8.n4 Tryz.prog Tryz.layGroA_ren := ⟨by kernel_rfl,⟨Tryz.f129.name, by decide, Kh func129 (by kernel_rfl)⟩,U0,G0,S0,V0,U3,G3,S3,V3,U4,G4,S4,V4,underlying9,isAgg9,sizeOf9,zeroValue9,underlying20,isAgg20,sizeOf20,zeroValue20,underlying76,isAgg76,sizeOf76,zeroValue76⟩
end Go.Proofs
