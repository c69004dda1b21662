import Derived.Shelf.SlicesQ.IndexFunc
import Derived.Shelf.SlicesE.IndexFunc
import Derived.Shelf.SlicesQ.Equal
import Derived.Shelf.SlicesE.Clone
import Derived.Shelf.SlicesE.Index
import Derived.Shelf.Spec.SlicesGrow
import Derived.Test.YtcfgbbpgoailaaaGreatDoorProg
namespace Go.Proofs
open Tryz renaming underlying0→U0,isAgg0→G0,sizeOf0→S0,zeroValue0→V0,underlying3→U3,isAgg3→G3,sizeOf3→S3,zeroValue3→V3,underlying4→U4,isAgg4→G4,sizeOf4→S4,zeroValue4→V4,underlying42→U42,isAgg42→G42,sizeOf42→S42,zeroValue42→V42,underlying33→U33,isAgg33→G33,sizeOf33→S33,zeroValue33→V33,underlying27→U27,isAgg27→G27,sizeOf27→S27,zeroValue27→V27
open Tryz RowKit
set_option maxRecDepth 9999
theorem Kh {α:Type}{a:Option α}{x y:α}(h:a=some x)(e:x=y):a=some y:=h.trans (congrArg some e)
open Go.Shelf
def Tryz.layIdxE_ren:Go.Shelf.Ren:=⟨λ|6=>152|n=>n,λ|22=>42|23=>51|25=>208|3=>3|0=>0|4=>4|n=>n,λ|n=>n⟩
theorem Tryz.layIdxE : Go.Proofs.SlLaysH0.n6 Tryz.prog Tryz.layIdxE_ren := ⟨by kernel_rfl,⟨Tryz.f152.name, by decide, Kh func152 (by kernel_rfl)⟩,U0,G0,S0,V0,U3,G3,S3,V3,U4,G4,S4,V4,U42,G42,S42,V42,underlying208,isAgg208,sizeOf208,zeroValue208⟩
def Tryz.layIdx_ren:Go.Shelf.Ren:=⟨λ|6=>149|n=>n,λ|22=>33|23=>60|25=>194|3=>3|0=>0|4=>4|n=>n,λ|n=>n⟩
theorem Tryz.layIdx : Go.Proofs.SlLaysH0.n6 Tryz.prog Tryz.layIdx_ren := ⟨by kernel_rfl,⟨Tryz.f149.name, by decide, Kh func149 (by kernel_rfl)⟩,U0,G0,S0,V0,U3,G3,S3,V3,U4,G4,S4,V4,U33,G33,S33,V33,underlying194,isAgg194,sizeOf194,zeroValue194⟩
def Tryz.layCon_ren:Go.Shelf.Ren:=⟨λ|8=>140|6=>149|n=>n,λ|22=>33|23=>60|25=>194|4=>4|3=>3|0=>0|n=>n,λ|n=>n⟩
theorem Tryz.layCon : Go.Proofs.SlLaysH0.n8 Tryz.prog Tryz.layCon_ren := ⟨by kernel_rfl,⟨Tryz.f149.name, by decide, Kh func149 (by kernel_rfl)⟩,⟨Tryz.f140.name, by decide, Kh func140 (by kernel_rfl)⟩,U0,G0,S0,V0,U3,G3,S3,V3,U4,G4,S4,V4,U33,G33,S33,V33,underlying194,isAgg194,sizeOf194,zeroValue194⟩
def Tryz.layConE_ren:Go.Shelf.Ren:=⟨λ|8=>94|6=>152|n=>n,λ|22=>42|23=>51|25=>208|4=>4|3=>3|0=>0|n=>n,λ|n=>n⟩
theorem Tryz.layConE : Go.Proofs.SlLaysH0.n8 Tryz.prog Tryz.layConE_ren := ⟨by kernel_rfl,⟨Tryz.f152.name, by decide, Kh func152 (by kernel_rfl)⟩,⟨Tryz.f94.name, by decide, Kh func94 (by kernel_rfl)⟩,U0,G0,S0,V0,U3,G3,S3,V3,U4,G4,S4,V4,U42,G42,S42,V42,underlying208,isAgg208,sizeOf208,zeroValue208⟩
def Tryz.layAnyA_ren:Go.Shelf.Ren:=⟨λ|8=>160|6=>199|n=>n,λ|22=>78|23=>131|25=>216|4=>4|3=>3|0=>0|n=>n,λ|n=>n⟩
theorem Tryz.layAnyA : Go.Proofs.SlLaysH0.n8 Tryz.prog Tryz.layAnyA_ren := ⟨by kernel_rfl,⟨Tryz.f199.name, by decide, Kh func199 (by kernel_rfl)⟩,⟨Tryz.f160.name, by decide, Kh func160 (by kernel_rfl)⟩,U0,G0,S0,V0,U3,G3,S3,V3,U4,G4,S4,V4,underlying78,isAgg78,sizeOf78,zeroValue78,underlying216,isAgg216,sizeOf216,zeroValue216⟩
def Tryz.layAnyI_ren:Go.Shelf.Ren:=⟨λ|8=>195|6=>239|n=>n,λ|22=>27|23=>3|25=>306|4=>4|3=>3|0=>0|n=>n,λ|n=>n⟩
theorem Tryz.layAnyI : Go.Proofs.SlLaysH.n8 Tryz.prog Tryz.layAnyI_ren := ⟨by kernel_rfl,⟨Tryz.f239.name, by decide, Kh func239 (by kernel_rfl)⟩,⟨Tryz.f195.name, by decide, Kh func195 (by kernel_rfl)⟩,U0,G0,S0,V0,U3,G3,S3,V3,U4,G4,S4,V4,U27,G27,S27,V27,G3,S3,underlying306,isAgg306,sizeOf306,zeroValue306⟩
def Tryz.layEqS_ren:Go.Shelf.Ren:=⟨λ|8=>237|n=>n,λ|22=>157|24=>231|4=>4|3=>3|0=>0|n=>n,λ|n=>n⟩
theorem Tryz.layEqS : Go.Proofs.SlLaysQ.n8 Tryz.prog Tryz.layEqS_ren := ⟨by kernel_rfl,⟨Tryz.f237.name, by decide, Kh func237 (by kernel_rfl)⟩,U0,G0,S0,V0,U3,G3,S3,V3,U4,G4,S4,V4,underlying157,isAgg157,sizeOf157,zeroValue157⟩
def Tryz.layClo_ren:Go.Shelf.Ren:=⟨λ|41=>81|n=>n,λ|22=>33|23=>60|4=>4|n=>n,λ|n=>n⟩
theorem Tryz.layClo : Go.Proofs.SlLaysE0.n41 Tryz.prog Tryz.layClo_ren := ⟨by kernel_rfl,⟨Tryz.f81.name, by decide, Kh func81 (by kernel_rfl)⟩,U4,G4,S4,V4,U33,G33,S33,V33⟩
def Tryz.layCloneE_ren:Go.Shelf.Ren:=⟨λ|41=>132|n=>n,λ|22=>42|23=>51|4=>4|n=>n,λ|n=>n⟩
theorem Tryz.layCloneE : Go.Proofs.SlLaysE0.n41 Tryz.prog Tryz.layCloneE_ren := ⟨by kernel_rfl,⟨Tryz.f132.name, by decide, Kh func132 (by kernel_rfl)⟩,U4,G4,S4,V4,U42,G42,S42,V42⟩
def Tryz.layCloneI_ren:Go.Shelf.Ren:=⟨λ|41=>133|n=>n,λ|22=>27|23=>3|4=>4|n=>n,λ|n=>n⟩
theorem Tryz.layCloneI : Go.Proofs.SlLaysE0.n41 Tryz.prog Tryz.layCloneI_ren := ⟨by kernel_rfl,⟨Tryz.f133.name, by decide, Kh func133 (by kernel_rfl)⟩,U4,G4,S4,V4,U27,G27,S27,V27⟩
def Tryz.layHasI_ren:Go.Shelf.Ren:=⟨λ|31=>93|29=>151|n=>n,λ|22=>27|23=>3|4=>4|3=>3|0=>0|n=>n,λ|n=>n⟩
theorem Tryz.layHasI : Go.Proofs.SlLaysE.n31 Tryz.prog Tryz.layHasI_ren := ⟨by kernel_rfl,⟨Tryz.f151.name, by decide, Kh func151 (by kernel_rfl)⟩,⟨Tryz.f93.name, by decide, Kh func93 (by kernel_rfl)⟩,U0,G0,S0,V0,U3,G3,S3,V3,U4,G4,S4,V4,U27,G27,S27,V27,G3,S3⟩
def Tryz.layEqT_ren:Go.Shelf.Ren:=⟨λ|33=>238|n=>n,λ|22=>158|23=>9|4=>4|3=>3|0=>0|n=>n,λ|n=>n⟩
theorem Tryz.layEqT : Go.Proofs.SlLaysE.n33 Tryz.prog Tryz.layEqT_ren := ⟨by kernel_rfl,⟨Tryz.f238.name, by decide, Kh func238 (by kernel_rfl)⟩,U0,G0,S0,V0,U3,G3,S3,V3,U4,G4,S4,V4,underlying158,isAgg158,sizeOf158,zeroValue158,isAgg9,sizeOf9⟩
def Tryz.layGro_ren:Go.Shelf.Ren:=⟨λ|4=>189|n=>n,λ|22=>33|25=>60|3=>3|4=>4|9=>9|20=>20|0=>0|n=>n,λ|n=>n⟩
theorem Tryz.layGro : Go.Proofs.Lays8.n4 Tryz.prog Tryz.layGro_ren := ⟨by kernel_rfl,⟨Tryz.f189.name, by decide, Kh func189 (by kernel_rfl)⟩,U0,G0,S0,V0,U3,G3,S3,V3,U4,G4,S4,V4,underlying9,isAgg9,sizeOf9,zeroValue9,underlying20,isAgg20,sizeOf20,zeroValue20,U33,G33,S33,V33⟩
def Tryz.layGroA_ren:Go.Shelf.Ren:=⟨λ|4=>97|n=>n,λ|22=>78|25=>131|3=>3|4=>4|9=>9|20=>20|0=>0|n=>n,λ|n=>n⟩
theorem Tryz.layGroA : Go.Proofs.Lays8.n4 Tryz.prog Tryz.layGroA_ren := ⟨by kernel_rfl,⟨Tryz.f97.name, by decide, Kh func97 (by kernel_rfl)⟩,U0,G0,S0,V0,U3,G3,S3,V3,U4,G4,S4,V4,underlying9,isAgg9,sizeOf9,zeroValue9,underlying20,isAgg20,sizeOf20,zeroValue20,underlying78,isAgg78,sizeOf78,zeroValue78⟩
end Go.Proofs
