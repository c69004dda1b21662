import Derived.Shelf.SlicesQ.IndexFunc
import Derived.Shelf.SlicesE.IndexFunc
import Derived.Shelf.SlicesQ.Equal
import Derived.Shelf.SlicesE.Clone
import Derived.Shelf.SlicesE.Index
import Derived.Shelf.Spec.SlicesGrow
import Derived.Test.YtneakjbkbmfleaaGreatDoorProg
namespace Go.Proofs
open Tryz renaming underlying0→U0,isAgg0→G0,sizeOf0→S0,zeroValue0→V0,underlying3→U3,isAgg3→G3,sizeOf3→S3,zeroValue3→V3,underlying4→U4,isAgg4→G4,sizeOf4→S4,zeroValue4→V4,underlying40→U40,isAgg40→G40,sizeOf40→S40,zeroValue40→V40,underlying34→U34,isAgg34→G34,sizeOf34→S34,zeroValue34→V34,underlying28→U28,isAgg28→G28,sizeOf28→S28,zeroValue28→V28
open Tryz RowKit
set_option maxRecDepth 9999
theorem Kh {α:Type}{a:Option α}{x y:α}(h:a=some x)(e:x=y):a=some y:=h.trans (congrArg some e)
open Go.Shelf
def Tryz.layIdxE_ren:Go.Shelf.Ren:=⟨λ|6=>169|n=>n,λ|22=>40|23=>116|25=>204|3=>3|0=>0|4=>4|n=>n,λ|n=>n⟩
theorem Tryz.layIdxE : Go.Proofs.SlLaysH0.n6 Tryz.prog Tryz.layIdxE_ren := ⟨by kernel_rfl,⟨Tryz.f169.name, by decide, Kh func169 (by kernel_rfl)⟩,U0,G0,S0,V0,U3,G3,S3,V3,U4,G4,S4,V4,U40,G40,S40,V40,underlying204,isAgg204,sizeOf204,zeroValue204⟩
def Tryz.layIdx_ren:Go.Shelf.Ren:=⟨λ|6=>33|n=>n,λ|22=>34|23=>72|25=>102|3=>3|0=>0|4=>4|n=>n,λ|n=>n⟩
theorem Tryz.layIdx : Go.Proofs.SlLaysH0.n6 Tryz.prog Tryz.layIdx_ren := ⟨by kernel_rfl,⟨Tryz.f33.name, by decide, Kh func33 (by kernel_rfl)⟩,U0,G0,S0,V0,U3,G3,S3,V3,U4,G4,S4,V4,U34,G34,S34,V34,underlying102,isAgg102,sizeOf102,zeroValue102⟩
def Tryz.layCon_ren:Go.Shelf.Ren:=⟨λ|8=>159|6=>33|n=>n,λ|22=>34|23=>72|25=>102|4=>4|3=>3|0=>0|n=>n,λ|n=>n⟩
theorem Tryz.layCon : Go.Proofs.SlLaysH0.n8 Tryz.prog Tryz.layCon_ren := ⟨by kernel_rfl,⟨Tryz.f33.name, by decide, Kh func33 (by kernel_rfl)⟩,⟨Tryz.f159.name, by decide, Kh func159 (by kernel_rfl)⟩,U0,G0,S0,V0,U3,G3,S3,V3,U4,G4,S4,V4,U34,G34,S34,V34,underlying102,isAgg102,sizeOf102,zeroValue102⟩
def Tryz.layConE_ren:Go.Shelf.Ren:=⟨λ|8=>110|6=>169|n=>n,λ|22=>40|23=>116|25=>204|4=>4|3=>3|0=>0|n=>n,λ|n=>n⟩
theorem Tryz.layConE : Go.Proofs.SlLaysH0.n8 Tryz.prog Tryz.layConE_ren := ⟨by kernel_rfl,⟨Tryz.f169.name, by decide, Kh func169 (by kernel_rfl)⟩,⟨Tryz.f110.name, by decide, Kh func110 (by kernel_rfl)⟩,U0,G0,S0,V0,U3,G3,S3,V3,U4,G4,S4,V4,U40,G40,S40,V40,underlying204,isAgg204,sizeOf204,zeroValue204⟩
def Tryz.layAnyA_ren:Go.Shelf.Ren:=⟨λ|8=>150|6=>200|n=>n,λ|22=>61|23=>129|25=>184|4=>4|3=>3|0=>0|n=>n,λ|n=>n⟩
theorem Tryz.layAnyA : Go.Proofs.SlLaysH0.n8 Tryz.prog Tryz.layAnyA_ren := ⟨by kernel_rfl,⟨Tryz.f200.name, by decide, Kh func200 (by kernel_rfl)⟩,⟨Tryz.f150.name, by decide, Kh func150 (by kernel_rfl)⟩,U0,G0,S0,V0,U3,G3,S3,V3,U4,G4,S4,V4,underlying61,isAgg61,sizeOf61,zeroValue61,underlying184,isAgg184,sizeOf184,zeroValue184⟩
def Tryz.layAnyI_ren:Go.Shelf.Ren:=⟨λ|8=>196|6=>236|n=>n,λ|22=>28|23=>3|25=>283|4=>4|3=>3|0=>0|n=>n,λ|n=>n⟩
theorem Tryz.layAnyI : Go.Proofs.SlLaysH.n8 Tryz.prog Tryz.layAnyI_ren := ⟨by kernel_rfl,⟨Tryz.f236.name, by decide, Kh func236 (by kernel_rfl)⟩,⟨Tryz.f196.name, by decide, Kh func196 (by kernel_rfl)⟩,U0,G0,S0,V0,U3,G3,S3,V3,U4,G4,S4,V4,U28,G28,S28,V28,G3,S3,underlying283,isAgg283,sizeOf283,zeroValue283⟩
def Tryz.layEqS_ren:Go.Shelf.Ren:=⟨λ|8=>246|n=>n,λ|22=>169|24=>229|4=>4|3=>3|0=>0|n=>n,λ|n=>n⟩
theorem Tryz.layEqS : Go.Proofs.SlLaysQ.n8 Tryz.prog Tryz.layEqS_ren := ⟨by kernel_rfl,⟨Tryz.f246.name, by decide, Kh func246 (by kernel_rfl)⟩,U0,G0,S0,V0,U3,G3,S3,V3,U4,G4,S4,V4,underlying169,isAgg169,sizeOf169,zeroValue169⟩
def Tryz.layClo_ren:Go.Shelf.Ren:=⟨λ|41=>100|n=>n,λ|22=>34|23=>72|4=>4|n=>n,λ|n=>n⟩
theorem Tryz.layClo : Go.Proofs.SlLaysE0.n41 Tryz.prog Tryz.layClo_ren := ⟨by kernel_rfl,⟨Tryz.f100.name, by decide, Kh func100 (by kernel_rfl)⟩,U4,G4,S4,V4,U34,G34,S34,V34⟩
def Tryz.layCloneE_ren:Go.Shelf.Ren:=⟨λ|41=>126|n=>n,λ|22=>40|23=>116|4=>4|n=>n,λ|n=>n⟩
theorem Tryz.layCloneE : Go.Proofs.SlLaysE0.n41 Tryz.prog Tryz.layCloneE_ren := ⟨by kernel_rfl,⟨Tryz.f126.name, by decide, Kh func126 (by kernel_rfl)⟩,U4,G4,S4,V4,U40,G40,S40,V40⟩
def Tryz.layCloneI_ren:Go.Shelf.Ren:=⟨λ|41=>127|n=>n,λ|22=>28|23=>3|4=>4|n=>n,λ|n=>n⟩
theorem Tryz.layCloneI : Go.Proofs.SlLaysE0.n41 Tryz.prog Tryz.layCloneI_ren := ⟨by kernel_rfl,⟨Tryz.f127.name, by decide, Kh func127 (by kernel_rfl)⟩,U4,G4,S4,V4,U28,G28,S28,V28⟩
def Tryz.layHasI_ren:Go.Shelf.Ren:=⟨λ|31=>109|29=>168|n=>n,λ|22=>28|23=>3|4=>4|3=>3|0=>0|n=>n,λ|n=>n⟩
theorem Tryz.layHasI : Go.Proofs.SlLaysE.n31 Tryz.prog Tryz.layHasI_ren := ⟨by kernel_rfl,⟨Tryz.f168.name, by decide, Kh func168 (by kernel_rfl)⟩,⟨Tryz.f109.name, by decide, Kh func109 (by kernel_rfl)⟩,U0,G0,S0,V0,U3,G3,S3,V3,U4,G4,S4,V4,U28,G28,S28,V28,G3,S3⟩
def Tryz.layEqT_ren:Go.Shelf.Ren:=⟨λ|33=>247|n=>n,λ|22=>170|23=>9|4=>4|3=>3|0=>0|n=>n,λ|n=>n⟩
theorem Tryz.layEqT : Go.Proofs.SlLaysE.n33 Tryz.prog Tryz.layEqT_ren := ⟨by kernel_rfl,⟨Tryz.f247.name, by decide, Kh func247 (by kernel_rfl)⟩,U0,G0,S0,V0,U3,G3,S3,V3,U4,G4,S4,V4,underlying170,isAgg170,sizeOf170,zeroValue170,isAgg9,sizeOf9⟩
def Tryz.layGro_ren:Go.Shelf.Ren:=⟨λ|4=>204|n=>n,λ|22=>34|25=>72|3=>3|4=>4|9=>9|20=>20|0=>0|n=>n,λ|n=>n⟩
theorem Tryz.layGro : Go.Proofs.Lays8.n4 Tryz.prog Tryz.layGro_ren := ⟨by kernel_rfl,⟨Tryz.f204.name, by decide, Kh func204 (by kernel_rfl)⟩,U0,G0,S0,V0,U3,G3,S3,V3,U4,G4,S4,V4,underlying9,isAgg9,sizeOf9,zeroValue9,underlying20,isAgg20,sizeOf20,zeroValue20,U34,G34,S34,V34⟩
def Tryz.layGroA_ren:Go.Shelf.Ren:=⟨λ|4=>113|n=>n,λ|22=>61|25=>129|3=>3|4=>4|9=>9|20=>20|0=>0|n=>n,λ|n=>n⟩
theorem Tryz.layGroA : Go.Proofs.Lays8.n4 Tryz.prog Tryz.layGroA_ren := ⟨by kernel_rfl,⟨Tryz.f113.name, by decide, Kh func113 (by kernel_rfl)⟩,U0,G0,S0,V0,U3,G3,S3,V3,U4,G4,S4,V4,underlying9,isAgg9,sizeOf9,zeroValue9,underlying20,isAgg20,sizeOf20,zeroValue20,underlying61,isAgg61,sizeOf61,zeroValue61⟩
end Go.Proofs
