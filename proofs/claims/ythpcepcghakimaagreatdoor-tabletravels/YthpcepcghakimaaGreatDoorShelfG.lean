import Derived.Shelf.SlicesQ.IndexFunc
import Derived.Shelf.SlicesE.IndexFunc
import Derived.Shelf.SlicesQ.Equal
import Derived.Shelf.SlicesE.Clone
import Derived.Shelf.SlicesE.Index
import Derived.Shelf.Spec.SlicesGrow
import Derived.Test.YthpcepcghakimaaGreatDoorProg
namespace Go.Proofs
open Tryz renaming underlying0→U0,isAgg0→G0,sizeOf0→S0,zeroValue0→V0,underlying3→U3,isAgg3→G3,sizeOf3→S3,zeroValue3→V3,underlying4→U4,isAgg4→G4,sizeOf4→S4,zeroValue4→V4,underlying69→U69,isAgg69→G69,sizeOf69→S69,zeroValue69→V69,underlying34→U34,isAgg34→G34,sizeOf34→S34,zeroValue34→V34,underlying27→U27,isAgg27→G27,sizeOf27→S27,zeroValue27→V27
open Tryz RowKit
set_option maxRecDepth 9999
theorem Kh {α:Type}{a:Option α}{x y:α}(h:a=some x)(e:x=y):a=some y:=h.trans (congrArg some e)
open Go.Shelf
def Tryz.layIdxE_ren:Go.Shelf.Ren:=⟨λ|6=>181|n=>n,λ|22=>69|23=>122|25=>212|3=>3|0=>0|4=>4|n=>n,λ|n=>n⟩
theorem Tryz.layIdxE : Go.Proofs.SlLaysH0.n6 Tryz.prog Tryz.layIdxE_ren := ⟨by kernel_rfl,⟨Tryz.f181.name, by decide, Kh func181 (by kernel_rfl)⟩,U0,G0,S0,V0,U3,G3,S3,V3,U4,G4,S4,V4,U69,G69,S69,V69,underlying212,isAgg212,sizeOf212,zeroValue212⟩
def Tryz.layIdx_ren:Go.Shelf.Ren:=⟨λ|6=>178|n=>n,λ|22=>34|23=>59|25=>198|3=>3|0=>0|4=>4|n=>n,λ|n=>n⟩
theorem Tryz.layIdx : Go.Proofs.SlLaysH0.n6 Tryz.prog Tryz.layIdx_ren := ⟨by kernel_rfl,⟨Tryz.f178.name, by decide, Kh func178 (by kernel_rfl)⟩,U0,G0,S0,V0,U3,G3,S3,V3,U4,G4,S4,V4,U34,G34,S34,V34,underlying198,isAgg198,sizeOf198,zeroValue198⟩
def Tryz.layCon_ren:Go.Shelf.Ren:=⟨λ|8=>168|6=>178|n=>n,λ|22=>34|23=>59|25=>198|4=>4|3=>3|0=>0|n=>n,λ|n=>n⟩
theorem Tryz.layCon : Go.Proofs.SlLaysH0.n8 Tryz.prog Tryz.layCon_ren := ⟨by kernel_rfl,⟨Tryz.f178.name, by decide, Kh func178 (by kernel_rfl)⟩,⟨Tryz.f168.name, by decide, Kh func168 (by kernel_rfl)⟩,U0,G0,S0,V0,U3,G3,S3,V3,U4,G4,S4,V4,U34,G34,S34,V34,underlying198,isAgg198,sizeOf198,zeroValue198⟩
def Tryz.layConE_ren:Go.Shelf.Ren:=⟨λ|8=>117|6=>181|n=>n,λ|22=>69|23=>122|25=>212|4=>4|3=>3|0=>0|n=>n,λ|n=>n⟩
theorem Tryz.layConE : Go.Proofs.SlLaysH0.n8 Tryz.prog Tryz.layConE_ren := ⟨by kernel_rfl,⟨Tryz.f181.name, by decide, Kh func181 (by kernel_rfl)⟩,⟨Tryz.f117.name, by decide, Kh func117 (by kernel_rfl)⟩,U0,G0,S0,V0,U3,G3,S3,V3,U4,G4,S4,V4,U69,G69,S69,V69,underlying212,isAgg212,sizeOf212,zeroValue212⟩
def Tryz.layAnyA_ren:Go.Shelf.Ren:=⟨λ|8=>189|6=>229|n=>n,λ|22=>108|23=>144|25=>220|4=>4|3=>3|0=>0|n=>n,λ|n=>n⟩
theorem Tryz.layAnyA : Go.Proofs.SlLaysH0.n8 Tryz.prog Tryz.layAnyA_ren := ⟨by kernel_rfl,⟨Tryz.f229.name, by decide, Kh func229 (by kernel_rfl)⟩,⟨Tryz.f189.name, by decide, Kh func189 (by kernel_rfl)⟩,U0,G0,S0,V0,U3,G3,S3,V3,U4,G4,S4,V4,underlying108,isAgg108,sizeOf108,zeroValue108,underlying220,isAgg220,sizeOf220,zeroValue220⟩
def Tryz.layAnyI_ren:Go.Shelf.Ren:=⟨λ|8=>225|6=>272|n=>n,λ|22=>27|23=>3|25=>316|4=>4|3=>3|0=>0|n=>n,λ|n=>n⟩
theorem Tryz.layAnyI : Go.Proofs.SlLaysH.n8 Tryz.prog Tryz.layAnyI_ren := ⟨by kernel_rfl,⟨Tryz.f272.name, by decide, Kh func272 (by kernel_rfl)⟩,⟨Tryz.f225.name, by decide, Kh func225 (by kernel_rfl)⟩,U0,G0,S0,V0,U3,G3,S3,V3,U4,G4,S4,V4,U27,G27,S27,V27,G3,S3,underlying316,isAgg316,sizeOf316,zeroValue316⟩
def Tryz.layEqS_ren:Go.Shelf.Ren:=⟨λ|8=>270|n=>n,λ|22=>169|24=>235|4=>4|3=>3|0=>0|n=>n,λ|n=>n⟩
theorem Tryz.layEqS : Go.Proofs.SlLaysQ.n8 Tryz.prog Tryz.layEqS_ren := ⟨by kernel_rfl,⟨Tryz.f270.name, by decide, Kh func270 (by kernel_rfl)⟩,U0,G0,S0,V0,U3,G3,S3,V3,U4,G4,S4,V4,underlying169,isAgg169,sizeOf169,zeroValue169⟩
def Tryz.layClo_ren:Go.Shelf.Ren:=⟨λ|41=>104|n=>n,λ|22=>34|23=>59|4=>4|n=>n,λ|n=>n⟩
theorem Tryz.layClo : Go.Proofs.SlLaysE0.n41 Tryz.prog Tryz.layClo_ren := ⟨by kernel_rfl,⟨Tryz.f104.name, by decide, Kh func104 (by kernel_rfl)⟩,U4,G4,S4,V4,U34,G34,S34,V34⟩
def Tryz.layCloneE_ren:Go.Shelf.Ren:=⟨λ|41=>160|n=>n,λ|22=>69|23=>122|4=>4|n=>n,λ|n=>n⟩
theorem Tryz.layCloneE : Go.Proofs.SlLaysE0.n41 Tryz.prog Tryz.layCloneE_ren := ⟨by kernel_rfl,⟨Tryz.f160.name, by decide, Kh func160 (by kernel_rfl)⟩,U4,G4,S4,V4,U69,G69,S69,V69⟩
def Tryz.layCloneI_ren:Go.Shelf.Ren:=⟨λ|41=>161|n=>n,λ|22=>27|23=>3|4=>4|n=>n,λ|n=>n⟩
theorem Tryz.layCloneI : Go.Proofs.SlLaysE0.n41 Tryz.prog Tryz.layCloneI_ren := ⟨by kernel_rfl,⟨Tryz.f161.name, by decide, Kh func161 (by kernel_rfl)⟩,U4,G4,S4,V4,U27,G27,S27,V27⟩
def Tryz.layHasI_ren:Go.Shelf.Ren:=⟨λ|31=>116|29=>180|n=>n,λ|22=>27|23=>3|4=>4|3=>3|0=>0|n=>n,λ|n=>n⟩
theorem Tryz.layHasI : Go.Proofs.SlLaysE.n31 Tryz.prog Tryz.layHasI_ren := ⟨by kernel_rfl,⟨Tryz.f180.name, by decide, Kh func180 (by kernel_rfl)⟩,⟨Tryz.f116.name, by decide, Kh func116 (by kernel_rfl)⟩,U0,G0,S0,V0,U3,G3,S3,V3,U4,G4,S4,V4,U27,G27,S27,V27,G3,S3⟩
def Tryz.layEqT_ren:Go.Shelf.Ren:=⟨λ|33=>271|n=>n,λ|22=>46|23=>9|4=>4|3=>3|0=>0|n=>n,λ|n=>n⟩
theorem Tryz.layEqT : Go.Proofs.SlLaysE.n33 Tryz.prog Tryz.layEqT_ren := ⟨by kernel_rfl,⟨Tryz.f271.name, by decide, Kh func271 (by kernel_rfl)⟩,U0,G0,S0,V0,U3,G3,S3,V3,U4,G4,S4,V4,underlying46,isAgg46,sizeOf46,zeroValue46,isAgg9,sizeOf9⟩
def Tryz.layGro_ren:Go.Shelf.Ren:=⟨λ|4=>218|n=>n,λ|22=>34|25=>59|3=>3|4=>4|9=>9|20=>20|0=>0|n=>n,λ|n=>n⟩
theorem Tryz.layGro : Go.Proofs.Lays8.n4 Tryz.prog Tryz.layGro_ren := ⟨by kernel_rfl,⟨Tryz.f218.name, by decide, Kh func218 (by kernel_rfl)⟩,U0,G0,S0,V0,U3,G3,S3,V3,U4,G4,S4,V4,underlying9,isAgg9,sizeOf9,zeroValue9,underlying20,isAgg20,sizeOf20,zeroValue20,U34,G34,S34,V34⟩
def Tryz.layGroA_ren:Go.Shelf.Ren:=⟨λ|4=>120|n=>n,λ|22=>108|25=>144|3=>3|4=>4|9=>9|20=>20|0=>0|n=>n,λ|n=>n⟩
theorem Tryz.layGroA : Go.Proofs.Lays8.n4 Tryz.prog Tryz.layGroA_ren := ⟨by kernel_rfl,⟨Tryz.f120.name, by decide, Kh func120 (by kernel_rfl)⟩,U0,G0,S0,V0,U3,G3,S3,V3,U4,G4,S4,V4,underlying9,isAgg9,sizeOf9,zeroValue9,underlying20,isAgg20,sizeOf20,zeroValue20,underlying108,isAgg108,sizeOf108,zeroValue108⟩
end Go.Proofs
