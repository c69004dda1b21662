import Derived.Shelf.SlicesQ.IndexFunc
import Derived.Shelf.SlicesE.IndexFunc
import Derived.Shelf.SlicesQ.Equal
import Derived.Shelf.SlicesE.Clone
import Derived.Shelf.SlicesE.Index
import Derived.Shelf.Spec.SlicesGrow
import Derived.Test.YtbhhpheailbebaaGreatDoorProg
namespace Go.Proofs
open Tryz renaming underlying0→U0,isAgg0→G0,sizeOf0→S0,zeroValue0→V0,underlying3→U3,isAgg3→G3,sizeOf3→S3,zeroValue3→V3,underlying4→U4,isAgg4→G4,sizeOf4→S4,zeroValue4→V4,underlying40→U40,isAgg40→G40,sizeOf40→S40,zeroValue40→V40,underlying34→U34,isAgg34→G34,sizeOf34→S34,zeroValue34→V34,underlying28→U28,isAgg28→G28,sizeOf28→S28,zeroValue28→V28
open Tryz RowKit
set_option maxRecDepth 9999
theorem Kh {α:Type}{a:Option α}{x y:α}(h:a=some x)(e:x=y):a=some y:=h.trans (congrArg some e)
open Go.Shelf
def Tryz.layIdxE_ren:Go.Shelf.Ren:=⟨λ|6=>166|n=>n,λ|22=>40|23=>65|25=>207|3=>3|0=>0|4=>4|n=>n,λ|n=>n⟩
theorem Tryz.layIdxE : Go.Proofs.SlLaysH0.n6 Tryz.prog Tryz.layIdxE_ren := ⟨by kernel_rfl,⟨Tryz.f166.name, by decide, Kh func166 (by kernel_rfl)⟩,U0,G0,S0,V0,U3,G3,S3,V3,U4,G4,S4,V4,U40,G40,S40,V40,underlying207,isAgg207,sizeOf207,zeroValue207⟩
def Tryz.layIdx_ren:Go.Shelf.Ren:=⟨λ|6=>33|n=>n,λ|22=>34|23=>72|25=>105|3=>3|0=>0|4=>4|n=>n,λ|n=>n⟩
theorem Tryz.layIdx : Go.Proofs.SlLaysH0.n6 Tryz.prog Tryz.layIdx_ren := ⟨by kernel_rfl,⟨Tryz.f33.name, by decide, Kh func33 (by kernel_rfl)⟩,U0,G0,S0,V0,U3,G3,S3,V3,U4,G4,S4,V4,U34,G34,S34,V34,underlying105,isAgg105,sizeOf105,zeroValue105⟩
def Tryz.layCon_ren:Go.Shelf.Ren:=⟨λ|8=>161|6=>33|n=>n,λ|22=>34|23=>72|25=>105|4=>4|3=>3|0=>0|n=>n,λ|n=>n⟩
theorem Tryz.layCon : Go.Proofs.SlLaysH0.n8 Tryz.prog Tryz.layCon_ren := ⟨by kernel_rfl,⟨Tryz.f33.name, by decide, Kh func33 (by kernel_rfl)⟩,⟨Tryz.f161.name, by decide, Kh func161 (by kernel_rfl)⟩,U0,G0,S0,V0,U3,G3,S3,V3,U4,G4,S4,V4,U34,G34,S34,V34,underlying105,isAgg105,sizeOf105,zeroValue105⟩
def Tryz.layConE_ren:Go.Shelf.Ren:=⟨λ|8=>112|6=>166|n=>n,λ|22=>40|23=>65|25=>207|4=>4|3=>3|0=>0|n=>n,λ|n=>n⟩
theorem Tryz.layConE : Go.Proofs.SlLaysH0.n8 Tryz.prog Tryz.layConE_ren := ⟨by kernel_rfl,⟨Tryz.f166.name, by decide, Kh func166 (by kernel_rfl)⟩,⟨Tryz.f112.name, by decide, Kh func112 (by kernel_rfl)⟩,U0,G0,S0,V0,U3,G3,S3,V3,U4,G4,S4,V4,U40,G40,S40,V40,underlying207,isAgg207,sizeOf207,zeroValue207⟩
def Tryz.layAnyA_ren:Go.Shelf.Ren:=⟨λ|8=>174|6=>218|n=>n,λ|22=>84|23=>144|25=>215|4=>4|3=>3|0=>0|n=>n,λ|n=>n⟩
theorem Tryz.layAnyA : Go.Proofs.SlLaysH0.n8 Tryz.prog Tryz.layAnyA_ren := ⟨by kernel_rfl,⟨Tryz.f218.name, by decide, Kh func218 (by kernel_rfl)⟩,⟨Tryz.f174.name, by decide, Kh func174 (by kernel_rfl)⟩,U0,G0,S0,V0,U3,G3,S3,V3,U4,G4,S4,V4,underlying84,isAgg84,sizeOf84,zeroValue84,underlying215,isAgg215,sizeOf215,zeroValue215⟩
def Tryz.layAnyI_ren:Go.Shelf.Ren:=⟨λ|8=>214|6=>253|n=>n,λ|22=>28|23=>3|25=>291|4=>4|3=>3|0=>0|n=>n,λ|n=>n⟩
theorem Tryz.layAnyI : Go.Proofs.SlLaysH.n8 Tryz.prog Tryz.layAnyI_ren := ⟨by kernel_rfl,⟨Tryz.f253.name, by decide, Kh func253 (by kernel_rfl)⟩,⟨Tryz.f214.name, by decide, Kh func214 (by kernel_rfl)⟩,U0,G0,S0,V0,U3,G3,S3,V3,U4,G4,S4,V4,U28,G28,S28,V28,G3,S3,underlying291,isAgg291,sizeOf291,zeroValue291⟩
def Tryz.layEqS_ren:Go.Shelf.Ren:=⟨λ|8=>236|n=>n,λ|22=>125|24=>186|4=>4|3=>3|0=>0|n=>n,λ|n=>n⟩
theorem Tryz.layEqS : Go.Proofs.SlLaysQ.n8 Tryz.prog Tryz.layEqS_ren := ⟨by kernel_rfl,⟨Tryz.f236.name, by decide, Kh func236 (by kernel_rfl)⟩,U0,G0,S0,V0,U3,G3,S3,V3,U4,G4,S4,V4,underlying125,isAgg125,sizeOf125,zeroValue125⟩
def Tryz.layClo_ren:Go.Shelf.Ren:=⟨λ|41=>103|n=>n,λ|22=>34|23=>72|4=>4|n=>n,λ|n=>n⟩
theorem Tryz.layClo : Go.Proofs.SlLaysE0.n41 Tryz.prog Tryz.layClo_ren := ⟨by kernel_rfl,⟨Tryz.f103.name, by decide, Kh func103 (by kernel_rfl)⟩,U4,G4,S4,V4,U34,G34,S34,V34⟩
def Tryz.layCloneE_ren:Go.Shelf.Ren:=⟨λ|41=>137|n=>n,λ|22=>40|23=>65|4=>4|n=>n,λ|n=>n⟩
theorem Tryz.layCloneE : Go.Proofs.SlLaysE0.n41 Tryz.prog Tryz.layCloneE_ren := ⟨by kernel_rfl,⟨Tryz.f137.name, by decide, Kh func137 (by kernel_rfl)⟩,U4,G4,S4,V4,U40,G40,S40,V40⟩
def Tryz.layCloneI_ren:Go.Shelf.Ren:=⟨λ|41=>138|n=>n,λ|22=>28|23=>3|4=>4|n=>n,λ|n=>n⟩
theorem Tryz.layCloneI : Go.Proofs.SlLaysE0.n41 Tryz.prog Tryz.layCloneI_ren := ⟨by kernel_rfl,⟨Tryz.f138.name, by decide, Kh func138 (by kernel_rfl)⟩,U4,G4,S4,V4,U28,G28,S28,V28⟩
def Tryz.layHasI_ren:Go.Shelf.Ren:=⟨λ|31=>98|29=>154|n=>n,λ|22=>28|23=>3|4=>4|3=>3|0=>0|n=>n,λ|n=>n⟩
theorem Tryz.layHasI : Go.Proofs.SlLaysE.n31 Tryz.prog Tryz.layHasI_ren := ⟨by kernel_rfl,⟨Tryz.f154.name, by decide, Kh func154 (by kernel_rfl)⟩,⟨Tryz.f98.name, by decide, Kh func98 (by kernel_rfl)⟩,U0,G0,S0,V0,U3,G3,S3,V3,U4,G4,S4,V4,U28,G28,S28,V28,G3,S3⟩
def Tryz.layEqT_ren:Go.Shelf.Ren:=⟨λ|33=>237|n=>n,λ|22=>126|23=>9|4=>4|3=>3|0=>0|n=>n,λ|n=>n⟩
theorem Tryz.layEqT : Go.Proofs.SlLaysE.n33 Tryz.prog Tryz.layEqT_ren := ⟨by kernel_rfl,⟨Tryz.f237.name, by decide, Kh func237 (by kernel_rfl)⟩,U0,G0,S0,V0,U3,G3,S3,V3,U4,G4,S4,V4,underlying126,isAgg126,sizeOf126,zeroValue126,isAgg9,sizeOf9⟩
def Tryz.layGro_ren:Go.Shelf.Ren:=⟨λ|4=>211|n=>n,λ|22=>34|25=>72|3=>3|4=>4|9=>9|20=>20|0=>0|n=>n,λ|n=>n⟩
theorem Tryz.layGro : Go.Proofs.Lays8.n4 Tryz.prog Tryz.layGro_ren := ⟨by kernel_rfl,⟨Tryz.f211.name, by decide, Kh func211 (by kernel_rfl)⟩,U0,G0,S0,V0,U3,G3,S3,V3,U4,G4,S4,V4,underlying9,isAgg9,sizeOf9,zeroValue9,underlying20,isAgg20,sizeOf20,zeroValue20,U34,G34,S34,V34⟩
def Tryz.layGroA_ren:Go.Shelf.Ren:=⟨λ|4=>115|n=>n,λ|22=>84|25=>144|3=>3|4=>4|9=>9|20=>20|0=>0|n=>n,λ|n=>n⟩
theorem Tryz.layGroA : Go.Proofs.Lays8.n4 Tryz.prog Tryz.layGroA_ren := ⟨by kernel_rfl,⟨Tryz.f115.name, by decide, Kh func115 (by kernel_rfl)⟩,U0,G0,S0,V0,U3,G3,S3,V3,U4,G4,S4,V4,underlying9,isAgg9,sizeOf9,zeroValue9,underlying20,isAgg20,sizeOf20,zeroValue20,underlying84,isAgg84,sizeOf84,zeroValue84⟩
end Go.Proofs
