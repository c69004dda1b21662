import Derived.Shelf.SlLaysF
import Derived.Shelf.SlLaysF0
import Derived.Shelf.SlicesE.Clone
import Derived.Test.YthafikkkjfielaaGreatDoorProg
namespace Go.Proofs
open Tryz
open Tryz RowKit
set_option maxRecDepth 9999
theorem Kf {α:Type}{a:Option α}{x y:α}(h:a=some x)(e:x=y):a=some y:=h.trans (congrArg some e)
open Go.Shelf
def Tryz.laySort_ren:Go.Shelf.Ren:=⟨λ|6=>34|15=>65|14=>64|28=>120|29=>121|20=>112|21=>113|22=>114|23=>115|24=>116|25=>117|26=>118|27=>119|46=>178|47=>179|48=>180|49=>181|50=>182|57=>218|n=>n,λ|22=>33|24=>71|25=>105|3=>3|39=>79|0=>0|53=>221|55=>223|4=>4|46=>214|45=>213|50=>218|5=>5|9=>9|66=>270|70=>274|76=>314|77=>315|n=>n,λ|n=>n⟩
theorem Tryz.laySort : Go.Proofs.SlLaysF.n6 Tryz.prog Tryz.laySort_ren := by refine ⟨?_,⟨Tryz.f34.name, by decide, ?_⟩,⟨Tryz.f64.name, by decide, ?_⟩,?_,⟨Tryz.f112.name, by decide, ?_⟩,⟨Tryz.f113.name, by decide, ?_⟩,⟨Tryz.f114.name, by decide, ?_⟩,⟨Tryz.f115.name, by decide, ?_⟩,⟨Tryz.f116.name, by decide, ?_⟩,⟨Tryz.f117.name, by decide, ?_⟩,⟨Tryz.f118.name, by decide, ?_⟩,⟨Tryz.f119.name, by decide, ?_⟩,?_,?_,⟨Tryz.f178.name, by decide, ?_⟩,?_,?_,⟨Tryz.f181.name, by decide, ?_⟩,⟨Tryz.f182.name, by decide, ?_⟩,⟨Tryz.f218.name, by decide, ?_⟩,?_,?_,?_,?_,?_,?_,?_,?_,?_,?_,?_,?_,?_,?_,?_,?_,?_,?_,?_,?_,?_,?_,?_,?_,?_,?_,?_,?_,?_,?_,?_,?_,?_,?_,?_,?_,?_,?_,?_,?_,?_,?_,?_,?_,?_,?_,?_,?_,?_,?_,?_,?_,?_,?_,?_,?_,?_,?_,?_,?_,?_,?_,?_,?_,?_,?_,?_,?_,?_,?_⟩<;>(intros;kernel_rfl)
theorem Tryz.laySort0 : SlLaysF0.n6 Tryz.prog Tryz.laySort_ren := {Tryz.laySort with}
def Tryz.layCloneR_ren:Go.Shelf.Ren:=⟨λ|41=>33|n=>n,λ|22=>33|23=>71|4=>4|n=>n,λ|n=>n⟩
theorem Tryz.layCloneR : Go.Proofs.SlLaysE0.n41 Tryz.prog Tryz.layCloneR_ren := by refine ⟨?_,⟨Tryz.f33.name, by decide, ?_⟩,?_,?_,?_,?_,?_,?_,?_,?_⟩<;>(intros;kernel_rfl)
end Go.Proofs
