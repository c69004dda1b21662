import Derived.Shelf.Strconv.ErrVarParseInt
import Derived.Shelf.Sort.Plain
import Derived.Shelf.Strings.OnBuilder
import Derived.Shelf.Small.Strs
import Derived.Shelf.Small.Wraps
import Derived.Shelf.Strconv.Itoa4
import Derived.Shelf.Strconv.ErrVar
import Derived.Shelf.Strconv.ErrVarAll
import Derived.Shelf.Strings.Shaped
import Derived.Shelf.GgClosure.StringsRunes
import Derived.Shelf.Strings.Repeat
import Derived.Shelf.Strings.FuncGrows
import Derived.Shelf.Strings.BuilderCap
import Derived.Shelf.SlicesE.Index
import Derived.Shelf.SlicesE.Equal
import Derived.Shelf.SlicesE.Clone
import Derived.Shelf.SlicesE.IndexFunc
import Derived.Test.YthafikkkjfielaaGreatDoorProg
namespace Go.Proofs
open Tryz
open Tryz RowKit
set_option maxRecDepth 9999
theorem Kf {α:Type}{a:Option α}{x y:α}(h:a=some x)(e:x=y):a=some y:=h.trans (congrArg some e)
open Go.Shelf
def Tryz.Qrr:Go.Shelf.Ren:=⟨λ|169=>94|156=>195|165=>161|166=>90|240=>146|241=>208|276=>192|277=>248|137=>240|217=>280|266=>312|103=>338|210=>349|206=>207|171=>79|243=>140|246=>191|283=>232|284=>233|285=>234|286=>235|129=>121|317=>275|318=>276|319=>277|320=>278|337=>307|338=>308|173=>237|172=>241|244=>281|245=>282|247=>313|279=>314|280=>315|281=>316|282=>317|287=>334|316=>335|205=>336|321=>344|322=>345|174=>340|219=>279|225=>309|224=>310|267=>311|314=>333|143=>348|101=>339|208=>350|102=>200|209=>244|207=>285|264=>206|212=>159|263=>205|105=>103|99=>160|170=>162|189=>204|125=>65|257=>247|128=>120|294=>286|295=>287|296=>288|297=>289|298=>290|299=>291|216=>292|300=>293|301=>294|328=>321|329=>179|330=>180|331=>322|332=>323|215=>122|343=>341|n=>n,λ|70=>176|9=>9|0=>0|72=>178|37=>90|127=>243|3=>3|5=>5|31=>205|4=>4|20=>20|76=>49|75=>45|164=>287|80=>183|24=>422|2=>2|171=>337|53=>223|173=>339|212=>375|51=>221|213=>376|46=>79|232=>413|233=>414|167=>395|85=>396|168=>398|175=>416|210=>419|145=>430|143=>428|21=>21|146=>304|148=>306|109=>247|28=>23|183=>214|182=>213|131=>218|218=>270|222=>274|228=>314|229=>315|n=>n,λ|17=>2|18=>5|19=>6|15=>7|16=>8|1=>3|n=>n⟩
theorem Tryz.laysC172 : LaysC.n172 Tryz.prog Tryz.Qrr := by refine ⟨⟨⟨?_,?_,?_,?_,?_,?_,?_,?_,?_,?_,?_,?_,?_,?_,?_,?_,?_,?_,?_,?_,?_,?_,?_,?_,?_,?_,?_,?_,?_,?_,?_,?_,?_,?_,?_,?_,?_,?_,?_,?_,?_,?_,?_,?_,?_,?_,?_,?_,?_,?_,?_,?_,?_,?_,?_,?_,?_,?_,?_,?_,?_,?_,?_,?_,?_,?_,?_,?_,?_,?_,?_,?_,?_,?_,?_,?_,?_,?_,?_,?_,?_,?_,?_,?_,?_,?_,?_,?_,?_,?_,?_,?_,?_,?_,?_,?_,?_,?_,?_,?_,?_,?_,?_,?_,?_,?_,?_,?_,?_,?_,?_,?_,?_,?_,?_,?_,?_,?_,?_,?_,?_,?_,?_,?_,?_,?_,?_,?_,?_,?_,?_,?_,?_,?_,?_,?_,?_,?_,?_,?_,?_,?_,?_,?_⟩,?_,?_,?_,?_,?_,?_,?_,?_,?_,?_,?_,?_,?_,?_,?_,?_,?_,?_,?_,?_,?_,?_,?_,?_,?_,?_,?_,?_,?_,?_,?_,?_,?_,?_,?_,?_,?_⟩,?_,?_,?_,?_,?_,?_,?_,?_,?_,?_,?_,?_,?_,?_,?_,?_,?_,?_,?_,?_,?_,?_,?_,?_,?_,?_,?_,?_,?_⟩<;>(intros;kernel_rfl)
theorem Tryz.laysC174 : LaysC.n174 Tryz.prog Tryz.Qrr := {Tryz.laysC172 with f174:=by kernel_rfl}
theorem Tryz.laysM171 : LaysM.n171 Tryz.prog Tryz.Qrr := {Tryz.laysC174 with}
theorem Tryz.laysM173 : LaysM.n173 Tryz.prog Tryz.Qrr := {Tryz.laysM171 with f173:=by kernel_rfl}
theorem Tryz.lays105 : Lays.n105 Tryz.prog Tryz.Qrr := by refine {Tryz.laysC172 with f99:=?_,f105:=?_,f165:=?_,f166:=?_,f169:=?_,f170:=?_,f206:=?_,f212:=?_,f240:=?_,f241:=?_,f263:=?_,f264:=?_,f276:=?_,f277:=?_,t70:=?_,a70:=?_,z70:=?_,v70:=?_,t72:=?_,a72:=?_,z72:=?_,v72:=?_,t109:=?_,a109:=?_,z109:=?_,v109:=?_,t146:=?_,a146:=?_,z146:=?_,v146:=?_,t148:=?_,a148:=?_,z148:=?_,v148:=?_,t164:=?_,a164:=?_,z164:=?_,v164:=?_}<;>(intros;kernel_rfl)
theorem Tryz.lays189 : Lays.n189 Tryz.prog Tryz.Qrr := by refine ⟨?_,?_,?_,?_,?_,?_,?_,?_,?_,?_,?_,?_,?_,?_,?_,?_,?_,?_,?_,?_,?_,?_,?_,?_,?_,?_,?_,?_,?_,?_,?_,?_,?_,?_,?_,?_,?_,?_,?_,?_,?_,?_,?_,?_,?_,?_,?_,?_,?_,?_,?_,?_,?_,?_,?_,?_,?_,?_,?_,?_,?_,?_,?_,?_,?_,?_,?_,?_,?_,?_,?_,?_,?_,?_,?_,?_,?_,?_,?_,?_,?_,?_,?_,?_,?_,?_⟩<;>(intros;kernel_rfl)
theorem Tryz.lays156 : Lays.n156 Tryz.prog Tryz.Qrr := by refine {Tryz.lays105 with f156:=?_,t31:=?_,a31:=?_,z31:=?_,v31:=?_}<;>(intros;kernel_rfl)
theorem Tryz.lays143 : Lays.n143 Tryz.prog Tryz.Qrr := by refine {Tryz.lays105 with f143:=?_,f217:=?_,f219:=?_,f224:=?_,f225:=?_,f266:=?_,f267:=?_,f314:=?_,g1:=?_}<;>(intros;kernel_rfl)
theorem Tryz.lays219 : Lays.n219 Tryz.prog Tryz.Qrr := {Tryz.lays143 with}
theorem Tryz.lays169 : Lays.n169 Tryz.prog Tryz.Qrr := {Tryz.lays156 with}
theorem Tryz.lays212 : Lays.n212 Tryz.prog Tryz.Qrr := {Tryz.lays105 with}
theorem Tryz.lays103 : Lays.n103 Tryz.prog Tryz.Qrr := by refine {Tryz.lays105 with f103:=?_,f210:=?_,t24:=?_,a24:=?_,z24:=?_,v24:=?_}<;>(intros;kernel_rfl)
theorem Tryz.lays137 : Lays.n137 Tryz.prog Tryz.Qrr := {Tryz.lays219 with f137:=by kernel_rfl}
theorem Tryz.lays101 : Lays.n101 Tryz.prog Tryz.Qrr := by refine {Tryz.lays105 with f101:=?_,f208:=?_}<;>(intros;kernel_rfl)
theorem Tryz.lays102 : Lays.n102 Tryz.prog Tryz.Qrr := by refine {Tryz.laysM173 with f102:=?_,f207:=?_,f209:=?_}<;>(intros;kernel_rfl)
theorem Tryz.lays264 : Lays.n264 Tryz.prog Tryz.Qrr := {Tryz.lays212 with}
theorem Tryz.Qbx : Builder.Extra Tryz.prog Tryz.Qrr := by refine {sizeBuilder:=?_,liesBuilder:=?_,t5:=underlying5,a5:=isAgg5,z5:=sizeOf5,v5:=zeroValue5,infoByte:=?_,cellsByte:=?_,sizeByte:=?_,neB5:=by decide}<;>(intros;kernel_rfl)
def Tryz.laysGw17_ren:Go.Shelf.Ren:=⟨λ|17=>126|15=>183|20=>219|n=>n,λ|9=>9|23=>226|4=>4|3=>3|0=>0|21=>21|n=>n,λ|n=>n⟩
theorem Tryz.laysGw17 : Go.Proofs.LaysGw.n17 Tryz.prog Tryz.laysGw17_ren := by refine ⟨?_,?_,?_,?_,?_,?_,?_,?_,?_,?_,?_,?_,?_,?_,?_,?_,?_,?_,?_,?_,?_,?_,?_,?_,?_,?_,?_,?_,?_,?_,?_,?_,?_,?_⟩<;>(intros;kernel_rfl)
open Go.Shelf
end Go.Proofs
