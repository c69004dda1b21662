/- WHAT WAS IS YET, proved: at every list of deeds and every number millpondkeep.TableTravels returns true and leaves its arguments as they were; its condition: the lists, the tables of the library, the two errors of strconv and the handle of the type error that the row names start as the text of the program lays them. -/
import Derived.Test.YthpcepcghakimaaGreatDoorTie
import Derived.Test.YthpcepcghakimaaGreatDoorTravK2
import Derived.Deep.DeepHandedRow
import Derived.LaidMore
import Derived.Lay
import Derived.Stop.LaidErr
set_option maxHeartbeats 40000000
set_option maxRecDepth 100000
open Go.World renaming var?_cell->Y'
open Go.RowKit.Below renaming trod->XA
namespace Go.Proofs.YthpcepcghakimaaGreatDoor
open _root_.Go.Proofs.Tryz ChangeShapes WideShapes ChangeAt RowKit Joins
open ChangeMaps (open_string shut_string)
namespace tableTravels
variable{W:Tw}{H:Type}{P:Program}
theorem own:ownKnob prog.godebug=none:=by kernel_rfl
theorem laidOut:laidOutB prog=true:=by kernel_rfl
theorem gNc:prog.globalNamed "millpond/schema.notColumns"=some 0:=by kernel_rfl
theorem AIH:(prog.globals[0]?).map (·.type)=some 305:=by kernel_rfl
theorem gPw:prog.globalNamed "internal/strconv.uint64pow10"=some 2:=by kernel_rfl
theorem AG3:(prog.globals[2]?).map (·.type)=some 371:=by kernel_rfl
theorem AIt:prog.cellsOf 305=5:=by kernel_rfl
theorem AIF:prog.cellsOf 371=20:=by kernel_rfl
theorem AJX:prog.cellsOf 187=1:=by kernel_rfl
def Pg:List (String×DataW Unit):=[("math/bits.deBruijn32tab",Rows.laid_math_bits_deBruijn32tab),("math/bits.deBruijn64tab",Rows.laid_math_bits_deBruijn64tab),("internal/strconv.uint64pow10",Rows.laid_internal_strconv_uint64pow10),("unicode/utf8.acceptRanges",Rows.laid_unicode_utf8_acceptRanges),("strconv.ErrRange",Rows.laid_strconv_ErrRange),("strconv.ErrSyntax",Rows.laid_strconv_ErrSyntax),("millpond/schema.notColumns",Rows.laid_millpond_schema_notColumns),("millpond/stats.opposites",Rows.laid_millpond_stats_opposites),("unicode/utf8.first",Rows.laid_unicode_utf8_first)]
theorem gEt:prog.globalNamed "errors.errorType"=some 1:=by kernel_rfl
theorem rt:(prog.cutTypes.find? (·.1 == "internal/reflectlite.rtype")).map (·.2)=some 390:=by kernel_rfl
theorem AKK:prog.types.size+100=565:=by kernel_rfl
theorem AJB:((List.range (565-100)).filter λt=>prog.rowNamed t [101,114,114,111,114])=[32]:=by kernel_rfl
theorem handle(h:laidMetH prog Rows.tableTravelsRow.laid W):B.Ob W:=by
 have f:laidMet prog Pg W/\handlesMet prog [("errors.errorType",Rows.laid_errors_errorType)] W:=h;obtain⟨name,u,i,c,d,j,e,a⟩:=f.2 _ (List.mem_singleton.2 rfl);have en:name=[101,114,114,111,114]:=(Yq c).symm;subst en;obtain rfl:=Yq (rt.symm.trans d);have b:i∈(List.range (565-100)).filter λt=>prog.rowNamed t [101,114,114,111,114]:=List.mem_filter.2 ⟨List.mem_range.2 (by have:=AKK;omega),e⟩
 rw[AJB] at b;obtain rfl:=List.mem_singleton.1 b;have g:typeHandle prog 32=Zp (some (Zd 11 32)):=by kernel_rfl
 rw[g] at a;exact Y' gEt a 0
theorem jD{enc:TypeId×Tv->H}{w:Tw}{base:Nat}{G:Nat->Bool}{held:Bool}{fuel:Nat}{t e:TypeId}{n:Nat}{cs:List Tv}{zs:List (List UInt8)}{p:List MemPlace}(v:P.underlying t=some (.array n e))(q:P.underlying e=some .string)(d:P.cellsOf e=1)(f:P.cellsOf t=n)(h:DataW.trod enc P w base G held fuel t cs=some (DataW.agg (zs.map λz=>DataW.lit (Lit.string z)),p)):∀(i:Nat)(z:List UInt8),zs[i]? = some z->cs[i]? = some (Value.string ⟨z.toArray⟩):=by
 cases fuel with
 | zero=>simp[DataW.trod] at h
 | succ fuel=>
   simp only[DataW.trod,v,d,f,Nat.mul_one] at h;split at h
   ·rename_i hl
    obtain⟨xs,k,x⟩:=Option.map_eq_some_iff.1 h
    have a:xs.map (·.1)=zs.map λz=>(DataW.lit (.string z):DataW H):=by have:=congrArg Prod.fst x;simpa using this
    have y:xs.length=n:=by simpa using Lib.mapM_length k
    have D:zs.length=n:=by have:=congrArg List.length a;simp at this;omega
    intro i z g
    have u:i<n:=by
     rcases Yc i n with j|j
     ·exact j
     rw[Yb (by omega)] at g;cases g
    obtain⟨b,m,r⟩:=Lib.mapM_at k i i (by simp[u]);obtain⟨s,o,rfl,_⟩:=DataW.trod_string q r
    have l:cs[i]? = some (Zt s):=by have:=congrArg (·[0]?) o;simpa[List.getElem?_take,List.getElem?_drop] using this
    have c:(xs.map (·.1))[i]? = some (DataW.lit (.string s.1.toList):DataW H):=by simp[m]
    rw[a,List.getElem?_map,g] at c;simp only[Option.map_some,Option.some.injEq,DataW.lit.injEq,Lit.string.injEq] at c;rw[l,c]
   cases h
theorem words(h:laidMetH prog Rows.tableTravelsRow.laid W):Lw W:=by
 have e:laidMet prog Pg W:=(show laidMet prog Pg W/\handlesMet prog [("errors.errorType",Rows.laid_errors_errorType)] W from h).1;obtain⟨n,⟨m,t',cs,fuel,p,q,c,d,b,k,_,_⟩,_⟩:=laidMet.tail (laidMet.tail (laidMet.tail (laidMet.tail (laidMet.tail (laidMet.tail e)))));obtain rfl:=Yq (gNc.symm.trans c);obtain rfl:=Yq (AIH.symm.trans d);have j:=jD (zs:=[[97,110,100],[105,115],[110,111,116],[110,117,108,108],[111,114]]) underlying305 underlying9 AEW AIt k
 have a:∀(i:Nat)(z:List UInt8),([[97,110,100],[105,115],[110,111,116],[110,117,108,108],[111,114]]:List (List UInt8))[i]? = some z->W.cell? (Zd 0 i)=some (Value.string ⟨z.toArray⟩):=λi z l=>by have f:=Y' gNc b i;have g:=j i z l;rw[f];simpa using g
 exact⟨a 0 _ rfl,a 1 _ rfl,a 2 _ rfl,a 3 _ rfl,a 4 _ rfl⟩
theorem table(h:laidMetH prog Rows.tableTravelsRow.laid W):Jp W:=by have a:laidMet prog Pg W:=(show laidMet prog Pg W/\handlesMet prog [("errors.errorType",Rows.laid_errors_errorType)] W from h).1;exact Lib.tabIs_of_head (rest:=[("unicode/utf8.acceptRanges",Rows.laid_unicode_utf8_acceptRanges),("strconv.ErrRange",Rows.laid_strconv_ErrRange),("strconv.ErrSyntax",Rows.laid_strconv_ErrSyntax),("millpond/schema.notColumns",Rows.laid_millpond_schema_notColumns),("millpond/stats.opposites",Rows.laid_millpond_stats_opposites),("unicode/utf8.first",Rows.laid_unicode_utf8_first)]) (zs:=Lib.pow10Tab) gPw AG3 underlying371 underlying187 AJX AIF (laidMet.tail (laidMet.tail a))
theorem AEQ:(prog.globals[4]?).map (·.type)=some 405:=by kernel_rfl
theorem AHd:prog.cellsOf 405=9:=by kernel_rfl
theorem AIw:prog.cellsOf 3=1:=by kernel_rfl
theorem ADA(h:laidMetH prog Rows.tableTravelsRow.laid W):S.Lp W:=by have a:laidMet prog Pg W:=(show laidMet prog Pg W/\handlesMet prog [("errors.errorType",Rows.laid_errors_errorType)] W from h).1;exact Lib.tabIs_of_head (rest:=[("unicode/utf8.first",Rows.laid_unicode_utf8_first)]) (zs:=S.AE2) S.iO AEQ underlying405 underlying3 AIw AHd (laidMet.tail (laidMet.tail (laidMet.tail (laidMet.tail (laidMet.tail (laidMet.tail (laidMet.tail a)))))))
theorem gEr:prog.globalNamed "strconv.ErrRange"=some 6:=by kernel_rfl
theorem AH2:(prog.globals[6]?).map (·.type)=some 32:=by kernel_rfl
theorem gEs:prog.globalNamed "strconv.ErrSyntax"=some 5:=by kernel_rfl
theorem AHa:(prog.globals[5]?).map (·.type)=some 32:=by kernel_rfl
theorem star: "*" ++ "errors.errorString" = "*errors.errorString":=by decide
theorem AEh(u:TypeId)(h:prog.typeName? 3 u=some "*errors.errorString"):u=426 :=
 typeName_ptr_named (nm := "errors.errorString") (by rw[star];kernel_rfl) (by kernel_rfl) (by decide) u (by rw[star];exact h)
theorem ABp(h:laidMetH prog Rows.tableTravelsRow.laid W):Ik W:=by have d:laidMet prog Pg W:=(show laidMet prog Pg W/\handlesMet prog [("errors.errorType",Rows.laid_errors_errorType)] W from h).1;have c:=laidMet.tail (laidMet.tail (laidMet.tail (laidMet.tail d)));obtain⟨e,s1,a,_⟩:=laid_sentinel (tp:=426) (te:=428) (ts:=9) c gEr AH2 underlying32 AEh underlying426 underlying428 rfl rfl underlying9 (by kernel_rfl) (by kernel_rfl);obtain⟨f,s2,b,_⟩:=laid_sentinel (tp:=426) (te:=428) (ts:=9) (laidMet.tail c) gEs AHa underlying32 AEh underlying426 underlying428 rfl rfl underlying9 (by kernel_rfl) (by kernel_rfl);exact⟨⟨_,_,by simpa using Y' gEs b 0⟩,_,_,by simpa using Y' gEr a 0⟩
theorem AEr(H:Type)(enc:TypeId×Tv->H)(W:Tw)(base:Nat)(args:Array Tv)(k gs:List (DataW H))(before:List MemPlace)(a:∀(j:Nat)t v,f3.params[j]? = some t->args[j]? = some v->Value.okWide prog W .any base t v)(r:DataW.Whole enc prog f3.params.toList Rows.tableTravelsSpec.vars false W args.toList k gs before)(d:laidMetH prog Rows.tableTravelsRow.laid W):
 Zc 3 args W λe i=>∃v,e=Zr v/\Rows.tableTravelsSpec.post enc prog f3 false true false false W args v i:=by
 have b:=r;obtain⟨p,q,c,w,rfl,y,D⟩:=r;have o:DataW.TrodAll enc prog W 0 (λ_=>true) true f3.params.toList args.toList k p:=c;rw[params3] at o a;obtain⟨u,J,L,M,p0,s,rfl,rfl,rfl,m,n⟩:=trodAll_two o;obtain⟨rfl,rfl⟩:=trodVars_none w;clear c;simp only[List.append_nil] at b;have f:∀x∈p0++s,x.block<W.1.size:=λx g=>b.lt x (by simpa using g)
 obtain⟨l,z,I⟩:=F.yI (a 0 22 u rfl rfl) m;obtain⟨from_,rfl,_,_,_⟩:=open_int underlying3 (a 1 3 J rfl rfl) n;refine(F.ANx F.Qf F.AAS u from_ l W z (λq G=>(I q G).1) (ABp d) (words d) (table d) (handle d) (ADA d)).mono λe i⟨he,hb⟩=>?_
 subst he;refine⟨_,rfl,_,_,_,[],p0++s,[],b,?_,?_,rfl,hb.frame _,λh=>by cases h⟩
 ·exact trodAll_mk1 (shut_bool underlying4 _)
 exact trodAll_mk2 (XA laidOut (by kernel_rfl) (of_decide_eq_true (by kernel_rfl)) m hb (λx g=>f x (by simp[g]))) (XA laidOut (by kernel_rfl) (of_decide_eq_true (by kernel_rfl)) n hb (λx g=>f x (by simp[g])))
theorem o6{w0:Tw}{laid:List (String×Td)}(args:Array Tv)(c:w0.layFits P laid []=true)(d:w0.layIfaces P laid (w0.layVars P laid)=true):laidMet P laid ((w0.layVars P laid).forCall (λ_ _=>0) ⟨#[],args,[]⟩).memory:=by
 have a:(laid.filter λx=>(laid.map (·.1)).contains x.1)=laid:=List.filter_eq_self.2 λx hx=>List.contains_iff_mem.2 (List.mem_map.2 ⟨x,hx,rfl⟩)
 have b:(laid.filter λx=>!(laid.map (·.1)).contains x.1)=[]:=List.filter_eq_nil_iff.2 λx hx=>by rw[List.contains_iff_mem.2 (List.mem_map.2 ⟨x,hx,rfl⟩)];simp
 have h:laidMet P laid (w0.layVars P laid):=laidMet_layVars (w0:=w0) (laid.map (·.1)) [] (by rw[a]) (by rw[a];exact c) (by rw[a];exact d) (by rw[b];exact LaidIn.none);exact h.of_heap (by simp[World.memory,World.forCall,Input.heap])
noncomputable def w00 (a:Os):World:=(World.holding prog a ⟨#[],#[],[]⟩).setCell ⟨1,0,none⟩ (.iface 390 (.agg #[.pointer (some ⟨11,32,none⟩)]))
noncomputable def wit (a:Os):World:=(w00 a).layVars prog Pg
theorem AIq(a:Os):(wit a).os=a:=World.layVars_os _ _ _
theorem AEH(a:Os):laidMetH prog Rows.tableTravelsRow.laid ((wit a).forCall (λ_ _=>0) ⟨#[],#[Zs none 0 0,Zi 0],[]⟩).memory :=
 laidMetH_of_parts (o6 (w0:=w00 a) (laid:=Pg) _ (by kernel_rfl) (by kernel_rfl)) (by kernel_rfl)
theorem reads(b:Os)(enc:TypeId×Tv->H):∃a places,DataW.whole enc prog ((wit b).forCall (λ_ _=>0) ⟨#[],#[Zs none 0 0,Zi 0],[]⟩).memory f3.params.toList Rows.tableTravelsSpec.vars false #[Value.slice none 0 0,Zi 0].toList 8=some (a,[],places) :=
 ⟨[.nil,.lit (.int .i64 0)],[],by kernel_rfl⟩
theorem lifted(a:Os)(started:a.Started)(H:Type)(enc:TypeId×Tv->H)(F:Stop.Interp):
 ReturnsInHanded {} checked a 3 .any ((OpenSpec.ofChange Rows.tableTravelsSpec).preRow enc prog f3 Rows.tableTravelsRow.domain false Rows.tableTravelsRow.laid) (((OpenSpec.ofChange Rows.tableTravelsSpec).at F).post enc prog f3 false true false false):=by
 obtain⟨c,places,g⟩:=reads a enc
 refine returnsInHanded_of_row (C:=checked) (s:=OpenSpec.ofChange Rows.tableTravelsSpec) own started (by kernel_rfl) func3
  (witness_row_at (enc:=enc) (C:=checked) false (wit a) #[Zs none 0 0,Zi 0] (AIq a) (by kernel_rfl) (by kernel_rfl) (by kernel_rfl)
    (OpenSpec.preRow_of_cond 8 g (by kernel_rfl) (λk f=>by cases f) (by kernel_rfl) (AEH a))) ?_
 intro W base args c gs before b e _ _ _ d _ _;exact AEr H enc W base args c gs before b e d
theorem s1:Tryz.pinned.checked.prog.funcNamed Rows.tableTravelsRow.func=some 3:=by kernel_rfl
theorem s2:f3.isWrapper Tryz.pinned.checked.prog Rows.tableTravelsRow.wrapper Rows.tableTravelsRow.mainSum:=by
 unfold Func.isWrapper
 first|(rw[A2 (by decide +kernel)];kernel_rfl)|(rw[A1 (by decide +kernel)];exact⟨rfl,rfl⟩)
theorem s3:f3.isInstance Tryz.pinned.checked.prog Rows.tableTravelsRow.origin Rows.tableTravelsRow.targs:=of_decide_eq_true (by kernel_rfl)
theorem said:Rows.TableTravelsSaid :=
 OpenClaim.holds_of_cond 3 f3 rfl rfl rfl rfl rfl rfl rfl ⟨rfl,rfl,rfl,rfl,rfl⟩ rfl rfl rfl rfl rfl s1 func3 closed s3 s2
  (λa started H enc _ F=>by rw[OpenClaim.pre_eq_preRow];exact lifted a started H enc F)
theorem plain(f:FuncId)(b:Func)(e:Tryz.pinned.checked.prog.funcNamed "millpond/millpondkeep.TableTravels"=some f)(c:Tryz.pinned.checked.prog.funcs[f]? = some b):
 true=Tryz.pinned.checked.prog.looks []/\∀(j:Nat)t,b.params[j]? = some t->Tryz.pinned.checked.prog.wantsStandIn t=false:=by
 obtain rfl:f=3:=Yq ((show prog.funcNamed "millpond/millpondkeep.TableTravels"=some 3 by kernel_rfl).symm.trans e) |>.symm;obtain rfl:b=f3:=(Yq (func3.symm.trans c)).symm;refine⟨by kernel_rfl,λj t d=>?_⟩;rw[params3] at d;have g:t∈[22,3]:=by simpa using Array.mem_of_getElem? d
 have a:([22,3].all λu=>!prog.wantsStandIn u)=true:=by kernel_rfl
 exact(show prog.wantsStandIn t=false by simpa using List.all_eq_true.1 a t g)
end tableTravels
theorem tableTravels_card:Rows.TableTravelsCardSaid :=
 Claim7.holds_tied_plain_at .later [] _ _ _ _ tableTravels.said (λ_ h=>by cases h) (by kernel_rfl) (λ_ h=>by cases h) tableTravels_row_tie rfl ⟨rfl,rfl⟩ (by kernel_rfl) rfl tableTravels.plain (by kernel_rfl)
