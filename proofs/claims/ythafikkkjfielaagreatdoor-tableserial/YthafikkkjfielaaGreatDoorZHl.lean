import Derived.Test.YthafikkkjfielaaGreatDoorQO
import Derived.Test.YthafikkkjfielaaGreatDoorShelfZ
import Derived.Shelf.SlSortCmp.NoneTotal
import Derived.Deep.RegionLawGrows
set_option maxHeartbeats 40000000
set_option maxRecDepth 100000
open List renaming getElem?_eq_getElem->Y',length_map->XB,mem_of_getElem?->XG,map_append->XH,getElem?_append_left->XI,getElem?_map->XJ,getElem?_append_right->XK,map_map->XM,take_succ_cons->XN,map_cons->XO,length_cons->XP,not_mem_nil->XQ,drop_succ_cons->XR,length_append->XT,length_take->XU,all_eq_true->XV,mem_singleton->XW,drop_zero->XX,take_zero->XY,sum_append->X2,map_nil->X4,getElem?_drop->X6,getD_eq_getElem?_getD->X',flatMap_cons->WB,sum_cons->WC,length_drop->WE,mem_of_mem_drop->WK,mem_cons->WL,mem_map->WN,size_toArray->WO,sum_nil->WR,map_id->WU,length_nil->WW,mem_range->WX
open Nat renaming le_refl->XA,le_trans->XC,zero_le->XD,zero_add->WG,add_zero->WH,le_of_lt->WY
open Bool renaming and_eq_true->XE,or_eq_false_iff->WJ,or_eq_true->WV
open Go.RowKit.Below renaming refl->XF,heap_setCell->Wb,heap_alloc->WT
open Go.World renaming news_of_block->XL,ownsRow_nil->WA,cell?_alloc_past->WI,cells?_some->WQ,new_ne->WS
open Array renaming getElem?_eq_none->XZ,extract_size->WM
open Option renaming getD_some->WD
namespace Go.Proofs.YthafikkkjfielaaGreatDoor
open Tryz RowKit Shelf Joins ChangeShapes WideShapes ChangeAt Deep
open Go.Sort (grow)
namespace F
variable{l:List Aj}{r:List V}{W w:Tw}{a:ADV}{u v:Tv}{T:S.CT}{j k:Nat}{s:Ah}{A:List ADV}{D i:Td}{H:List (Dn×Ah)}{e:Ending}{x:J4}{d:Bool}{p:Tb}
def Ir(l:List (List V)):List (List V):=l.mergeSort λx y=>decide (ALg x y<=0)
theorem AMj(a b c:List V)(f:ALg a b<=0)(g:ALg b c<=0):ALg a c<=0:=by
 rcases AL8 a b with d|d|d
 ·rcases AL8 b c with e|e|e
  ·have:=AMl a b c d e;omega
  ·have:=AMa b c e;subst this;exact f
  omega
 ·have:=AMa a b d;subst this;exact g
 omega
theorem ANP{l l':List (List V)}(f:l'.Perm l)(g:l'.Pairwise λx y=>ALg x y<=0):l'=Ir l:=by
 have d:(Ir l).Pairwise λx y=>ALg x y<=0:=by
  have h:=List.pairwise_mergeSort (le:=λx y:List V=>decide (ALg x y<=0)) (λa b c e d=>by simp at e d ⊢;exact AMj a b c e d) (λa b=>by have:=AMI a b;simp only[WV,decide_eq_true_eq];omega) l
  exact h.imp λh=>by simpa using h
 refine List.Perm.eq_of_pairwise (le:=λx y=>ALg x y<=0) ?_ g d (f.trans (Y1 _ _).symm);intro a b _ _ e d;have:=AMI a b;exact AMa a b (by omega)
theorem Ml(l:List (List V)):(Ir l).length=l.length:=by unfold Ir;rw[List.length_mergeSort]
theorem AOJ{l:List (List V)}(h:r∈Ir l):r∈l:=(Y1 _ _).mem_iff.mp h
theorem AOu{P:Tv->List V->Prop}:∀(a:List Tv)(qj:List (List V)),a.length=qj.length->(∀(j:Nat)x r,a[j]? = some x->qj[j]? = some r->P x r)->∃d:List {p:Tv×List V // P p.1 p.2},d.map (·.1.1)=a/\d.map (·.1.2)=qj
 | [],[],_,_=>⟨[],rfl,rfl⟩
 | [],_ :: _,h,_=>by simp at h
 | _ :: _,[],h,_=>by simp at h
 | v :: a,r :: qj,h,hp=>by obtain⟨d,b,c⟩:=AOu a qj (by simpa using h) (λj x q hx hq=>hp (j+1) x q (by simpa using hx) (by simpa using hq));exact⟨⟨(v,r),hp 0 v r rfl rfl⟩ :: d,by simp[b],by simp[c]⟩
section
variable {α : Type} [Inhabited α] {enc : α → Value}
theorem AMt{zG off m:Nat}{d g:Array α}{os:Array Obj}(v:g.size=d.size)(o:Go.Sort.Holds enc w zG off d)(b:∀x,∃a n c,enc x=Zs a n c){a:Addr}(p:a.block<w.1.size)(f:a.spot=none)(k:w.cell? a=some u)(q:∀s n c,u≠Zs s n c):(sortWorld enc w zG off m g os).cell? a=some u:=by
 unfold sortWorld;rw[Go.Sort.cell?_grow _ _ _ (by simpa using p),Go.Sort.cell?_putRow_other]
 ·exact k
 rcases Yc a.off off with i|i
 ·exact .inr (.inl i)
 rcases Yc a.off (off+g.size) with j|j
 ·refine .inl λe=>?_
  have h:=(o (a.off-off) (by omega)).1;obtain⟨s,n,c,es⟩:=b d[a.off-off]!
  rw[show (⟨zG,off+(a.off-off),none⟩:Addr)=a from by obtain⟨r,t,l⟩:=a;simp only at e f i ⊢;subst e f;congr 1;omega,k,es] at h
  injection h with h;exact q s n c h
 exact .inr (.inr j)
theorem ANQ{zG off m:Nat}{d i:Array α}{os:Array Obj}(q:i.size=d.size)(k:Go.Sort.Holds enc w zG off d)(f:∀x,∃a n c,enc x=Zs a n c)(h:E.Sl w v r):E.Sl (sortWorld enc w zG off m i os) v r:=by
 obtain⟨a,c,e,z,G⟩:=h;refine⟨a,c,e,z,λp=>?_⟩;obtain⟨b,o,s,l,g⟩:=G p;refine⟨b,o,s,?_,λj x D=>?_⟩
 ·unfold sortWorld
  rw[Go.Sort.size_grow];have:(Go.Sort.putRow enc (Go.Sort.ahead w m) zG off i).heap.size=w.1.size:=by simp
  omega
 obtain⟨t,u,y⟩:=g j x D;exact⟨AMt q k f l rfl t (λ_ _ _=>by simp),AMt q k f l rfl u (λ_ _ _=>by simp),AMt q k f l rfl y (λ_ _ _=>by simp)⟩
theorem AM5{B zG off m:Nat}{c:Array α}{os:Array Obj}(d:B<=zG)(f:B<=w.1.size):Below B w (sortWorld enc w zG off m c os):=by
 refine⟨rfl,rfl,rfl,?_,λk e=>?_⟩
 ·unfold sortWorld
  rw[Go.Sort.size_grow];have:(Go.Sort.putRow enc (Go.Sort.ahead w m) zG off c).heap.size=w.1.size:=by simp
  omega
 unfold sortWorld;have b:¬zG=k:=by omega
 have a:k<w.1.size:=by omega
 simp[Go.Sort.grow,Go.Sort.putRow,Go.Sort.mapBlock,Array.getElem?_append,Array.getElem_modify,b,a,Go.Sort.ahead]
end
theorem ANN(x y:List V):(ALg x y<=0)↔¬ALg y x<0:=by have:=AMI x y;omega
theorem AQI{P:Tv×List V->Prop}:Go.Sort.SWO (ltOf λ(x y:{p:Tv×List V // P p})=>ALg x.1.2 y.1.2) where
 irrefl x:=by simp[ltOf,AOQ]
 trans x y z h1 h2:=by
  simp only[ltOf,decide_eq_true_eq] at *;have a:ALg x.1.2 y.1.2 = -1:=by rcases AL8 x.1.2 y.1.2 with e|e|e <;> omega
  have b:ALg y.1.2 z.1.2 = -1:=by rcases AL8 y.1.2 z.1.2 with e|e|e <;> omega
  have:=AMl _ _ _ a b;omega
 ntrans x y z h1 h2:=by simp only[ltOf,decide_eq_false_iff_not] at *;have a:=(ANN y.1.2 x.1.2).mpr h1;have b:=(ANN z.1.2 y.1.2).mpr h2;exact(ANN z.1.2 x.1.2).mp (AMj _ _ _ b a)
theorem ANn(base:Nat)(v:Tv)(n:Nat)(xs:List Tv)(w:Tw)(h:w.ownsRow base 71 1 v n xs)(r:∀u∈xs,u.oneCell'=true)(D:n<=1000000):
 Zc 33 #[v] w λen e=>∃a c,en=Zr (Zs a n c)/\e.ownsRow w.1.size 71 1 (Zs a n c) n xs/\Zb w e:=by
 rcases Di h with⟨f,e0⟩|⟨g,c,f,_,z,t,x⟩
 ·subst f e0
  refine(AnyE.slices_Clone_nil layCloneR 0 0 w).mono ?_;rintro en e⟨rfl,rfl⟩;refine⟨none,0,rfl,?_,XF _ _⟩;have:=h.1;rw[Nat.zero_mul] at this;rw[Yag.1 this];exact WA _ _ _ _
 subst f;obtain⟨y,i,b,m,o⟩:=info_parts eI;refine(AnyE.slices_Clone layCloneR y (Zs none 0 0) 1 24 i b m o rfl (by decide) sizeOf71 g 0 n c xs w h.1 (by unfold maxLen;omega) (by omega) (λj u k=>?_) r).mono ?_
 ·have l:j<n*1:=by
   rcases Yc j xs.length with d|d
   ·rw[h.1] at d;exact d
   rw[Yb d] at k;cases k
  rw[WG,h.cellAt j l];exact k
 rintro en e⟨v',rfl,p,_,s⟩;obtain⟨a,q,rfl,_⟩:=Au p;exact⟨a,q,rfl,p,s⟩
def APn(w:World)(p:Value×List V):Prop:=E.Sl w p.1 p.2/\p.2.length<=1000
theorem AOU(g c:Nat)(R:List Tv)(qj:List (List V))(w:Tw)(hv:R.length=qj.length)(h:w.ownsRow g 71 1 (Zs (some ⟨g,0,none⟩) qj.length c) qj.length R)(he:∀(j:Nat)x r,R[j]? = some x->qj[j]? = some r->E.Sl w x r/\r.length<=1000)(hl:qj.length<=1000000)(hc:qj.length<=c):
 Zc 34 #[Zs (some ⟨g,0,none⟩) qj.length c,.func (.func 35) #[] #[]] w λe w'=>e=Zr (Zu #[])/\iJ w' (Zs (some ⟨g,0,none⟩) qj.length c) (Ir qj)/\Below g w w':=by
 obtain⟨T,U,I⟩:=AOu (P:=λx r=>APn w (x,r)) R qj hv he;have J:T.length=qj.length:=by rw[<-I,XB]
 let α:Type:={p:Tv×List V // APn w (p.1,p.2)}
 letI:Inhabited α:=⟨⟨(Zs none 0 0,[]),⟨none,0,rfl,by simp,λh=>absurd rfl h⟩,by simp⟩⟩
 let enc:α->Tv:=λp=>p.1.1
 let cf:α->α->Int:=λx y=>ALg x.1.2 y.1.2
 have k:∀x:α,∃a n c,enc x=Zs a n c:=λx=>by obtain⟨a,c,e,_⟩:=x.2.1;exact⟨a,_,c,e⟩
 have L:OneCell enc:=λx=>by obtain⟨a,n,c,e⟩:=k x;rw[e];rfl
 let d:Array α:=T.toArray
 have s:d.size=qj.length:=by simp[d,J]
 have hblk:g<w.1.size/\∃o,w.1[g]? = some (Zk o 71 (0,0)):=by
  rcases h.2 with⟨e,_⟩|⟨g',aa,o,e,_,N,_⟩
  ·cases e
  injection e with q _ _;injection q with q;injection q with q _ _;subst q;exact⟨E.Ac N,o,N⟩
 have D:Go.Sort.Holds enc w g 0 d:=λj t=>by
  constructor
  ·have b:j<qj.length*1:=by omega
   rw[WG,h.cellAt j b,<-U,XJ,Y' (by omega)];simp[d,enc,getElem!_pos,J,show j<qj.length by omega]
  obtain⟨_,o,N⟩:=hblk;simp[World.frozen?,N]
 have G:CmpLays1 prog 35 #[] enc cf g 0 d.size w:=λm os dk O x y=>by have h1:=ANQ (m:=m) (os:=os) O D k x.2.1;have h2:=ANQ (m:=m) (os:=os) O D k y.2.1;exact(APM (enc x) (enc y) x.1.2 y.1.2 _ h1 h2 x.2.2 y.2.2)
 have hS:=Any.slices_SortFunc laySort enc L cf AQI 35 #[] g 0 c d w (enters_of func35 (by kernel_rfl) rfl) G D hblk.1 (by omega);rw[s] at hS;apply hS.mono;rintro e w'⟨rfl,l,n,os,hp,O,rfl⟩;obtain⟨Y,_,M⟩:=hp;have f:l.size=qj.length:=by rw[Y,s]
 have q:l.extract 0 qj.length=l:=by rw[<-f];exact WM
 have e2:d.extract 0 qj.length=d:=by rw[<-s];exact WM
 rw[q,e2] at M
 have v:l.toList.map (·.1.2)=Ir qj:=by
  refine ANP ?_ ?_
  ·have:=M.map (·.1.2)
   rw[show d.toList=T from rfl,I] at this;exact this
  rw[List.pairwise_map,Yv];intro i j hi t X;have W:i<l.size:=by simpa using hi
  have b:j<l.size:=by simpa using t
  have:=O i j (XD _) X (by omega);rw[getElem!_pos l i W,getElem!_pos l j b] at this;simp only[ltOf,decide_eq_false_iff_not,cf] at this;exact(ANN _ _).mpr (by simpa using this)
 refine⟨rfl,⟨l.toList.map (·.1.1),⟨_,c,by simp[f],by simp[f];exact hc,λ_=>⟨g,0,rfl,?_,λj x t i u hu=>?_⟩⟩,by simp[Ml,f],λj x r hx hr=>?_⟩,AM5 (XA _) (WY hblk.1)⟩
 ·exact Ya hblk.1 (AM5 (B:=g) (XA _) (WY hblk.1)).size
 ·cases i with
  | succ i=>simp[encR] at hu
  | zero=>
    simp[encR] at hu;subst hu;have b:j<l.size:=by have:=Ax t;simpa using this
    rw[XJ,Y' (by simpa using b)] at t;simp at t;subst t;rw[Nat.mul_one,WH];unfold sortWorld;rw[Go.Sort.cell?_grow _ _ _ (by simpa using hblk.1),Go.Sort.cell?_putRow enc _ g 0 d l (Go.Sort.holds_ahead enc w n g 0 d D) (by omega) j b,getElem!_pos l j b]
 rw[<-v,XJ] at hr;rw[XJ] at hx;cases hz:l.toList[j]? with
 | none=>rw[hz] at hx;cases hx
 | some z=>rw[hz] at hx hr;simp at hx hr;subst hx hr;exact ANQ (by omega) D k z.2.1
theorem Ho{B g n c z:Nat}{T:TypeId}{xs:List Tv}(h:w.ownsRow B T z (Zs (some ⟨g,0,none⟩) n c) n xs):w.ownsRow g T z (Zs (some ⟨g,0,none⟩) n c) n xs:=by
 refine⟨h.1,.inr ?_⟩
 rcases h.2 with⟨e,_⟩|⟨f,b,d,e,_,i⟩
 ·cases e
 refine⟨f,b,d,e,?_,i⟩;injection e with a _ _;injection a with a;injection a with a _ _;omega
theorem AM6(B:Nat)(v:Tv)(qj:List (List V))(w:Tw)(h:Sc B w v qj)(P:qj.length<=1000000)(R:∀r∈qj,r.length<=1000):
 Zc 14 #[v] w λe T=>∃v',e=Zr v'/\iJ T v' (Ir qj)/\Zb w T:=by
 obtain⟨t,O,J,L⟩:=h
 have d:∀u∈t,u.oneCell'=true:=λu hu=>by obtain⟨j,Y,rfl⟩:=List.mem_iff_getElem.mp hu;obtain⟨a,c,e,_⟩:=Au (L j _ _ (Y' Y) (Y' (by omega)));rw[e];rfl
 have i:=Aa (ANn B v qj.length t w J d P);have q:Hid (∀(j:Nat)x r,t[j]? = some x->qj[j]? = some r->E.Sl w x r/\r.length<=1000):=Aa λj x r l o=>⟨E.Cy (L j x r l o),R r (XG o)⟩
 obtain⟨va,vc,rfl,_⟩:=Au J;have H1:=Aa O;clear O J L d R;go_enter func14,ntmps14;go_wp2_with fail;apply i.o.mono;rintro e U⟨a,c,rfl,s,b⟩
 rcases Di s with⟨k,e0⟩|⟨g,c',k,n,hg,M,X⟩
 ·have G:=Yz e0
  subst G;injection k with k _ I;subst k I;have W:=Aa (AnyF.slices_SortFunc_none laySort0 none 0 (.func (.func 35) #[] #[]) U);have f:=Aa b;clear s b i q H1 e0;go_wp2_with fail;apply W.o.mono;rintro e w2⟨rfl,rfl⟩;go_wp2;go_ret;exact⟨_,rfl,⟨[],⟨none,0,rfl,by simp,λh=>absurd rfl h⟩,by rw[Ml];rfl,λj x r l=>by simp at l⟩,f.o⟩
 injection k with k _ I;subst k I;have N:=Aa (AOU g c t qj U H1.o (Ho s) (λj x r l o=>⟨((q.o j x r l o).1).up b,(q.o j x r l o).2⟩) P M);have f:=Aa b;have z:=Aa n;clear s b i q H1 n;go_wp2_with fail;apply N.o.mono;rintro e w2⟨rfl,p,m⟩;have D:=Aa p;have y:=Aa (f.o.trans (m.mono z.o));clear p m N;go_wp2;go_ret;exact⟨_,rfl,D.o,y.o⟩
theorem ALu{next next':Int}(h:Go.Proofs.YthafikkkjfielaaGreatDoor.Wc Go.Proofs.YthafikkkjfielaaGreatDoor.Bv Go.Proofs.YthafikkkjfielaaGreatDoor.Cm l next)(o:next<=next'):M7 l next':=by
 obtain⟨b,c,d,f⟩:=h;refine⟨b,c,λi a=>?_,λi j hij hj=>?_⟩
 ·rw[Y' a,WD]
  obtain⟨⟨g,k,m,n⟩,p⟩:=d _ (Yh a);refine⟨?_,by omega⟩;simp only[Ko,XE,WV,beq_iff_eq,decide_eq_true_eq];exact⟨g,k,m,n⟩
 have a:i<l.length:=by omega
 rw[Y' a,Y' hj,WD,WD];have:=(List.pairwise_iff_getElem.mp f) i j a hj hij;unfold Ez;rw[WJ];refine⟨by simpa using this.1,?_⟩;rw[beq_eq_false_iff_ne];exact λe=>this.2 (toList_inj e)
def n60(n:Nat):Nat:=(n+59) / 60
def Gg(qj:List (List V))(k:Nat):List (List V):=(qj.drop (60*k)).take 60
def Gd(qj:List (List V)):List (List (List V)):=(List.range (n60 qj.length)).map (Gg qj)
theorem Oz(qj:List (List V)):(Gd qj).length=n60 qj.length:=by simp[Gd]
theorem bU{qj:List (List V)}(h:k<n60 qj.length):1<=(Gg qj k).length/\(Gg qj k).length<=60:=by unfold n60 at h;simp only[Gg,XU,WE];omega
theorem Xj{qj p:List (List V)}(h:p∈Gd qj):1<=p.length/\p.length<=60/\∀r∈p,r∈qj:=by simp only[Gd,WN,WX] at h;obtain⟨k,a,rfl⟩:=h;have:=bU a;exact⟨this.1,this.2,λr b=>WK (Ym b)⟩
theorem ALD{qj p:List (List V)}(e:M7 l Lf)(f:∀r∈qj,Hu l r=0)(h:p∈Gd qj):De l p=true:=by obtain⟨b,c,d⟩:=Xj h;exact B4.mpr ⟨e,b,c,λr a=>f r (d r a)⟩
structure AJH(A:List ADV):Prop where
 Iz:A.length<=100
 ints:∀a∈A,Ints a
 kind:A.length<=12\/∀a∈A,a.1=1\/a.1=2\/a.1=3
theorem AAX(h:Fh a)(f:a.1=1\/a.1=2\/a.1=3):(F3 a).size<=3000:=by
 have j:=h.qk;have k:=Dw h.qj;unfold F3
 rcases f with e|e|e
 ·rw[Yae e]
  simp only[Ea];have:(⟨#[97,100,100,32]⟩:Tb).size=4:=rfl;have:(⟨#[32]⟩:Tb).size=1:=rfl;omega
 ·rw[Yad (by omega),Yae e]
  simp only[Ea];have:(⟨#[114,101,109,111,118,101,32]⟩:Tb).size=7:=rfl;omega
 rw[Yad (by omega),Yad (by omega),Yae e];simp only[Ea]
 have d:=Jh (b:=21) (xs:=a.2.2.2.1.map Bm) (sep:=⟨#[44]⟩) (λx g=>by obtain⟨y,i,rfl⟩:=List.mem_map.1 g;exact Dw (h.qv y i))
 have:(⟨#[109,97,115,107,32]⟩:Tb).size=5:=rfl;have:(⟨#[32]⟩:Tb).size=1:=rfl;have c:(⟨#[44]⟩:Tb).size=1:=rfl;have l:=h.Iz;rw[XB,c] at d;omega
theorem X9:∀{l:List ADV},(∀a∈l,Fh a/\(a.1=1\/a.1=2\/a.1=3))->(Ed l).length<=l.length*3001
 | [],_=>by simp[Ed]
 | a :: l,h=>by
   have f:=AAX (h a (Ye ..)).1 (h a (Ye ..)).2;have g:=X9 (l:=l) (λb d=>h b (Yd _ d))
   have e:(Ed (a :: l)).length=(F3 a).1.toList.length+1+(Ed l).length:=by simp only[Ed,WB,XT,XP,WW]
   have c:(F3 a).1.toList.length=(F3 a).size:=by simp
   rw[e,c,XP,Y3];omega
theorem lV{s:Tb}{b:Bool}(d:AJH A)(h:Cv (s,b,A)=true):0<(C6 (s,b,A)).size/\(C6 (s,b,A)).size<=1000000:=by
 have g:∀a∈A,Fh a:=λa c=>by simp only[Cv,XE,XV] at h;exact Qb (h.2 a c) (d.ints a c)
 rcases d.kind with f|f
 ·exact ACx h g f
 have e:(C6 (s,b,A)).size=(I4 s b).size+(Ed A).length:=by show (Nn (s,b,A)).toArray.size=_;rw[WO,Nn,XT,Gm]
 simp only[Cv,XE] at h;have i:=Ri b (XC (Hh h.1) (by decide));have j:=X9 (l:=A) (λa c=>⟨g a c,f a c⟩);have m:=d.Iz
 have k:0<(I4 s b).size:=by unfold I4;have e9:(⟨#[10]⟩:Tb).size=1:=rfl;rw[Ea,e9];omega
 omega
theorem AG0{w0 w:Tw}{k bb n:Nat}{fs:List Int}{mv:Tv}{C:Dn}(h:Jy w0 w k bb n D fs mv C H j e W):∃v a,e=Zr (Zu #[v,a])/\Hid (Jy w0 w k bb n D fs mv C H j (Zr (Zu #[v,a])) W):=by
 have b:=h;obtain⟨n',g,c,f,d,_,_,_,_,⟨t,rfl,_⟩|⟨i,x,rfl,_⟩⟩:=h
 ·exact⟨_,_,rfl,Aa b⟩
 exact⟨_,_,rfl,Aa b⟩
def DoP(w0 w:World)(b bb n:Nat)(D:DataW Unit)(fs:List Int)(mv:Value)(C:Dn)(H:List (Dn×Ah))(j:Nat)(e:Ending)(a:World):Prop :=
 (C.2.2=[]/\e=.returned (.tuple #[Zi (j:Int),.nilIface])/\Zb w a)\/(C.2.2≠[]/\∃W,Zb w W/\Jy w0 W b bb n D fs mv C H j e a)
theorem AHB(w0:Tw)(i base bb n:Nat)(D:Td)(fs:List Int)(mv G:Tv)(H:List (Dn×Ah))(j:Nat)(N:Nat)(r:To)(n1 c1:Nat)(z:Int)(s:To)(n2 t:Nat)(g:Tb)(p:Bool)(k:To)(l:Nat)(L:List Gx)(qj:Int)(w:Tw)(h:Ey w0 w i bb n D fs mv G)(x:i<=w.1.size)(P:n<=90000)(J:U6 D H)(M:La H)(O5:H.length<=40)(O:j<=H.length)(d:Dv base w N (Ae H j) (j:Int) r n1 c1 z s n2 t g p k l L qj)(o:AJH (L.map (·.1)))(y:g.size<=60):
 Zc 10 #[Zp (some (Zd bb 0)),Zp (some (Zd N 0))] w (DoP w0 w i bb n D fs mv (g,p,L.map (·.1)) H j):=by
 have I:Dt w (Zs k L.length l) (L.map (·.1)):=sP (base:=0) (E.Ai d.row (XD _)) d.own d.Vv;have c:=Aa (λW(m:Zb w W)=>AHx w0 i bb n D fs mv G g p (L.map (·.1)) k L.length l H j r n1 c1 z s n2 t W (h.up m) (XC x m.size) P J M O5 O (d.snap.up m) (I.below m) o.Iz (lV o) y (λa ha hr=>Qb hr (o.ints a ha)));obtain⟨R,T,U,V,X,Y,y6,y7,yf⟩:=F2 d.box;clear h J M d o I
 by_cases hL:L.length=0
 ·have q:=Aa (Yag.1 hL)
  have u:((L.length:Nat):Int)=0:=by omega
  clear hL c;go_enter func10,ntmps10;go_wp2_with fail;go_ret2;exact .inl ⟨by rw[q.o];rfl,rfl,XF _ _⟩
 have q:Hid (L.map (·.1)≠[]):=Aa (λe=>hL (by have:=congrArg List.length e;simpa using this));have u:¬((L.length:Nat):Int)=0:=by omega
 have f:=Aa (enters_of func27 (by kernel_rfl) rfl);have b:=Aa ((c.o w.drew ((XF _ _).drew)).mono λe w'=>AG0);unfold K4 at b;clear hL c;go_enter func10,ntmps10;go_wp2_with fail
 go_region_law
  (first
    | (refine Nh (by rfl) 27 (.tmp 23) (.tmp 27) (.tmp 31) 25 56 53 (by rfl) (Zp (some (Zd bb 0))) (Zg #[Zi (j:Int),Zs r n1 c1,Zi z,Zs s n2 t]) (Zg #[Zt g,Zo p,Zs k L.length l]) (by rfl) (by rfl) (by rfl) f.o _ b.o ?_
       rintro e w2⟨v,er,rfl,H2⟩;refine⟨_,rfl,?_⟩)
    | fail)
 all_goals
  clear b f R T U V X Y y6 y7 yf;go_wp2;go_ret2;exact .inr ⟨q.o,w.drew,(XF _ _).drew,H2.o⟩
def Km(a:ByteArray)(l:List Aj):Nat->List (List (List V))->DataW Unit->DataW Unit
 | _,[],D=>D
 | k,p :: ps,D=>Km a l (k+1) ps (D.put (B.lit (Eh (Bw a k))) (Pa l p))
def N5(b:ByteArray)(k:Nat)(a:List (List (List V))):List ADV:=(a.zipIdx k).map λq=>(1,Bw b q.2,(q.1.length:Int),[],[],0)
def Tog(s:Ah)(n:Nat):Prop:=(∀e∈s.qx,e.2.2=[])/\s.qx.length<=n60 n
def AEz(D:DataW Unit)(s:Ah)(xs:List A6)(b:ByteArray)(a:DataW Unit)(c:Bool)(A:List ADV)(qj:Int):Prop :=
 s.qz≠[]/\c=true/\qj=(Bo s.qz .nil xs).1.length /\
  ((Tog s (Bo s.qz .nil xs).1.length/\a=D/\A=[]) \/
   (¬Tog s (Bo s.qz .nil xs).1.length/\(∀p∈Gd (Fc s.qz xs),De s.qz p=true)/\a=Km b s.qz 0 (Gd (Fc s.qz xs)) D/\A=(s.qx.map λe=>((2,e.1,0,[],[],0):ADV))++N5 b 0 (Gd (Fc s.qz xs))))
def AMN(s:Ah)(a:Nat)(b:Value):Prop:=(s.qz=[]/\b=.iface 91 (Zi 6))\/a≠0
def Mw:Prop:=∀(w0:World)(b bb n:Nat)(D:DataW Unit)(fs:List Int)(mv c:Value)(H:List (Dn×Ah))(U:List ByteArray)(a:ByteArray)(xs:List A6)(w:World),iK w0 w b bb n D fs mv c H U a->C7 D (Ae H H.length) xs ->
 Zc 26 #[.pointer (some ⟨bb,0,none⟩),.string a] w (Kd w0 w b bb n D mv H a (AMN (Ae H H.length) b) (AEz D (Ae H H.length) xs a))
def nK:Aj:=(0,⟨#[]⟩,0,false,0,0,⟨#[]⟩)
def V7(D:DataW Unit)(s:Ah)(xs:List A6)(c:ByteArray)(x:J4)(a:DataW Unit)(b:Bool)(A:List ADV)(qj:Int):Prop :=
 (x.Qk=0/\AIP D s x.qz a b A qj)\/(x.Qk=1/\AId D s x.change (x.qz.headD nK) x.name x.tw a b A qj)\/(x.Qk=2/\AIO D s c x.qj a b A qj) \/
 (x.Qk=3/\∃T,x.tree T/\AIX D s xs T a b A qj)\/(x.Qk=4/\∃T,x.tree T/\AIS D s xs c T x.A3 a b A qj)\/((x.Qk<0\/4<x.Qk)/\AEz D s xs c a b A qj)
def AB0(s:Ah)(xs:List A6)(a:Nat)(fs:List Int)(x:J4)(b:Value):Prop:=(x.Qk=0->AIU s x.qz)/\(x.Qk=2->AGF s fs x.qj)/\(x.Qk=3->∃T,x.tree T/\AIV s T)/\(x.Qk<0\/4<x.Qk->AMN s a b)/\(x.Qk=1->AOa s x.change (x.qz.headD nK) x.name x.tw)/\(x.Qk=4->∃T,x.tree T/\AOf s xs T x.A3 fs)
structure AA5(x:J4):Prop where
 qz:∀c∈x.qz,Vp c
 Iz:x.qz.length<=20
 qj:K9 x.qj
 ADp:x.qj.length<=100
 A3:∀s∈x.A3,Ks s.2
theorem mB:∀(k:Nat)(l:List Aj),(∀c∈l,Vp c)->k+l.length<=1000->∀c∈Nl k l,Vp c
 | _,[],_,_,c,a=>by cases a
 | k,d :: l,h,hk,c,a=>by
   simp at hk
   rcases List.mem_cons.1 a with rfl|a
   ·exact⟨⟨by show -9223372036854775808<=(k:Int);omega,by show (k:Int)<=9223372036854775807;omega⟩,(h d (Ye ..)).2⟩
   exact mB (k+1) l (λe b=>h e (Yd _ b)) (by omega) c a
theorem Jg{n:Int}(a : -1000000<=n)(b:n<=1000000):Lu n:=⟨by omega,by omega⟩
theorem AAl{xs:List A6}(d:C7 D s xs)(f:Good Bv Cm s)(T:S.CT):(∀a∈xs.flatMap (Vm s.qz T),Ints a/\(a.1=1\/a.1=2\/a.1=3))/\(xs.flatMap (Vm s.qz T)).length<=40:=by
 refine⟨λa b=>?_,?_⟩
 ·obtain⟨x,g,b⟩:=List.mem_flatMap.1 b
  have e:x.1∈s.qx:=by rw[<-d.Lz.qx];exact List.mem_map.2 ⟨x,g,rfl⟩
  have j:=(O6 s.qz T x (d.qj x g)).1;have i:=f.qj _ e;unfold Vm at b;split at b
  ·cases b
  split at b
  ·simp at b;subst b
   exact⟨⟨Im,(λy c=>by cases c),(λy c=>by cases c),Im⟩,.inr (.inl rfl)⟩
  simp at b;subst b;refine⟨⟨Im,λy c=>?_,(λy c=>by cases c),Im⟩,.inr (.inr rfl)⟩;have:=j.2 y c;exact Jg (by omega) (by omega)
 have k:=rV s.qz T xs;have h:=congrArg List.length d.Lz.qx;rw[XB] at h;have:=f.Iz;omega
theorem AH5{α:Type}{l:List α}{q:α×Nat}(h:q∈l.zipIdx k):q.1∈l:=by have:=Y2 (f:=Prod.fst) h;rwa[List.zipIdx_map_fst] at this
theorem nH{n m:Nat}(h:n<=60*m):n60 n<=m:=by unfold n60;omega
theorem aN{xs:List A6}(a:C7 D s xs)(c:Good Bv Cm s)(T:S.CT):(Bo s.qz T xs).1.length<=60*40:=by have d:=(L0 s.qz T xs a.Lz.each).2;have b:=congrArg List.length a.Lz.qx;rw[XB] at b;have:=c.Iz;have:60*xs.length<=60*40:=Nat.mul_le_mul_left _ (by omega);omega
theorem AEj{w:Td}{xs:List A6}{t:Tb}{L:Bool}{qj:Int}(o:C7 D s xs)(n:Good Bv Cm s)(p:∀c∈s.qz,Ib c)(N:0<=s.next/\s.next<=1000)(r:AA5 x)(h:V7 D s xs t x w L A qj):AJH A:=by
 have uB:∀c∈s.qz,Vp c:=λc h=>⟨(p c h).id,(p c h).kind,(p c h).num⟩
 rcases h with⟨_,_,_,_,_,rfl,_⟩|⟨_,_,⟨l',v,j,rfl⟩,_⟩|⟨_,_,g,_,_,rfl,_⟩|⟨_,T,_,_,_,_,_,rfl,_⟩|⟨_,T,_,_,_,_,_,ts,_,⟨_,_,rfl⟩|⟨_,R,rfl,g,_,rfl⟩⟩|⟨_,_,_,_,⟨_,_,rfl⟩|⟨_,_,_,rfl⟩⟩
 ·have:=r.Iz
  exact⟨by simp,λa b=>by simp at b;subst b;exact⟨Im,(λy f=>by cases f),mB 1 x.qz r.qz (by omega),Jg (by show (-1000000:Int)<=((x.qz.length+1:Nat):Int);omega) (by show ((x.qz.length+1:Nat):Int)<=1000000;omega)⟩,.inl (by simp)⟩
 ·refine⟨by simp,λa b=>?_,.inl (by simp)⟩
  simp at b;subst b;have i:=rQ j;refine⟨Im,(λy f=>by cases f),λc d=>?_,Jg (by show (-1000000:Int)<=v;omega) (by show v<=1000000;omega)⟩
  rcases j with⟨_,_,rfl,_⟩|⟨_,k,_,_,_,rfl,_⟩|⟨_,k,_,u,_,_,rfl,_⟩
  ·rcases List.mem_append.1 d with d|d
   ·exact uB c d
   rw[List.mem_singleton.1 d]
   have I:Vp (x.qz.headD nK):=by
    cases hxc:x.qz with
    | nil=>exact⟨⟨by decide,by decide⟩,⟨by decide,by decide⟩,⟨by decide,by decide⟩⟩
    | cons y l=>exact r.qz y (by rw[hxc];exact Ye ..)
   exact⟨Jg (by show (-1000000:Int)<=s.next;omega) (by show s.next<=1000000;omega),I.2⟩
  ·rcases List.mem_append.1 d with d|d
   ·exact uB c (Ym d)
   exact uB c (WK d)
  rcases Yu d with d|rfl
  ·exact uB c d
  exact(show Vp (rR s.qz[k]! _) from⟨(uB s.qz[k]! (Jj u)).1,(uB s.qz[k]! (Jj u)).2⟩)
 ·have:=(B4.mp g).2.2.1
  exact⟨by simp,λa b=>by simp at b;subst b;exact⟨Jg (by show (-1000000:Int)<=((x.qj.length:Nat):Int);omega) (by show ((x.qj.length:Nat):Int)<=1000000;omega),(λy f=>by cases f),(λy f=>by cases f),Im⟩,.inl (by simp)⟩
 ·obtain⟨i,z⟩:=AAl o n T
  exact⟨by omega,λa b=>(i a b).1,.inr λa b=>(i a b).2⟩
 ·exact⟨by simp,(λa b=>by cases b),.inl (by simp)⟩
 ·obtain⟨i,z⟩:=AAl o n T
  have G:=(B4.mp g).2.2.1;refine⟨by rw[XP];omega,λa b=>?_,.inr λa b=>?_⟩
  ·rcases List.mem_cons.1 b with rfl|b
   ·exact⟨Jg (Yab (by decide) (Int.natCast_nonneg _)) (Yab (Int.ofNat_le.2 G) (by decide)),(λy f=>by cases f),(λy f=>by cases f),Im⟩
   exact(i a b).1
  rcases List.mem_cons.1 b with rfl|b
  ·exact .inl rfl
  exact(i a b).2
 ·exact⟨by simp,(λa b=>by cases b),.inl (by simp)⟩
 have M:n60 (Fc s.qz xs).length<=40:=nH (by unfold Fc;rw[XB];exact aN o n .nil)
 have m:∀a∈(s.qx.map λe=>((2,e.1,0,[],[],0):ADV))++N5 t 0 (Gd (Fc s.qz xs)),Ints a/\(a.1=1\/a.1=2\/a.1=3):=λa b=>by
  rcases List.mem_append.1 b with b|b
  ·obtain⟨e,_,rfl⟩:=List.mem_map.1 b
   exact⟨⟨Im,(λy f=>by cases f),(λy f=>by cases f),Im⟩,.inr (.inl rfl)⟩
  obtain⟨q,J,rfl⟩:=List.mem_map.1 b;have O:=Xj (AH5 J);exact⟨⟨Jg (by show (-1000000:Int)<=((q.1.length:Nat):Int);omega) (by show ((q.1.length:Nat):Int)<=1000000;omega),(λy f=>by cases f),(λy f=>by cases f),Im⟩,.inl rfl⟩
 refine⟨?_,λa b=>(m a b).1,.inr λa b=>(m a b).2⟩;have:=n.Iz;simp[N5,Oz];omega
theorem uX(b:Tb)(l:List Aj):∀(a:List (List (List V)))(k:Nat)(D:Td),Maps.IsMap D->Maps.IsMap (Km b l k a D)
 | [],_,_,h=>h
 | _ :: a,k,_,h=>uX b l a (k+1) _ (h.put _ _)
theorem lU(b:Tb)(c:Plain b)(l:List Aj):∀(a:List (List (List V)))(k:Nat)(D:Td)(x:A6),(∀j,k<=j->j<=1000000->x.1.1≠Bw b j)->k+a.length<=1000000->Gt D x->Gt (Km b l k a D) x
 | [],_,_,_,_,_,h=>h
 | p :: a,k,D,x,hne,hk,h=>by simp at hk;exact lU b c l a (k+1) _ x (λj d=>hne j (by omega)) (by omega) (h.AFx (λe=>hne k (XA _) (by omega) e.symm) _)
theorem ABh(a:Tb)(d:Plain a)(i:a.size<=12)(l:List Aj):∀(b:List (List (List V)))(k:Nat)(D:Td),Maps.IsMap D->k+b.length<=1000->(∀p∈b,De l p=true/\K9 p)->∀q∈b.zipIdx k,Gt (Km a l k b D) (((Bw a q.2,(q.1.length:Int),[]),l,q.1):A6)
 | [],_,_,_,_,_,q,c=>by cases c
 | p :: b,k,D,hD,hk,h,q,c=>by
   simp at hk;rw[List.zipIdx_cons] at c
   rcases List.mem_cons.1 c with rfl|c
   ·refine lU a d l b (k+1) _ _ (λj m f e=>?_) (by omega) (bD hD (h p (Ye ..)).1 (h p (Ye ..)).2 ?_)
    ·have:=(S5 d d e).2 (by omega) f
     omega
    have:=Vu a k (by omega);show (Bw a k).size<=1000;omega
   exact ABh a d i l b (k+1) _ (hD.put _ _) (by omega) (λy g=>h y (Yd _ g)) q c
theorem AHC(b:Tb)(k:Nat)(a:List (List (List V))):N5 b k a=((a.zipIdx k).map λq=>(Bw b q.2,(q.1.length:Int))).map λe=>((1,e.1,e.2,[],[],0):ADV):=by unfold N5;rw[XM];rfl
theorem mS(qk:Tb)(qv:List Int)(l:List Aj)(T:S.CT)(c:List Aj):∀(b:List (List (List V)))(f:Int),∀z∈(Oe qk qv l T c f b).1,∃p∈b,∃q∈p,z.2.2=l.map (pick c q)
 | [],_,z,a=>by cases a
 | p :: b,f,z,a=>by
   simp only[Oe] at a;split at a
   ·rcases List.mem_append.1 a with a|a
    ·obtain⟨q,i,e⟩:=List.mem_map.1 (iD _ _ _ _ _ _ z a)
     exact⟨p,Ye ..,q,i,e.symm⟩
    obtain⟨g,d,h⟩:=mS qk qv l T c b _ z a;exact⟨g,Yd _ d,h⟩
   obtain⟨g,d,h⟩:=mS qk qv l T c b _ z a;exact⟨g,Yd _ d,h⟩
theorem uQ(l:List Aj)(T:S.CT):∀(xs:List A6),∀z∈(Bo l T xs).1,∃x∈xs,∃q∈x.2.2,z.2.2=l.map (pick (By x.2.1) q)
 | [],z,a=>by cases a
 | x :: xs,z,a=>by
   simp only[Bo] at a
   rcases List.mem_append.1 a with a|a
   ·unfold N9 at a
    obtain⟨p,b,q,c,e⟩:=mS _ _ _ _ _ _ _ z a;exact⟨x,Ye ..,q,(Ij b).2.2 q c,e⟩
   obtain⟨y,d,h⟩:=uQ l T xs z a;exact⟨y,Yd _ d,h⟩
theorem ADx{xs:List A6}(g:C7 D s xs)(h:∀c∈s.qz,Ib c):∀z∈(Bo s.qz T xs).1,∀v∈z.2.2,Ks v:=λz j v f=>by
 obtain⟨x,i,q,d,e⟩:=uQ s.qz T xs z j;have b:=g.Lz.each x i;rw[e] at f;exact AIe (b.i64 q d) (O7.mp ((B4.mp b.ok).2.2.2 q d)).1 (λc a=>(h c a).num) v f
theorem APP{xs:List A6}{t:Tb}{ts:List Nat}{A3:List Vi}{R:List (List V)}(n:Maps.IsMap D)(e:C7 D s xs)(g:Good Bv Cm s)(p:∀c∈s.qz,Ib c)(I:t.size<=12)(f:Maps.has D (B.lit (Eh (Bw t 0)))=false)(w:∀q∈A3,Ks q.2)(o:R=(Bo s.qz T xs).1.map (λz=>tU (Ly ts (A3.map (·.2))) z.2.2))(h:De s.qz R=true)(Eb:Int):
 C7 (D.put (B.lit (Eh (Bw t 0))) (Pa s.qz R)) ⟨Eb,s.qz,s.next,(xs.filterMap (pO s.qz T)).map (·.1)++[(Bw t 0,(R.length:Int),[])]⟩ (xs.filterMap (pO s.qz T)++[((Bw t 0,(R.length:Int),[]),s.qz,R)]):=by
 have b:K9 R:=λr l v j=>by
  rw[o] at l;obtain⟨z,k,rfl⟩:=List.mem_map.1 l
  rcases ABg j with j|⟨u,x⟩
  ·exact ADx e p z k v j
  obtain⟨i,_,a⟩:=bI x;rw[XJ] at a;cases hq:A3[i]? with
  | none=>rw[hq] at a;cases a
  | some y=>rw[hq] at a;simp at a;rw[<-a];exact w y (XG hq)
 have m:=(e.put f (Pa s.qz R)).go g T 0;refine m.add (bD n h b (by have:=Vu t 0 (by omega);omega)) (show ∀d∈s.qz,d.1<s.next from We g) ?_ Eb;have:=congrArg List.length e.Lz.qx;rw[XB] at this;have G:=List.length_filterMap_le (pO s.qz T) xs;have:=g.Iz;omega
theorem AI2{W:Td}{s t:Ah}{xs:List A6}{n:Tb}{rd:Bool}{qj:Int}(J:Maps.IsMap D)(a:C7 D s xs)(b:Good Bv Cm s)(Y:∀c∈s.qz,Ib c)(hp:Plain n)(hz:n.size<=12)(m:∀k,Maps.has D (B.lit (Eh (Bw n k)))=false)(hx:AA5 x)(h:V7 D s xs n x W rd A qj)(l:Bi s (n,rd,A) t)(X:A≠[]):∃ys,C7 W t ys/\t.next<=max (s.next+1) 9:=by
 have P:∀k,k<=1000->(Bw n k).size<=1000:=λk hk=>by have:=Vu n k hk;omega
 have O:∀k,¬Bw n k∈s.qx.map (·.1):=λk w=>by rw[<-a.Lz.qx,XM] at w;obtain⟨y,j,e⟩:=List.mem_map.1 w;have G:=(a.Lz.each y j).has;simp only[Function.comp] at e;rw[e,m k] at G;cases G
 rcases h with⟨_,L,_,rfl,_,rfl,_⟩|⟨_,_,⟨l',nx,u,rfl⟩,rfl,_⟩|⟨_,f,d,rfl,_,rfl,_⟩|⟨_,T,_,f,_,rfl,_,rfl,_⟩|⟨_,T,_,f,_,_,_,ts,aa,⟨_,_,rfl⟩|⟨_,R,hR,d,rfl,rfl⟩⟩|⟨_,f,_,_,⟨_,_,rfl⟩|⟨_,d,rfl,rfl⟩⟩
 ·obtain⟨rfl,i,N⟩:=Ry l
  have U:xs=[]:=by have:=a.Lz.qx;rw[a.Lz.bare L] at this;simpa using this
  subst U;have h8:=i.2.1;rw[dK] at h8;refine⟨[],a.qz i.2.1 (λe=>by have:=i.1;rw[e] at this;simp at this) (λy j=>by cases j) N _,?_⟩;show ((x.qz.length+1:Nat):Int)<=_;omega
 ·obtain⟨rfl,i,N⟩:=Ry l
  have G:=rQ u;refine⟨xs,a.qz i.2.1 (λe=>by have:=i.1;rw[e] at this;simp at this) (λy j=>AJb u (a.link y j) (a.below y j)) N _,?_⟩;show nx<=_;omega
 ·have o:=eH l
  subst o;exact⟨_,(a.put (m 0) _).add (bD J d hx.qj (P 0 (by omega))) (We b) (by have:=congrArg List.length a.Lz.qx;rw[XB] at this;have:=b.Iz;omega) _,by show s.next<=_;omega⟩
 ·have o:=zU a.Lz.qx b.once a.qj l
  subst o;exact⟨_,a.go b T _,by show s.next<=_;omega⟩
 ·exact absurd rfl X
 ·have o:=AAO a.Lz.qx a.qj (O 0) b.once l
  subst o;exact⟨_,APP J a b Y hz (m 0) hx.A3 hR d _,by show s.next<=_;omega⟩
 ·exact absurd rfl X
 rw[AHC] at l;have o:=tW b.once l;subst o;have hl:n60 (Fc s.qz xs).length<=40:=nH (by unfold Fc;rw[XB];exact aN a b .nil)
 have I:∀p∈Gd (Fc s.qz xs),K9 p:=λp g r i v hv=>by have w:=(Xj g).2.2 r i;unfold Fc at w;obtain⟨z,V,rfl⟩:=List.mem_map.1 w;exact(No a b Y z V v hv).1
 have M:=ABh n hp hz s.qz (Gd (Fc s.qz xs)) 0 D J (by rw[Oz];omega) (λp g=>⟨d p g,I p g⟩);refine⟨((Gd (Fc s.qz xs)).zipIdx 0).map λq=>(((Bw n q.2,(q.1.length:Int),[]),s.qz,q.1):A6),?_,by show s.next<=_;omega⟩
 have:=AHL (D:=Km n s.qz 0 (Gd (Fc s.qz xs)) D) (M9 b) (We b) (s.Eb+1) (((Gd (Fc s.qz xs)).zipIdx 0).map λq=>(((Bw n q.2,(q.1.length:Int),[]),s.qz,q.1):A6)) (λy j=>by obtain⟨q,hq,rfl⟩:=List.mem_map.1 j;exact⟨M q hq,rfl,rfl⟩) (by simp[Oz];omega) f (ADC b)
 rw[XM] at this ⊢;exact this
def ALj(σ:ByteArray->ByteArray)(x:A6):A6:=(AL3 σ x.1,x.2)
def AON(σ:ByteArray->ByteArray)(f:Px):Px:=(σ f.1,f.2)
theorem ANt(σ:Tb->Tb)(p:Tb)(m:List Int)(l:List Aj)(T:S.CT):∀(rs:List (List V))(i:Int),Jw (σ p) m l T i rs=(Jw p m l T i rs).map (AON σ)
 | [],_=>rfl
 | r :: rs,i=>by simp only[Jw,ANt σ p m l T rs];split <;> simp[AON]
theorem AOt(σ:Tb->Tb)(p:Tb)(m:List Int)(l:List Aj)(T:S.CT)(b:List Aj):∀(a:List (List (List V)))(i:Int),Oe (σ p) m l T b i a=((Oe p m l T b i a).1.map (AON σ),(Oe p m l T b i a).2)
 | [],_=>rfl
 | q :: a,i=>by simp only[Oe,AOt σ p m l T b a,ANt];split <;> simp
theorem AOo(σ:Tb->Tb)(l:List Aj)(T:S.CT)(x:A6):N9 l T (ALj σ x)=((N9 l T x).1.map (AON σ),(N9 l T x).2):=AOt σ _ _ _ _ _ _ _
theorem ALz(σ:Tb->Tb)(l:List Aj)(T:S.CT):∀xs:List A6,Bo l T (xs.map (ALj σ))=((Bo l T xs).1.map (AON σ),(Bo l T xs).2)
 | []=>rfl
 | x :: xs=>by simp only[XO,Bo,ALz σ l T xs,AOo,XH]
theorem AMr(σ:Tb->Tb)(l:List Aj)(xs:List A6):Fc l (xs.map (ALj σ))=Fc l xs:=by unfold Fc;rw[ALz,XM];rfl
theorem ANG(σ:Tb->Tb)(l:List Aj)(x:A6):E4 l (ALj σ x)=(E4 l x).map (AON σ):=ANt σ _ _ _ _ _ _
theorem ANw(σ:Tb->Tb)(l:List Aj)(T:S.CT)(x:A6):Ct l T (ALj σ x)=Ct l T x:=by unfold Ct;rw[ANG,List.filter_map,XM];rfl
theorem APb(σ:Tb->Tb)(l:List Aj)(T:S.CT)(x:A6):Vm l T (ALj σ x)=(Vm l T x).map (ALh σ):=by
 unfold Vm;rw[ANw,ANG,XB];split
 ·rfl
 split <;> rfl
theorem ANM(σ:Tb->Tb)(l:List Aj)(T:S.CT):∀xs:List A6,(xs.map (ALj σ)).flatMap (Vm l T)=(xs.flatMap (Vm l T)).map (ALh σ)
 | []=>rfl
 | x :: xs=>by simp only[XO,WB,XH,ANM σ l T xs,APb]
theorem AOg{σ:Tb->Tb}{s tx':Tb}(h:∀k,σ (Bw s k)=Bw tx' k)(k:Nat)(a:List (List (List V))):(N5 s k a).map (ALh σ)=N5 tx' k a:=by
 unfold N5;rw[XM];refine Yn λq _=>?_
 show ALh σ (1,Bw s q.2,(q.1.length:Int),[],[],0)=_;unfold ALh;rw[Yad (show ¬(1:Int)=4 by decide)];show ((1:Int),σ (Bw s q.2),_)=_;rw[h]
theorem AN9(σ:Tb->Tb)(s:Ah)(n:Nat):Tog (ALv σ s) n↔Tog s n:=by
 unfold Tog ALv;simp only[XB];constructor
 ·rintro⟨a,b⟩
  exact⟨λe c=>a (AL3 σ e) (List.mem_map.2 ⟨e,c,rfl⟩),b⟩
 rintro⟨a,b⟩;refine⟨λe c=>?_,b⟩;obtain⟨e0,d,rfl⟩:=List.mem_map.1 c;exact a e0 d
theorem ANc(l:List Aj)(T:S.CT)(xs:List A6):∀a∈xs.flatMap (Vm l T),a.1≠1:=λa b=>by
 obtain⟨x,_,b⟩:=List.mem_flatMap.1 b;unfold Vm at b;split at b
 ·cases b
 split at b
 ·simp at b;subst b;exact show ¬(2:Int)=1 by decide
 simp at b;subst b;exact show ¬(3:Int)=1 by decide
theorem ANl(c:Tb)(b:List (List (List V))):∀a∈N5 c 0 b,∃k,k<b.length/\a.2.1=Bw c k:=λa d=>by
 obtain⟨q,e,rfl⟩:=List.mem_map.1 d;have:=(List.mem_zipIdx e).2.1;exact⟨q.2,by simpa using this,rfl⟩
theorem APe{v:Td}{xs:List A6}{t:Tb}{z:Bool}{qj:Int}(h:V7 D s xs t x v z A qj):
 ∃F:List (List (List V)),v=Km t s.qz 0 F D/\F.length<=A.length/\(∀a∈A,a.1=1->∃k,k<F.length/\a.2.1=Bw t k)/\∀(σ:Tb->Tb)(i:Td)(tx':Tb),(∀k,σ (Bw t k)=Bw tx' k)->V7 i (ALv σ s) (xs.map (ALj σ)) tx' x (Km tx' s.qz 0 F i) z (A.map (ALh σ)) qj:=by
 have w:∀(σ:Tb->Tb)(tx':Tb),(∀k,σ (Bw t k)=Bw tx' k)->∀n:Int,ALh σ (1,Bw t 0,n,[],[],0)=(1,Bw tx' 0,n,[],[],0):=λσ tx' g n=>by unfold ALh;rw[Yad (show ¬(1:Int)=4 by decide)];show ((1:Int),σ (Bw t 0),_)=_;rw[g]
 have r:∀(l:List Aj)(n:Int),∀a∈([(4,⟨#[]⟩,0,[],l,n)]:List ADV),a.1=1->∃k,k<([]:List (List (List V))).length/\a.2.1=Bw t k:=λl n a b e=>by rw[XW] at b;subst b;exact absurd e (show ¬(4:Int)=1 by decide)
 rcases h with⟨f,c,d,rfl,m,rfl,q⟩|⟨f,c,⟨l',I,d,rfl⟩,rfl,m,o⟩|⟨f,c,d,rfl,m,rfl,q⟩|⟨f,T,u,c,d,rfl,m,rfl,q⟩|⟨f,T,u,c,d,j,m,ts,y,⟨o,rfl,rfl⟩|⟨o,R,G,q,rfl,rfl⟩⟩|⟨f,c,d,j,⟨o,rfl,rfl⟩|⟨o,q,rfl,rfl⟩⟩
 ·exact⟨[],rfl,XD _,r _ _,λσ i tx' g=>.inl ⟨f,c,d,rfl,m,rfl,q⟩⟩
 ·exact⟨[],rfl,XD _,r _ _,λσ i tx' g=>.inr (.inl ⟨f,c,⟨l',I,d,rfl⟩,rfl,m,o⟩)⟩
 ·exact⟨[x.qj],rfl,XA _,λa b _=>⟨0,by simp,by rw[XW] at b;subst b;rfl⟩,λσ i tx' g=>.inr (.inr (.inl ⟨f,c,d,rfl,m,by simp only[XO,X4,w σ tx' g],q⟩))⟩
 ·exact⟨[],rfl,XD _,λa b e=>absurd e (ANc _ _ _ a b),λσ i tx' g=>.inr (.inr (.inr (.inl ⟨f,T,u,c,d,rfl,m,(ANM σ s.qz T xs).symm,by rw[q];show _=(((Bo s.qz T (xs.map (ALj σ))).1.length:Nat):Int);rw[ALz,XB]⟩)))⟩
 ·refine⟨[],rfl,XD _,λa b=>absurd b XQ,λσ i tx' g=>.inr (.inr (.inr (.inr (.inl ⟨f,T,u,c,d,j,?_,ts,y,.inl ⟨?_,rfl,rfl⟩⟩))))⟩
  ·rw[m];show _=(((Bo s.qz T (xs.map (ALj σ))).1.length:Nat):Int);rw[ALz,XB]
  show (Bo s.qz T (xs.map (ALj σ))).1=[];rw[ALz,o];rfl
 ·refine⟨[R],rfl,by simp,λa b e=>?_,λσ i tx' g=>.inr (.inr (.inr (.inr (.inl ⟨f,T,u,c,d,j,?_,ts,y,.inr ⟨?_,R,?_,q,rfl,?_⟩⟩))))⟩
  ·rcases List.mem_cons.1 b with rfl|b
   ·exact⟨0,by simp,rfl⟩
   exact absurd e (ANc _ _ _ a b)
  ·rw[m];show _=(((Bo s.qz T (xs.map (ALj σ))).1.length:Nat):Int);rw[ALz,XB]
  ·show (Bo s.qz T (xs.map (ALj σ))).1≠[]
   rw[ALz];exact λe=>o (List.map_eq_nil_iff.1 e)
  ·show R=(Bo s.qz T (xs.map (ALj σ))).1.map _
   rw[ALz,XM,G];rfl
  rw[XO,w σ tx' g];show _ :: _=_ :: (xs.map (ALj σ)).flatMap (Vm s.qz T);rw[ANM]
 ·refine⟨[],rfl,XD _,λa b=>absurd b XQ,λσ i tx' g=>.inr (.inr (.inr (.inr (.inr ⟨f,c,d,?_,.inl ⟨?_,rfl,rfl⟩⟩))))⟩
  ·rw[j];show _=(((Bo s.qz .nil (xs.map (ALj σ))).1.length:Nat):Int);rw[ALz,XB]
  show Tog (ALv σ s) (Bo s.qz .nil (xs.map (ALj σ))).1.length;rw[ALz,XB];exact(AN9 σ s _).2 o
 refine⟨Gd (Fc s.qz xs),rfl,by simp[N5],λa b e=>?_,λσ i tx' g=>.inr (.inr (.inr (.inr (.inr ⟨f,c,d,?_,.inr ⟨?_,?_,?_,?_⟩⟩))))⟩
 ·rcases List.mem_append.1 b with b|b
  ·obtain⟨e0,_,rfl⟩:=List.mem_map.1 b
   exact absurd e (show ¬(2:Int)=1 by decide)
  exact ANl t _ a b
 ·rw[j];show _=(((Bo s.qz .nil (xs.map (ALj σ))).1.length:Nat):Int);rw[ALz,XB]
 ·show ¬Tog (ALv σ s) (Bo s.qz .nil (xs.map (ALj σ))).1.length
  rw[ALz,XB];exact λe=>o ((AN9 σ s _).1 e)
 ·show ∀p∈Gd (Fc s.qz (xs.map (ALj σ))),De s.qz p=true
  rw[AMr];exact q
 ·show _=Km tx' s.qz 0 (Gd (Fc s.qz (xs.map (ALj σ)))) i
  rw[AMr]
 show List.map (ALh σ) (_++_)=(s.qx.map (AL3 σ)).map _++N5 tx' 0 (Gd (Fc s.qz (xs.map (ALj σ))));rw[AMr,XH,AOg g,XM,XM];rfl
theorem AOE{nb cb:Tb->Bool}{fb:Int->Int->Int->Tb->Bool}{s t:Ah}(h:pQ nb cb fb s a t)(c:a.1≠4):t.qz=s.qz/\t.next=s.next:=by
 rcases h with⟨_,_,rfl⟩|⟨_,_,rfl⟩|⟨_,_,rfl⟩|⟨b,_,_⟩
 ·exact⟨rfl,rfl⟩
 ·exact⟨rfl,rfl⟩
 ·exact⟨rfl,rfl⟩
 exact absurd b c
theorem ANI{nb cb:Tb->Bool}{fb:Int->Int->Int->Tb->Bool}:∀{A:List ADV}{s t:Ah},Il nb cb fb s A t->G8 A=false->t.qz=s.qz/\t.next=s.next
 | [],_,_,h,_=>by simp only[Il] at h;rw[h];exact⟨rfl,rfl⟩
 | a :: A,s,t,h,hc=>by
   obtain⟨u,e,f⟩:=h
   have b:a.1≠4/\G8 A=false:=by unfold G8 at hc ⊢;rw[List.any_cons,WJ] at hc;exact⟨by simpa using hc.1,hc.2⟩
   obtain⟨c,d⟩:=AOE e b.1;obtain⟨g,i⟩:=ANI f b.2;exact⟨g.trans c,i.trans d⟩
theorem ANL{s t:Ah}{c:Dn}(h:Bi s c t)(a:G8 c.2.2=false):t.qz=s.qz/\t.next=s.next:=ANI (s:=bump s) h.2 a
theorem AM3{C:Dn}{H:List (Dn×Ah)}(d:La H){j:Nat}:∀i,j<=i->i<=H.length->Nj C H j i->(Ae H i).qz=(Ae H j).qz/\(Ae H i).next=(Ae H j).next
 | 0,hj,_,_=>by
   have:j=0:=by omega
   subst this;exact⟨rfl,rfl⟩
 | i+1,hj,hi,hn=>by
   rcases Yc i j with h|a
   ·have:j=i+1:=by omega
    subst this;exact⟨rfl,rfl⟩
   obtain⟨e,f⟩:=AM3 d i a (by omega) λx c h1 h2 b=>hn x c h1 (by omega) b
   obtain⟨c,b,g,_⟩:=AA8 d (i:=i) (by omega);obtain⟨k,l⟩:=ANL g (ANr (hn i c a (by omega) b)).1;exact⟨k.trans e,l.trans f⟩
theorem ANx{C:Dn}(l:j<=H.length)(i:Nj C H j H.length)(f:(C.2.1 || G8 C.2.2)=true)(e:∀h∈H,h.1.2.2≠[]):j=H.length:=by
 rcases Yc j H.length with a|g
 ·have k:H[j]? = some H[j]:=Y' a
  have b:=i j H[j].1 (XA _) a (by rw[k];rfl);have c:=e H[j] (Yh a);have d:0<H[j].1.2.2.length:=List.length_pos_iff.2 c;unfold Nt at b;rw[f] at b;simp[d] at b
 omega
theorem AOq{D b:Td}{xs:List A6}{t:Tb}{a:Bool}{qj:Int}(h:V7 D s xs t x b a A qj)(d:x.Qk≠2):(a || G8 A)=true:=by
 rcases h with⟨_,_,_,_,_,rfl,_⟩|⟨_,_,⟨l',e,_,rfl⟩,_,_,_⟩|⟨c,_⟩|⟨_,T,_,_,_,_,rfl,_,_⟩|⟨_,T,_,_,_,rfl,_⟩|⟨_,_,rfl,_⟩
 ·simp[G8]
 ·simp[G8]
 ·exact absurd c d
 ·simp
 ·simp
 simp
theorem APB{e:Td}{s s':Ah}{xs xs':List A6}{t tx':Tb}{qj:Int}(b:Td)(h:V7 D s xs t x e d A qj)(k:x.Qk=2)(c:s'.qz=s.qz):V7 b s' xs' tx' x (b.put (B.lit (Eh (Bw tx' 0))) (Pa s'.qz x.qj)) d [(1,Bw tx' 0,(x.qj.length:Int),[],[],0)] qj/\A=[(1,Bw t 0,(x.qj.length:Int),[],[],0)]:=by
 rcases h with⟨a,_⟩|⟨a,_⟩|⟨_,a,f,_,g,i,j⟩|⟨a,_⟩|⟨a,_⟩|⟨a,_⟩
 ·omega
 ·omega
 ·exact⟨.inr (.inr (.inl ⟨k,by rw[c];exact a,by rw[c];exact f,rfl,g,rfl,j⟩)),i⟩
 ·omega
 ·omega
 omega
theorem AOr(v:La H)(n:j<=H.length){g:Td}{c xs:List A6}{s:Tb}{l:Bool}{qj:Int}(h:V7 g (Ae H j) c s x i l A qj)(o:Nj (s,l,A) H j H.length)(u:∀h∈H,h.1.2.2≠[])(w:j=H.length->c=xs):
 ∃F:List (List (List V)),i=Km s (Ae H H.length).qz 0 F g/\F.length<=A.length/\(∀a∈A,a.1=1->∃k,k<F.length/\a.2.1=Bw s k)/\∀(σ:Tb->Tb)(d:Td)(tx':Tb),(∀k,σ (Bw s k)=Bw tx' k)->V7 d (ALv σ (Ae H H.length)) (xs.map (ALj σ)) tx' x (Km tx' (Ae H H.length).qz 0 F d) l (A.map (ALh σ)) qj:=by
 by_cases hw:x.Qk=2
 ·have p:=AM3 v H.length n (XA _) o
  have f:i=Km s (Ae H H.length).qz 0 [x.qj] g/\A=[(1,Bw s 0,(x.qj.length:Int),[],[],0)]:=by
   rcases h with⟨b,_⟩|⟨b,_⟩|⟨_,b,z,r,D,t,G⟩|⟨b,_⟩|⟨b,_⟩|⟨b,_⟩
   ·omega
   ·omega
   ·exact⟨by rw[r,p.1];rfl,t⟩
   ·omega
   ·omega
   omega
  refine⟨[x.qj],f.1,by rw[f.2];exact XA _,?_,λσ d tx' y=>?_⟩
  ·rw[f.2]
   exact λa m _=>⟨0,by simp,by rw[XW] at m;subst m;rfl⟩
  have q:=(APB (s':=ALv σ (Ae H H.length)) (xs':=xs.map (ALj σ)) (tx':=tx') d h hw p.1).1
  have e:A.map (ALh σ)=[(1,Bw tx' 0,(x.qj.length:Int),[],[],0)]:=by rw[f.2,XO,X4];congr 1;unfold ALh;rw[Yad (show ¬(1:Int)=4 by decide)];show ((1:Int),σ (Bw s 0),_)=_;rw[y]
  rw[e];exact q
 have e:=ANx n o (AOq h hw) u;subst e;rw[w rfl] at h;exact APe h
theorem AOP{σ:Tb->Tb}(h:Ch a=true)(f:a.1≠4->Bx (σ a.2.1)=true):Ch (ALh σ a)=true:=by
 have d:=AMH σ a;have g:=ANH σ a
 by_cases h4:a.1=4
 ·have e:ALh σ a=a:=by unfold ALh;rw[Yae h4]
  rw[e];exact h
 have b:=AMX (σ:=σ) (a:=a) h4;have c:=f h4;unfold Ch at h ⊢;rw[d,g,b]
 by_cases h1:a.1=1
 ·rw[Yae h1] at h ⊢
  unfold rfB at h ⊢;rw[c];simp only[XE] at h ⊢;exact⟨⟨trivial,h.1.2⟩,h.2⟩
 rw[Yad h1] at h ⊢
 by_cases h2:a.1=2
 ·rw[Yae h2] at h ⊢
  rw[c];simp only[XE] at h ⊢;exact⟨trivial,h.2⟩
 rw[Yad h2] at h ⊢
 by_cases h3:a.1=3
 ·rw[Yae h3] at h ⊢
  rw[c];simp only[XE] at h ⊢;exact⟨⟨trivial,h.1.2⟩,h.2⟩
 rw[Yad h3,Yad h4] at h;cases h
theorem AOM{σ:Tb->Tb}{s tx':Tb}(h:Cv (s,d,A)=true)(g:Bx tx'=true)(f:∀a∈A,a.1≠4->Bx (σ a.2.1)=true):Cv (tx',d,A.map (ALh σ))=true:=by unfold Cv at h ⊢;simp only[XE,XV] at h ⊢;refine⟨g,λa e=>?_⟩;obtain⟨b,c,rfl⟩:=List.mem_map.1 e;exact AOP (h.2 b c) (f b c)
theorem AN1(y:La H)(v:j<=H.length){l:Td}{d xs:List A6}{s:Tb}{b:Bool}{qj:Int}{t:Ah}(h:V7 i (Ae H j) d s x l b A qj)(w:Nj (s,b,A) H j H.length)(r:∀h∈H,h.1.2.2≠[])(z:j=H.length->d=xs)(f:Bi (Ae H H.length) (s,b,A) t)(g:Cv (s,b,A)=true):
 ∃F:List (List (List V)),l=Km s (Ae H H.length).qz 0 F i/\F.length<=A.length/\(∀a∈A,a.1=1->∃k,k<F.length/\a.2.1=Bw s k)/\∀(σ:Tb->Tb)(e:Td)(tx':Tb),(∀k,σ (Bw s k)=Bw tx' k)->Bx tx'=true->AMR σ (ANO (Ae H H.length) A)->(∀a∈A,a.1≠4->Bx (σ a.2.1)=true) ->
  V7 e (ALv σ (Ae H H.length)) (xs.map (ALj σ)) tx' x (Km tx' (Ae H H.length).qz 0 F e) b (A.map (ALh σ)) qj/\Cv (tx',b,A.map (ALh σ))=true/\Bi (ALv σ (Ae H H.length)) (tx',b,A.map (ALh σ)) (ALv σ t):=by
 obtain⟨F,m,o,p,q⟩:=AOr y v h w r z;exact⟨F,m,o,p,λσ e tx' D n u c=>⟨q σ e tx' D,AOM g n c,ANV f n u λa f m=>c a f (by omega)⟩⟩
theorem Gt.ren{a:Td}{x:A6}(h:Gt D x)(b:Maps.has a (B.lit (Eh p))=true)(d:a.atKey (B.lit (Eh p)) (B.Gw ByteArray.empty)=D.atKey (B.lit (Eh x.1.1)) (B.Gw ByteArray.empty))(c:p.size<=1000):Gt a ((p,x.1.2),x.2) :=
 ⟨b,d.trans h.Gw,h.ok,h.i64,c,h.qv⟩
structure Twin(σ:ByteArray->ByteArray)(D D2:DataW Unit)(s:Ah):Prop where
 inj:AMR σ (s.qx.map (·.1))
 nil:σ ⟨#[]⟩=⟨#[]⟩
 has:∀e∈s.qx,Maps.has D2 (B.lit (Eh (σ e.1)))=true
 Gw:∀e∈s.qx,D2.atKey (B.lit (Eh (σ e.1))) (B.Gw ByteArray.empty)=D.atKey (B.lit (Eh e.1)) (B.Gw ByteArray.empty)
 name:∀e∈s.qx,Bx (σ e.1)=true
theorem Hh(h:Bx p=true):p.size<=1000:=by unfold Bx at h;simp only[XE,decide_eq_true_eq] at h;have:=h.2.1;omega
theorem C7.ren{σ:Tb->Tb}{D f:Td}{s:Ah}{xs:List A6}(h:C7 D s xs)(d:Twin σ D f s):C7 f (ALv σ s) (xs.map (ALj σ)):=by
 have b:∀x∈xs,x.1∈s.qx:=λx a=>by rw[<-h.Lz.qx];exact List.mem_map.2 ⟨x,a,rfl⟩
 refine⟨⟨?_,?_,by rw[XB];exact h.Lz.Iz,h.Lz.eight,λe=>?_⟩,?_,?_,?_⟩
 ·show (xs.map (ALj σ)).map (·.1)=s.qx.map (AL3 σ)
  rw[XM,<-h.Lz.qx,XM];rfl
 ·intro y c
  obtain⟨x,a,rfl⟩:=List.mem_map.1 c;exact(h.Lz.each x a).ren (d.has _ (b x a)) (d.Gw _ (b x a)) (Hh (d.name _ (b x a)))
 ·show s.qx.map (AL3 σ)=[]
  rw[h.Lz.bare e];rfl
 ·intro y c
  obtain⟨x,a,rfl⟩:=List.mem_map.1 c;exact h.link x a
 ·intro y c
  obtain⟨x,a,rfl⟩:=List.mem_map.1 c;exact h.below x a
 intro y c;obtain⟨x,a,rfl⟩:=List.mem_map.1 c;exact h.qj x a
theorem iK.up{w0 w W:Tw}{k bb n:Nat}{D:Td}{fs:List Int}{mv v:Tv}{H:List (Dn×Ah)}{U:List Tb}{s:Tb}(h:iK w0 w k bb n D fs mv v H U s)(a:Zb w W):iK w0 W k bb n D fs mv v H U s :=
 ⟨h.base.up a,h.inv,h.et,h.Pw,XC h.nf a.size,h.Iz,h.O5,h.name,h.short,h.plain,h.new⟩
theorem Kd.low{w0 w W r:Tw}{i bb n:Nat}{D:Td}{mv:Tv}{H:List (Dn×Ah)}{s:Tb}{p b:Tv->Prop}{Ok c:Td->Bool->List ADV->Int->Prop}{e:Ending}(h:Kd w0 W i bb n D mv H s p Ok e r)(f:Zb w W)(P:∀t,p t->b t)(R:∀d g A qj,Ok d g A qj->c d g A qj):Kd w0 w i bb n D mv H s b c e r:=by
 obtain⟨n',d,j,o,l,I,J,M,N,O,m⟩:=h;refine⟨n',d,j,o,l,I,J,(B.A0.Ba f).trans M (λ_ _ e=>e),λk hk=>(N k hk).imp id (λq=>XC f.size q),O,?_⟩
 rcases m with⟨V,L,g,qj,u,n1,c1,X,v,n2,G,y,z,rfl,a,U⟩|m
 ·exact .inl ⟨V,L,g,qj,u,n1,c1,X,v,n2,G,y,z,rfl,⟨a.box,a.snap,E.Ai a.row f.size,a.own,a.Vv,XC f.size a.low⟩,R _ _ _ _ U⟩
 obtain⟨T,x,q,e⟩:=m;exact .inr ⟨T,x,P _ q,e⟩
theorem AAG{g:Array Oper}{o:Oper}{a:Act}{K:Act->Tw->Prop}{Q:Exit->Act->Tw->Prop}{E:Prop}(c:o.guard=none)(f:Nat)(x y z q:Operand)(t s r p:TypeId)(l:o.op=.call { callee:=.value (.func f),args:=#[x,y,z,q],argTypes:=#[t,s,r,p] })(u v b d:Tv)(n:a.eval x=u)(D:a.eval y=v)(G:a.eval z=b)(m:a.eval q=d)(j:∀args w,(callFunc f args).run prog w=.ok (.enter f args) w)(R:Ending->Tw->Prop)(k:Zc f #[u,v,b,d] W R)(h:∀e i,R e i->∃v,e=Zr v/\K (a.put o.dst v) i):
 if Region.wanted o (yielded g a.tmps)=true then Oper.wp prog o a W K Q else E :=
 Ih c f #[x,y,z,q] #[t,s,r,p] l #[u,v,b,d] (by simp[n,D,G,m]) j R k h
structure K8(w:World)(x:J4)(ca:Option Addr)(cc:Nat)(ra:Option Addr)(rc:Nat)(pa:Option Addr)(pn pc:Nat)(sa:Option Addr)(sc:Nat):Prop where
 qz:bH w (.slice ca x.qz.length cc) x.qz
 ACl:∀c∈x.qz,c.2.1.size<=maxLen/\c.2.2.2.2.2.2.size<=maxLen
 qj:iJ w (.slice ra x.qj.length rc) x.qj
 ACg:∀r∈x.qj,∀v∈r,v.2.2.size<=maxLen
 A3:F7 4 Wu w (.slice sa x.A3.length sc) x.A3
 AKL:x.A3.length<=100
 wX:∀s∈x.A3,s.2.2.2.size<=maxLen
 cnd:∀W,Zb w W->Zc 24 #[.slice pa pn pc] W λe w'=>∃v T,e=.returned v/\S.Gy w' T v/\x.tree T/\Zb W w'
 tw:x.tw.size<=maxLen
 ints:AA5 x
theorem K8.up{w W:Tw}{x:J4}{b:To}{n:Nat}{c:To}{k:Nat}{pa:To}{i j:Nat}{d:To}{m:Nat}(h:K8 w x b n c k pa i j d m)(a:Zb w W):K8 W x b n c k pa i j d m :=
 ⟨h.qz.below a,h.ACl,h.qj.up a,h.ACg,h.A3.up a,h.AKL,h.wX,λV e=>h.cnd V (Ap a e),h.tw,h.ints⟩
theorem Lc{w0 w W:Tw}{k bb n:Nat}{mv:Tv}{s:Tb}{a:Tv->Prop}{Ok:Td->Bool->List ADV->Int->Prop}(h:Kd w0 w k bb n D mv H s a Ok e W):∃p b,e=Zr (Zu #[Zp p,b])/\Hid (Kd w0 w k bb n D mv H s a Ok (Zr (Zu #[Zp p,b])) W):=by
 have c:=h;obtain⟨n',i,d,g,f,_,_,_,_,_,⟨r,L,t,qj,j,n1,c1,u,l,n2,q,m,o,rfl,_⟩|⟨T,x,_,rfl⟩⟩:=h
 ·exact⟨_,_,rfl,Aa c⟩
 exact⟨_,_,rfl,Aa c⟩
theorem ACy(w0:Tw)(t bb n:Nat)(D:Td)(fs:List Int)(mv Y:Tv)(H:List (Dn×Ah))(U:List Tb)(m:Tb)(xs:List A6)(qz:List Aj)(qj:List (List V))(A3:List Vi)(a:Int)(nm b:Tb)(tr:S.CT->Prop)(O:To)(z:Nat)(J:To)(L:Nat)(pa:To)(I G:Nat)(M:To)(N:Nat)(w:Tw)(h:iK w0 w t bb n D fs mv Y H U m)(f:K8 w ⟨1,qz,qj,A3,a,nm,b,tr⟩ O z J L pa I G M N):
 Zc 8 #[Zp (some (Zd bb 0)),Zg #[Zi 1,Zs O qz.length z,Zs J qj.length L,Zs pa I G,Zs M A3.length N,Zi a,Zt nm,Zt b],Zt m] w (Kd w0 w t bb n D mv H m (AB0 (Ae H H.length) xs t fs ⟨1,qz,qj,A3,a,nm,b,tr⟩) (V7 D (Ae H H.length) xs m ⟨1,qz,qj,A3,a,nm,b,tr⟩)):=by
 cases hcl:qz with
 | nil=>subst hcl;obtain⟨t0,t1,t2,l⟩:=ALM w (Zk #[Zi 1,Zs O 0 z,Zs J qj.length L,Zs pa I G,Zs M A3.length N,Zi a,Zt nm,Zt b] 37) (Zk #[Zi 0,Zt ⟨#[]⟩,Zi 0,Zo false,Zi 0,Zi 0,Zt ⟨#[]⟩] 69);have HB:=Aa l;have r:=Aa (kP w0 t bb n D fs mv Y H U m a 0 ⟨#[]⟩ 0 false 0 0 ⟨#[]⟩ nm b _ (h.up l) ⟨XD _,XD _,f.tw⟩);clear h f t0 t1 t2 l;go_enter func8,ntmps8;go_wp2_with fail;refine(r.o.mono λe w'=>Lc).mono ?_;rintro e w1⟨p1,er,rfl,H1⟩;clear r;go_wp2_with fail;go_ret2;exact H1.o.low HB.o (λ_ q=>⟨λe=>absurd e (by simp),λe=>absurd e (by simp),λe=>absurd e (by simp),λe=>absurd e (by simp),λ_=>q,λe=>absurd e (by simp)⟩) λ_ _ _ _ q=>.inr (.inl ⟨rfl,q⟩)
 | cons c0 l0=>
   rw[<-hcl];have d:0<qz.length:=by rw[hcl];simp
   have u:qz[0]! = c0:=by rw[hcl];rfl
   have y:qz.headD nK=c0:=by rw[hcl];rfl
   have x:c0∈qz:=by rw[hcl];exact Ye ..
   obtain⟨i,P,k,mu,R,T,X⟩:=c0
   rcases f.qz with⟨_,e0⟩|⟨g,o,c',e,hc,hs⟩
   ·simp only at e0;rw[e0] at d;simp at d
   injection e with e1 _ e2;subst e1 e2;obtain⟨t0,t1,t2,l⟩:=ALM w (Zk #[Zi 1,Zs (some (Zd g o)) qz.length z,Zs J qj.length L,Zs pa I G,Zs M A3.length N,Zi a,Zt nm,Zt b] 37) (Zk #[Zi i,Zt P,Zi k,Zo mu,Zi R,Zi T,Zt X] 69);have aa:g<w.1.size:=hs.1
   have cell:∀(j:Nat)(v:Tv),(Cc (i,P,k,mu,R,T,X))[j]? = some v->w.cell? (Zd g (o+j))=some v:=λj v hv=>by have:=hs.2 0 d j v (by show (Cc qz[0]!)[j]? = some v;rw[u];exact hv);simpa using this
   have q0:=cell 0 _ rfl;have q1:=cell 1 _ rfl;have q2:=cell 2 _ rfl;have q3:=cell 3 _ rfl;have q4:=cell 4 _ rfl;have q5:=cell 5 _ rfl;have q6:=cell 6 _ rfl;simp only[WH] at q0;have ab:(0:Int)<(qz.length:Int):=by omega
   have p:=Aa l;have s:=Aa y;have c:=f.ACl _ x;have r:=Aa (λW(hW:Zb w W)=>kP w0 t bb n D fs mv Y H U m a i P k mu R T X nm b W (h.up hW) ⟨c.1,c.2,f.tw⟩);clear h f hs hcl u x c cell t0 t1 t2 l y;go_enter func8,ntmps8;go_wp2_with fail;refine((r.o _ p.o).mono λe w'=>Lc).mono ?_;rintro e w1⟨p1,er,rfl,H1⟩;clear r;go_wp2_with fail;go_ret2;exact H1.o.low p.o (λ_ q=>⟨λe=>absurd e (by simp),λe=>absurd e (by simp),λe=>absurd e (by simp),λe=>absurd e (by simp),λ_=>by show AOa _ a (qz.headD nK) nm b;rw[s.o];exact q,λe=>absurd e (by simp)⟩) λ_ _ _ _ q=>.inr (.inl ⟨rfl,by rw[s.o];exact q⟩)
theorem ACD(ag:Mw)(w0:Tw)(y bb n:Nat)(D:Td)(fs:List Int)(mv L:Tv)(H:List (Dn×Ah))(U:List Tb)(f:Tb)(xs:List A6)(x:J4)(i:To)(j:Nat)(l:To)(m:Nat)(pa:To)(d c:Nat)(a:To)(b:Nat)(w:Tw)(h:iK w0 w y bb n D fs mv L H U f)(hT:C7 D (Ae H H.length) xs)(hx:K8 w x i j l m pa d c a b):
 Zc 8 #[Zp (some (Zd bb 0)),Zg #[Zi x.Qk,Zs i x.qz.length j,Zs l x.qj.length m,Zs pa d c,Zs a x.A3.length b,Zi x.change,Zt x.name,Zt x.tw],Zt f] w (Kd w0 w y bb n D mv H f (AB0 (Ae H H.length) xs y fs x) (V7 D (Ae H H.length) xs f x)):=by
 obtain⟨J,qz,qj,A3,k,nm,o,tr⟩:=x;simp only;have G:Zb w (w.alloc (Zk #[Zi J,Zs i qz.length j,Zs l qj.length m,Zs pa d c,Zs a A3.length b,Zi k,Zt nm,Zt o] 37)):=Zal;have r:=Aa G;have X:=Aa (h.up G);have g:=Aa (hx.up G);have HT:=Aa hT;have V:=Aa (Yac w (Zk #[Zi J,Zs i qz.length j,Zs l qj.length m,Zs pa d c,Zs a A3.length b,Zi k,Zt nm,Zt o] 37));have ae:=Aa h;have af:=Aa hx;clear h hx hT G
 by_cases k0:J=0
 ·subst k0
  have t:=Aa (zI w0 y bb n D fs mv L H U f i j qz _ X.o g.o.qz (by have:=g.o.ints.Iz;simp only at this;omega) g.o.ACl);go_enter func8,ntmps8;go_wp2_with fail;refine(t.o.mono λe z=>Lc).mono ?_;rintro e w1⟨p1,O,rfl,H1⟩;clear t;go_wp2_with fail;go_ret2;exact H1.o.low r.o (λ_ q=>⟨λ_=>q,λe=>absurd e (by simp),λe=>absurd e (by simp),λe=>absurd e (by simp),λe=>absurd e (by simp),λe=>absurd e (by simp)⟩) λ_ _ _ _ q=>.inl ⟨rfl,q⟩
 by_cases k2:J=2
 ·subst k2
  have t:=Aa (wV w0 y bb n D fs mv L H U f _ qj _ X.o g.o.qj (by have:=g.o.ints.ADp;simp only at this;omega) g.o.ACg g.o.ints.qj);clear k0;go_enter func8,ntmps8;go_wp2_with fail;refine(t.o.mono λe z=>Lc).mono ?_;rintro e w1⟨p1,O,rfl,H1⟩;clear t;go_wp2_with fail;go_ret2;exact H1.o.low r.o (λ_ q=>⟨λe=>absurd e (by simp),λ_=>q,λe=>absurd e (by simp),λe=>absurd e (by simp),λe=>absurd e (by simp),λe=>absurd e (by simp)⟩) λ_ _ _ _ q=>.inr (.inr (.inl ⟨rfl,q⟩))
 by_cases k3:J=3
 ·subst k3
  have u:=Aa (g.o.cnd _ (XF _ _));clear k0 k2;go_enter func8,ntmps8;go_wp2_with fail;apply u.o.mono;rintro e w2⟨cv,T,rfl,ab,ac,M⟩;have Y:=Aa ac;clear ac;have t:=Aa (Lo w0 y bb n D fs mv L H U f cv T xs w2 (X.o.up M) HT.o ab);have ad:=Aa (Ap r.o M);clear ab M u;go_wp2_with fail;refine(t.o.mono λe z=>Lc).mono ?_;rintro e w1⟨p1,O,rfl,H1⟩;clear t;go_wp2_with fail;go_ret2;exact H1.o.low ad.o (λ_ q=>⟨λe=>absurd e (by simp),λe=>absurd e (by simp),λ_=>⟨T,Y.o,q⟩,λe=>absurd e (by simp),λe=>absurd e (by simp),λe=>absurd e (by simp)⟩) λ_ _ _ _ q=>.inr (.inr (.inr (.inl ⟨rfl,T,Y.o,q⟩)))
 by_cases k4:J=4
 ·subst k4
  have I:=(XF (w.alloc (Zk #[Zi 4,Zs i qz.length j,Zs l qj.length m,Zs pa d c,Zs a A3.length b,Zi k,Zt nm,Zt o] 37)).1.size (w.alloc (Zk #[Zi 4,Zs i qz.length j,Zs l qj.length m,Zs pa d c,Zs a A3.length b,Zi k,Zt nm,Zt o] 37))).drew
  have u:Hid (Zc 24 #[Zs pa d c] (w.alloc (Zk #[Zi 4,Zs i qz.length j,Zs l qj.length m,Zs pa d c,Zs a A3.length b,Zi k,Zt nm,Zt o] 37)).drew λe z=>∃v,e=Zr v/\Hid (∃T,S.Gy z T v/\tr T/\Zb w z/\Below (w.alloc (Zk #[Zi 4,Zs i qz.length j,Zs l qj.length m,Zs pa d c,Zs a A3.length b,Zi k,Zt nm,Zt o] 37)).1.size (w.alloc (Zk #[Zi 4,Zs i qz.length j,Zs l qj.length m,Zs pa d c,Zs a A3.length b,Zi k,Zt nm,Zt o] 37)) z)):=Aa ((g.o.cnd _ I).mono (by rintro e z⟨v,T,rfl,h1,ht,h2⟩;exact⟨v,rfl,Aa ⟨T,h1,ht,Ap r.o (Ap I h2),Ap I h2⟩⟩))
  have aa:Hid (∀(v:Tv)(W:Tw),Hid (∃T,S.Gy W T v/\tr T/\Zb w W/\Below (w.alloc (Zk #[Zi 4,Zs i qz.length j,Zs l qj.length m,Zs pa d c,Zs a A3.length b,Zi k,Zt nm,Zt o] 37)).1.size (w.alloc (Zk #[Zi 4,Zs i qz.length j,Zs l qj.length m,Zs pa d c,Zs a A3.length b,Zi k,Zt nm,Zt o] 37)) W)->Zc 25 #[Zp (some (Zd bb 0)),Zt f,v,Zs a A3.length b] W λe z=>∃p O,e=Zr (Zu #[Zp p,O])/\Hid (Kd w0 w y bb n D mv H f (AB0 (Ae H H.length) xs y fs ⟨4,qz,qj,A3,k,nm,o,tr⟩) (V7 D (Ae H H.length) xs f ⟨4,qz,qj,A3,k,nm,o,tr⟩) (Zr (Zu #[Zp p,O])) z)):=Aa λv W hW=>by
   obtain⟨T,h1,ht,h2,h3⟩:=hW.o;refine(xQ w0 y bb n D fs mv L H U f v T xs a b A3 W (X.o.up h3) HT.o h1 (g.o.A3.up h3) g.o.AKL (λs hs=>⟨g.o.wX s hs,g.o.ints.A3 s hs⟩)).mono λe z hP=>?_
   exact Lc (hP.low h2 (λ_ q=>⟨λe=>absurd e (by simp),λe=>absurd e (by simp),λe=>absurd e (by simp),λe=>absurd e (by simp),λe=>absurd e (by simp),λ_=>⟨T,ht,q⟩⟩) λ_ _ _ _ q=>.inr (.inr (.inr (.inr (.inl ⟨rfl,T,ht,q⟩)))))
  have P:=Aa (enters_of func24 (by kernel_rfl) rfl);have R:=Aa (enters_of func25 (by kernel_rfl) rfl);clear k0 k2 k3 I;go_enter func8,ntmps8;go_wp2_with fail
  go_region_law
   (first
     | (refine I6 (by rfl) 24 (.tmp 67) 34 (by rfl) (Zs pa d c) (by rfl) P.o _ u.o ?_
        rintro e w2⟨cv,rfl,H2⟩;refine⟨_,rfl,?_⟩;have z4:w2.cell? (Zd w.1.size 4)=some (Zs a A3.length b):=(F2 ((H2.o.choose_spec.2.2.2.block _ (Ac V.o)).trans V.o)).2.2.2.2.1)
     | (refine AAG (by rfl) 25 (.tmp 64) (.tmp 65) (.tmp 68) (.tmp 70) 25 9 86 35 (by rfl) (Zp (some (Zd bb 0))) (Zt f) cv (Zs a A3.length b) (by rfl) (by rfl) (by rfl) (by rfl) R.o _ (aa.o cv w2 H2) ?_
        rintro e w3⟨p3,ah,rfl,H3⟩;refine⟨_,rfl,?_⟩)
     | fail)
  all_goals
   clear aa u P R z4;go_wp2;go_ret2;exact H3.o
 by_cases k1:J=1
 ·subst k1
  exact ACy w0 y bb n D fs mv L H U f xs qz qj A3 k nm o tr i j l m pa d c a b w ae.o af.o
 have t:=Aa (ag w0 y bb n D fs mv L H U f xs _ X.o HT.o);have N:Hid (J<0\/4<J):=Aa (by omega);go_enter func8,ntmps8;go_wp2_with fail;refine(t.o.mono λe z=>Lc).mono ?_;rintro e w1⟨p1,O,rfl,H1⟩;clear t;go_wp2_with fail;go_ret2;exact H1.o.low r.o (λ_ q=>⟨λe=>absurd e (by have:=N.o;simp only;omega),λe=>absurd e (by have:=N.o;simp only;omega),λe=>absurd e (by have:=N.o;simp only;omega),λ_=>q,λe=>absurd e (by have:=N.o;simp only;omega),λe=>absurd e (by have:=N.o;simp only;omega)⟩) λ_ _ _ _ q=>.inr (.inr (.inr (.inr (.inr ⟨N.o,q⟩))))
theorem Xh.grown{a:Td}{xs:List A6}{t:Tb}(h:Xh D s xs)(b:Grown t D a):Xh a s xs:=by
 induction b with
 | refl=>exact h
 | put k v _ hf ih=>exact ih.put hf v
def Xt(w0 w:World)(i bb n:Nat)(D:DataW Unit)(fs:List Int)(mv:Value)(H:List (Dn×Ah))(U:List ByteArray)(a:ByteArray)(xs:List A6)(x:J4)(e:Ending)(p:World):Prop :=
 ∃n' d j g l h,Ey w0 p i bb n' d j g l/\n'<=n+100/\B.A0 (B.Own bb mv) w p/\(∀k,g=.map (some k)->mv=.map (some k)\/w.1.size<=k)/\Inv d h (a :: U) /\
  ((e=.returned .nilIface/\∃b c A qj,V7 D (Ae H H.length) xs a x b c A qj/\((A=[]/\h=H/\d=b)\/(A≠[]/\Inv b H (a :: U)/\∃t,Bi (Ae H H.length) (a,c,A) t/\h=H++[((a,c,A),t)]/\d=b.put (B.lit (Ek (H.length+1))) (B.Gw (C6 (a,c,A)))))) \/
   (∃T y,e=.returned (.iface T y)/\h=H/\(∀s zs,Xh D s zs->Xh d s zs)/\(AB0 (Ae H H.length) xs i fs x (.iface T y)\/∃b c A qj f q n1 o m,V7 D (Ae H H.length) xs a x b c A qj/\A≠[]/\Ey w0 q i bb n1 b f o m/\AD8 (a,c,A) H f H.length (.iface T y))))
theorem dD{bb:Nat}{mv v u:Tv}{r:Tw}(a:B.A0 (B.Own bb mv) w W)(b:∀k,v=.map (some k)->mv=.map (some k)\/w.1.size<=k)(d:B.A0 (B.Own bb v) W r)(f:∀k,u=.map (some k)->v=.map (some k)\/W.1.size<=k):B.A0 (B.Own bb mv) w r/\∀k,u=.map (some k)->mv=.map (some k)\/w.1.size<=k:=by
 refine⟨a.trans d λi g e=>?_,λk c=>?_⟩
 ·rcases e with e|e
  ·exact .inl e
  rcases b i e with e|e
  ·exact .inr e
  omega
 rcases f k c with e|e
 ·exact b k e
 exact .inr (XC a.size e)
theorem jN:∀{l:List ADV}{s t:Ah},Il Bx Bv Cm s l t->0<=s.next->0<=t.next
 | [],_,_,h,hs=>by simp only[Il] at h;subst h;exact hs
 | a :: l,s,t,⟨u,b,h2⟩,hs=>by
   refine jN h2 ?_
   rcases b with⟨_,_,rfl⟩|⟨_,_,rfl⟩|⟨_,_,rfl⟩|⟨_,c,rfl⟩
   ·exact hs
   ·exact hs
   ·exact hs
   have:=c.2;show 0<=a.2.2.2.2.2;omega
theorem eD:∀{s:Ah}{H:List (Dn×Ah)},Xv s H->0<=s.next->∀k,k<=H.length->0<=(Ic s (H.take k)).next
 | _,_,_,hs,0,_=>by simpa[Ic] using hs
 | _,x :: l,h,hs,k+1,hk=>by have:=eD (s:=x.2) (H:=l) h.2.2 (jN h.1.2 hs) k (by simpa using hk);simpa[Ic] using this
theorem vC(h:La H)(b:Good Bv Cm (Ae H H.length)):0<=(Ae H H.length).next:=by
 rcases b.qz with e|e
 ·exact eD h (by show (0:Int)<=0;omega) H.length (XA _)
 have a:=e.1;have:=e.2.2.1 (Ae H H.length).qz[0] (Yh a);have:=this.1.2.1;omega
theorem AGp{w0 w r s:Tw}{i bb n n1:Nat}{l:Td}{fs z:List Int}{mv u f:Tv}{U:List Tb}{xs:List A6}{m:Bool}{qj:Int}(h:iK w0 w i bb n D fs mv u H U p)(aa:H.length<40)(hT:C7 D (Ae H H.length) xs)(hx:AA5 x)(hG:Grown p D l)(hn:n1<=n+50)(V:B.A0 (B.Own bb mv) w r)(P:∀k,f=.map (some k)->mv=.map (some k)\/w.1.size<=k)(b:V7 D (Ae H H.length) xs p x l m A qj)(g:∃d,Ey w0 r i bb n1 l z f d)(hd:DoP w0 r i bb n1 l z f (p,m,A) H H.length e s):
 ∃v X,e=Zr (Zu #[v,X])/\Xt w0 w i bb n D fs mv H U p xs x (Zr X) s:=by
 have j:Inv l H (p :: U):=(h.inv.user h.plain).grown (Ye ..) hG;obtain⟨d,g⟩:=g
 rcases hd with⟨I,rfl,hb⟩|⟨I,W,L,n',D',o,J,G,Y,h2,h3,h4,⟨t,rfl,N,M,_,rfl⟩|⟨ty,y,rfl,rfl,T⟩⟩
 ·have c:=dD V P (B.A0.Ba hb) (λk b=>.inl b)
  exact⟨_,_,rfl,n1,l,z,f,d,H,g.up hb,by omega,c.1,c.2,j,.inl ⟨rfl,l,m,A,qj,b,.inl ⟨I,rfl,rfl⟩⟩⟩
 ·have c:=dD V P ((B.A0.Ba L).trans h3 (λ_ _ e=>e)) (λk b=>(h4 k b).imp id λq=>XC L.size q)
  have hc:=Mq h.inv.past (XA _);have ab:=h.inv.next H.length (XA _);have R:0<=(Ae H H.length).next:=vC h.inv.past h.Of;have O:=AEj hT h.Of hc ⟨R,by omega⟩ hx b;obtain⟨ys,hy,ac⟩:=AI2 h.inv.Lm.1 hT h.Of hc h.plain h.short h.free hx b N I;refine⟨_,_,rfl,n',_,o,J,G,H++[((p,m,A),t)],Y,by omega,c.1,c.2,j.AJO (by omega) N ⟨M,λa c=>?_,O.Iz,lV O M⟩ hy (by omega),.inl ⟨rfl,l,m,A,qj,b,.inr ⟨I,j,t,N,rfl,rfl⟩⟩⟩;simp only[Cv,XE,XV] at M;exact Qb (M.2 a c) (O.ints a c)
 have c:=dD V P ((B.A0.Ba L).trans h3 (λ_ _ e=>e)) (λk b=>(h4 k b).imp id λq=>XC L.size q);exact⟨_,_,rfl,n',_,o,J,G,H,Y,by omega,c.1,c.2,j,.inr ⟨_,_,rfl,rfl,λ_ _ q=>q.grown hG,.inr ⟨_,m,A,qj,z,r,n1,f,d,b,I,g,T⟩⟩⟩
theorem V1(ae:Mw)(w0:Tw)(g bb n:Nat)(D:Td)(fs:List Int)(mv fv:Tv)(H:List (Dn×Ah))(U:List Tb)(c:Tb)(xs:List A6)(x:J4)(O:To)(P:Nat)(X:To)(Y:Nat)(pa:To)(W V:Nat)(sa:To)(sc:Nat)(w:Tw)(h:iK w0 w g bb n D fs mv fv H U c)(ad:H.length<40)(hT:C7 D (Ae H H.length) xs)(hx:K8 w x O P X Y pa W V sa sc):
 Zc 11 #[Zp (some (Zd bb 0)),Zg #[Zi x.Qk,Zs O x.qz.length P,Zs X x.qj.length Y,Zs pa W V,Zs sa x.A3.length sc,Zi x.change,Zt x.name,Zt x.tw],Zt c] w (Xt w0 w g bb n D fs mv H U c xs x):=by
 have i:Zb w (w.alloc (Zk #[Zi x.Qk,Zs O x.qz.length P,Zs X x.qj.length Y,Zs pa W V,Zs sa x.A3.length sc,Zi x.change,Zt x.name,Zt x.tw] 37)):=Zal;have m:=Aa (ACD ae w0 g bb n D fs mv fv H U c xs x O P X Y pa W V sa sc _ (h.up i) hT (hx.up i));have l:Hid (∀e w',Kd w0 (w.alloc (Zk #[Zi x.Qk,Zs O x.qz.length P,Zs X x.qj.length Y,Zs pa W V,Zs sa x.A3.length sc,Zi x.change,Zt x.name,Zt x.tw] 37)) g bb n D mv H c (AB0 (Ae H H.length) xs g fs x) (V7 D (Ae H H.length) xs c x) e w'->Kd w0 w g bb n D mv H c (AB0 (Ae H H.length) xs g fs x) (V7 D (Ae H H.length) xs c x) e w'):=Aa λe w' hp=>hp.low i (λ_ q=>q) λ_ _ _ _ q=>q
 have a:=Aa h;have M:=Aa hT;have N:=Aa hx.ints;clear h hT hx i;go_enter func11,ntmps11;go_wp2_with fail;apply m.o.mono;intro e w1 u;obtain⟨n1,D1,o,z,p,d,af,f,j,b,⟨pb,L,rd,qj,a1,ah,c1,x2,a2,n2,c2,aa,ac,rfl,hP,t⟩|⟨T,y,R,rfl⟩⟩:=l.o _ _ u
 ·have ag:=a.o.inv.next H.length (XA _)
  have k:=AEj M.o a.o.Of (Mq a.o.inv.past (XA _)) ⟨vC a.o.inv.past a.o.Of,by have:=a.o.O5;omega⟩ N.o t;have r:Inv D1 H (c :: U):=(a.o.inv.user a.o.plain).grown (Ye ..) b;have J:=Aa (AHB w0 g _ bb n1 D1 o z p H H.length pb a1 ah c1 x2 a2 n2 c2 c rd aa ac L qj w1 d (XC a.o.nf f.size) (by have:=a.o.Iz;omega) r.Lm r.past a.o.O5 (XA _) hP k (by have:=a.o.short;omega));have I:Hid (∀e G,DoP w0 w1 g bb n1 D1 o z (c,rd,L.map (·.1)) H H.length e G->∃v er,e=Zr (Zu #[v,er])/\Hid (Xt w0 w g bb n D fs mv H U c xs x (Zr er) G)):=Aa λe G hd=>AGp a.o ad M.o N.o b af f j t ⟨p,d⟩ hd
  clear u d f j b hP t k r ag m l;go_wp2_with fail;refine(J.o.mono λe G=>I.o e G).mono ?_;rintro e G⟨v,er,rfl,H2⟩;clear J I;go_wp2_with fail;go_ret;exact H2.o
 have H1:=Aa (And.intro d (And.intro f (And.intro j (And.intro ((a.o.inv.user a.o.plain).grown (Ye ..) b) (λ(s:Ah)(zs:List A6)(q:Xh D s zs)=>q.grown b)))));have ab:=Aa R;clear R u d f j b m l;go_wp2_with fail;go_ret;exact⟨n1,D1,o,z,p,H,H1.o.1,by omega,H1.o.2.1,H1.o.2.2.1,H1.o.2.2.2.1,.inr ⟨_,_,rfl,rfl,H1.o.2.2.2.2,.inl ab.o⟩⟩
def mO(e:Vc):Gx:=((2,e.1,0,[],[],0),(none,0,0),(none,0,0))
theorem sL(s:Ah)(v:Int)(a1:To)(n1 c1:Nat)(x2:Int)(V:To)(n2 c2:Nat)(w:Tw)(hS:Dl w s (K4 v a1 n1 c1 x2 V n2 c2))(O5:s.qx.length<=1000)(hz:∀e∈s.qx,e.1.size<=maxLen):
 Zc 53 #[Zs V n2 c2] w λe w'=>∃a c,e=Zr (Zs a s.qx.length c)/\w'.ownsRow w.1.size 111 6 (Zs a s.qx.length c) s.qx.length (Ci (s.qx.map mO))/\Zb w w':=by
 obtain⟨b1,d1,b2,d2,Ls,x,X⟩:=hS;unfold K4 at x;simp only[Value.agg.injEq,Array.mk.injEq,List.cons.injEq,Value.int.injEq,Value.slice.injEq] at x;obtain⟨-,-,-,⟨e1,e2,e3⟩,-⟩:=x;subst e1 e3;have o:s.qx.length=Ls.length:=by rw[X.qx,XB]
 have r:=Aa o;have ac:n2=s.qx.length:=by omega
 subst ac;have HV:=Aa X;obtain⟨iA,I,p⟩:=Option.map_eq_some_iff.1 gO;simp only[Prod.mk.injEq] at p;have h:=Aa (And.intro I p);have HZ:=Aa hz;clear X o I p hz e2;go_enter func53,ntmps53;go_wp2_with fail
 go_loopw [3,8] (λvo vi wr=>∃(k:Nat)(a:To)(c:Nat),k<=s.qx.length/\vi=Zi (k:Int)/\vo=Zs a k c/\Hid (wr.ownsRow w.1.size 111 6 (Zs a k c) k (Ci ((s.qx.take k).map mO)))/\Hid (Zb w wr)) (λ_ vi _=>s.qx.length-Ev vi)
 case atStart=>exact⟨0,none,0,XD _,rfl,rfl,Aa (WA _ _ _ _),Aa (XF _ _)⟩
 case round=>
  obtain⟨k,a,c,hk,rfl,rfl,R,L⟩:=hrel
  rcases Yc k s.qx.length with ah|ag
  ·obtain⟨y,q⟩:∃y,Ls[k]? = some y:=⟨_,Y' (by have:=r.o;omega)⟩
   have D:s.qx[k]? = some y.1:=by rw[HV.o.qx,XJ,q];rfl
   obtain⟨⟨b,M,qv⟩,ma,mn,mc⟩:=y;have f:=Bc HV.o.row L.o
   obtain⟨fb,Y,o,e0,e1,af⟩:∃fb,V=some (Zd fb 0)/\fb<wr.1.size/\wr.cell? (Zd fb (k*3))=some (Zt b)/\wr.cell? (Zd fb (k*3+1))=some (Zi M)/\wr.cell? (Zd fb (k*3+2))=some (Zs ma mn mc):=by
    rcases f.2 with⟨_,h0⟩|⟨fb,ad,ae,x,_,hh,_,_,_⟩
    ·have:=r.o;omega
    injection x with W _ _;subst W;have hc:=f.cells (g:=fb) rfl;simp only[E.addr_add] at hc
    have n:∀(i:Nat)u,(Lv ((b,M,qv),ma,mn,mc))[i]? = some u->wr.cell? (Zd fb (k*3+i))=some u:=λi u N=>by have:=hc (k*3+i) u (Hi (k:=3) (enc:=Lv) (λ_=>rfl) q N);simpa using this
    exact⟨fb,rfl,E.Ac hh,n 0 _ rfl,n 1 _ rfl,n 2 _ rfl⟩
   subst Y;have ab:(k:Int)<(s.qx.length:Int):=by omega
   have U:Hid ((s.qx.take (k+1)).map mO=(s.qx.take k).map mO++[mO (b,M,qv)]):=Aa (by rw[S.Cs D];simp);obtain⟨t0,t1,t2,t3⟩:=ALM wr (Zk #[Zt b,Zi M,Zs ma mn mc] 143) (Zk #[Zi 2,Zt b,Zi 0,Zs none 0 0,Zs none 0 0,Zi 0] 111);have l:=Aa t3;have P:=Aa t2;have J:=L.o.size;clear f q D t0 t1 t2 t3
   go_wp2_with (first
    | (at_builtin;refine wpList_append_own _ rfl _ _ 51 rfl w.1.size 111 iA Mi 6 88 underlying51 h.o.1 h.o.2.1 h.o.2.2.1 h.o.2.2.2 rfl (by decide) (.slice a k c) k _ rfl (Bc R.o l.o) (Zd (wr.1.size+1) 0) 1 1 [Zi 2,.string b,Zi 0,.slice none 0 0,.slice none 0 0,Zi 0] rfl rfl (λj u hj=>XL P.o j u hj) (by intro u N;simp only[WL,XQ,or_false] at N;rcases N with rfl|rfl|rfl|rfl|rfl|rfl <;> rfl) (by unfold maxLen;omega) (by omega) (XC J l.o.size) ?_
       intro v5 w5 d G _;have t:=Aa d;have O:=Aa G;clear d G))
   obtain⟨a',c',rfl,_⟩:=Au t.o;have z:=Ap L.o l.o;refine⟨⟨k+1,a',c',by omega,by simp,rfl,Aa ?_,Aa (z.grown O.o z.size (λj hj=>Fu R.o hj))⟩,by simp only[Ev];omega⟩;rw[U.o];simpa[Ci,nU,mO,sv] using t.o
  have ab:¬((k:Int)<(s.qx.length:Int)):=by omega
  have aa:k=s.qx.length:=by omega
  subst aa;have m:=R.o;rw[Yg] at m;have T:=Aa m;clear m;go_wp2;go_ret;exact⟨_,_,rfl,T.o,L.o⟩
def Uj(x:Ef):Bool:=decide (0<x.2.2.1)
theorem AES(w:Tw):PredBelow prog 87 #[] (λx:Ef=>Zg (Lv x).toArray) Uj w:=λW c hb=>by
 obtain⟨⟨p,r,m⟩,b,a,d⟩:=c;show Zc 87 #[Zg #[Zt p,Zi r,Zs b a d]] W _;have e:Hid (Uj ((p,r,m),b,a,d)=decide (0<a)):=rfl;generalize Uj ((p,r,m),b,a,d)=q at *
 by_cases hq:0<a
 ·have f:(0:Int)<(a:Int):=by omega
  go_enter func87,ntmps87;go_wp2
  all_goals (go_ret;exact⟨(by rw[e.o];simp[hq]),hb.alloc hb.size _⟩)
 have f:¬(0:Int)<(a:Int):=by omega
 go_enter func87,ntmps87;go_wp2
 all_goals (go_ret;exact⟨(by rw[e.o];simp[hq]),hb.alloc hb.size _⟩)
theorem dO(a:To)(c:Nat)(b:Tv)(w:Tw):Zc 145 #[Zs a 0 c,b] w λe d=>e=Zr (Zi (-1))/\d=w:=by go_enter func145,ntmps145;go_wp2_with fail;refine wp_loop_rounds 1 ?_;rw[rounds_succ];go_wp2;go_ret;exact⟨rfl,rfl⟩
theorem AF2(a:To)(c:Nat)(b:Tv)(w:Tw):Zc 86 #[Zs a 0 c,b] w λe d=>e=Zr (Zo false)/\d=w:=by go_enter func86,ntmps86;go_wp2_with fail;refine(dO a c _ _).mono ?_;rintro e f⟨rfl,rfl⟩;go_wp2;go_ret;exact⟨rfl,rfl⟩
theorem AGc(a:To)(c:Nat)(b:List Ef)(w:Tw)(h:w.ownsRow 0 143 3 (Zs a b.length c) b.length (A8 b))(y:b.length<=1000):
 Zc 86 #[Zs a b.length c,.func (.func 87) #[] #[]] w λe o=>e=Zr (Zo (b.any Uj))/\Zb w o:=by
 rcases h.2 with⟨e0,t⟩|⟨g,p,q,s,_,u,_,_,_⟩
 ·have:b=[]:=Yag.1 t
  subst this;refine(AF2 a c _ w).mono ?_;rintro e o⟨rfl,rfl⟩;exact⟨rfl,XF _ _⟩
 injection s with l _ _;subst l;have r:∀args w,(callFunc 87 args).run prog w=.ok (.enter 87 args) w:=enters_of func87 (by kernel_rfl) rfl
 have f:∀j,j<b.length->∀i v,(Lv b[j]!)[i]? = some v->w.cell? (Zd g (0+j*3+i))=some v:=λj n i v x=>by have m:=h.cells (g:=g) rfl;simp only[E.addr_add] at m;have:=m (j*3+i) v (Hi (k:=3) (enc:=Lv) (λ_=>rfl) (by rw[Y' n,<-getElem!_pos b j n]) x);simpa using this
 have d:=AnyQ.slices_ContainsFunc layConE 3 isAgg143 sizeOf143 Lv (λ_=>rfl) Uj 87 #[] r g 0 b.length c b w (AES w) (XA _) (by omega) (E.Ac u) f;rw[Yg] at d;exact d
theorem AGE{d:List Ef}(h:X8 w s v u d):d.any Uj=!decide (∀e∈s.qx,e.2.2=[]):=by
 have g:∀x∈d,x.2.2.1=x.1.2.2.length:=λx b=>by obtain⟨a,c,e,_⟩:=Au (h.Cl x b);obtain⟨_,m,n,o⟩:=x;unfold sv at e;injection e with _ e _
 rw[YZ];simp only[List.any_eq_true,Bool.not_eq_true',decide_eq_false_iff_not,Uj,decide_eq_true_eq,h.qx,WN];constructor
 ·rintro⟨x,b,f⟩j
  have i:=j _ ⟨x,b,rfl⟩;rw[g x b,i] at f;simp at f
 intro l;refine Classical.byContradiction λk=>l ?_
 rintro e⟨x,b,rfl⟩;refine Yag.1 (Classical.byContradiction λf=>k ⟨x,b,?_⟩);rw[g x b];omega
theorem nW(s:Ah)(v:Int)(o:To)(n1 c1:Nat)(D:Int)(i:To)(n2 j:Nat)(n:Nat)(w:Tw)(u:Dl w s (K4 v o n1 c1 D i n2 j))(O5:s.qx.length<=1000)(N:n<=100000):
 Zc 50 #[Zs i n2 j,Zi (n:Int)] w λe y=>∃q,e=Zr (Zo q)/\(q=true↔Tog s n)/\Zb w y:=by
 obtain⟨I,L,J,M,c,k,g⟩:=u;unfold K4 at k;simp only[Value.agg.injEq,Array.mk.injEq,List.cons.injEq,Value.int.injEq,Value.slice.injEq] at k;obtain⟨-,-,-,⟨p,r,t⟩,-⟩:=k;subst p t;have f:s.qx.length=c.length:=by rw[g.qx,XB]
 have l:n2=c.length:=by omega
 subst l;have m:=AGE g;have a:=AGc i j c w g.row (by omega)
 have h:Hid ((!c.any Uj && decide (c.length<=(n+59) / 60))=true↔Tog s n):=Aa (by rw[m];unfold Tog n60;rw[f];simp)
 clear g f m r;generalize c.any Uj=z at *
 have x:(((n:Int)+60-1).tdiv 60)=(((n+59) / 60:Nat):Int):=by rw[Int.tdiv_eq_ediv_of_nonneg (by omega)];omega
 have G:=Aa x;go_enter func50,ntmps50;go_wp2_with fail;apply a.mono;rintro e O⟨rfl,d⟩;have b:=Aa d;clear d a;cases z with
 | true=>go_wp2;go_ret;exact⟨_,rfl,h.o,b.o⟩
 | false=>
   by_cases hle:c.length<=(n+59) / 60
   ·go_wp2
    go_ret;exact⟨true,(by simp;omega),(by simpa[hle] using h.o),b.o⟩
   go_wp2;go_ret;exact⟨false,(by simp;omega),(by simpa[hle] using h.o),b.o⟩
theorem cH:∀l:List Gx,(Ci l).length=l.length*6
 | []=>rfl
 | c :: l=>by simp only[Ci,WB,XT,XP];have:=cH l;simp only[Ci] at this;rw[this];simp[nU];omega
theorem yB(l:List Gx):∀u∈Ci l,u.oneCell'=true:=by
 intro u b;simp only[Ci,List.mem_flatMap] at b;obtain⟨c,_,a⟩:=b;simp only[nU,WL,XQ,or_false] at a
 rcases a with rfl|rfl|rfl|rfl|rfl|rfl <;> rfl
theorem iQ(a b:List Gx):Ci (a++b)=Ci a++Ci b:=by simp[Ci]
theorem pL(n:Nat):(Builtin.zeroCells Mi.cells n).size=n*6:=by simp[Builtin.zeroCells,show Mi.cells.size=6 from rfl]
theorem AB8(n:Nat)(w:Tw)(o:1<=n)(p:n<=1000):
 Zc 89 #[Zs none 0 0,Zi n] w λe i=>∃k j,e=Zr (Zs (some (Zd k 0)) 0 j)/\i.ownsRow w.1.size 111 6 (Zs (some (Zd k 0)) 0 j) 0 (Ci [])/\Zb w i:=by
 obtain⟨m,f,b⟩:=Option.map_eq_some_iff.1 gO;simp only[Prod.mk.injEq] at b;obtain⟨g,l,h⟩:=b;refine(Any8.slices_Grow_grow layGroA m Mi f g (by omega) none 0 0 n [] w (XA _) (by omega) (by rw[h];omega) (by omega) (by simp) (λ_=>rfl) (λa ha=>by cases ha)).mono ?_;rintro e i⟨rfl,rfl⟩;have d:0+n<=grownCap w (0+n) 0 111:=grownCap_ge w _ _ _;have c:grownCap w (0+n) 0 111<=maxLen:=grownCap_le_maxLen w (0+n) 0 111 (by unfold maxLen;omega);refine⟨_,_,rfl,?_,((XF _ _).drew).alloc (XA _) _⟩
 change (w.drew.alloc (Zk (#[]++Builtin.zeroCells Mi.cells (0+n-0)++Builtin.zeroCells Mi.cells (grownCap w (0+n) 0 111-(0+n))) 111)).ownsRow w.1.size 111 6 (Zs (some (Zd w.1.size 0)) 0 (grownCap w (0+n) 0 111)) 0 []
 generalize grownCap w (0+n) 0 111=G at d c;exact YM (w:=w.drew) _ G (XA _) c (by simp only[Array.size_append,pL,Array.size_empty];omega)
theorem Oa{n:Array Oper}{rest:List Oper}{o:Oper}{a:Act}{Q:Exit->Act->Tw->Prop}{W:Tw}(i:o.guard=none)(s x:Operand)(z:o.op=.call { callee:=.builtin .append,args:=#[s,x],argTypes:=#[51,51] })(base g c:Nat)(l:List Gx)(D:a.eval s=Zs (some (Zd g 0)) l.length c)(b:W.ownsRow base 111 6 (Zs (some (Zd g 0)) l.length c) l.length (Ci l))(L:Nat)(J:Tv)(m:List Gx)(G:a.eval x=J)(y:W.ownsRow L 111 6 J m.length (Ci m))(U:l.length+m.length<=1000)(e:base<=W.1.size)(h:∀q f p,Hid (p.ownsRow base 111 6 (Zs (some (Zd q 0)) (l.length+m.length) f) (l.length+m.length) (Ci (l++m))/\W.grownBy p (some g))->wpList prog n Q rest (a.put o.dst (Zs (some (Zd q 0)) (l.length+m.length) f)) p):wpList prog n Q (o :: rest) a W:=by
 obtain⟨I,j,k⟩:=Option.map_eq_some_iff.1 gO;simp only[Prod.mk.injEq] at k;obtain⟨r,t,u⟩:=k
 rcases Di y with⟨d,O⟩|⟨v,N,d,-,-,-,-⟩
 ·have:m=[]:=Yag.1 O
  subst this d;refine wpList_append_own_none i s x 51 z base 111 I 6 underlying51 j _ _ _ D b G ?_;exact h g c W ⟨by simpa using b,World.grownBy.refl _ _⟩
 subst d;have T:=y.cells (g:=v) rfl;refine wpList_append_own W i s x 51 z base 111 I Mi 6 88 underlying51 j r t u rfl (by omega) _ _ _ D b (Zd v 0) m.length N (Ci m) G (cH m) T (yB m) (by unfold maxLen;omega) (by omega) e ?_;intro v' p w P R
 rcases Di w with⟨d,_⟩|⟨q,M,d,-,-,-,-⟩
 ·exact absurd (R.1 d).1 (by simp)
 subst d;exact h q M p ⟨by rw[iQ];exact w,P⟩
theorem uO(p:Nat)(n o:To)(c1 q:Nat)(a b:List Gx)(u v:Nat)(w:Tw)(s:w.cell? (Zd p 0)=some (Zs n a.length c1))(t:w.cell? (Zd p 1)=some (Zs o b.length q))(J:p<w.1.size)(G:w.ownsRow u 111 6 (Zs n a.length c1) a.length (Ci a))(I:w.ownsRow v 111 6 (Zs o b.length q) b.length (Ci b))(V:1<=a.length+b.length)(X:a.length+b.length<=1000):
 Zc 52 #[Zs (some (Zd p 0)) 2 2] w λe m=>∃i h,e=Zr (Zs (some (Zd i 0)) (a.length+b.length) h)/\m.ownsRow w.1.size 111 6 (Zs (some (Zd i 0)) (a.length+b.length) h) (a.length+b.length) (Ci (a++b))/\Zb w m:=by
 have O:Hid (Zc 89 #[Zs none 0 0,Zi ((a.length:Int)+(b.length:Int))] w λe m=>∃i h,e=Zr (Zs (some (Zd i 0)) 0 h)/\m.ownsRow w.1.size 111 6 (Zs (some (Zd i 0)) 0 h) 0 (Ci [])/\Zb w m):=by have:=AB8 (a.length+b.length) w V X;rwa[show ((a.length+b.length:Nat):Int)=(a.length:Int)+(b.length:Int) by omega] at this
 have M:=Aa G;have N:=Aa I;have x:Hid (∀W,Zb w W->W.cell? (Zd p 0)=some (Zs n a.length c1)/\W.cell? (Zd p 1)=some (Zs o b.length q)):=λW D=>⟨(D.cell (p:=Zd p 0) J).trans s,(D.cell (p:=Zd p 1) J).trans t⟩
 clear G I;have n1:¬(a.length:Int)<0:=by omega
 have n2:¬(a.length:Int)+(b.length:Int)<0:=by omega
 have Y:IntKind.i64.wrap ((a.length:Int)+(b.length:Int))=(a.length:Int)+(b.length:Int):=by rw[IntKind.wrap_i64];omega
 have n4:IntKind.i64.wrap (a.length:Int)=(a.length:Int):=by rw[IntKind.wrap_i64];omega
 go_enter func52,ntmps52;go_wp2;refine wp_loop_rounds 3 ?_;rw[rounds_succ];go_wp2;rw[rounds_succ];go_wp2;rw[rounds_succ]
 go_wp2_with (first
  | (go_at_call 89;apply O.o.mono;rintro e w1⟨T,P,rfl,k,c⟩;obtain⟨r0,r1⟩:=x.o _ c))
 refine wp_loop_rounds 3 ?_;rw[rounds_succ];go_wp2_with (at_builtin;refine Oa rfl _ _ rfl w.1.size T P [] rfl k u _ a rfl (Bc M.o c) (by simp;omega) c.size ?_;intro z y L f;have d:Zb w L:=c.grown f.o.2 c.size (λj hj=>by cases hj;exact(k.lt _ rfl).1);obtain⟨s0,s1⟩:=x.o _ d;have g:Hid (L.ownsRow w.1.size 111 6 (Zs (some (Zd z 0)) a.length y) a.length (Ci a)):=Aa (by have:=f.o.1;simpa using this);clear f);rw[rounds_succ];go_wp2_with (at_builtin;refine Oa rfl _ _ rfl w.1.size z y a rfl g.o v _ b rfl (Bc N.o d) (by omega) d.size ?_;intro U R w5 l;have r:Zb w w5:=d.grown l.o.2 d.size (λj hj=>by cases hj;exact(g.o.lt _ rfl).1));rw[rounds_succ];go_wp2;go_ret;exact⟨U,R,rfl,l.o.1,r⟩
attribute [local go_sem] Oper.semAt_some
theorem qS(b:To)(len a:Nat)(w:Tw):
 Zc 51 #[Zs b len a,Zi 60] w λe c=>e=Zr (.func (.func 88) #[] #[Zp (some (Zd w.1.size 0)),Zp (some (Zd (w.1.size+1) 0))])/\c=(w.alloc (Zk #[Zs b len a] 33)).alloc (Zk #[Zi 60] 3):=by
 go_enter func51,ntmps51;go_wp2;go_ret;exact⟨rfl,rfl⟩
abbrev CK6(n:Nat):={ k:Nat // 60*k<n }
def AG1{n:Nat}(x:CK6 n):Nat:=x.1
def nE(n k:Nat):Nat:=if n-60*k<60 then n-60*k else 60
def ACt(b off n:Nat)(k:CK6 n):Value:=.slice (some ⟨b,off+60*k.1,none⟩) (nE n k.1) (nE n k.1)
theorem xD(n:Nat)(_hn:1<=n)(l h g b off len a:Nat)(r:To)(d:0<len->r=some (Zd b off))(hlen:len<=100000)(N:len<=a)(J I:List (CK6 len)->Tw->Prop)(y:∀pre W,J pre W->J pre W.drew)(hY:∀pre x W,J pre W->pre.length<n60 len->YieldAt Fence.wide (n-1) prog l #[ACt b off len x] W λe f=>
   (e=Zr (Zo true)/\J (pre++[x]) f/\KpC h g W f)\/(e=Zr (Zo false)/\I (pre++[x]) f))(W:Tw)(u:W.cell? (Zd h 0)=some (Zs r len a))(t:W.cell? (Zd g 0)=some (Zi 60))(h0:J [] W):
 CallsIn Fence.wide n prog 88 #[.func (.yield l) #[] #[],Zp (some (Zd h 0)),Zp (some (Zd g 0))] W λe f=>(∃v,e=Zr v) /\
  ((∃T:List (CK6 len),T.map AG1=List.range (n60 len)/\J T f)\/(∃pre:List (CK6 len),True/\I pre f)):=by
 refine callsIn_of_wp func88 rfl trivial ?_ rfl;simp only[ntmps88,WO,XP,WW,Nat.reduceAdd,Nat.reduceSub,Array.replicate_succ,Array.replicate_zero,List.push_toArray,List.append_toArray,List.nil_append,List.cons_append];gi_wp2
 gi_loopw [4] (λi wr=>∃(k:Nat)(pre:List (CK6 len)),k<=n60 len/\i=Zi ((60*k:Nat):Int)/\pre.map AG1=List.range k/\J pre wr/\wr.cell? (Zd h 0)=some (Zs r len a)/\wr.cell? (Zd g 0)=some (Zi 60))
  (λi _=>len+60-(intOf i).toNat)
 case atStart=>exact⟨0,[],XD _,rfl,rfl,h0,u,t⟩
 case round=>
  obtain⟨k,pre,hk,rfl,c,j,R,q1⟩:=hrel;have D:pre.length=k:=by have:=congrArg List.length c;simpa using this
  by_cases hlt:60*k<len
  ·obtain⟨fn,tmps,assign,body,G,hR⟩:=hY pre ⟨k,hlt⟩ wr.drew (y _ _ j) (by rw[D];unfold n60;omega)
   have s:=Aa hlt;have z:k<n60 len:=by unfold n60;omega
   obtain⟨m,q⟩:∃m,60*k=m:=⟨_,rfl⟩;have M:nE len k=(((m:Int)+min 60 ((len-m:Nat):Int)).toNat-m):=by unfold nE;rw[q];split <;> omega
   unfold ACt at G;dsimp only at G;rw[M,q] at G;rw[q] at hlt ⊢;have O:(m:Int)<(len:Int):=by omega
   have P:(m:Int)<=(len:Int):=by omega
   have ac:(0:Int)<=(m:Int):=by omega
   have aa:¬a=m:=by omega
   have ad:m<=a:=by omega
   have U:=Aa q;have X:=Aa R;rw[d (by omega)] at R;have V:=Aa d;clear d;clear M q;gi_wp2;refine wpIn_wide.2 ?_
   go_region
   all_goals gi_wp2
   apply hR.mono;rintro e L (⟨rfl,w,p⟩|⟨rfl,o⟩)
   ·have p0:L.cell? (Zd h 0)=some (Zs r len a):=p.1.trans X.o
    have p1:L.cell? (Zd g 0)=some (Zi 60):=p.2.trans q1;gi_wp2
    go_roundw
    case rel=>
     refine⟨k+1,pre++[⟨k,s.o⟩],z,?_,?_,w,p0,p1⟩
     ·have:=U.o
      congr 1;omega
     rw[XH,c,List.range_succ];rfl
    case measure=>simp[intOf];omega
   gi_wp2;refine bodyPost_ret (results_none rfl _ _ _) rfl ?_;exact⟨⟨_,rfl⟩,.inr ⟨_,trivial,o⟩⟩
  have ab:¬((60*k:Nat):Int)<(len:Int):=by omega
  have Y:k=n60 len:=by unfold n60 at hk ⊢;omega
  gi_wp2
  go_end0
  exact⟨⟨_,rfl⟩,.inl ⟨pre,by rw[c,Y],j⟩⟩
theorem jC(n:Nat)(o:1<=n)(d c b off len a:Nat)(k:To)(j:0<len->k=some (Zd b off))(hlen:len<=100000)(f:len<=a)(w:Tw)(i:d<w.1.size)(g:c<w.1.size)(q:w.cell? (Zd d 0)=some (Zs k len a))(m:w.cell? (Zd c 0)=some (Zi 60)):
 SeqStopsK Fence.wide n prog 88 #[Zp (some (Zd d 0)),Zp (some (Zd c 0))] (λx:CK6 len=>#[ACt b off len x]) (KpC d c) (λys=>ys.map AG1=List.range (n60 len)) (λ_=>True) (n60 len) w:=λl J Jx W hW hJ _ hY h0=>
 xD n o l d c b off len a k j hlen f J Jx (λpre W h=>hJ pre W _ none h ⟨rfl,rfl,rfl,XA _,λ_ _ _=>rfl⟩ (λr e=>by cases e)) hY W ((hW.cell (p:=Zd d 0) i).trans q) ((hW.cell (p:=Zd c 0) g).trans m) h0
variable{W w:Tw}{u v:Tv}{i k:Nat}{s:Ah}{L:List Gx}{D:Td}{x:Int}{R:List (List V)}{e:Ending}{H:List (Dn×Ah)}{a:Bool}{A:List ADV}
theorem qF{b off n c:Nat}{qj:List (List V)}(h:iJ w (Zs (some (Zd b off)) n c) qj)(J:n=qj.length)(k:CK6 qj.length):iJ w (ACt b off qj.length k) (Gg qj k.1):=by
 obtain⟨m,q,s,t⟩:=h;have I:=k.2;obtain⟨z,l,D,e,G,v,a⟩:=q.cons (by omega);injection e with g _ _;injection g with g;injection g with o p _;subst o p;have y:(Gg qj k.1).length=nE qj.length k.1:=by simp only[Gg,XU,WE,nE];split <;> omega
 have d:((m.drop (60*k.1)).take 60).length=nE qj.length k.1:=by simp only[XU,WE,nE,s];split <;> omega
 refine⟨(m.drop (60*k.1)).take 60,⟨_,nE qj.length k.1,by rw[d];rfl,by rw[d];exact XA _,λ_=>⟨b,off+60*k.1,rfl,v,λj x hx i u hu=>?_⟩⟩,by rw[y,d],λj x r hx hr=>?_⟩
 ·have f:j<60:=by have:=Ax hx;rw[XU] at this;omega
  rw[Yi f,X6] at hx;have:=a (60*k.1+j) x hx i u hu;rwa[show off+(60*k.1+j)*1+i=off+60*k.1+j*1+i by omega] at this
 have f:j<60:=by have:=Ax hx;rw[XU] at this;omega
 rw[Yi f,X6] at hx;unfold Gg at hr;rw[Yi f,X6] at hr;exact t _ x r hx hr
theorem jX(b:Tb)(l:List Aj)(p:List (List V)):∀(a:List (List (List V)))(k:Nat)(D:Td),Km b l k (a++[p]) D=(Km b l k a D).put (B.lit (Eh (Bw b (k+a.length)))) (Pa l p)
 | [],k,D=>by simp[Km]
 | q :: a,k,D=>by show Km b l (k+1) (a++[p]) _=_;rw[jX b l p a (k+1)];simp only[Km,XP];rw[show k+1+a.length=k+(a.length+1) by omega]
theorem ACh(b:Tb)(k:Nat)(a:List (List (List V)))(p:List (List V)):N5 b k (a++[p])=N5 b k a++[(1,Bw b (k+a.length),(p.length:Int),[],[],0)]:=by unfold N5;rw[List.zipIdx_append];simp
theorem eQ(b:Tb)(k:Nat)(a:List (List (List V))):(N5 b k a).length=a.length:=by simp[N5]
theorem V4{b e z n:Nat}{xs:List Tv}{row:Option Nat}(h:w.ownsRow b e z v n xs)(m:w.grownBy W row)(p:∀r,row=some r->∃o:Obj,w.1[r]? = some o/\o.isCells=false):W.ownsRow b e z v n xs:=by
 refine⟨h.1,?_⟩
 rcases h.2 with k|⟨g,c,a,q,d,f,i⟩
 ·exact .inl k
 refine .inr ⟨g,c,a,q,d,(m.block g (Ac f) (λe=>?_)).trans f,i⟩;obtain⟨o,j,l⟩:=p g e.symm;rw[f] at j;cases j;cases l
theorem vX{cs:Array Tv}{t:TypeId}{row:Option Nat}(h:w.1[i]? = some (Zk cs t (0,0)))(c:w.grownBy W row)(d:∀r,row=some r->∃o:Obj,w.1[r]? = some o/\o.isCells=false):W.1[i]? = some (Zk cs t (0,0)):=by refine(c.block i (Ac h) (λe=>?_)).trans h;obtain⟨o,a,b⟩:=d i e.symm;rw[h] at a;cases a;cases b
theorem Dv.no{base:Nat}{n:Nat}{v:Int}{d:To}{n1 c1:Nat}{y:Int}{f:To}{n2 k:Nat}{t:Tb}{l:Bool}{g:To}{qj:Int}{row:Option Nat}(h:Dv base w n s v d n1 c1 y f n2 k t l g i L qj)(a:w.grownBy W row)(b:∀r,row=some r->∃o:Obj,w.1[r]? = some o/\o.isCells=false):Dv base W n s v d n1 c1 y f n2 k t l g i L qj:=by refine⟨vX h.box a b,?_,V4 h.row a b,λq j=>⟨V4 (h.own q j).1 a b,V4 (h.own q j).2 a b⟩,h.Vv,h.low⟩;obtain⟨p,z,u,D,m,e,c⟩:=h.snap;exact⟨p,z,u,D,m,e,V4 c.qz a b,c.qx,V4 c.row a b,λx G=>V4 (c.Cl x G) a b⟩
theorem bF{w0 w W:Tw}{j bb n d:Nat}{fs:List Int}{row:Option Nat}{B0:Nat}(h:Ey w0 w j bb n D fs (.map (some d)) v)(s:d<B0)(u:w0.1.size<=B0)(a:w.grownBy W row)(f:∀r,row=some r->B0<=r/\∃o:Obj,w.1[r]? = some o/\o.isCells=false):Ey w0 W j bb n D fs (.map (some d)) v:=by
 have l:B.A0 (λi=>row=some i) w W:=⟨a.os,a.tape,a.output,a.size,λk s hn=>a.block k s (λe=>hn e.symm)⟩;refine⟨h.bu.only l (λe=>?_) (λm e q=>?_) (λp x b q=>?_),l.below h.low h.low.size (λi q=>XC u (f i q).1),h.hb,h.hm,h.er,h.nc,h.tb,h.hf⟩
 ·obtain⟨_,o,c,b⟩:=f bb e
  have g:w.1[bb]? = _:=h.bu.1;rw[g] at c;cases c;cases b
 ·cases e
  have:=(f _ q).1;omega
 obtain⟨_,o,c,t⟩:=f _ q;unfold World.cell? at b;rw[c] at b;cases o <;> simp_all [Obj.isCells]
def CmI(w0:World)(e bb n:Nat)(D:DataW Unit)(c base l:Nat)(s:Ah)(v:Int)(f:Option Addr)(n1 c1:Nat)(m:Int)(g:Option Addr)(n2 j:Nat)(d:ByteArray)(qj:Int)(R:List (List V))(W8:World)(pre:List (CK6 R.length))(W:World):Prop :=
 ∃n' a b h i L,Ey w0 W e bb n' (Km d s.qz 0 (pre.map λk=>Gg R k.1) D) a (.map (some c)) b/\n'<=n+pre.length/\Dv base W l s v f n1 c1 m g n2 j d true h i L qj /\
  L.map (·.1)=N5 d 0 (pre.map λk=>Gg R k.1)/\(∀k∈pre,De s.qz (Gg R k.1)=true)/\Mv base bb (.map (some c)) (.map (some c)) W8 W
theorem CmI.own{w0:Tw}{k bb n:Nat}{i base j:Nat}{v:Int}{l:To}{n1 c1:Nat}{p:To}{n2 d:Nat}{t:Tb}{qj:Int}{W8:Tw}{B0:Nat}(J:i<B0)(N:w0.1.size<=B0)(O:W8.1.size<=B0):OwnFrom B0 (CmI w0 k bb n D i base j s v l n1 c1 x p n2 d t qj R W8):=λpre A C row M f g=>by
 obtain⟨n',a,b,q,u,L,w,y,z,G,I,c⟩:=M;have h:∀r,row=some r->∃o:Obj,A.1[r]? = some o/\o.isCells=false:=λr e=>(g r e).2
 exact⟨n',a,b,q,u,L,bF w J N f g,y,z.no f h,G,I,⟨c.only.grown f (λm e P=>by have:=(g m e).1;omega),c.link,c.stay⟩⟩
theorem CmI.keeps{w0:Tw}{i bb n:Nat}{fs:List Int}{j base:Nat}{B0:Nat}(h:Ey w0 W i bb n D fs (.map (some j)) v)(l:j<B0)(d:Mv base bb (.map (some j)) (.map (some j)) W w):KeepsFrom B0 W w:=by
 refine⟨d.only.size,λk o g a c=>(d.only.block k (Array.getElem?_eq_some_iff.1 a).1 ?_).trans a⟩;rintro((e|e)|⟨_,cs,T,f,_⟩)
 ·subst e
  have b:W.1[k]? = _:=h.bu.1;rw[b] at a;cases a;cases c
 ·cases e
  omega
 rw[f] at a;cases a;cases c
theorem CmI.step{w0:Tw}{i bb n:Nat}{j base m:Nat}{v:Int}{b:To}{n1 c1:Nat}{c:To}{n2 d:Nat}{t:Tb}{qj:Int}{W8 W w:Tw}{pre:List (CK6 R.length)}{k:CK6 R.length}{n' p:Nat}{z:List Int}{e:To}{g:Nat}(J:n'<=n+pre.length)(f:L.map (·.1)=N5 t 0 (pre.map λk=>Gg R k.1))(l:∀k∈pre,De s.qz (Gg R k.1)=true)(o:Mv base bb (.map (some j)) (.map (some j)) W8 W)(r:Ey w0 w i bb p ((Km t s.qz 0 (pre.map λk=>Gg R k.1) D).put (B.lit (Eh (Bw t L.length))) (Pa s.qz (Gg R k.1))) z (.map (some j)) u)(M:p<=n'+1)(y:Mv base bb (.map (some j)) (.map (some j)) W w)(I:De s.qz (Gg R k.1)=true)(G:Dv base w m s v b n1 c1 x c n2 d t true e g (L++[noA (Bw t L.length) (Gg R k.1).length]) qj):CmI w0 i bb n D j base m s v b n1 c1 x c n2 d t qj R W8 (pre++[k]) w:=by
 have h:L.length=pre.length:=by have:=congrArg List.length f;rw[XB,eQ,XB] at this;exact this
 refine⟨p,z,u,e,g,_,?_,by rw[XT];simp;omega,G,?_,?_,o.trans y⟩
 ·rw[XH,Y5,jX,XB,WG,<-h]
  exact r
 ·rw[XH,XH,Y5,Y5,ACh,f,XB,WG,h]
  rfl
 intro q a
 rcases List.mem_append.1 a with a|a
 ·exact l q a
 simp at a;subst a;exact I
theorem lC(a:Tb)(c:Plain a)(l:List Aj):∀(b:List (List (List V)))(k:Nat)(D:Td)(j:Nat),k+b.length<=j->j<=1000000->Maps.has D (B.lit (Eh (Bw a j)))=false->Maps.has (Km a l k b D) (B.lit (Eh (Bw a j)))=false
 | [],_,_,_,_,_,h=>h
 | p :: b,k,D,j,hk,hj,h=>by
   simp at hk;refine lC a c l b (k+1) _ j (by omega) hj ?_;rw[Maps.has_put_other (λe=>?_)]
   ·exact h
   have:=(S5 c c (Uw (B.Jr e))).2 (by omega) (by omega);omega
theorem Xo(a:Tb)(f:Plain a)(l:List Aj)(D:Td):∀(c:List (List (List V)))(k:Nat)(b:Td),k+c.length<=1000->Grown a D b->(∀j,k<=j->j<=1000->Maps.has b (B.lit (Eh (Bw a j)))=false)->Grown a D (Km a l k c b)
 | [],_,_,_,h,_=>h
 | p :: c,k,b,hk,h,hf=>by
   simp at hk;refine Xo a f l D c (k+1) _ (by omega) (.put k _ h (hf k (XA _) (by omega))) (λj g d=>?_);rw[Maps.has_put_other (λe=>?_)]
   ·exact hf j (by omega) d
   have:=(S5 f f (Uw (B.Jr e))).2 (by omega) (by omega);omega
theorem fM(a:Tb)(d:Plain a)(l:List Aj)(D:Td)(c:∀k,Maps.has D (B.lit (Eh (Bw a k)))=false)(b:List (List (List V)))(h:b.length<=100):Grown a D (Km a l 0 b D) :=
 Xo a d l D b 0 D (by omega) .refl λj _ _=>c j
theorem AGz{w0 w:Tw}{k bb n:Nat}{fs:List Int}{mv v:Tv}{U:List Tb}{s:Tb}(h:iK w0 w k bb n D fs mv v H U s)(c:(Ae H H.length).qz≠[]):∃a,mv=.map (some a)/\a<w.1.size:=by
 have f:B.Th w mv n D:=h.base.bu.2.1
 rcases f with⟨g,b⟩|⟨m,e,d⟩
 ·exfalso
  cases H with
  | nil=>exact c rfl
  | cons x H=>have:=((h.inv.Lm.2 0 (by omega)).1 x.1 rfl).1;rw[b] at this;exact absurd this (by simp[Maps.has])
 exact⟨m,e,B.Th.lt (.inr ⟨m,e,d⟩) e⟩
theorem Uu{w0 W:Tw}{j bb n d b:Nat}{fs:List Int}{x:Tv}{t:TypeId}(h:Ey w0 W j bb n D fs (.map (some d)) u)(l:W.1[b]? = some (Zk #[x] t))(r:∀i,x≠Zi i)(f:b≠bb)(g:b≠d)(o:w0.1.size<=b)(v:Tv):Ey w0 (W.setCell (Zd b 0) v) j bb n D fs (.map (some d)) u:=by
 have a:=E.Ar W b 0 v;have c:B.A0 (λi=>i=b) W (W.setCell (Zd b 0) v):=⟨a.os,a.tape,a.output,a.size,λk hk hn=>a.block k hk (λe=>hn (Yt e))⟩;refine⟨h.bu.only c (λe=>f e.symm) (λm e q=>?_) (λp y hc q=>?_),c.below h.low h.low.size (λi q=>by rw[q];exact o),h.hb,h.hm,h.er,h.nc,h.tb,h.hf⟩
 ·cases e
  exact g q.symm
 obtain⟨s,off,st⟩:=p;simp only at q;subst q;unfold World.cell? at hc;simp only[l] at hc
 rcases off with _|off
 ·cases st <;> simp at hc
  exact r _ hc
 cases st <;> simp at hc
section
variable {nb cb : ByteArray → Bool} {fb : Int → Int → Int → ByteArray → Bool}
theorem ANp{s t:Ah}{a:ADV}(h:pQ nb cb fb s a t):(∀x∈t.qx.map (·.1),x∈s.qx.map (·.1)\/(a.1=1/\x=a.2.1))/\(a.1=1\/a.1=4\/a.2.1∈s.qx.map (·.1)):=by
 have b:0<=Bt s.qx a.2.1->a.2.1∈s.qx.map (·.1):=λl=>by
  rcases J8 s.qx a.2.1 with⟨e,_⟩|⟨k,j,_,i,_⟩
  ·omega
  exact List.mem_map.2 ⟨_,bB j,i⟩
 refine⟨λx g=>?_,?_⟩
 ·rcases List.mem_cons.1 (AN3 h x g) with rfl|f
  ·rcases h with⟨d,_,_⟩|⟨_,c,_⟩|⟨_,⟨c,_,_⟩,_⟩|⟨_,_,rfl⟩
   ·exact .inr ⟨d,rfl⟩
   ·exact .inl (b c)
   ·exact .inl (b c)
   exact .inl g
  exact .inl f
 rcases h with⟨d,_,_⟩|⟨_,c,_⟩|⟨_,⟨c,_,_⟩,_⟩|⟨d,_,_⟩
 ·exact .inl d
 ·exact .inr (.inr (b c))
 ·exact .inr (.inr (b c))
 exact .inr (.inl d)
theorem AMP:∀{A:List ADV}{s t:Ah},Il nb cb fb s A t->(∀x∈t.qx.map (·.1),x∈s.qx.map (·.1)\/∃b∈A,b.1=1/\x=b.2.1)/\∀a∈A,a.1=4\/a.2.1∈s.qx.map (·.1)\/∃b∈A,b.1=1/\a.2.1=b.2.1
 | [],s,t,h=>by simp only[Il] at h;subst h;exact⟨λx e=>.inl e,λa ha=>absurd ha XQ⟩
 | a :: A,s,t,h=>by
   obtain⟨u,f,g⟩:=h;obtain⟨j,k⟩:=ANp f;obtain⟨n,o⟩:=AMP g
   have up:∀x,x∈u.qx.map (·.1)->x∈s.qx.map (·.1)\/∃b∈a :: A,b.1=1/\x=b.2.1:=λx e=>by
    rcases j x e with q|⟨l,m⟩
    ·exact .inl q
    exact .inr ⟨a,Ye ..,l,m⟩
   refine⟨λx e=>?_,λb d=>?_⟩
   ·rcases n x e with q|⟨b,d,q⟩
    ·exact up x q
    exact .inr ⟨b,Yd _ d,q⟩
   rcases List.mem_cons.1 d with rfl|d
   ·rcases k with q|q|q
    ·exact .inr (.inr ⟨b,Ye ..,q,rfl⟩)
    ·exact .inl q
    exact .inr (.inl q)
   rcases o b d with q|q|⟨c,i,q⟩
   ·exact .inl q
   ·exact .inr (up _ q)
   exact .inr (.inr ⟨c,Yd _ i,q⟩)
end
theorem AL5(b:Tb)(l:List Aj)(a:Tb)(d:Td):∀(F:List (List (List V)))(k:Nat)(D:Td),(∀i,k<=i->i<k+F.length->a≠Eh (Bw b i))->Maps.has (Km b l k F D) (B.lit a)=Maps.has D (B.lit a)/\(Km b l k F D).atKey (B.lit a) d=D.atKey (B.lit a) d
 | [],_,_,_=>⟨rfl,rfl⟩
 | p :: F,k,D,h=>by
   have c:B.lit a≠B.lit (Eh (Bw b k)):=λe=>h k (XA _) (by simp) (B.Jr e)
   obtain⟨f,g⟩:=AL5 b l a d F (k+1) (D.put (B.lit (Eh (Bw b k))) (Pa l p)) λi hi hi2=>h i (by omega) (by simp;omega)
   refine⟨f.trans (Maps.has_put_other c _),g.trans (Maps.atKey_put_other c _ _)⟩
theorem AMs{s tx':Tb}(c:Plain s)(b:Plain tx')(l:List Aj)(d:Td):∀(F:List (List (List V)))(k:Nat)(D a:Td)(j:Nat),Maps.IsMap D->Maps.IsMap a->k<=j->j<k+F.length->k+F.length<=1000 ->
 Maps.has (Km s l k F D) (B.lit (Eh (Bw s j)))=true/\Maps.has (Km tx' l k F a) (B.lit (Eh (Bw tx' j)))=true/\(Km tx' l k F a).atKey (B.lit (Eh (Bw tx' j))) d=(Km s l k F D).atKey (B.lit (Eh (Bw s j))) d
 | [],k,_,_,j,_,_,h1,h2,_=>by simp at h2;omega
 | p :: F,k,D,a,j,m,m',h1,h2,h3=>by
   simp at h2 h3
   by_cases e:j=k
   ·subst e
    have ne:∀t,Plain t->∀i,j+1<=i->i<j+1+F.length->Eh (Bw t j)≠Eh (Bw t i):=λt f i r q e=>by have:=(S5 f f (Uw e)).2 (by omega) (by omega);omega
    obtain⟨g,h⟩:=AL5 s l (Eh (Bw s j)) d F (j+1) (D.put (B.lit (Eh (Bw s j))) (Pa l p)) (ne s c);obtain⟨n,o⟩:=AL5 tx' l (Eh (Bw tx' j)) d F (j+1) (a.put (B.lit (Eh (Bw tx' j))) (Pa l p)) (ne tx' b);exact⟨g.trans (Maps.has_put_same m L4 _),n.trans (Maps.has_put_same m' L4 _),o.trans ((Maps.atKey_put_same m' L4 _ _).trans ((Maps.atKey_put_same m L4 _ _).symm.trans h.symm))⟩
   exact AMs c b l d F (k+1) _ _ j (m.put _ _) (m'.put _ _) (by omega) (by omega) (by omega)
theorem ANF{t:Tb}(u:Tb)(h:Bw t i=Bw t k):Bw u i=Bw u k:=by
 have e:(Bw t i).1.toList=(Bw t k).1.toList:=by rw[h]
 unfold Bw at e ⊢;simp only at e;have a:=List.append_cancel_left e;rw[a]
open Classical in
noncomputable def reN (tx tx':ByteArray) (σ:ByteArray→ByteArray) (x:ByteArray):ByteArray:=if h:∃k,x=Bw tx k then Bw tx' h.choose else σ x
theorem AL7{s tx':Tb}{σ:Tb->Tb}(k:Nat):reN s tx' σ (Bw s k)=Bw tx' k:=by have h:∃i,Bw s k=Bw s i:=⟨k,rfl⟩;unfold reN;rw[dif_pos h];exact(ANF tx' h.choose_spec).symm
theorem AL1{s tx':Tb}{σ:Tb->Tb}{x:Tb}(h:∀k,x≠Bw s k):reN s tx' σ x=σ x:=by unfold reN;rw[dif_neg λ⟨k,e⟩=>h k e]
theorem AM0(a:Tb)(k:Nat):(⟨#[]⟩:Tb)≠Bw a k:=λe=>by
 have:=congrArg (λb:Tb=>b.1.toList.length) e;simp[Bw] at this
theorem AN6{s tx':Tb}{σ:Tb->Tb}{N:List Tb}(g:AMR σ N)(c:∀x∈N,∀k,x≠Bw s k)(d:∀x∈N,∀k,σ x≠Bw tx' k){M:List Tb}(f:∀x∈M,x∈N\/∃k,x=Bw s k):AMR (reN s tx' σ) M:=by
 intro x a y b e
 rcases f x a with a|⟨i,rfl⟩ <;> rcases f y b with b|⟨k,rfl⟩
 ·rw[AL1 (c x a),AL1 (c y b)] at e
  exact g x a y b e
 ·rw[AL1 (c x a),AL7] at e
  exact absurd e (d x a k)
 ·rw[AL1 (c y b),AL7] at e
  exact absurd e.symm (d y b i)
 rw[AL7,AL7] at e;exact ANF s e
theorem Twin.step{σ:Tb->Tb}{D v E i:Td}{s t:Ah}{p tx':Tb}{N:Bool}(h:Twin σ D v s)(L:Bi s (p,N,A) t)(w:∀e∈s.qx,∀k,e.1≠Bw p k)(G:∀e∈s.qx,∀k,σ e.1≠Bw tx' k)(y:∀a∈A,a.1=1->∃k,a.2.1=Bw p k/\Bx (Bw tx' k)=true/\Maps.has i (B.lit (Eh (Bw tx' k)))=true/\i.atKey (B.lit (Eh (Bw tx' k))) (B.Gw ByteArray.empty)=E.atKey (B.lit (Eh (Bw p k))) (B.Gw ByteArray.empty))(M:∀e∈s.qx,E.atKey (B.lit (Eh e.1)) (B.Gw ByteArray.empty)=D.atKey (B.lit (Eh e.1)) (B.Gw ByteArray.empty))(m:∀e∈s.qx,Maps.has i (B.lit (Eh (σ e.1)))=true/\i.atKey (B.lit (Eh (σ e.1))) (B.Gw ByteArray.empty)=v.atKey (B.lit (Eh (σ e.1))) (B.Gw ByteArray.empty)):Twin (reN p tx' σ) E i t:=by
 obtain⟨z,_⟩:=AMP L.2
 have u:∀x∈t.qx.map (·.1),x∈s.qx.map (·.1)\/∃k,x=Bw p k:=λx n=>by
  rcases z x n with q|⟨b,r,q,rfl⟩
  ·exact .inl q
  obtain⟨k,e,_⟩:=y b r q;exact .inr ⟨k,e⟩
 have l:∀e∈t.qx,(∃d∈s.qx,e.1=d.1/\reN p tx' σ e.1=σ d.1)\/∃k,e.1=Bw p k/\reN p tx' σ e.1=Bw tx' k/\Bx (Bw tx' k)=true/\Maps.has i (B.lit (Eh (Bw tx' k)))=true/\i.atKey (B.lit (Eh (Bw tx' k))) (B.Gw ByteArray.empty)=E.atKey (B.lit (Eh (Bw p k))) (B.Gw ByteArray.empty):=λe j=>by
  rcases z e.1 (List.mem_map.2 ⟨e,j,rfl⟩) with q|⟨b,r,q,g⟩
  ·obtain⟨d,f,g⟩:=List.mem_map.1 q
   refine .inl ⟨d,f,g.symm,?_⟩;rw[<-g];exact AL1 (w d f)
  obtain⟨k,c,o⟩:=y b r q;refine .inr ⟨k,g.trans c,?_,o⟩;rw[g,c];exact AL7 k
 refine⟨AN6 h.inj (λx n k=>?_) (λx n k=>?_) u,(AL1 λk e=>AM0 p k e).trans h.nil,λe j=>?_,λe j=>?_,λe j=>?_⟩
 ·obtain⟨d,f,rfl⟩:=List.mem_map.1 n
  exact w d f k
 ·obtain⟨d,f,rfl⟩:=List.mem_map.1 n
  exact G d f k
 ·rcases l e j with⟨d,f,_,c⟩|⟨k,_,c,_,I,_⟩
  ·rw[c];exact(m d f).1
  rw[c];exact I
 ·rcases l e j with⟨d,f,g,c⟩|⟨k,g,c,_,_,J⟩
  ·rw[c,g];exact((m d f).2.trans (h.Gw d f)).trans (M d f).symm
  rw[c,g];exact J
 rcases l e j with⟨d,f,_,c⟩|⟨k,_,c,o,_,_⟩
 ·rw[c];exact h.name d f
 rw[c];exact o
def Kept(D E:DataW Unit):Prop:=∀p,Maps.has D (B.lit (Eh p))=true->Maps.has E (B.lit (Eh p))=true/\E.atKey (B.lit (Eh p)) (B.Gw ByteArray.empty)=D.atKey (B.lit (Eh p)) (B.Gw ByteArray.empty)
theorem Kept.refl(D:Td):Kept D D:=λ_ h=>⟨h,rfl⟩
theorem Kept.trans{D E G:Td}(e:Kept D E)(f:Kept E G):Kept D G:=λp h=>by
 obtain⟨a,b⟩:=e p h;obtain⟨c,d⟩:=f p a;exact⟨c,d.trans b⟩
theorem Kept.put(D:Td){s:Tb}(v:Td)(h:Maps.has D (B.lit s)=false):Kept D (D.put (B.lit s) v):=λp b=>by
 have a:B.lit (Eh p)≠B.lit s:=λe=>by rw[e,h] at b;cases b
 exact⟨(Maps.has_put_other a _).trans b,Maps.atKey_put_other a _ _⟩
theorem Kept.log(D:Td)(i:Nat)(v:Td):Kept D (D.put (B.lit (Ek i)) v):=λp b=>by
 have a:B.lit (Eh p)≠B.lit (Ek i):=λe=>tG p i (B.Jr e)
 exact⟨(Maps.has_put_other a _).trans b,Maps.atKey_put_other a _ _⟩
theorem Kept.grown{D E:Td}{s:Tb}(h:Grown s D E):Kept D E:=by
 induction h with
 | refl=>exact Kept.refl D
 | put k v _ hf ih=>exact ih.trans (Kept.put _ v hf)
theorem C7.APc{D E:Td}{xs:List A6}(h:C7 D s xs)(f:∀e∈s.qx,Maps.has E (B.lit (Eh e.1))=true/\E.atKey (B.lit (Eh e.1)) (B.Gw ByteArray.empty)=D.atKey (B.lit (Eh e.1)) (B.Gw ByteArray.empty)):C7 E s xs :=
 ⟨⟨h.Lz.qx,λx b=>by have a:=h.Lz.each x b;obtain⟨c,d⟩:=f x.1 (by rw[<-h.Lz.qx];exact List.mem_map.2 ⟨x,b,rfl⟩);exact⟨c,d.trans a.Gw,a.ok,a.i64,a.name,a.qv⟩,h.Lz.Iz,h.Lz.eight,h.Lz.bare⟩,h.link,h.below,h.qj⟩
theorem C7.has{D:Td}{s:Ah}{xs:List A6}(h:C7 D s xs){e:Vc}(a:e∈s.qx):Maps.has D (B.lit (Eh e.1))=true:=by rw[<-h.Lz.qx] at a;obtain⟨x,b,rfl⟩:=List.mem_map.1 a;exact(h.Lz.each x b).has
theorem C7.kept{D E:Td}{xs:List A6}(h:C7 D s xs)(b:Kept D E):C7 E s xs:=h.APc λ_ a=>b _ (h.has a)
def AMp(D:DataW Unit):List ByteArray->DataW Unit
 | []=>.map []
 | p :: N=>(AMp D N).put (B.lit (Eh p)) (D.atKey (B.lit (Eh p)) (B.Gw ByteArray.empty))
theorem AMW(D:Td):∀N,Maps.IsMap (AMp D N)
 | []=>⟨_,rfl⟩
 | _ :: N=>(AMW D N).put _ _
theorem AMq(D:Td)(p:Tb):∀N,(p∈N->Maps.has (AMp D N) (B.lit (Eh p))=true/\(AMp D N).atKey (B.lit (Eh p)) (B.Gw ByteArray.empty)=D.atKey (B.lit (Eh p)) (B.Gw ByteArray.empty))/\(¬p∈N->Maps.has (AMp D N) (B.lit (Eh p))=false)
 | []=>⟨λh=>absurd h XQ,λ_=>by simp[AMp,Maps.has]⟩
 | q :: N=>by
   obtain⟨c,f⟩:=AMq D p N
   by_cases e:p=q
   ·subst e
    exact⟨λ_=>⟨Maps.has_put_same (AMW D N) L4 _,Maps.atKey_put_same (AMW D N) L4 _ _⟩,λh=>absurd (Ye ..) h⟩
   have a:B.lit (Eh p)≠B.lit (Eh q):=λd=>e (Uw (B.Jr d))
   refine⟨λh=>?_,λh=>?_⟩
   ·have b:p∈N:=(List.mem_cons.1 h).resolve_left e
    exact⟨(Maps.has_put_other a _).trans (c b).1,(Maps.atKey_put_other a _ _).trans (c b).2⟩
   exact(Maps.has_put_other a _).trans (f λb=>h (Yd _ b))
theorem AN7(s:Ah):ALv id s=s:=by unfold ALv;have:s.qx.map (AL3 id)=s.qx:=(Yn λ_ _=>rfl).trans (WU s.qx);rw[this]
theorem APH(xs:List A6):xs.map (ALj id)=xs:=(Yn λ_ _=>rfl).trans (WU xs)
theorem APG(A:List ADV):A.map (ALh id)=A:=(Yn λa _=>by unfold ALh;split <;> rfl).trans (WU A)
theorem AOp(z:La H){j:Nat}(hj:j<=H.length){p M:Td}{n xs:List A6}{s:Tb}{x:J4}{J:Bool}{qj:Int}{t:Ah}(h:V7 p (Ae H j) n s x M J A qj)(hn:Nj (s,J,A) H j H.length)(hE:∀h∈H,h.1.2.2≠[])(hx:j=H.length->n=xs)(l:Bi (Ae H H.length) (s,J,A) t)(P:C7 D (Ae H H.length) xs)(w:Maps.IsMap p)(hk:Kept M D)(a:∀e∈(Ae H H.length).qx,∀k,e.1≠Bw s k)(f:Plain s)(hz:s.size<=12)(G:AA5 x)(hA:A≠[])(T:A.length<=100):∃L,C7 D t L/\t.next<=max ((Ae H H.length).next+1) 9:=by
 obtain⟨F,W,h2,X,Y⟩:=AOr z hj h hn hE hx;have m:=Y id (AMp D ((Ae H H.length).qx.map (·.1))) s λ_=>rfl
 rw[AN7,APH,APG] at m;have v:∀e∈(Ae H H.length).qx,e.1∈(Ae H H.length).qx.map (·.1):=λe c=>List.mem_map.2 ⟨e,c,rfl⟩
 have r:=P.APc λe c=>(AMq D e.1 _).1 (v e c)
 have u:∀k,Maps.has (AMp D ((Ae H H.length).qx.map (·.1))) (B.lit (Eh (Bw s k)))=false:=λk=>(AMq D _ _).2 λhm=>by obtain⟨e,c,g⟩:=List.mem_map.1 hm;exact a e c k g
 obtain⟨L,hy,I⟩:=AI2 (AMW D _) r (Jb z (XA _)).1 (Mq z (XA _)) f hz u G m l hA;refine⟨L,hy.APc λe c=>?_,I⟩
 rcases (AMP l.2).1 e.1 (List.mem_map.2 ⟨e,c,rfl⟩) with q|⟨b,hb,q,o⟩
 ·obtain⟨d,R,o⟩:=List.mem_map.1 q
  have y:∀i,0<=i->i<0+F.length->Eh e.1≠Eh (Bw s i):=λi _ _ g=>a d R i (by rw[o];exact Uw g)
  refine⟨?_,?_⟩
  ·rw[<-o];exact P.has R
  rw[(AL5 s _ _ _ F 0 _ y).2];exact((AMq D e.1 ((Ae H H.length).qx.map (·.1))).1 q).2.symm
 obtain⟨k,aa,g⟩:=X b hb q;rw[o,g];obtain⟨N,a2,O⟩:=AMs f f (Ae H H.length).qz (B.Gw ByteArray.empty) F 0 p (AMp D ((Ae H H.length).qx.map (·.1))) k w (AMW D _) (XD _) (by omega) (by omega);rw[<-W] at N O;obtain⟨U,V⟩:=hk _ N;exact⟨U,V.trans O.symm⟩
theorem AIz:(List.range 31).all (λi=>Bx (wK i))=true:=by kernel_rfl
theorem AGv(h:i<=30):Bx (wK i)=true:=List.all_eq_true.1 AIz i (List.mem_range.2 (by omega))
def nms:Nat->List ByteArray
 | 0=>[]
 | i+1=>wK i :: nms i
theorem AD3:∀(i k:Nat),i<=k->k<=600->¬wK k∈nms i
 | 0,_,_,_,h=>by cases h
 | i+1,k,h1,h2,h=>by
   rcases List.mem_cons.1 h with e|e
   ·have:=AHh (by omega) (by omega) e
    omega
   exact AD3 i k (by omega) h2 e
theorem uF(w:Tw)(a:Ik w)(g:Lw w)(f:Jp w):Ey w (w.alloc (Zk #[.map none,Zs none 0 0] 28)) 0 w.1.size 0 (.map []) [] (.map none) (Zs none 0 0) :=
 ⟨B.AJj w,Zal,XA _,λk d=>(by cases d),a,g,f,λb off l c e=>(by cases e)⟩
def cA:Aj:=(1,⟨#[97]⟩,1,false,0,0,⟨#[]⟩)
def iL:ByteArray:=⟨#[116]⟩
def Pz:ByteArray:=⟨#[117]⟩
def txV:ByteArray:=⟨#[118]⟩
def aT:List ADV:=[(4,⟨#[]⟩,0,[],[cA],2)]
def sT:Ah:=⟨1,[cA],2,[]⟩
def R2:List (List V):=[[(1,1,⟨#[]⟩)],[(1,2,⟨#[]⟩)]]
def aU:List ADV:=[(1,Bw Pz 0,2,[],[],0)]
def sU:Ah:=⟨2,[cA],2,[(Bw Pz 0,2,[])]⟩
def xU:List A6:=[((Bw Pz 0,2,[]),[cA],R2)]
def tV:S.CT:=.node 0 0 ⟨1,⟨#[97]⟩,1,1,⟨#[]⟩⟩ .nil .nil
def aV:List ADV:=[(3,Bw Pz 0,0,[0],[],0)]
def sV:Ah:=⟨3,[cA],2,[(Bw Pz 0,2,[0])]⟩
def xV:List A6:=[((Bw Pz 0,2,[0]),[cA],R2)]
def H1:List (Dn×Ah):=[((iL,false,aT),sT)]
def H2:List (Dn×Ah):=[((iL,false,aT),sT),((Pz,false,aU),sU)]
def H3:List (Dn×Ah):=[((iL,false,aT),sT),((Pz,false,aU),sU),((txV,true,aV),sV)]
theorem AJd:Go.Proofs.YthafikkkjfielaaGreatDoor.Be [cA] 2=true:=by kernel_rfl
theorem AIh:De [cA] R2=true:=by kernel_rfl
theorem AJ4:Ex [cA] tV=0:=by kernel_rfl
theorem ABN:Ct [cA] tV ((Bw Pz 0,2,[]),[cA],R2)=[0]:=by kernel_rfl
theorem AFC:(E4 [cA] ((Bw Pz 0,2,[]),[cA],R2)).length=2:=by kernel_rfl
theorem goV:xU.flatMap (Vm [cA] tV)=aV:=by show Vm [cA] tV ((Bw Pz 0,2,[]),[cA],R2)++[]=aV;unfold Vm;rw[ABN,AFC];rfl
theorem AKR:xU.filterMap (pO [cA] tV)=xV:=by
 have h:pO [cA] tV ((Bw Pz 0,2,[]),[cA],R2)=some ((Bw Pz 0,2,[0]),[cA],R2):=by unfold pO;rw[ABN,AFC];simp[N6,Go.Proofs.YthafikkkjfielaaGreatDoor.Ir]
 unfold xU xV;rw[YP,h];rfl
theorem AKF:Fc [cA] xV=[[(1,2,⟨#[]⟩)]]:=by kernel_rfl
theorem okT:Cv (iL,false,aT)=true:=by kernel_rfl
theorem okU:Cv (Pz,false,aU)=true:=by kernel_rfl
theorem okV:Cv (txV,true,aV)=true:=by kernel_rfl
theorem apT:Bi F6 (iL,false,aT) sT:=⟨by kernel_rfl,sT,.inr (.inr (.inr ⟨rfl,⟨(I9 _ _).1 (by kernel_rfl),by decide⟩,rfl⟩)),rfl⟩
theorem nX{s:Tb}{fs:List Int}{t:Ah}(g:Cv (s,a,A)=true)(e:Bi (Ae H H.length) (s,a,A) t)(f:fs=[])(h:AD8 (s,a,A) H fs H.length v):False:=by
 rcases h with h|⟨i,b,j,_,h⟩|⟨i,c,b,d,_⟩|⟨_,h⟩
 ·rw[g] at h;cases h
 ·have:i=H.length:=by omega
  subst this;exact h t e
 ·rw[Yb b] at d;cases d
 subst f;cases h
theorem apU:Bi sT (Pz,false,aU) sU:=⟨by kernel_rfl,sU,.inl ⟨rfl,⟨by kernel_rfl,by decide,by decide,by decide +kernel,(λe=>by cases e),by decide⟩,rfl⟩,rfl⟩
theorem AJN:Bt (bump sU).qx (Bw Pz 0)=0:=by kernel_rfl
theorem AKq:sV=gJ (bump sU) (3,Bw Pz 0,0,[0],[],0):=by unfold gJ;simp only[AJN];simp[N6,Go.Proofs.YthafikkkjfielaaGreatDoor.Ir,sV,bump,sU]
theorem apV:Bi sU (txV,true,aV) sV:=⟨by kernel_rfl,sV,.inr (.inr (.inl ⟨rfl,⟨by decide +kernel,by kernel_rfl,by kernel_rfl⟩,AKq⟩)),rfl⟩
def dT:J4:=⟨0,[(0,⟨#[97]⟩,1,false,0,0,⟨#[]⟩)],[],[],0,⟨#[]⟩,⟨#[]⟩,λ_=>True⟩
def dU:J4:=⟨2,[],R2,[],0,⟨#[]⟩,⟨#[]⟩,λ_=>True⟩
def dV:J4:=⟨3,[],[],[],0,⟨#[]⟩,⟨#[]⟩,λT=>T=tV⟩
theorem mkT{D b:Td}{xs:List A6}{t:Tb}{qj:Int}(h:V7 D s xs t dT b a A qj):a=false/\A=aT:=by
 rcases h with⟨_,_,_,_,rfl,rfl,_⟩|⟨e,_⟩|⟨e,_⟩|⟨e,_⟩|⟨e,_⟩|⟨e,_⟩
 ·exact⟨rfl,rfl⟩
 all_goals exact absurd e (by decide)
theorem mkU{a:Td}{xs:List A6}{b:Bool}{qj:Int}(c:s.qz=[cA])(h:V7 D s xs Pz dU a b A qj):b=false/\A=aU/\a=D.put (B.lit (Eh (Bw Pz 0))) (Pa [cA] R2):=by
 rcases h with⟨e,_⟩|⟨e,_⟩|⟨_,_,_,rfl,rfl,rfl,_⟩|⟨e,_⟩|⟨e,_⟩|⟨e,_⟩
 rotate_left 2
 ·exact⟨rfl,rfl,by rw[c];rfl⟩
 all_goals exact absurd e (by decide)
theorem mkV{D b:Td}{t:Tb}{c:Bool}{qj:Int}(f:s.qz=[cA])(h:V7 D s xU t dV b c A qj):c=true/\A=aV/\b=D:=by
 rcases h with⟨e,_⟩|⟨e,_⟩|⟨e,_⟩|⟨_,T,d,_,_,rfl,rfl,rfl,_⟩|⟨e,_⟩|⟨e,_⟩
 rotate_left 3
 ·have a:T=tV:=d
  subst a;exact⟨rfl,by rw[f,goV],rfl⟩
 all_goals exact absurd e (by decide)
theorem AJW{w0 w W:Tw}{bb n:Nat}{fs:List Int}{mv:Tv}(h:Xt w0 w 0 bb n (.map []) fs mv [] [] iL [] dT e W):e=Zr Zn/\∃n' d b a c,Ey w0 W 0 bb n' d b a c/\n'<=n+100/\B.A0 (B.Own bb mv) w W/\(∀k,a=.map (some k)->mv=.map (some k)\/w.1.size<=k)/\Inv d H1 [iL]:=by
 obtain⟨n',d,b,a,c,z,o,s,u,r,p,⟨rfl,j,x,A,qj,g,h⟩|⟨T,y,rfl,rfl,_,h⟩⟩:=h
 ·obtain⟨rfl,rfl⟩:=mkT g
  rcases h with⟨e,_⟩|⟨_,_,t,q,rfl,rfl⟩
  ·cases e
  obtain⟨rfl,_⟩:=Ry q;exact⟨rfl,n',_,b,a,c,o,s,u,r,p⟩
 exfalso
 rcases h with h|⟨j,x,A,qj,l,G,n1,v,m,g,D,f,i⟩
 ·rcases h.1 rfl with h|h
  ·have:=AJd
   rw[show Go.Proofs.YthafikkkjfielaaGreatDoor.Be [cA] 2=false from h] at this;cases this
  exact h rfl
 obtain⟨rfl,rfl⟩:=mkT g;exact nX (H:=[]) okT apT (bJ f) i
theorem AKO(D:Td):C7 D sT []:=⟨⟨rfl,(λx a=>by cases a),XD _,by decide,λe=>by cases e⟩,(λx a=>by cases a),(λx a=>by cases a),(λx a=>by cases a)⟩
theorem AEL:K9 R2:=λr a v b=>by
 simp only[R2,WL,XQ,or_false] at a
 rcases a with rfl|rfl <;> (simp at b;subst b;exact⟨by decide,by decide⟩)
theorem AI4{w0 w W:Tw}{bb n:Nat}{fs:List Int}{mv:Tv}(G:fs=[])(j:Inv D H1 [iL])(f:Maps.has D (B.lit (Eh (Bw Pz 0)))=false)(h:Xt w0 w 0 bb n D fs mv H1 [iL] Pz [] dU e W):e=.returned .nilIface/\∃n' g b a c,Ey w0 W 0 bb n' g b a c/\n'<=n+100/\B.A0 (B.Own bb mv) w W/\(∀k,a=.map (some k)->mv=.map (some k)\/w.1.size<=k)/\Inv g H2 [Pz,iL]/\C7 g sU xU:=by
 obtain⟨n',g,b,a,c,P,u,J,L,I,v,⟨rfl,q,O,A,qj,o,h⟩|⟨T,y,rfl,rfl,_,h⟩⟩:=h
 ·obtain⟨rfl,rfl,rfl⟩:=mkU rfl o
  rcases h with⟨e,_⟩|⟨_,l,t,x,rfl,rfl⟩
  ·cases e
  have M:=eH x;subst M
  have m:C7 (D.put (B.lit (Eh (Bw Pz 0))) (Pa [cA] R2)) sU xU:=((AKO D).put f _).add (bD j.Lm.1 AIh AEL (by decide +kernel)) (λd z=>by
   have:d=cA:=by simpa[sT] using z
   subst this;decide) (by decide) 2
  exact⟨rfl,n',_,b,a,c,u,J,L,I,v,m.put ((l.Lm.2 1 (by decide)).2 (XA _)) _⟩
 exfalso
 rcases h with h|⟨q,O,A,qj,r,U,n1,N,s,o,R,i,p⟩
 ·rcases h.2.1 rfl with h|h|h
  ·cases h
  ·have:=AIh
   rw[show De [cA] R2=false from h] at this;cases this
  subst G;cases h
 obtain⟨rfl,rfl,_⟩:=mkU rfl o;exact nX (H:=H1) okU apU (bJ i) p
theorem AI9{w0 w W:Tw}{bb n:Nat}{fs:List Int}{mv:Tv}(g:Inv D H2 [Pz,iL])(x:C7 D sU xU)(h:Xt w0 w 0 bb n D fs mv H2 [Pz,iL] txV xU dV e W):e=Zr Zn/\∃n' d b a c,Ey w0 W 0 bb n' d b a c/\n'<=n+100/\B.A0 (B.Own bb mv) w W/\(∀k,a=.map (some k)->mv=.map (some k)\/w.1.size<=k)/\Inv d H3 [txV,Pz,iL]/\C7 d sV xV:=by
 obtain⟨n',d,b,a,c,P,u,J,L,I,v,⟨rfl,q,O,A,qj,o,h⟩|⟨T,y,rfl,rfl,_,h⟩⟩:=h
 ·obtain⟨rfl,rfl,rfl⟩:=mkV rfl o
  rcases h with⟨e,_⟩|⟨_,j,t,z,rfl,rfl⟩
  ·cases e
  have M:=K6 z.2 apV.2;subst M;have G:Good Bv Cm sU:=(Jb g.past (i:=2) (XA _)).1
  have m:C7 q sV xV:=by have:=x.go G tV 3;rw[show sU.qz=[cA] from rfl,AKR] at this;exact this
  exact⟨rfl,n',_,b,a,c,u,J,L,I,v,m.put ((j.Lm.2 2 (by decide)).2 (XA _)) _⟩
 exfalso
 rcases h with h|⟨q,O,A,qj,r,U,n1,N,s,o,R,f,p⟩
 ·obtain⟨T,l,h⟩:=h.2.2.1 rfl
  have e:T=tV:=l;subst e
  rcases h with h|h
  ·cases h
  exact h AJ4
 obtain⟨rfl,rfl,_⟩:=mkV rfl o;exact nX (H:=H2) okV apV (bJ f) p
def Pb(P:Prop)(w:World)(e:Ending)(a:World):Prop:=∃b,e=.returned (.bool b)/\(b=true->P)/\Zb w a
def ABP(l:List Aj):Prop:=l.length<=20/\∀c∈l,c.2.1.size<=60/\c.2.2.2.2.2.2.size<=100
def RowsFit(l:List (List V)):Prop:=l.length<=70/\∀r∈l,r.length<=20/\∀v∈r,v.2.2.size<=100
theorem O1{α:Type}{P:α->Prop}{l:List α}(h:∀x∈l.take k,P x)(a:l.length<=k):∀x∈l,P x:=by rwa[Yf a] at h
theorem My{α:Type}{P:α->Prop}{l:List α}{x:α}(h:∀x∈l.take k,P x)(c:l[k]? = some x)(b:P x):∀x∈l.take (k+1),P x:=by
 rw[E.Br c];intro y a
 rcases List.mem_append.1 a with a|a
 ·exact h y a
 simp at a;subst a;exact b
theorem pS(u:Tv)(l:List Aj)(w:Tw)(s:F7 7 Cc w u l)(e:∀c∈l,c.2.1.size<=maxLen/\c.2.2.2.2.2.2.size<=maxLen):
 Zc 18 #[u] w (Pb (ABP l) w):=by
 have x:=Aa s;obtain⟨R,T,rfl,_⟩:=s.slice;have h:=Aa e;clear s e
 by_cases h20:l.length<=20
 ·have d:¬(20:Int)<(l.length:Int):=by omega
  go_enter func18,ntmps18;go_wp2
  go_loopw [3] (λt wr=>∃k:Nat,k<=l.length/\t=Zi k/\Hid (∀c∈l.take k,c.2.1.size<=60/\c.2.2.2.2.2.2.size<=100)/\Hid (Zb w wr)) (λt _=>l.length-(intOf t).toNat)
  case atStart=>exact⟨0,XD _,rfl,Aa (by simp),Aa (XF _ _)⟩
  case round=>
   obtain⟨k,P,rfl,f,b⟩:=hrel
   by_cases hlt:k<l.length
   ·obtain⟨⟨c1,n,L,M,N,O,o⟩,g⟩:∃c,l[k]? = some c:=⟨_,Y' hlt⟩
    obtain⟨lb,U,G,z,_,D,a⟩:=(x.o.up b.o).cons (by omega);injection z with p _ q;subst p q;obtain⟨V,W,X,Y,q4,q5,q6⟩:=F8 a g;obtain⟨I,J⟩:=h.o _ (XG g);dsimp only at I J;have r:(k:Int)<(l.length:Int):=by omega
    have v:=Aa g;clear a g
    by_cases a1:n.size<=60
    ·have j:¬(60:Int)<(n.size:Int):=by omega
     by_cases a2:o.size<=100
     ·have m:¬(100:Int)<(o.size:Int):=by omega
      have i:=Aa (My f.o v.o ⟨a1,a2⟩);go_wp2;exact⟨⟨k+1,by omega,by go_num,i,b⟩,by simp[intOf];omega⟩
     have m:(100:Int)<(o.size:Int):=by omega
     go_wp2;go_ret;exact⟨_,rfl,by simp,b.o⟩
    have j:(60:Int)<(n.size:Int):=by omega
    go_wp2;go_ret;exact⟨_,rfl,by simp,b.o⟩
   have r:¬(k:Int)<(l.length:Int):=by omega
   have y:=Aa (O1 f.o (by omega));go_wp2;go_ret;exact⟨_,rfl,λ_=>⟨h20,y.o⟩,b.o⟩
 have d:(20:Int)<(l.length:Int):=by omega
 go_enter func18,ntmps18;go_wp2;go_ret;exact⟨_,rfl,by simp,XF _ _⟩
theorem oH(W:Tv)(l:List (List V))(w:Tw)(T:iJ w W l)(m:∀r∈l,∀v∈r,v.2.2.size<=maxLen):
 Zc 19 #[W] w (Pb (RowsFit l) w):=by
 have HL:=Aa T;obtain⟨la,lc,rfl,_⟩:=T.slice;have y:=Aa m;clear T m
 by_cases h70:l.length<=70
 ·have h:¬(70:Int)<(l.length:Int):=by omega
  go_enter func19,ntmps19;go_wp2
  go_loopw [3] (λg wr=>∃k:Nat,k<=l.length/\g=Zi k/\Hid (∀r∈l.take k,r.length<=20/\∀v∈r,v.2.2.size<=100)/\Hid (Zb w wr)) (λg _=>l.length-(intOf g).toNat)
  case atStart=>exact⟨0,XD _,rfl,Aa (by simp),Aa (XF _ _)⟩
  case round=>
   obtain⟨k,hk,rfl,n,c⟩:=hrel
   by_cases hlt:k<l.length
   ·obtain⟨r,s⟩:∃r,l[k]? = some r:=⟨_,Y' hlt⟩
    obtain⟨rb,ro,ac,xv,er,aa,f,N⟩:=(HL.o.up c.o).at s;injection er with L _ M;subst L M;obtain⟨xa,xc,rfl,_,p⟩:=N;have G:=Aa p;have o:=y.o r (XG s);have D:=Aa o;have z:=Aa s;have R:(k:Int)<(l.length:Int):=by omega
    clear p o s
    by_cases a1:r.length<=20
    ·have I:¬(20:Int)<(r.length:Int):=by omega
     go_wp2;rename Tw=>wo
     go_loopw [4] (λg wi=>∃j:Nat,j<=r.length/\g=Zi j/\Hid (∀v∈r.take j,v.2.2.size<=100)/\Hid (Zb wo wi)) (λg _=>r.length-(intOf g).toNat)
     case atStart=>exact⟨0,XD _,rfl,Aa (by simp),Aa (XF _ _)⟩
     case round=>
      obtain⟨j,hj,rfl,i,a⟩:=hrel;have q:=Ag a.o f
      by_cases hjl:j<r.length
      ·obtain⟨⟨vk,vn,U⟩,t⟩:∃x,r[j]? = some x:=⟨_,Y' hjl⟩
       obtain⟨xb,xo,rfl,ab,b⟩:=G.o (by intro e;rw[e] at hjl;simp at hjl);obtain⟨X,Y,y2⟩:=b j _ t;replace X:=Ag a.o X;replace Y:=Ag a.o Y;replace y2:=Ag a.o y2;have m1:=D.o _ (XG t);dsimp only at m1;have O:(j:Int)<(r.length:Int):=by omega
       have HV:=Aa t;clear b t
       by_cases a2:U.size<=100
       ·have J:¬(100:Int)<(U.size:Int):=by omega
        have d:=Aa (My (P:=λv:V=>v.2.2.size<=100) i.o HV.o a2);go_wp2;exact⟨⟨j+1,by omega,by go_num,d,a⟩,by simp[intOf];omega⟩
       have J:(100:Int)<(U.size:Int):=by omega
       go_wp2;go_ret;exact⟨_,rfl,by simp,Ap c.o a.o⟩
      have O:¬(j:Int)<(r.length:Int):=by omega
      have d:=Aa (My (P:=λr:List V=>r.length<=20/\∀v∈r,v.2.2.size<=100) n.o z.o ⟨a1,O1 (P:=λv:V=>v.2.2.size<=100) i.o (by omega)⟩);have u:=Aa (Ap c.o a.o);go_wp2;exact⟨⟨k+1,by omega,by go_num,d,u⟩,by simp[intOf];omega⟩
    have I:(20:Int)<(r.length:Int):=by omega
    go_wp2;go_ret;exact⟨_,rfl,by simp,c.o⟩
   have R:¬(k:Int)<(l.length:Int):=by omega
   have z:=Aa (O1 (P:=λr:List V=>r.length<=20/\∀v∈r,v.2.2.size<=100) n.o (by omega));go_wp2;go_ret;exact⟨_,rfl,λ_=>⟨h70,z.o⟩,c.o⟩
 have h:(70:Int)<(l.length:Int):=by omega
 go_enter func19,ntmps19;go_wp2;go_ret;exact⟨_,rfl,by simp,XF _ _⟩
variable{H:Type}{W:Tw}{x:DataW H×List MemPlace}
theorem Db:prog.cellsOf 3=1:=by kernel_rfl
theorem zS:prog.cellsOf 2=1:=by kernel_rfl
theorem B3:prog.cellsOf 4=1:=by kernel_rfl
theorem Vw:prog.cellsOf 9=1:=by kernel_rfl
theorem gQ:prog.cellsOf 67=3:=by kernel_rfl
theorem AGR:prog.cellsOf 69=7:=by kernel_rfl
theorem AHc:prog.cellsOf 71=1:=by kernel_rfl
theorem bounds{n:Int}(h:(Lit.int .i64 n).wf=true):-9223372036854775808<=n/\n<=9223372036854775807:=by have a:IntKind.i64.min = -9223372036854775808:=rfl;have b:IntKind.i64.max=9223372036854775807:=rfl;simp[Lit.wf,a,b] at h;omega
theorem qU{enc:TypeId×Tv->H}{base:Nat}{j:Nat->Bool}{held:Bool}{n:Nat}{cs:List Tv}(h:DataW.trod enc prog W base j held n 67 cs=some x):
 ∃v:V,cs=[Zi v.1,Zi v.2.1,Zt v.2.2]/\Ks v/\v.2.2.size<=maxLen:=by
 obtain⟨l,o,p,n1,_,f,c,d,e⟩:=trod_struct3 underlying67 h;rw[gQ] at f
 match cs,f with
 | [v0,v1,v2],_=>simp only[Db,Vw,zS,XX,XR,XN,XY] at c d e;obtain⟨k,e0,_,_⟩:=DataW.trod_int underlying3 c;obtain⟨m,a,_,g⟩:=DataW.trod_int underlying2 d;obtain⟨t,b,_,i⟩:=DataW.trod_string underlying9 e;simp at e0 a b;subst e0 a b;exact⟨(k,m,t),rfl,⟨(bounds g).1,(bounds g).2⟩,i⟩
theorem M0{α:Type}[Inhabited α]{enc:TypeId×Tv->H}{O:Nat->Bool}{held:Bool}{fuel k:Nat}{T E:TypeId}{en:α->List Tv}{P:α->Prop}{cs:List Tv}(y:0<k)(hlen:∀x,(en x).length=k)(X:prog.underlying T=some (.slice E))(V:prog.cellsOf E=k)(J:∀{n:Nat}{cs:List Tv}{x:DataW H×List MemPlace},DataW.trod enc prog W 0 O held n E cs=some x->∃q,cs=en q/\P q)(h:DataW.trod enc prog W 0 O held fuel T cs=some x):∃v,cs=[v]/\∃l:List α,F7 k en W v l/\∀q∈l,P q:=by
 rcases open_slice X h with⟨d,_⟩|⟨a,len,G,m,n,D,Pl,d,hb,Y,hm,L,b,r⟩
 ·exact⟨_,d,[],⟨_,_,rfl,XD _,λh=>absurd rfl h⟩,λx b=>by simp at b⟩
 refine⟨_,d,?_⟩
 rcases Yx len with rfl|c
 ·exact⟨[],⟨_,_,rfl,XD _,λh=>absurd rfl h⟩,λx b=>by simp at b⟩
 have aa:len<=m:=by rw[L];split <;> omega
 have p:∀i,i<len->∃q:α,W.cells? 0 (a.add (i*k)) k=some (en q)/\P q:=λi w=>by obtain⟨R,N,U⟩:=r i (by omega);obtain⟨q,rfl,hq⟩:=J U;rw[V] at N;exact⟨q,N,hq⟩
 obtain⟨Q,I⟩:=choose_lt p;obtain⟨z,M,spot⟩:=a
 have g:spot=none:=by have:=(WQ (I 0 c).1).2.2 0 y;obtain⟨u,t,o⟩:=YW (l:=en (Q 0)) (by rw[hlen];exact y);rw[o] at this;simpa[Addr.add] using World.cell?_spot this
 subst g
 have cell:∀j,j<len->∀i,i<k->W.cell? (Zd z (M+j*k+i))=(en (Q j))[i]? := λj e i w=>by have:=(WQ (I j e).1).2.2 i w;rwa[add_plain,add_plain] at this
 have f:((List.range len).map Q).length=len:=by simp
 refine⟨(List.range len).map Q,⟨some (Zd z M),G,by rw[f],by rw[f];exact Y,λ_=>⟨z,M,rfl,?_,λj x e i u o=>?_⟩⟩,λx b=>?_⟩
 ·obtain⟨u,t,o⟩:=YW (l:=en (Q 0)) (by rw[hlen];exact y)
  exact block_lt_of_cell ((cell 0 c 0 y).trans (by rw[o];rfl))
 ·have s:j<len:=by have:=Ax e;rwa[f] at this
  have b:x=Q j:=by rw[XJ,List.getElem?_range s] at e;exact(Yt e).symm
  subst b;have w:i<k:=by have:=Ax o;rwa[hlen] at this
  rw[cell j s i w,o]
 simp only[WN,WX] at b;obtain⟨j,e,rfl⟩:=b;exact(I j e).2
def AIQ(v:V):List Value:=[Zi v.1,Zi v.2.1,.string v.2.2]
theorem mW{w:Tw}{v:Tv}{l:List V}(h:F7 3 AIQ w v l):E.Sl w v l:=by obtain⟨a,c,e,k,m⟩:=h;refine⟨a,c,e,k,λn=>?_⟩;obtain⟨b,off,g,i,d⟩:=m n;exact⟨b,off,g,i,λj x f=>⟨d j x f 0 _ rfl,d j x f 1 _ rfl,d j x f 2 _ rfl⟩⟩
end F
namespace S
variable{W w:Tw}{u v:Tv}{g i m n q:Nat}{X Y:List Tv}{a d:List CT}{T:CT}{c k:Int}
def AHk:CT->Nat
 | .nil=>0
 | .node _ _ _ l r=>1+max (AHk l) (AHk r)
theorem Gy.grown{w W:Tw}{row:Option Nat}(i:w.grownBy W row)(a:∀g,row=some g->∃d,w.1[g]? = some (Zk d 86)):∀{T:CT}{v:Tv},Gy w T v->Gy W T v
 | .nil,_,h=>h
 | .node _ _ ⟨_,_,_,_,_⟩ _ _,_,⟨b,pl,pr,e,hh,hcd,hl,hr⟩=>⟨b,pl,pr,e,by
    rw[i.block b (by
     rcases Yc b w.1.size with f|f
     ·exact f
     rw[XZ f] at hh;cases hh) (λj=>by
     obtain⟨d,c⟩:=a b j.symm;rw[hh] at c;injection c with c;injection c with _ c;exact absurd c (by decide))]
    exact hh,hcd,Gy.grown i a hl,Gy.grown i a hr⟩
structure Stack(w0 wr:World)(i:Nat)(v:Value)(n:Nat)(vs:List Value)(Ts:List CT):Prop where
 own:wr.ownsRow w0.1.size 86 1 v n vs
 len:Ts.length=n
 ins:∀(j:Nat)(T:CT)(u:Value),Ts[j]? = some T->vs[j]? = some u->Gy wr T u/\0<AHk T
 dep:(Ts.map AHk).sum<=i
 xL:Zb w0 wr
theorem Ad{B e z n:Nat}{xs:List Tv}(h:w.ownsRow B e z v n xs)(k:Zb w W):W.ownsRow B e z v n xs:=by
 refine⟨h.1,?_⟩
 rcases h.2 with a|⟨g,b,c,f,i,d,j⟩
 ·exact .inl a
 refine .inr ⟨g,b,c,f,i,?_,j⟩
 rw[k.block g (by
  rcases Yc g w.1.size with a|a
  ·exact a
  rw[XZ a] at d;cases d)]
 exact d
theorem Ai{B k e z n:Nat}{xs:List Tv}(h:w.ownsRow B e z v n xs)(j:k<=B):w.ownsRow k e z v n xs:=by
 refine⟨h.1,?_⟩
 rcases h.2 with i|⟨g,a,b,c,d,f⟩
 ·exact .inl i
 exact .inr ⟨g,a,b,c,XC j d,f⟩
theorem Ak{B e z n:Nat}{xs:List Tv}(h:w.ownsRow B e z v n xs):∃b a,v=Zs b n a/\n<=a/\a<=maxLen:=by
 rcases h.2 with⟨rfl,rfl⟩|⟨g,c,d,f,k,l,i,j,_⟩
 ·exact⟨none,0,rfl,XA _,by unfold maxLen;omega⟩
 exact⟨_,_,f,i,j⟩
theorem below_grown(a:w.grownBy W none):Zb w W :=
 ⟨a.os,a.tape,a.output,a.size,λk b=>a.block k b (by simp)⟩
theorem AFp:∀(a:List CT),(∀T∈a,0<AHk T)->a.length<=(a.map AHk).sum
 | [],_=>by simp
 | T :: a,h=>by have d:=h T (by simp);have e:=AFp a (λc b=>h c (by simp[b]));simp only[XO,WC,XP];omega
theorem Stack.sS{w0 wr:Tw}(h:Stack w0 wr i v n X a):X.length=n:=by have:=h.own.1;omega
theorem Stack.pos{w0 wr:Tw}(h:Stack w0 wr i v n X a):∀T∈a,0<AHk T:=by
 intro T c;obtain⟨j,b,e⟩:=List.mem_iff_getElem.1 c;have d:j<X.length:=by rw[h.sS,<-h.len];exact b
 exact(h.ins j T X[j] (by rw[Y' b,e]) (Y' d)).2
theorem Stack.AK5{w0 wr:Tw}(h:Stack w0 wr i v n X a):n<=i:=by have b:=AFp a h.pos;have c:=h.dep;have d:=h.len;omega
theorem Stack.up{w0 wr W:Tw}{i k:Nat}{v:Tv}{n:Nat}{X:List Tv}{b:List CT}(h:Stack w0 wr i v n X b)(a:Zb wr W)(e:i<=k):Stack w0 W k v n X b :=
 ⟨Ad h.own a,h.len,λj T u c d=>⟨(h.ins j T u c d).1.up a,(h.ins j T u c d).2⟩,XC h.dep e,Below.up h.xL a⟩
theorem AHw{B n:Nat}{xs:List Tv}(h:w.ownsRow B 86 1 v n xs):∀g,v.ownBlock=some g->∃a,w.1[g]? = some (Zk a 86):=by
 intro g b
 rcases h.2 with⟨rfl,_⟩|⟨i,c,a,rfl,e,d,f⟩
 ·cases b
 cases b;exact⟨a,d⟩
theorem Stack.push{w0 wr w:Tw}{v v':Tv}(h:Stack w0 wr i v n X d)(o:Gy wr T u)(s:AHk T=1)(f:wr.grownBy w v.ownBlock)(r:w.ownsRow w0.1.size 86 1 v' (n+1) (X++[u])):Stack w0 w (i+1) v' (n+1) (X++[u]) (d++[T]):=by
 have b:=AHw h.own;refine⟨r,by simp[h.len],?_,?_,?_⟩
 ·intro j g m a c
  have q:d.length=X.length:=by rw[h.len,h.sS]
  by_cases hj:j<d.length
  ·rw[XI hj] at a
   rw[XI (by omega)] at c;exact⟨(h.ins j g m a c).1.grown f b,(h.ins j g m a c).2⟩
  rw[XK (by omega)] at a;rw[XK (by omega)] at c
  have e:j-d.length=0:=by
   rcases Yx (j-d.length) with l|l
   ·exact l
   rw[Yb (by simp;omega)] at a;cases a
  rw[e] at a;rw[<-q,e] at c;simp at a c;subst a c;exact⟨o.grown f b,by omega⟩
 ·have:=h.dep;simp;omega
 exact Below.grown h.xL f h.xL.size (λk p=>(h.own.lt k p).1)
theorem Stack.replace{w0 wr w:Tw}{v v':Tv}{c:List CT}(h:Stack w0 wr i v n X c)(m:Nat)(x:m<=n)(l:Gy wr T u)(r:0<AHk T)(t:((c.take m).map AHk).sum+AHk T<=i+1)(o:wr.grownBy w none)(q:w.ownsRow wr.1.size 86 1 v' (m+1) (X.take m++[u])):Stack w0 w (i+1) v' (m+1) (X.take m++[u]) (c.take m++[T]):=by
 have d:=below_grown o;have p:(c.take m).length=m:=by simp[h.len];omega
 have s:(X.take m).length=m:=by simp[h.sS];omega
 refine⟨Ai q h.xL.size,by simp[h.len];omega,?_,by rw[XH,X2];simp only[XO,X4,WC,WR];omega,Below.up h.xL d⟩;intro j f k a b
 by_cases hj:j<m
 ·rw[XI (by omega),Yi hj] at a
  rw[XI (by omega),Yi hj] at b;exact⟨(h.ins j f k a b).1.up d,(h.ins j f k a b).2⟩
 rw[XK (by omega)] at a;rw[XK (by omega)] at b
 have e:j-m=0:=by
  rcases Yx (j-m) with g|g
  ·exact g
  rw[Yb (by simp;omega)] at a;cases a
 rw[p,e] at a;rw[s,e] at b;simp at a b;subst a b;exact⟨l.up d,r⟩
theorem Stack.AK1{w0 wr:Tw}(h:Stack w0 wr i v (m+1) X a):∃u T,X[m]? = some u/\Gy wr T u/\((a.take m).map AHk).sum+AHk T<=i/\a[m]? = some T:=by
 have c:m<X.length:=by rw[h.sS];omega
 have b:m<a.length:=by rw[h.len];omega
 refine⟨X[m],a[m],Y' c,(h.ins m _ _ (Y' b) (Y' c)).1,?_,Y' b⟩
 have e:a=a.take m++[a[m]]:=by rw[<-Ys b,Yf (by rw[h.len];omega)]
 have f:=h.dep;have d:=congrArg (λl=>(l.map AHk).sum) e;simp only[XH,X2,XO,X4,WC,WR] at d;omega
theorem Stack.AKv{w0 wr:Tw}(h:Stack w0 wr i v (m+2) X a):∃k n c d,X[m]? = some k/\X[m+1]? = some n/\Gy wr c k/\Gy wr d n/\0<AHk c/\0<AHk d/\((a.take m).map AHk).sum+AHk c+AHk d<=i/\a[m]? = some c/\a[m+1]? = some d:=by
 have f:m+1<X.length:=by rw[h.sS];omega
 have b:m+1<a.length:=by rw[h.len];omega
 have g:=h.ins m _ _ (Y' (Y8 b)) (Y' (Y8 f));have j:=h.ins (m+1) _ _ (Y' b) (Y' f);refine⟨X[m],X[m+1],a[m],a[m+1],Y' _,Y' f,g.1,j.1,g.2,j.2,?_,Y' _,Y' b⟩
 have e:a=a.take m++[a[m]]++[a[m+1]]:=by rw[<-Ys (Y8 b),<-Ys b,Yf (by rw[h.len];omega)]
 have p:=h.dep;have o:=congrArg (λl=>(l.map AHk).sum) e;simp only[XH,X2,XO,X4,WC,WR] at o;omega
theorem Stack.cells{w0 wr:Tw}{i:Nat}{g k:Nat}{n:Nat}{X:List Tv}{b:List CT}(h:Stack w0 wr i (Zs (some (Zd g 0)) n k) n X b){j:Nat}{u:Tv}(c:X[j]? = some u):wr.cell? (Zd g j)=some u:=by
 have:=h.own.cells (g:=g) rfl j u c;have a:((Zd g 0):Addr).add j=(Zd g j):=by unfold Addr.add;split <;> simp_all
 rwa[a] at this
theorem Stack.Hc{w0 wr:Tw}{c:To}{k:Nat}{f:List CT}(h:Stack w0 wr i (Zs c n k) n X f)(p:0<n):∃g,c=some (Zd g 0)/\w0.1.size<=g/\g<wr.1.size:=by
 rcases h.own.2 with⟨e,o⟩|⟨g,j,l,a,m,d,_⟩
 ·omega
 injection a with a _ _;refine⟨g,a,m,?_⟩
 rcases Yc g wr.1.size with b|b
 ·exact b
 rw[XZ b] at d;cases d
theorem Stack.last{w0 wr:Tw}(h:Stack w0 wr i v n X a){j:Nat}(d:j<n):∃u T,X[j]? = some u/\a[j]? = some T/\Gy wr T u/\0<AHk T:=by
 have c:j<X.length:=by rw[h.sS];omega
 have b:j<a.length:=by rw[h.len];omega
 exact⟨X[j],a[j],Y' c,Y' b,h.ins j _ _ (Y' b) (Y' c)⟩
theorem Ip:(prog.info? 86).map (λi=>(i.zero,i.size,i.bytes))=some (some (Zp none),1,8):=by kernel_rfl
theorem wrap_small(m:Nat)(h:m<=1000):IntKind.i64.wrap (m:Int)=(m:Int):=by rw[IntKind.wrap_i64];omega
theorem Gy.ptr:∀{T:CT}{v:Tv},Gy w T v->∃p,v=Zp p
 | .nil,_,h=>⟨none,h⟩
 | .node _ _ ⟨_,_,_,_,_⟩ _ _,_,⟨b,_,_,e,_⟩=>⟨some (Zd b 0),e⟩
theorem L9(w:Tw)(X Y Z:Obj):Zb w (((w.alloc X).alloc Y).alloc Z).drew:=(((Zal).alloc (by simp) _).alloc (by simp;omega) _).drew
theorem AFv(w:Tw)(X Y Z:Obj):(((w.alloc X).alloc Y).alloc Z).drew.heap[w.1.size+1+1]? = some Z:=by rw[<-show ((w.alloc X).alloc Y).heap.size=w.1.size+1+1 by simp];exact Yac _ _
theorem second(w:Tw)(X Y Z:Obj):(((w.alloc X).alloc Y).alloc Z).drew.heap[w.1.size+1]? = some Y:=by refine(WT _ _ _ (by simp)).trans ?_;rw[<-show (w.alloc X).heap.size=w.1.size+1 by simp];exact Yac _ _
theorem Nr(w:Tw)(cs:Array Tv)(Y Z:Obj):(((w.alloc (Zk cs 73)).alloc Y).alloc Z).drew.cell? (Zd w.1.size 0)=cs[0]? := by
 show (((w.alloc (Zk cs 73)).alloc Y).alloc Z).cell? (Zd w.1.size 0)=cs[0]?;rw[WI _ _ _ (by simp;omega),WI _ _ _ (by simp),World.cell?_alloc_at _ _ _ _ rfl]
theorem take_one{b:List CT}(h:b[0]? = some T):AHk T<=((b.take 1).map AHk).sum:=by
 cases b with
 | nil=>simp at h
 | cons a l=>simp at h;subst h;simp
theorem Br(h:a[q]? = some T):((a.take (q+1)).map AHk).sum=((a.take q).map AHk).sum+AHk T:=by
 have c:q<a.length:=by
  rcases Yc q a.length with b|b
  ·exact b
  rw[Yb b] at h;cases h
 rw[Ys c,XH,X2];rw[Y' c] at h;injection h with h;simp[h]
theorem jQ{w0 wr:Tw}{k:Nat}{f:List CT}(h:Stack w0 wr i (Zs (some (Zd g 0)) n k) n X f)(m:Nat):
 ∀W,Zb wr W->∀b,(some (Zd g 0):To)=some b->∀(j:Nat)(u:Tv),(X.take m)[j]? = some u->W.cell? (b.add j)=some u:=by
 intro W l b e j u c;cases e;have a:((Zd g 0):Addr).add j=(Zd g j):=by unfold Addr.add;split <;> simp_all
 rw[a]
 have d:X[j]? = some u:=by
  rw[List.getElem?_take] at c;split at c
  ·exact c
  cases c
 have:=(h.up l (XA _)).cells d;exact this
theorem fP{w0 wr:Tw}{k:Nat}{e:List CT}(h:Stack w0 wr i (Zs (some (Zd g 0)) n k) n Y e):
 ∃a:Tw->Prop,Hid (a wr/\(∀W X,a W->a (W.alloc X))/\(∀W,a W->∀q,q<n->∃b c,W.cell? (Zd g q)=some (Zp b)/\Gy W c (Zp b)/\0<AHk c/\e[q]? = some c)/\(∀W,a W->Zb w0 W)):=by
 refine⟨λW=>Zb wr W,XF _ _,λW X hb=>hb.alloc hb.size _,λW hb q hq=>?_,λW hb=>Below.up h.xL hb⟩;obtain⟨u,T,l,d,f,j⟩:=h.last hq;obtain⟨b,rfl⟩:=f.ptr;exact⟨b,T,(h.up hb (XA _)).cells l,f.up hb,j,d⟩
theorem rA{a:CT}{p b:To}{c:List CT}{d:Tw->Prop}(f:Gy w T (Zp p))(g:Gy w a (Zp b))(j:0<AHk T)(k:0<AHk a)(l:AHk T<=((c.take q).map AHk).sum)(i:c[q]? = some a)(h:d (w.alloc (Zk #[Zi 9,Zt ⟨#[]⟩,Zi 0,Zi 0,Zt ⟨#[]⟩,Zp p,Zp b] 120))):
 Gy (w.alloc (Zk #[Zi 9,Zt ⟨#[]⟩,Zi 0,Zi 0,Zt ⟨#[]⟩,Zp p,Zp b] 120)) (.node 0 0 ⟨9,⟨#[]⟩,0,0,⟨#[]⟩⟩ T a) (Zp (some (Zd w.1.size 0)))/\0<AHk (.node 0 0 ⟨9,⟨#[]⟩,0,0,⟨#[]⟩⟩ T a)/\AHk (.node 0 0 ⟨9,⟨#[]⟩,0,0,⟨#[]⟩⟩ T a)<=((c.take (q+1)).map AHk).sum/\d (w.alloc (Zk #[Zi 9,Zt ⟨#[]⟩,Zi 0,Zi 0,Zt ⟨#[]⟩,Zp p,Zp b] 120)):=by
 have e:Zb w (w.alloc (Zk #[Zi 9,Zt ⟨#[]⟩,Zi 0,Zi 0,Zt ⟨#[]⟩,Zp p,Zp b] 120)):=Zal;refine⟨?_,by simp only[AHk];omega,by rw[Br i];simp only[AHk];omega,h⟩;unfold Gy;exact⟨_,Zp p,Zp b,rfl,Yac _ _,by omega,f.up e,g.up e⟩
theorem vI(w:Tw):Gy w .nil (Zp none):=rfl
theorem Stack.step{w0 wr w:Tw}{v v':Tv}{a b:CT}{u f:Tv}{c k n':Int}{Bl t:Tb}{X Z:Obj}(h:Stack w0 wr i v n Y d)(o:m<=n)(g:1<=c/\c<=11)(l:Gy wr a u)(q:Gy wr b f)(r:((d.take m).map AHk).sum+(1+max (AHk a) (AHk b))<=i+1)(j:(((wr.alloc X).alloc (Zk #[Zi c,Zt Bl,Zi k,Zi n',Zt t,u,f] 120)).alloc Z).drew.grownBy w none)(p:w.ownsRow (((wr.alloc X).alloc (Zk #[Zi c,Zt Bl,Zi k,Zi n',Zt t,u,f] 120)).alloc Z).drew.heap.size 86 1 v' (m+1) (Y.take m++[Zp (some (Zd (wr.1.size+1) 0))])):
 Stack w0 w (i+1) v' (m+1) (Y.take m++[Zp (some (Zd (wr.1.size+1) 0))]) (d.take m++[.node 0 0 ⟨c,Bl,k,n',t⟩ a b]):=by
 have e:=L9 wr X (Zk #[Zi c,Zt Bl,Zi k,Zi n',Zt t,u,f] 120) Z;refine(h.up e (XA _)).replace m o ?_ (by simp only[AHk];omega) (by simp only[AHk];omega) j p;unfold Gy;exact⟨_,u,f,rfl,second wr _ _ _,g,l.up e,q.up e⟩
theorem M4(w:Tw)(X Y:Obj):Zb w ((w.alloc X).alloc Y):=(Zal).alloc (by simp) _
theorem AJC(w:Tw)(X Y:Obj)(H:Nat)(a:w.1.size=H):((w.alloc X).alloc Y).heap[H]? = some X:=by subst a;exact(WT _ _ _ (by simp)).trans (Yac _ _)
theorem bG(w:Tw)(X Y:Obj)(H:Nat)(a:w.1.size+1=H):((w.alloc X).alloc Y).heap[H]? = some Y:=by subst a;rw[<-show (w.alloc X).heap.size=w.1.size+1 by simp];exact Yac _ _
theorem Stack.leaf{w0 wr w W:Tw}{v v':Tv}{b:List CT}{c k n':Int}{Bl t:Tb}{Z:Obj}{H:Nat}(h:Stack w0 wr i v n X b)(a:1<=c/\c<=11)(e:Zb wr w)(d:w.1.size=H)(f:((w.alloc (Zk #[Zi c,Zt Bl,Zi k,Zi n',Zt t,Zp none,Zp none] 120)).alloc Z).grownBy W v.ownBlock)(g:W.ownsRow w0.1.size 86 1 v' (n+1) (X++[Zp (some (Zd H 0))])):
 Stack w0 W (i+1) v' (n+1) (X++[Zp (some (Zd H 0))]) (b++[.node 0 0 ⟨c,Bl,k,n',t⟩ .nil .nil]):=by
 refine(h.up (Below.up e (M4 w _ _)) (XA _)).push ?_ (by simp[AHk]) f g;unfold Gy;exact⟨_,Zp none,Zp none,rfl,AJC w _ _ H d,a,vI _,vI _⟩
def stp(c:Int)(Bl:ByteArray)(k n:Int)(t:ByteArray)(a:List CT):List CT :=
 if c=11 then (if a.length=0 then a else a.take (a.length-1)++[.node 0 0 ⟨11,⟨#[]⟩,0,0,⟨#[]⟩⟩ (a[a.length-1]?.getD .nil) .nil])
 else if c=9\/c=10 then (if a.length<=1 then a else a.take (a.length-2)++[.node 0 0 ⟨c,⟨#[]⟩,0,0,⟨#[]⟩⟩ (a[a.length-2]?.getD .nil) (a[a.length-1]?.getD .nil)])
 else if 1<=c/\c<=6 then (if t.size<=100/\E.A9 k n t=true then a++[.node 0 0 ⟨c,Bl,k,n,t⟩ .nil .nil] else a)
 else if c=7\/c=8 then a++[.node 0 0 ⟨c,Bl,0,0,⟨#[]⟩⟩ .nil .nil]
 else a
theorem AOx{Bl t:Tb}{n:Int}(h:a.length=0):stp 11 Bl k n t a=a:=by simp[stp,h]
theorem APN{Bl t:Tb}{n:Int}(h:a.length=m+1)(b:a[m]? = some T):stp 11 Bl k n t a=a.take m++[.node 0 0 ⟨11,⟨#[]⟩,0,0,⟨#[]⟩⟩ T .nil]:=by unfold stp;rw[Yae rfl,Yad (by omega),h,show m+1-1=m from rfl,b];rfl
theorem AOz{n:Int}{Bl t:Tb}(b:c=9\/c=10)(h:a.length<=1):stp c Bl k n t a=a:=by unfold stp;rw[Yad (by omega),Yae b,Yae h]
theorem APO{n:Int}{Bl t:Tb}{b d:CT}(g:c=9\/c=10)(h:a.length=m+2)(e:a[m]? = some b)(f:a[m+1]? = some d):stp c Bl k n t a=a.take m++[.node 0 0 ⟨c,⟨#[]⟩,0,0,⟨#[]⟩⟩ b d]:=by unfold stp;rw[Yad (by omega),Yae g,Yad (by omega),h,show m+2-2=m from rfl,show m+2-1=m+1 from rfl,e,f];rfl
theorem ANi{n:Int}{Bl t:Tb}(b:1<=c)(d:c<=6)(f:(t.size:Int)<=100)(e:E.A9 k n t=true):stp c Bl k n t a=a++[.node 0 0 ⟨c,Bl,k,n,t⟩ .nil .nil]:=by unfold stp;rw[Yad (by omega),Yad (by omega),Yae ⟨b,d⟩,Yae ⟨by omega,e⟩]
theorem ANJ{n:Int}{Bl t:Tb}(b:1<=c)(d:c<=6)(h:¬((t.size:Int)<=100/\E.A9 k n t=true)):stp c Bl k n t a=a:=by unfold stp;rw[Yad (by omega),Yad (by omega),Yae ⟨b,d⟩,Yad (λe=>h ⟨by omega,e.2⟩)]
theorem AOy{n:Int}{Bl t:Tb}(h:c=7\/c=8):stp c Bl k n t a=a++[.node 0 0 ⟨c,Bl,0,0,⟨#[]⟩⟩ .nil .nil]:=by unfold stp;rw[Yad (by omega),Yad (by omega),Yad (by omega),Yae h]
theorem APi{n:Int}{Bl t:Tb}(h:¬(1<=c/\c<=11)):stp c Bl k n t a=a:=by unfold stp;rw[Yad (by omega),Yad (by omega),Yad (by omega),Yad (by omega)]
def stk(a PK c:Nat->Int)(b d:Nat->ByteArray):Nat->List CT
 | 0=>[]
 | k+1=>stp (a k) (b k) (PK k) (c k) (d k) (stk a PK c b d k)
def AMi:List CT->CT
 | []=>.nil
 | T :: l=>l.foldl (λa b=>.node 0 0 ⟨9,⟨#[]⟩,0,0,⟨#[]⟩⟩ a b) T
theorem ANb(h:a[0]? = some T):AMi (a.take 1)=T:=by
 cases a with
 | nil=>cases h
 | cons x l=>simp at h;subst h;rfl
theorem AND(b:1<=q)(h:a[q]? = some T):AMi (a.take (q+1))=.node 0 0 ⟨9,⟨#[]⟩,0,0,⟨#[]⟩⟩ (AMi (a.take q)) T:=by
 cases a with
 | nil=>cases h
 | cons x l=>obtain⟨r,rfl⟩:∃r,q=r+1:=⟨q-1,by omega⟩;simp only[List.getElem?_cons_succ] at h;simp only[XN,AMi];rw[YG,h,Option.toList_some,List.foldl_append];rfl
def AMS(L:Nat)(a PK c:Nat->Int)(b d:Nat->ByteArray):CT:=AMi (stk a PK c b d (min L 14))
theorem ANA{A B C D E:Prop}(h:A/\B/\C/\D)(e:E):A/\B/\C/\D/\E:=⟨h.1,h.2.1,h.2.2.1,h.2.2.2,e⟩
theorem ANX(O ol L aq:Nat)(D PK I:Nat->Int)(G z:Nat->Tb)(w:Tw)(_hL:L<=aq)(_hcap:aq<=maxLen)(hT:∀j,(z j).size<=maxLen)(ab:O<w.1.size)(q0:∀j,j<L->w.cell? (Zd O (ol+j*5))=some (Zi (D j)))(q1:∀j,j<L->w.cell? (Zd O (ol+j*5+1))=some (Zt (G j)))(q2:∀j,j<L->w.cell? (Zd O (ol+j*5+2))=some (Zi (PK j)))(q3:∀j,j<L->w.cell? (Zd O (ol+j*5+3))=some (Zi (I j)))(q4:∀j,j<L->w.cell? (Zd O (ol+j*5+4))=some (Zt (z j))):
 Zc 24 #[Zs (some (Zd O ol)) L aq] w λe w'=>∃v,e=Zr v/\Gy w' (AMS L D PK I G z) v/\AHk (AMS L D PK I G z)<=14/\Zb w w':=by
 obtain⟨i0,a6,ba,bb,bc⟩:=info_parts Ip;have y:Hid (prog.info? 86=some i0/\i0.zero=some (Zp none)/\i0.size=1/\i0.bytes=8):=⟨a6,ba,bb,bc⟩;clear a6 ba bb bc;have Q0:=Ab q0;have Q1:=Ab q1;have Q2:=Ab q2;have Q3:=Ab q3;have Q4:=Ab q4;have HT:=Ab hT;clear q0 q1 q2 q3 q4 hT;unfold maxLen at _hcap;go_enter func24,ntmps24;go_wp2
 go_loopw [3,4] (λo i wr=>∃(k n:Nat)(N:List Tv)(l:List CT),k<=14/\i=Zi k/\Hid (Stack w wr k o n N l/\k<=L/\l=stk D PK I G z k)) (λ_ i _=>14-(intOf i).toNat)
 case atStart=>exact⟨0,0,[],[],by omega,rfl,⟨⟨WA _ _ _ _,rfl,λj T u h=>by simp at h,by simp,XF _ _⟩,XD _,rfl⟩⟩
 case round=>
  obtain⟨k,n,N,l,hk,rfl,d⟩:=hrel;obtain⟨ao,cp,rfl,bm,bd⟩:=Ak d.o.1.own;have bx:=d.o.1.AK5;unfold maxLen at bd
  by_cases aa:k<L/\k<14
  ·obtain⟨V,a7⟩:=aa
   have hb:=d.o.1.xL;have bk:O<wr.1.size:=Ya ab hb.size;have c0:wr.cell? (Zd O (ol+k*5))=some (Zi (D k)):=(hb.cell (p:=Zd O (ol+k*5)) ab).trans (Q0.o k V);have c1:wr.cell? (Zd O (ol+k*5+1))=some (Zt (G k)):=(hb.cell (p:=Zd O (ol+k*5+1)) ab).trans (Q1.o k V);have c2:wr.cell? (Zd O (ol+k*5+2))=some (Zi (PK k)):=(hb.cell (p:=Zd O (ol+k*5+2)) ab).trans (Q2.o k V);have c3:wr.cell? (Zd O (ol+k*5+3))=some (Zi (I k)):=(hb.cell (p:=Zd O (ol+k*5+3)) ab).trans (Q3.o k V);have c4:wr.cell? (Zd O (ol+k*5+4))=some (Zt (z k)):=(hb.cell (p:=Zd O (ol+k*5+4)) ab).trans (Q4.o k V);have ht:=HT.o k;have HE:Hid (stk D PK I G z (k+1)=stp (D k) (G k) (PK k) (I k) (z k) l):=Ab (by rw[d.o.2.2];rfl);have s:=Ab V;clear hb Q0 Q1 Q2 Q3 Q4 HT;generalize D k=c at *;generalize G k=Bl at *;generalize PK k=kk at *;generalize I k=nn at *;generalize z k=tt at *;have HB:Hid (∀X,Zb wr (wr.alloc X)):=λX=>Zal
   by_cases h11:c=11
   ·subst h11
    by_cases hn0:n=0
    ·subst hn0
     have M:Hid (stk D PK I G z (k+1)=l):=Ab (HE.o.trans (AOx d.o.1.len));go_wp2
     all_goals
      go_roundw
      case rel=>exact⟨k+1,_,N,l,by omega,by go_num,Ab ⟨d.o.1.up (HB.o _) (by omega),s.o,M.o.symm⟩⟩
      case measure=>simp[intOf];omega
    obtain⟨m,rfl⟩:∃m,n=m+1:=⟨n-1,by omega⟩;obtain⟨g,rfl,ax,ac⟩:=d.o.1.Hc (by omega);obtain⟨u,T,hu,aw,Y,a2⟩:=d.o.1.AK1;have M:Hid (stk D PK I G z (k+1)=l.take m++[.node 0 0 ⟨11,⟨#[]⟩,0,0,⟨#[]⟩⟩ T .nil]):=Ab (HE.o.trans (APN d.o.1.len a2));clear a2;obtain⟨pu,rfl⟩:=aw.ptr;have cu:=d.o.1.cells hu;have HU:Hid (Gy wr T (Zp pu)/\N[m]? = some (Zp pu)):=⟨aw,hu⟩;have HD:=Ab Y;have bf:(0:Int)<=(m:Int):=by omega
    have bg:(m:Int)<(m:Int)+1:=by omega
    clear hu aw Y;have HC:Hid (∀W,Zb wr W->∀b,(some (Zd g 0):To)=some b->∀(j:Nat)(u':Tv),(N.take m)[j]? = some u'->W.cell? (b.add j)=some u'):=jQ d.o.1 m;have HV:Hid ((N.take m).length=m*1):=Ab (by simp[d.o.1.sS]);have bw:=WS wr (Zd g m) cu;have HK:Hid (∀W,Zb wr W->W.cell? (Zd g m)=some (Zp pu)):=λW hb=>(hb.cell (p:=Zd g m) ac).trans cu
    have bj:IntKind.i64.wrap (m:Int)=(m:Int):=wrap_small m (by omega);have bh:(m:Int)<=(cp:Int):=by omega
    go_wp2_with fail
    go_region_held3 (λw'=>w'.cell? (Zd g m)=some (Zp pu))
     (first
       | (go_keep;done)
       | exact HK.o _ (L9 wr _ _ _)
       | exact HK.o _ (Below.up (L9 wr _ _ _) (below_grown a)))
     ((refine step_append_grows (by rfl) (.tmp 38) (.tmp 46) 118 (by rfl) 86 i0 (.pointer none) 1 8 underlying118 y.o.1 y.o.2.1 y.o.2.2.1 y.o.2.2.2 rfl (by omega) (some (Zd g 0)) m m (N.take m) (by rfl) (by simp) HV.o (HC.o _ (L9 wr _ _ _)) (Zd (wr.1.size+1+1) 0) 1 1 [.pointer (some (Zd (wr.1.size+1) 0))] (by rfl) (by rfl) (XL (cs:=#[.pointer (some (Zd (wr.1.size+1) 0))]) (t:=86) (fr:=(0,0)) (AFv wr _ _ _)) (by simp[Value.oneCell']) (by omega) (by unfold maxLen;omega) (by omega) ?_;intro v' P f a))
    go_wp2
    go_roundw
    case rel=>exact⟨k+1,m+1,_,_,by omega,by go_num,Ab ⟨d.o.1.step (by omega) (by omega) HU.o.1 (vI wr) (by have:=HD.o;simp only[AHk];omega) a f,s.o,M.o.symm⟩⟩
    case measure=>simp[intOf];omega
   have bs:(c==11)=false:=by simpa using h11
   by_cases h9:c=9\/c=10
   ·by_cases ak:n<=1
    ·have M:Hid (stk D PK I G z (k+1)=l):=Ab (HE.o.trans (AOz h9 (by rw[d.o.1.len];exact ak)))
     rcases h9 with rfl|rfl
     ·go_wp2
      all_goals
       go_roundw
       case rel=>exact⟨k+1,_,N,l,by omega,by go_num,Ab ⟨d.o.1.up (HB.o _) (by omega),s.o,M.o.symm⟩⟩
       case measure=>simp[intOf];omega
     go_wp2
     all_goals
      go_roundw
      case rel=>exact⟨k+1,_,N,l,by omega,by go_num,Ab ⟨d.o.1.up (HB.o _) (by omega),s.o,M.o.symm⟩⟩
      case measure=>simp[intOf];omega
    obtain⟨m,rfl⟩:∃m,n=m+2:=⟨n-2,by omega⟩;obtain⟨g,rfl,ax,ac⟩:=d.o.1.Hc (by omega);obtain⟨u1,u2,T1,T2,a8,a9,au,av,a4,a5,Y,am,an⟩:=d.o.1.AKv;have M:Hid (stk D PK I G z (k+1)=l.take m++[.node 0 0 ⟨c,⟨#[]⟩,0,0,⟨#[]⟩⟩ T1 T2]):=Ab (HE.o.trans (APO h9 d.o.1.len am an));clear am an;have a1:=d.o.1.cells a8;have ar:=d.o.1.cells a9;obtain⟨p1,rfl⟩:=au.ptr;obtain⟨p2,rfl⟩:=av.ptr;have HU:Hid (Gy wr T1 (Zp p1)/\Gy wr T2 (Zp p2)):=⟨au,av⟩;have HD:Hid (0<AHk T1/\0<AHk T2/\((l.take m).map AHk).sum+AHk T1+AHk T2<=k):=⟨a4,a5,Y⟩;have bf:(0:Int)<=(m:Int):=by omega
    have bg:(m:Int)<(m:Int)+2:=by omega
    obtain⟨m1,ap⟩:∃m1:Nat,m1=m+1:=⟨_,rfl⟩;have bu:(m1:Int)<(m:Int)+2:=by omega
    have bv:(0:Int)<=(m1:Int):=by omega
    have bq:IntKind.i64.wrap ((m:Int)+2-1)=(m1:Int):=by rw[show ((m:Int)+2-1)=(m1:Int) by omega];exact wrap_small m1 (by omega)
    rw[<-ap] at ar;clear ap;clear a8 a9 au av a4 a5 Y;have HC:Hid (∀W,Zb wr W->∀b,(some (Zd g 0):To)=some b->∀(j:Nat)(u':Tv),(N.take m)[j]? = some u'->W.cell? (b.add j)=some u'):=jQ d.o.1 m;have HV:Hid ((N.take m).length=m*1):=Ab (by simp[d.o.1.sS]);have bn:=WS wr (Zd g m) a1;have bo:=WS wr (Zd g m1) ar;have HK:Hid (∀W,Zb wr W->∀X,W.cell? (Zd wr.1.size 0)=some X->W.cell? (Zd g m)=some (Zp p1)/\W.cell? (Zd g m1)=some (Zp p2)/\W.cell? (Zd wr.1.size 0)=some X):=λW hb X hX=>⟨(hb.cell (p:=Zd g m) ac).trans a1,(hb.cell (p:=Zd g m1) ac).trans ar,hX⟩
    have bj:IntKind.i64.wrap (m:Int)=(m:Int):=wrap_small m (by omega);have bh:(m:Int)<=(cp:Int):=by omega
    rcases h9 with rfl|rfl
    ·go_wp2_with fail
     go_region_held3 (λw'=>w'.cell? (Zd g m)=some (Zp p1)/\w'.cell? (Zd g m1)=some (Zp p2)/\w'.cell? (Zd wr.1.size 0)=some (Zi 9))
      (first
        | (go_keep;done)
        | exact HK.o _ (L9 wr _ _ _) _ (Nr wr _ _ _)
        | exact HK.o _ (Below.up (L9 wr _ _ _) (below_grown a)) _ ((a.cell_far _ (by simp;omega) (by simp)).trans (Nr wr _ _ _)))
      ((refine step_append_grows (by rfl) (.tmp 66) (.tmp 81) 118 (by rfl) 86 i0 (.pointer none) 1 8 underlying118 y.o.1 y.o.2.1 y.o.2.2.1 y.o.2.2.2 rfl (by omega) (some (Zd g 0)) m m (N.take m) (by rfl) (by simp) HV.o (HC.o _ (L9 wr _ _ _)) (Zd (wr.1.size+1+1) 0) 1 1 [.pointer (some (Zd (wr.1.size+1) 0))] (by rfl) (by rfl) (XL (cs:=#[.pointer (some (Zd (wr.1.size+1) 0))]) (t:=86) (fr:=(0,0)) (AFv wr _ _ _)) (by simp[Value.oneCell']) (by omega) (by unfold maxLen;omega) (by omega) ?_;intro v' P f a))
     go_wp2
     go_roundw
     case rel=>exact⟨k+1,m+1,_,_,by omega,by go_num,Ab ⟨d.o.1.step (by omega) (by omega) HU.o.1 HU.o.2 (by have:=HD.o;omega) a f,s.o,M.o.symm⟩⟩
     case measure=>simp[intOf];omega
    go_wp2_with fail
    go_region_held3 (λw'=>w'.cell? (Zd g m)=some (Zp p1)/\w'.cell? (Zd g m1)=some (Zp p2)/\w'.cell? (Zd wr.1.size 0)=some (Zi 10))
     (first
       | (go_keep;done)
       | exact HK.o _ (L9 wr _ _ _) _ (Nr wr _ _ _)
       | exact HK.o _ (Below.up (L9 wr _ _ _) (below_grown a)) _ ((a.cell_far _ (by simp;omega) (by simp)).trans (Nr wr _ _ _)))
     ((refine step_append_grows (by rfl) (.tmp 66) (.tmp 81) 118 (by rfl) 86 i0 (.pointer none) 1 8 underlying118 y.o.1 y.o.2.1 y.o.2.2.1 y.o.2.2.2 rfl (by omega) (some (Zd g 0)) m m (N.take m) (by rfl) (by simp) HV.o (HC.o _ (L9 wr _ _ _)) (Zd (wr.1.size+1+1) 0) 1 1 [.pointer (some (Zd (wr.1.size+1) 0))] (by rfl) (by rfl) (XL (cs:=#[.pointer (some (Zd (wr.1.size+1) 0))]) (t:=86) (fr:=(0,0)) (AFv wr _ _ _)) (by simp[Value.oneCell']) (by omega) (by unfold maxLen;omega) (by omega) ?_;intro v' P f a))
    go_wp2
    go_roundw
    case rel=>exact⟨k+1,m+1,_,_,by omega,by go_num,Ab ⟨d.o.1.step (by omega) (by omega) HU.o.1 HU.o.2 (by have:=HD.o;omega) a f,s.o,M.o.symm⟩⟩
    case measure=>simp[intOf];omega
   have b9:(c==9)=false:=by simp;omega
   have br:(c==10)=false:=by simp;omega
   by_cases h16:1<=c/\c<=6
   ·obtain⟨h1,h6⟩:=h16
    have b7:(c==7)=false:=by simp;omega
    have b8:(c==8)=false:=by simp;omega
    by_cases hsz:(tt.size:Int)<=100
    ·have x:Hid (∀W,Zc 47 #[Zg #[Zi kk,Zi nn,Zt tt]] W λe w'=>e=Zr (Zo (E.A9 kk nn tt))/\Zb W w'):=λW=>E.Ln kk nn tt W ht
     cases hrv:E.A9 kk nn tt
     ·rw[hrv] at x
      have M:Hid (stk D PK I G z (k+1)=l):=Ab (HE.o.trans (ANJ h1 h6 (λhh=>by rw[hrv] at hh;cases hh.2)));clear hrv;go_wp2_with fail;refine(x.o _).mono ?_;rintro e P⟨rfl,J⟩;have x0:P.cell? (Zd wr.1.size 0)=some (Zi c):=(J.cell (p:=Zd wr.1.size 0) (by simp)).trans (by go_simp);have HX:=Ab J;clear J;go_wp2
      all_goals
       go_roundw
       case rel=>exact⟨k+1,n,N,l,by omega,by go_num,Ab ⟨d.o.1.up (Below.up (HB.o _) HX.o) (by omega),s.o,M.o.symm⟩⟩
       case measure=>simp[intOf];omega
     rw[hrv] at x;have M:Hid (stk D PK I G z (k+1)=l++[.node 0 0 ⟨c,Bl,kk,nn,tt⟩ .nil .nil]):=Ab (HE.o.trans (ANi h1 h6 hsz hrv));clear hrv;go_wp2_with fail;refine(x.o _).mono ?_;rintro e P⟨rfl,J⟩;have x0:P.cell? (Zd wr.1.size 0)=some (Zi c):=(J.cell (p:=Zd wr.1.size 0) (by simp)).trans (by go_simp);have x1:P.cell? (Zd wr.1.size 1)=some (Zt Bl):=(J.cell (p:=Zd wr.1.size 1) (by simp)).trans (by go_simp);have x2:P.cell? (Zd wr.1.size 2)=some (Zi kk):=(J.cell (p:=Zd wr.1.size 2) (by simp)).trans (by go_simp);have x3:P.cell? (Zd wr.1.size 3)=some (Zi nn):=(J.cell (p:=Zd wr.1.size 3) (by simp)).trans (by go_simp);have x4:P.cell? (Zd wr.1.size 4)=some (Zt tt):=(J.cell (p:=Zd wr.1.size 4) (by simp)).trans (by go_simp);have HX:Hid (Zb wr P):=Below.up (HB.o _) J;clear J;go_wp2_with (at_builtin;refine wpList_append_lies _ rfl (.tmp 104) (.tmp 113) 118 rfl w.1.size 86 i0 (.pointer none) 1 8 underlying118 y.o.1 y.o.2.1 y.o.2.2.1 y.o.2.2.2 rfl (by omega) (.slice ao n cp) n N rfl (Ad d.o.1.own (Below.up HX.o (M4 P _ _))) (Zd (P.1.size+1) 0) 1 1 [.pointer (some (Zd P.1.size 0))] rfl rfl (XL (cs:=#[.pointer (some (Zd P.1.size 0))]) (t:=86) (fr:=(0,0)) (bG P _ _ _ (by simp))) (by simp[Value.oneCell']) (by omega) (by unfold maxLen;omega) (by omega) (XC d.o.1.xL.size (Below.up HX.o (M4 P _ _)).size) (P.1.size+1+1) (by simp) ?_;intro gg a0 w2 f a a3 aa)
     go_roundw
     case rel=>exact⟨k+1,n+1,_,_,by omega,by go_num,Ab ⟨d.o.1.leaf (by omega) HX.o (by simp) a f,s.o,M.o.symm⟩⟩
     case measure=>simp[intOf];omega
    have bp:(100:Int)<tt.size:=by omega
    have M:Hid (stk D PK I G z (k+1)=l):=Ab (HE.o.trans (ANJ h1 h6 (λhh=>by omega)));clear hsz;go_wp2
    all_goals
     go_roundw
     case rel=>exact⟨k+1,_,N,l,by omega,by go_num,Ab ⟨d.o.1.up (HB.o _) (by omega),s.o,M.o.symm⟩⟩
     case measure=>simp[intOf];omega
   by_cases al:c=7\/c=8
   ·skip
    have M:Hid (stk D PK I G z (k+1)=l++[.node 0 0 ⟨c,Bl,0,0,⟨#[]⟩⟩ .nil .nil]):=Ab (HE.o.trans (AOy al));clear h16 h9 h11
    rcases al with rfl|rfl
    ·go_wp2_with (at_builtin;refine wpList_append_lies _ rfl (.tmp 124) (.tmp 131) 118 rfl w.1.size 86 i0 (.pointer none) 1 8 underlying118 y.o.1 y.o.2.1 y.o.2.2.1 y.o.2.2.2 rfl (by omega) (.slice ao n cp) n N rfl (Ad d.o.1.own (Below.up (HB.o _) (M4 _ _ _))) (Zd (wr.1.size+1+1) 0) 1 1 [.pointer (some (Zd (wr.1.size+1) 0))] rfl rfl (XL (cs:=#[.pointer (some (Zd (wr.1.size+1) 0))]) (t:=86) (fr:=(0,0)) (bG (wr.alloc _) _ _ _ (by simp))) (by simp[Value.oneCell']) (by omega) (by unfold maxLen;omega) (by omega) (XC d.o.1.xL.size (Below.up (HB.o _) (M4 _ _ _)).size) (wr.1.size+1+1+1) (by simp) ?_;intro gg a0 w2 f a a3 aa)
     go_roundw
     case rel=>exact⟨k+1,n+1,_,_,by omega,by go_num,Ab ⟨d.o.1.leaf (by omega) (HB.o _) (by simp) a f,s.o,M.o.symm⟩⟩
     case measure=>simp[intOf];omega
    go_wp2_with (at_builtin;refine wpList_append_lies _ rfl (.tmp 124) (.tmp 131) 118 rfl w.1.size 86 i0 (.pointer none) 1 8 underlying118 y.o.1 y.o.2.1 y.o.2.2.1 y.o.2.2.2 rfl (by omega) (.slice ao n cp) n N rfl (Ad d.o.1.own (Below.up (HB.o _) (M4 _ _ _))) (Zd (wr.1.size+1+1) 0) 1 1 [.pointer (some (Zd (wr.1.size+1) 0))] rfl rfl (XL (cs:=#[.pointer (some (Zd (wr.1.size+1) 0))]) (t:=86) (fr:=(0,0)) (bG (wr.alloc _) _ _ _ (by simp))) (by simp[Value.oneCell']) (by omega) (by unfold maxLen;omega) (by omega) (XC d.o.1.xL.size (Below.up (HB.o _) (M4 _ _ _)).size) (wr.1.size+1+1+1) (by simp) ?_;intro gg a0 w2 f a a3 aa)
    go_roundw
    case rel=>exact⟨k+1,n+1,_,_,by omega,by go_num,Ab ⟨d.o.1.leaf (by omega) (HB.o _) (by simp) a f,s.o,M.o.symm⟩⟩
    case measure=>simp[intOf];omega
   have b7:(c==7)=false:=by simp;omega
   have b8:(c==8)=false:=by simp;omega
   have M:Hid (stk D PK I G z (k+1)=l):=Ab (HE.o.trans (APi (by omega)))
   by_cases hc1:1<=c
   ·have bt:¬c<=6:=by omega
    clear h16 al h9 h11;go_wp2
    all_goals
     go_roundw
     case rel=>exact⟨k+1,_,N,l,by omega,by go_num,Ab ⟨d.o.1.up (HB.o _) (by omega),s.o,M.o.symm⟩⟩
     case measure=>simp[intOf];omega
   clear h16 al h9 h11;go_wp2
   all_goals
    go_roundw
    case rel=>exact⟨k+1,_,N,l,by omega,by go_num,Ab ⟨d.o.1.up (HB.o _) (by omega),s.o,M.o.symm⟩⟩
    case measure=>simp[intOf];omega
  by_cases V:k<L
  ·have a7:¬k<14:=λhh=>aa ⟨V,hh⟩
   have ad:Hid (AMS L D PK I G z=AMi l):=Ab (by unfold AMS;rw[d.o.2.2];congr 1;have:=d.o.2.1;congr 1;omega);clear aa
   by_cases hn0:n=0
   ·subst hn0
    have ae:Hid (AMS L D PK I G z=.nil):=Ab (by rw[ad.o,Yag.1 d.o.1.len];rfl);go_wp2;go_ret;exact⟨_,rfl,by rw[ae.o];exact vI _,by rw[ae.o];simp[AHk],d.o.1.xL⟩
   obtain⟨g,rfl,ax,ac⟩:=d.o.1.Hc (by omega);obtain⟨BW,r⟩:=fP d.o.1;obtain⟨p0,T0,cu,ag,ai,R⟩:=r.o.2.2.1 _ r.o.1 0 (by omega);have H0:Hid (Gy wr T0 (Zp p0)/\0<AHk T0/\l[0]? = some T0):=⟨ag,ai,R⟩;have HD:=Ab d.o.1.dep;have HL:=Ab d.o.1.len;clear ag ai R d Q0 Q1 Q2 Q3 Q4 HT;have ak:(n==0)=false:=by simpa using hn0
   have ay:(0:Int)<(n:Int):=by omega
   go_wp2
   go_loopw [7,8] (λcv iv w2=>∃(q:Nat)(T:CT)(p:To),1<=q/\q<=n/\iv=Zi q/\cv=Zp p/\Hid (Gy w2 T (Zp p)/\0<AHk T/\AHk T<=((l.take q).map AHk).sum/\BW w2/\T=AMi (l.take q))) (λ_ iv _=>n-(intOf iv).toNat)
   case atStart=>exact⟨1,T0,p0,by omega,by omega,rfl,rfl,⟨H0.o.1,H0.o.2.1,take_one H0.o.2.2,r.o.1,(ANb H0.o.2.2).symm⟩⟩
   case round=>
    obtain⟨q,T,p,az,bi,rfl,rfl,x⟩:=hrel;clear cu ak ay
    by_cases hq:q<n
    ·obtain⟨pu,Tq,cq,ah,aj,U⟩:=r.o.2.2.1 _ x.o.2.2.2.1 q hq
     have HU:Hid (Gy wr Tq (Zp pu)/\0<AHk Tq/\l[q]? = some Tq):=⟨ah,aj,U⟩;clear ah aj U;go_wp2
     go_roundw
     case rel=>exact⟨q+1,.node 0 0 ⟨9,⟨#[]⟩,0,0,⟨#[]⟩⟩ T Tq,some (Zd wr.1.size 0),by omega,by omega,by go_num,rfl,Ab (ANA (rA x.o.1 HU.o.1 x.o.2.1 HU.o.2.1 x.o.2.2.1 HU.o.2.2 (r.o.2.1 _ _ x.o.2.2.2.1)) (by rw[AND az HU.o.2.2,<-x.o.2.2.2.2]))⟩
     case measure=>simp[intOf];omega
    have af:Hid (AMS L D PK I G z=T):=Ab (by rw[ad.o,x.o.2.2.2.2,Yf (by have:=HL.o;omega)])
    have HF:Hid (AHk T<=14):=Ab (by have h1:=x.o.2.2.1;have h2:=HD.o;rw[Yf (by have:=HL.o;omega)] at h1;omega)
    go_wp2;go_ret;exact⟨_,rfl,by rw[af.o];exact x.o.1,by rw[af.o];exact HF.o,r.o.2.2.2 _ x.o.2.2.2.1⟩
  have ad:Hid (AMS L D PK I G z=AMi l):=Ab (by unfold AMS;rw[d.o.2.2];congr 1;have:=d.o.2.1;congr 1;omega);clear aa
  by_cases hn0:n=0
  ·subst hn0
   have ae:Hid (AMS L D PK I G z=.nil):=Ab (by rw[ad.o,Yag.1 d.o.1.len];rfl);go_wp2;go_ret;exact⟨_,rfl,by rw[ae.o];exact vI _,by rw[ae.o];simp[AHk],d.o.1.xL⟩
  obtain⟨g,rfl,ax,ac⟩:=d.o.1.Hc (by omega);obtain⟨BW,r⟩:=fP d.o.1;obtain⟨p0,T0,cu,ag,ai,R⟩:=r.o.2.2.1 _ r.o.1 0 (by omega);have H0:Hid (Gy wr T0 (Zp p0)/\0<AHk T0/\l[0]? = some T0):=⟨ag,ai,R⟩;have HD:=Ab d.o.1.dep;have HL:=Ab d.o.1.len;clear ag ai R d Q0 Q1 Q2 Q3 Q4 HT;have ak:(n==0)=false:=by simpa using hn0
  have ay:(0:Int)<(n:Int):=by omega
  go_wp2
  go_loopw [7,8] (λcv iv w2=>∃(q:Nat)(T:CT)(p:To),1<=q/\q<=n/\iv=Zi q/\cv=Zp p/\Hid (Gy w2 T (Zp p)/\0<AHk T/\AHk T<=((l.take q).map AHk).sum/\BW w2/\T=AMi (l.take q))) (λ_ iv _=>n-(intOf iv).toNat)
  case atStart=>exact⟨1,T0,p0,by omega,by omega,rfl,rfl,⟨H0.o.1,H0.o.2.1,take_one H0.o.2.2,r.o.1,(ANb H0.o.2.2).symm⟩⟩
  case round=>
   obtain⟨q,T,p,az,bi,rfl,rfl,x⟩:=hrel;clear cu ak ay
   by_cases hq:q<n
   ·obtain⟨pu,Tq,cq,ah,aj,U⟩:=r.o.2.2.1 _ x.o.2.2.2.1 q hq
    have HU:Hid (Gy wr Tq (Zp pu)/\0<AHk Tq/\l[q]? = some Tq):=⟨ah,aj,U⟩;clear ah aj U;go_wp2
    go_roundw
    case rel=>exact⟨q+1,.node 0 0 ⟨9,⟨#[]⟩,0,0,⟨#[]⟩⟩ T Tq,some (Zd wr.1.size 0),by omega,by omega,by go_num,rfl,Ab (ANA (rA x.o.1 HU.o.1 x.o.2.1 HU.o.2.1 x.o.2.2.1 HU.o.2.2 (r.o.2.1 _ _ x.o.2.2.2.1)) (by rw[AND az HU.o.2.2,<-x.o.2.2.2.2]))⟩
    case measure=>simp[intOf];omega
   have af:Hid (AMS L D PK I G z=T):=Ab (by rw[ad.o,x.o.2.2.2.2,Yf (by have:=HL.o;omega)])
   have HF:Hid (AHk T<=14):=Ab (by have h1:=x.o.2.2.1;have h2:=HD.o;rw[Yf (by have:=HL.o;omega)] at h1;omega)
   go_wp2;go_ret;exact⟨_,rfl,by rw[af.o];exact x.o.1,by rw[af.o];exact HF.o,r.o.2.2.2 _ x.o.2.2.2.1⟩
theorem V8(c:To)(a:Nat)(w:Tw):
 Zc 24 #[Zs c 0 a] w λe b=>∃v,e=Zr v/\Gy b .nil v/\Zb w b:=by
 go_enter func24,ntmps24;go_wp2
 go_loopw [3,4] (λo i wr=>o=Zs none 0 0/\i=Zi 0/\wr=w) (λ_ _ _=>0)
 case atStart=>exact⟨rfl,rfl,rfl⟩
 case round=>obtain⟨rfl,rfl,rfl⟩:=hrel;go_wp2;go_ret;exact⟨_,rfl,rfl,XF _ _⟩
theorem AHt:prog.cellsOf 73=5:=by kernel_rfl
theorem Db:prog.cellsOf 3=1:=by kernel_rfl
theorem zS:prog.cellsOf 2=1:=by kernel_rfl
theorem Vw:prog.cellsOf 9=1:=by kernel_rfl
theorem gQ:prog.cellsOf 67=3:=by kernel_rfl
theorem ABw{H:Type}{enc:TypeId×Tv->H}{W:Tw}{base:Nat}{s:Nat->Bool}{held:Bool}{n:Nat}{cs:List Tv}{x:DataW H×List MemPlace}(h:DataW.trod enc prog W base s held n 73 cs=some x):
 ∃(c k m:Int)(l t:Tb),cs=[Zi c,Zt l,Zi k,Zi m,Zt t]/\t.size<=maxLen:=by
 obtain⟨u,v,w,n1,_,q,j,o,p⟩:=trod_struct3 underlying73 h;rw[AHt] at q
 match cs,q with
 | [v0,v1,v2,v3,v4],_=>simp only[Db,Vw,gQ,XX,XR,XN,XY] at j o p;obtain⟨c,e0,_,_⟩:=DataW.trod_int underlying3 j;obtain⟨l,a,_,_⟩:=DataW.trod_string underlying9 o;obtain⟨y,z,D,n2,_,_,f,g,i⟩:=trod_struct3 underlying67 p;simp only[Db,Vw,zS,XX,XR,XN,XY] at f g i;obtain⟨k,b,_,_⟩:=DataW.trod_int underlying3 f;obtain⟨m,d,_,_⟩:=DataW.trod_int underlying2 g;obtain⟨t,e,_,r⟩:=DataW.trod_string underlying9 i;simp at e0 a b d e;subst e0 a b d e;exact⟨c,k,m,l,t,rfl,r⟩
structure Pt where
 c:Int
 k:Int
 m:Int
 l:ByteArray
 t:ByteArray
end S
namespace F
variable{w:Tw}{v:Tv}
theorem kM:prog.cellsOf 37=8:=by kernel_rfl
theorem pR:prog.cellsOf 78=4:=by kernel_rfl
theorem ACj:prog.cellsOf 73=5:=by kernel_rfl
theorem AH4:prog.cellsOf 32=1:=by kernel_rfl
theorem AID:prog.cellsOf 33=1:=by kernel_rfl
theorem AH3:prog.cellsOf 34=1:=by kernel_rfl
theorem AHJ:prog.cellsOf 35=1:=by kernel_rfl
structure DdS where
 x:J4
 ca:Option Addr
 cc:Nat
 ra:Option Addr
 rc:Nat
 pa:Option Addr
 pn:Nat
 pc:Nat
 sa:Option Addr
 sc:Nat
def AGa(q:DdS):List Value:=[Zi q.x.Qk,.slice q.ca q.x.qz.length q.cc,.slice q.ra q.x.qj.length q.rc,.slice q.pa q.pn q.pc,.slice q.sa q.x.A3.length q.sc,Zi q.x.change,.string q.x.name,.string q.x.tw]
structure Nf(w:World)(q:DdS):Prop where
 qz:F7 7 Cc w (.slice q.ca q.x.qz.length q.cc) q.x.qz
 ACl:∀c∈q.x.qz,c.2.1.size<=maxLen/\c.2.2.2.2.2.2.size<=maxLen
 uB:∀c∈q.x.qz,Vp c
 qj:iJ w (.slice q.ra q.x.qj.length q.rc) q.x.qj
 ACg:∀r∈q.x.qj,∀v∈r,Ks v/\v.2.2.size<=maxLen
 A3:F7 4 Wu w (.slice q.sa q.x.A3.length q.sc) q.x.A3
 wX:∀s∈q.x.A3,Ks s.2/\s.2.2.2.size<=maxLen
 cnd:∀W,Zb w W->Zc 24 #[.slice q.pa q.pn q.pc] W λe w'=>∃v T,e=.returned v/\S.Gy w' T v/\q.x.tree T/\Zb W w'
 nm:q.x.name.size<=maxLen
 tw:q.x.tw.size<=maxLen
structure U8(q:DdS):Prop where
 qz:ABP q.x.qz
 qj:RowsFit q.x.qj
 parts:q.pn<=20
 A3:q.x.A3.length<=10
 wX:∀s∈q.x.A3,s.2.2.2.size<=100
theorem ADe{l:List Aj}(h:F7 7 Cc w v l):bH w v l:=by
 obtain⟨a,c,e,k,n⟩:=h
 by_cases hn:l=[]
 ·subst hn;exact .inl ⟨⟨_,_,e⟩,rfl⟩
 obtain⟨b,off,f,g,d⟩:=n hn;subst f;refine .inr ⟨b,off,c,e,k,g,λj m i v o=>?_⟩;exact d j l[j]! (by rw[List.getElem!_eq_getElem?_getD,Y' m];rfl) i v o
theorem Nf.at{q:DdS}(h:Nf w q)(f:U8 q):K8 w q.x q.ca q.cc q.ra q.rc q.pa q.pn q.pc q.sa q.sc :=
 ⟨ADe h.qz,h.ACl,h.qj,λr a v b=>(h.ACg r a v b).2,h.A3,by have:=f.A3;omega,λs hs=>(h.wX s hs).2,h.cnd,h.tw,⟨h.uB,f.qz.1,λr a v b=>(h.ACg r a v b).1,by have:=f.qj.1;omega,λs hs=>(h.wX s hs).1⟩⟩
theorem oC{H:Type}{enc:TypeId×Tv->H}{P:Program}{base:Nat}{spare:Nat->Bool}{held:Bool}{t:TypeId}{b c d e f g i j:Field}{fuel:Nat}{cs:List Tv}{x:DataW H×List MemPlace}(m:P.underlying t=some (.struct #[b,c,d,e,f,g,i,j]))(h:DataW.trod enc P w base spare held fuel t cs=some x):
 ∃(n:Nat),cs.length=P.cellsOf t/\(∃y,DataW.trod enc P w base spare held n b.type ((cs.drop b.offset).take (P.cellsOf b.type))=some y)/\(∃y,DataW.trod enc P w base spare held n c.type ((cs.drop c.offset).take (P.cellsOf c.type))=some y)/\(∃y,DataW.trod enc P w base spare held n d.type ((cs.drop d.offset).take (P.cellsOf d.type))=some y)/\(∃y,DataW.trod enc P w base spare held n e.type ((cs.drop e.offset).take (P.cellsOf e.type))=some y)/\(∃y,DataW.trod enc P w base spare held n f.type ((cs.drop f.offset).take (P.cellsOf f.type))=some y)/\(∃y,DataW.trod enc P w base spare held n g.type ((cs.drop g.offset).take (P.cellsOf g.type))=some y)/\(∃y,DataW.trod enc P w base spare held n i.type ((cs.drop i.offset).take (P.cellsOf i.type))=some y)/\(∃y,DataW.trod enc P w base spare held n j.type ((cs.drop j.offset).take (P.cellsOf j.type))=some y):=by
 obtain⟨xs,n,_,_,l,k,a⟩:=DataW.trod_struct m h
 match xs,k with
 | [y0,y1,y2,y3,y4,y5,y6,y7],_=>exact⟨n,l,⟨y0,a 0 b rfl⟩,⟨y1,a 1 c rfl⟩,⟨y2,a 2 d rfl⟩,⟨y3,a 3 e rfl⟩,⟨y4,a 4 f rfl⟩,⟨y5,a 5 g rfl⟩,⟨y6,a 6 i rfl⟩,⟨y7,a 7 j rfl⟩⟩
section
variable {H : Type} {enc : TypeId × Value → H} {W : World} {sp : Nat → Bool} {held : Bool} {n : Nat} {cs : List Value} {x : DataW H × List MemPlace}
theorem AFs(h:DataW.trod enc prog W 0 sp held n 78 cs=some x):∃s:Vi,cs=Wu s/\Ks s.2/\s.2.2.2.size<=maxLen:=by
 obtain⟨k,l,n1,_,e,b,d⟩:=trod_struct2 underlying78 h;rw[pR] at e
 match cs,e with
 | [v0,v1,v2,v3],_=>simp only[Vw,gQ,XX,XR,XN,XY] at b d;obtain⟨c,e0,_,_⟩:=DataW.trod_string underlying9 b;obtain⟨v,a,j,i⟩:=qU d;simp at e0 a;obtain⟨a,f,g⟩:=a;subst e0 a f g;exact⟨(c,v),rfl,j,i⟩
theorem zP(h:DataW.trod enc prog W 0 sp held n 33 cs=some x):∃v,cs=[v]/\∃l:List (List V),iJ W v l/\∀r∈l,∀x∈r,Ks x/\x.2.2.size<=maxLen:=by
 obtain⟨v',e,l,z,p⟩:=M0 (α:=Tv×List V) (k:=1) (en:=λq=>[q.1]) (P:=λq=>E.Sl W q.1 q.2/\∀x∈q.2,Ks x/\x.2.2.size<=maxLen) (by decide) (λ_=>rfl) underlying33 AHc (λh=>by obtain⟨u,e,r,f,d⟩:=M0 (k:=3) (en:=AIQ) (P:=λx:V=>Ks x/\x.2.2.size<=maxLen) (by decide) (λ_=>rfl) underlying71 gQ (λh=>qU h) h;exact⟨(u,r),e,mW f,d⟩) h
 refine⟨v',e,?_⟩;obtain⟨a,c,t,y,g⟩:=z;refine⟨l.map (·.2),⟨l.map (·.1),⟨a,c,by rw[XB];exact t,by rw[XB];exact y,λD=>?_⟩,by simp,λj x r m f=>?_⟩,λr f=>?_⟩
 ·obtain⟨b,off,s,w,o⟩:=g (by intro h0;exact D (by rw[h0];rfl))
  refine⟨b,off,s,w,λj x m i u G=>?_⟩;rw[XJ] at m;obtain⟨q,d,rfl⟩:=Option.map_eq_some_iff.1 m;exact o j q d i u G
 ·rw[XJ] at m f
  obtain⟨q,d,rfl⟩:=Option.map_eq_some_iff.1 m;rw[d] at f;simp at f;subst f;exact(p q (XG d)).1
 obtain⟨q,d,rfl⟩:=List.mem_map.1 f;exact(p q d).2
def AHF(q:S.Pt):List Value:=[Zi q.c,.string q.l,Zi q.k,Zi q.m,.string q.t]
def AEm(W:World)(v:Value):Prop:=∃T,∀a,Zb W a->Zc 24 #[v] a λe b=>∃u,e=.returned u/\S.Gy b T u/\Zb a b
theorem AAi{l:List S.Pt}(h:F7 5 AHF W v l)(I:∀q∈l,q.t.size<=maxLen)(G:∀a n c,v=Zs a n c->c<=maxLen):AEm W v:=by
 obtain⟨a,c,rfl,z,D⟩:=h
 by_cases hn:l=[]
 ·subst hn
  refine⟨.nil,λs y=>(S.V8 a c s).mono ?_⟩;rintro e L⟨u,rfl,w,x⟩;exact⟨u,rfl,w,x⟩
 refine⟨S.AMS l.length (λj=>(l.getD j ⟨0,0,0,⟨#[]⟩,⟨#[]⟩⟩).c) (λj=>(l.getD j ⟨0,0,0,⟨#[]⟩,⟨#[]⟩⟩).k) (λj=>(l.getD j ⟨0,0,0,⟨#[]⟩,⟨#[]⟩⟩).m) (λj=>(l.getD j ⟨0,0,0,⟨#[]⟩,⟨#[]⟩⟩).l) (λj=>(l.getD j ⟨0,0,0,⟨#[]⟩,⟨#[]⟩⟩).t),λs y=>?_⟩;obtain⟨b,off,rfl,r,g⟩:=D hn;have M:∀j,j<l.length->∃q,l[j]? = some q:=λj d=>⟨_,Y' d⟩
 have f:∀(j:Nat)(d:j<l.length)(i:Nat)u,(AHF l[j])[i]? = some u->s.cell? (Zd b (off+j*5+i))=some u:=λj d i u J=>(y.cell (p:=Zd b (off+j*5+i)) r).trans (g j _ (Y' d) i u J)
 have o:∀(j:Nat)(d:j<l.length),l.getD j ⟨0,0,0,⟨#[]⟩,⟨#[]⟩⟩=l[j]:=λj d=>by rw[X',Y' d];rfl
 refine(S.ANX b off l.length c (λj=>(l.getD j ⟨0,0,0,⟨#[]⟩,⟨#[]⟩⟩).c) (λj=>(l.getD j ⟨0,0,0,⟨#[]⟩,⟨#[]⟩⟩).k) (λj=>(l.getD j ⟨0,0,0,⟨#[]⟩,⟨#[]⟩⟩).m) (λj=>(l.getD j ⟨0,0,0,⟨#[]⟩,⟨#[]⟩⟩).l) (λj=>(l.getD j ⟨0,0,0,⟨#[]⟩,⟨#[]⟩⟩).t) s z (G _ _ _ rfl) (λj=>?_) (Ya r y.size) (λj d=>?_) (λj d=>?_) (λj d=>?_) (λj d=>?_) (λj d=>?_)).mono ?_
 ·rcases Yc j l.length with d|d
  ·simp only[o j d];exact I _ (Yh d)
  rw[X',Yb d];decide
 ·rw[o j d];exact f j d 0 _ rfl
 ·rw[o j d];exact f j d 1 _ rfl
 ·rw[o j d];exact f j d 2 _ rfl
 ·rw[o j d];exact f j d 3 _ rfl
 ·rw[o j d];exact f j d 4 _ rfl
 rintro e L⟨u,rfl,w,_,x⟩;exact⟨u,rfl,w,x⟩
theorem AAh(h:DataW.trod enc prog W 0 sp held n 73 cs=some x):∃q:S.Pt,cs=AHF q/\q.t.size<=maxLen:=by obtain⟨c,k,m,l,t,e,a⟩:=S.ABw h;exact⟨⟨c,k,m,l,t⟩,e,a⟩
theorem ACw{T E:TypeId}(g:prog.underlying T=some (.slice E))(h:DataW.trod enc prog W 0 sp held n T cs=some x)(e:cs=[v]):∀a l c,v=.slice a l c->c<=maxLen:=by
 intro a l c f;subst f
 rcases open_slice g h with⟨b,_⟩|⟨k,len,d,m,n,D,j,b,o,p,i,_⟩
 ·rw[e] at b
  simp at b;rw[b.2.2];exact XD _
 rw[e] at b;simp at b;rw[b.2.2];exact i
theorem qH(h:DataW.trod enc prog W 0 sp held n 34 cs=some x):∃a l c,cs=[.slice a l c]/\l<=c/\AEm W (.slice a l c):=by
 haveI:Inhabited S.Pt:=⟨⟨0,0,0,⟨#[]⟩,⟨#[]⟩⟩⟩
 obtain⟨v,e,l,f,i⟩:=M0 (k:=5) (en:=AHF) (P:=λq:S.Pt=>q.t.size<=maxLen) (by decide) (λ_=>rfl) underlying34 ACj (λh=>AAh h) h;have g:=ACw underlying34 h e;have b:=f;obtain⟨a,c,rfl,d,_⟩:=b;exact⟨a,l.length,c,e,d,AAi f i g⟩
theorem ADH(h:DataW.trod enc prog W 0 sp held n 37 cs=some x):∃q:DdS,cs=AGa q/\Nf W q/\∃T,q.x.tree=λj=>j=T:=by
 obtain⟨n1,O,⟨y0,G⟩,⟨y1,g⟩,⟨y2,i⟩,⟨y3,I⟩,⟨y4,J⟩,⟨y5,L⟩,⟨y6,M⟩,⟨y7,N⟩⟩:=oC underlying37 h;rw[kM] at O
 match cs,O with
 | [v0,v1,v2,v3,v4,v5,v6,v7],_=>simp only[Db,Vw,AH4,AID,AH3,AHJ,XX,XR,XN,XY] at G g i I J L M N;obtain⟨wh,e0,_,_⟩:=DataW.trod_int underlying3 G;obtain⟨cv,t,qz,a,b⟩:=M0 (k:=7) (en:=Cc) (P:=λc:Aj=>(c.2.1.size<=maxLen/\c.2.2.2.2.2.2.size<=maxLen)/\Vp c) (by decide) (λ_=>rfl) underlying32 AGR (λh=>Go.Proofs.YthafikkkjfielaaGreatDoor.AEc h) g;obtain⟨rv,v,qj,d,o⟩:=zP i;obtain⟨pa,Y,X,w,_,m⟩:=qH I;obtain⟨sv,y,A3,f,p⟩:=M0 (k:=4) (en:=Wu) (P:=λs:Vi=>Ks s.2/\s.2.2.2.size<=maxLen) (by decide) (λ_=>rfl) underlying35 pR (λh=>AFs h) J;obtain⟨V,z,_,_⟩:=DataW.trod_int underlying3 L;obtain⟨nm,D,_,l⟩:=DataW.trod_string underlying9 M;obtain⟨tw,e7,_,r⟩:=DataW.trod_string underlying9 N;simp at e0 t v w y z D e7;subst e0 t v w y z D e7;obtain⟨R,U,rfl,_⟩:=a.slice;obtain⟨ra,rc,rfl,_⟩:=d.slice;obtain⟨sa,sc,rfl,_⟩:=f.slice;obtain⟨T,m⟩:=m;refine⟨⟨⟨wh,qz,qj,A3,V,nm,tw,λj=>j=T⟩,R,U,ra,rc,pa,Y,X,sa,sc⟩,rfl,⟨a,λc hc=>(b c hc).1,λc hc=>(b c hc).2,d,o,f,p,λW' hb=>?_,l,r⟩,T,rfl⟩;refine(m W' hb).mono ?_;rintro e w'⟨u,rfl,g,i⟩;exact⟨u,T,rfl,g,rfl,i⟩
end
variable{D c:Td}{s:Ah}{x:J4}{d i j k m n p:Nat}{A:List ADV}{H:List (Dn×Ah)}{U:List Tb}{w:Tw}
theorem Py(lv:Tv)(l:List DdS)(w:Tw)(hl:F7 8 AGa w lv l)(T:∀q∈l,Nf w q):
 Zc 6 #[lv] w (Pb (l.length<=30/\∀q∈l,U8 q) w):=by
 have HL:=Aa hl;obtain⟨la,lc,rfl,_⟩:=hl.slice;have HR:=Aa T;clear hl T
 by_cases h30:l.length<=30
 ·have I:¬(30:Int)<(l.length:Int):=by omega
  go_enter func6,ntmps6;go_wp2
  go_loopw [3] (λy wr=>∃k:Nat,k<=l.length/\y=Zi k/\Hid (∀q∈l.take k,U8 q)/\Hid (Zb w wr)) (λy _=>l.length-(intOf y).toNat)
  case atStart=>exact⟨0,XD _,rfl,Aa (by simp),Aa (XF _ _)⟩
  case round=>
   obtain⟨k,hk,rfl,M,u⟩:=hrel
   by_cases hlt:k<l.length
   ·obtain⟨q,f⟩:∃q,l[k]? = some q:=⟨_,Y' hlt⟩
    obtain⟨lb,lo,ap,el,_,an,a⟩:=(HL.o.up u.o).cons (by omega);injection el with ah _ ai;subst ah ai;have q0:=a k q f 0 _ rfl;have q1:=a k q f 1 _ rfl;have q2:=a k q f 2 _ rfl;have q3:=a k q f 3 _ rfl;have q4:=a k q f 4 _ rfl;have q5:=a k q f 5 _ rfl;have q6:=a k q f 6 _ rfl;have q7:=a k q f 7 _ rfl;simp only[WH] at q0;have d:=Aa (HR.o q (XG f));have HQ:=Aa f;have am:(k:Int)<(l.length:Int):=by omega
    clear a f;obtain⟨⟨wh,qz,qj,A3,ch,nm,z,tr⟩,ca,cc,ra,rc,pa,R,pc,sa,sc⟩:=q;simp only at q0 q1 q2 q3 q4 q5 q6 q7;have J:Zb wr (wr.alloc (Zk #[Zi wh,Zs ca qz.length cc,Zs ra qj.length rc,Zs pa R pc,Zs sa A3.length sc,Zi ch,Zt nm,Zt z] 37)):=Zal;have G:=Aa (Yac wr (Zk #[Zi wh,Zs ca qz.length cc,Zs ra qj.length rc,Zs pa R pc,Zs sa A3.length sc,Zi ch,Zt nm,Zt z] 37));have D:=Aa (Ap u.o J);have m1:nm.size<=maxLen:=d.o.nm;have m2:z.size<=maxLen:=d.o.tw;have i:=Aa (pS (Zs ca qz.length cc) qz _ (d.o.qz.up D.o) d.o.ACl);have o:=Aa (λW(hW:Zb w W)=>oH (Zs ra qj.length rc) qj W (d.o.qj.up hW) (λr T v g=>(d.o.ACg r T v g).2));unfold Pb at i o;clear J;go_wp2_with fail;apply i.o.mono;rintro e w2⟨b2,rfl,N,p⟩;have X:=Aa N;have h:=Aa (Ap D.o p);have m:=Aa ((p.block _ (Ac G.o)).trans G.o);clear N p i;obtain⟨y0,y1,y2,y3,y4,y5,y6,y7,yf⟩:=F2 m.o;clear q0 q1 q2 q3 q4 q5 q6 q7;cases b2 with
    | false=>go_wp2_with fail;go_ret;exact⟨_,rfl,by simp,h.o⟩
    | true=>
      go_wp2_with fail;refine(o.o _ h.o).mono ?_;rintro e w3⟨b3,rfl,O,t⟩;have Y:=Aa O;have c:=Aa (Ap h.o t);have V:=Aa ((t.block _ (Ac m.o)).trans m.o);clear O t o y0 y1 y2 y3 y4 y5 y6 y7 yf;obtain⟨y0,y1,y2,y3,y4,y5,y6,y7,yf⟩:=F2 V.o;cases b3 with
      | false=>go_wp2_with fail;go_ret;exact⟨_,rfl,by simp,c.o⟩
      | true=>
        by_cases a1:R<=20
        ·have ac:¬(20:Int)<(R:Int):=by omega
         by_cases a2:A3.length<=10
         ·have ad:¬(10:Int)<(A3.length:Int):=by omega
          by_cases a3:nm.size<=60
          ·have ae:¬(60:Int)<(nm.size:Int):=by omega
           by_cases a4:z.size<=60
           ·have af:¬(60:Int)<(z.size:Int):=by omega
            have ab:=Aa d.o.wX;have aa:=Aa (d.o.A3.up c.o);go_wp2_with fail
            go_loopw [5] (λy wi=>∃j:Nat,j<=A3.length/\y=Zi j/\Hid (∀s∈A3.take j,s.2.2.2.size<=100)/\wi=w3) (λy _=>A3.length-(intOf y).toNat)
            case atStart=>exact⟨0,XD _,rfl,Aa (by simp),rfl⟩
            case round=>
             obtain⟨j,hj,rfl,L,rfl⟩:=hrel
             by_cases hjl:j<A3.length
             ·obtain⟨⟨sn,vk,vn,U⟩,g⟩:∃x,A3[j]? = some x:=⟨_,Y' hjl⟩
              obtain⟨sb,so,aq,es,_,ao,b⟩:=aa.o.cons (by omega);injection es with aj _ ak;subst aj ak;have s0:=b j _ g 0 _ rfl;have s1:=b j _ g 1 _ rfl;have s2:=b j _ g 2 _ rfl;have s3:=b j _ g 3 _ rfl;simp only[WH] at s0;have m3:U.size<=maxLen:=(ab.o _ (XG g)).2;have al:(j:Int)<(A3.length:Int):=by omega
              have HV:=Aa g;clear b g
              by_cases a5:U.size<=100
              ·have ag:¬(100:Int)<(U.size:Int):=by omega
               have n:=Aa (My (P:=λv:Vi=>v.2.2.2.size<=100) L.o HV.o a5);go_wp2;exact⟨⟨j+1,by omega,by go_num,n,trivial⟩,by simp[intOf];omega⟩
              have ag:(100:Int)<(U.size:Int):=by omega
              go_wp2;go_ret;exact⟨_,rfl,by simp,c.o⟩
             have al:¬(j:Int)<(A3.length:Int):=by omega
             have n:=Aa (My (P:=λq:DdS=>U8 q) M.o HQ.o ⟨X.o trivial,Y.o trivial,a1,a2,O1 (P:=λv:Vi=>v.2.2.2.size<=100) L.o (show A3.length<=j by omega)⟩);go_wp2;exact⟨⟨k+1,by omega,by go_num,n,c⟩,by simp[intOf];omega⟩
           have af:(60:Int)<(z.size:Int):=by omega
           go_wp2_with fail;go_ret;exact⟨_,rfl,by simp,c.o⟩
          have ae:(60:Int)<(nm.size:Int):=by omega
          go_wp2_with fail;go_ret;exact⟨_,rfl,by simp,c.o⟩
         have ad:(10:Int)<(A3.length:Int):=by omega
         go_wp2_with fail;go_ret;exact⟨_,rfl,by simp,c.o⟩
        have ac:(20:Int)<(R:Int):=by omega
        go_wp2_with fail;go_ret;exact⟨_,rfl,by simp,c.o⟩
   have am:¬(k:Int)<(l.length:Int):=by omega
   have HF:=Aa (O1 (P:=λq:DdS=>U8 q) M.o (by omega));go_wp2;go_ret;exact⟨_,rfl,λ_=>HF.o,u.o⟩
 have I:(30:Int)<(l.length:Int):=by omega
 go_enter func6,ntmps6;go_wp2;go_ret;exact⟨_,rfl,by simp,XF _ _⟩
theorem ANm{l L b:List Aj}{next n1 n2 x:Int}{c:Aj}{nm s:Tb}(e:cI l next x c nm s L n1)(f:cI l next x c nm s b n2):L=b/\n1=n2:=by
 rcases e with⟨a,_,rfl,rfl⟩|⟨a,k,d,_,_,rfl,rfl⟩|⟨a,k,d,_,_,_,rfl,rfl⟩ <;> rcases f with⟨e2,_,rfl,rfl⟩|⟨e2,k',a2,_,_,rfl,rfl⟩|⟨e2,k',a2,_,_,_,rfl,rfl⟩
 any_goals (exfalso;omega)
 ·exact⟨rfl,rfl⟩
 ·obtain rfl:k=k':=by omega
  exact⟨rfl,rfl⟩
 obtain rfl:k=k':=by omega
 exact⟨rfl,rfl⟩
theorem ANE{D o p:Td}{xs:List A6}{t:Tb}{d e:Bool}{m n:List ADV}{y z:Int}(j:∃T,x.tree=λq=>q=T)(a:V7 D s xs t x o d m y)(b:V7 D s xs t x p e n z):d=e/\m=n/\o=p:=by
 obtain⟨r,L⟩:=j;have f:∀T,x.tree T->T=r:=λT h=>by rw[L] at h;exact h
 rcases a with a|a|a|a|a|a <;> rcases b with b|b|b|b|b|b
 any_goals (exfalso;have:=a.1;have:=b.1;omega)
 ·obtain⟨_,_,_,rfl,rfl,rfl,_⟩:=a
  obtain⟨_,_,_,rfl,rfl,rfl,_⟩:=b;exact⟨rfl,rfl,rfl⟩
 ·obtain⟨_,_,⟨P,n1,c1,rfl⟩,rfl,rfl,_⟩:=a
  obtain⟨_,_,⟨R,n2,u,rfl⟩,rfl,rfl,_⟩:=b;obtain⟨rfl,rfl⟩:=ANm c1 u;exact⟨rfl,rfl,rfl⟩
 ·obtain⟨_,_,_,rfl,rfl,rfl,_⟩:=a
  obtain⟨_,_,_,rfl,rfl,rfl,_⟩:=b;exact⟨rfl,rfl,rfl⟩
 ·obtain⟨_,g,t1,_,_,rfl,rfl,rfl,_⟩:=a
  obtain⟨_,i,t2,_,_,rfl,rfl,rfl,_⟩:=b;rw[f g t1,f i t2];exact⟨rfl,rfl,rfl⟩
 ·obtain⟨_,g,t1,_,_,rfl,_,M,I,k⟩:=a
  obtain⟨_,i,t2,_,_,rfl,_,N,J,l⟩:=b;have v:=f g t1;have w:=f i t2;subst v w;have G:=I.unique J;subst G
  rcases k with⟨c,rfl,rfl⟩|⟨c,O,rfl,_,rfl,rfl⟩ <;> rcases l with⟨z2,rfl,rfl⟩|⟨z2,R2,rfl,_,rfl,rfl⟩
  ·exact⟨rfl,rfl,rfl⟩
  ·exact absurd c z2
  ·exact absurd z2 c
  exact⟨rfl,rfl,rfl⟩
 obtain⟨_,_,rfl,_,k⟩:=a;obtain⟨_,_,rfl,_,l⟩:=b
 rcases k with⟨c,rfl,rfl⟩|⟨c,_,rfl,rfl⟩ <;> rcases l with⟨z2,rfl,rfl⟩|⟨z2,_,rfl,rfl⟩
 ·exact⟨rfl,rfl,rfl⟩
 ·exact absurd c z2
 ·exact absurd z2 c
 exact⟨rfl,rfl,rfl⟩
theorem APf{i:Td}{xs:List A6}{p:Tb}{J:Bool}{qj:Int}{v:Tv}(f:∃T,x.tree=λc=>c=T)(h:V7 D s xs p x i J A qj)(n:AB0 s xs 0 [] x v):False:=by
 obtain⟨j,r⟩:=f;have d:∀T,x.tree T->T=j:=λT h=>by rw[r] at h;exact h
 obtain⟨u,n2,w,G,n1,y⟩:=n
 rcases h with⟨q,a,b,_⟩|⟨q,a,⟨l',I,b,_⟩,_⟩|⟨q,a,b,_⟩|⟨q,T,t,a,b,_⟩|⟨q,T,t,a,b,_,_,ts,g,o⟩|⟨q,a,_⟩
 ·rcases u q with e|e
  ·rw[b] at e;cases e
  exact e a
 ·rcases n1 q with e|e
  ·exact a e
  exact e l' I b
 ·rcases n2 q with e|e|e
  ·exact a e
  ·rw[b] at e;cases e
  exact absurd e (by decide)
 ·obtain⟨c,t',e⟩:=w q
  rw[d c t',<-d T t] at e
  rcases e with e|e
  ·exact a e
  exact e b
 ·obtain⟨c,t',e⟩:=y q
  rw[d c t',<-d T t] at e
  rcases e with e|e|e|⟨L,l,z,e⟩|e
  ·exact a e
  ·exact e b
  ·exact e ts g
  ·have k:=g.unique l
   subst k
   rcases o with⟨M,_⟩|⟨_,R,rfl,m,_⟩
   ·exact z M
   rw[m] at e;cases e
  exact absurd e (by decide)
 rcases G q with⟨e,_⟩|e
 ·exact a e
 exact e rfl
def ANk(D:DataW Unit)(s:Ah)(xs:List A6)(b:ByteArray)(x:J4):Prop:=∃c a A qj,V7 D s xs b x c a A qj/\(A=[]\/(Cv (b,a,A)=true/\∃t,Bi s (b,a,A) t))
theorem AOF{w0 w W:Tw}{bb n:Nat}{fs:List Int}{mv:Tv}{s:Tb}{xs:List A6}{e:Ending}(L:fs=[])(d:∃T,x.tree=λq=>q=T)(J:Xt w0 w 0 bb n D fs mv H U s xs x e W):(e=Zr Zn/\ANk D (Ae H H.length) xs s x)\/((∃T y,e=Zr (Zf T y))/\¬ANk D (Ae H H.length) xs s x):=by
 subst L;obtain⟨n',Y,u,P,z,H',h1,h2,h3,h4,I,⟨rfl,p,m,A,qj,f,k⟩|⟨T,y,rfl,rfl,M,a⟩⟩:=J
 ·refine .inl ⟨rfl,p,m,A,qj,f,?_⟩
  rcases k with⟨b,_,_⟩|⟨b,hI,t,j,rfl,rfl⟩
  ·exact .inl b
  obtain⟨c,k,_,N⟩:=AA8 I.past (i:=H.length) (by simp);have r:c=(s,m,A):=by simpa using k.symm
  subst r;exact .inr ⟨N.ok,t,j⟩
 refine .inr ⟨⟨T,y,rfl⟩,?_⟩;rintro⟨p,m,A,qj,f,b⟩
 rcases a with a|⟨D2,V,X,o,v,w2,n2,R,G,l,g,h,a⟩
 ·exact APf d f a
 obtain⟨rfl,rfl,_⟩:=ANE d f l
 rcases b with b|⟨O,t,j⟩
 ·exact g b
 exact nX O j (bJ h) a
theorem ANz{σ ρ:Tb->Tb}(h:∀e∈s.qx,ρ e.1=σ e.1):ALv ρ s=ALv σ s:=by
 unfold ALv;have:s.qx.map (AL3 ρ)=s.qx.map (AL3 σ):=Yn λe a=>by unfold AL3;rw[h e a]
 rw[this]
theorem ANy{σ ρ:Tb->Tb}{xs:List A6}(h:∀x∈xs,ρ x.1.1=σ x.1.1):xs.map (ALj ρ)=xs.map (ALj σ):=Yn λx a=>by unfold ALj AL3;rw[h x a]
theorem AOC{s:Tb}{g:Bool}(h:Cv (s,g,A)=true){a:ADV}(f:a∈A)(e:a.1=4):a.2.1=⟨#[]⟩:=by
 unfold Cv at h;simp only[XE,XV] at h;have b:=h.2 a f;unfold Ch at b;rw[Yad (by omega),Yad (by omega),Yad (by omega),Yae e] at b;unfold Mm at b;simp only[XE] at b;have c:=List.isEmpty_iff.1 b.2.1;rw[ByteArray.toList_eq] at c
 have d:a.2.1.data=#[]:=by have:=congrArg List.toArray c;simpa using this
 exact ByteArray.ext d
structure AMh(D D2:DataW Unit)(H H2:List (Dn×Ah))(U U2 V:List ByteArray)(σ:ByteArray->ByteArray)(XS:List (List A6)):Prop where
 inv:Inv D H U
 inv2:Inv D2 H2 U2
 full:∀h∈H,h.1.2.2≠[]
 len:XS.length=H.length+1
 each:∀k xs,XS[k]? = some xs->C7 D (Ae H k) xs
 snap:Ae H2 H2.length=ALv σ (Ae H H.length)
 AMf:Twin σ D D2 (Ae H H.length)
 made:∀e∈(Ae H H.length).qx,∃u∈V,∃k,e.1=Bw u k
 sub:∀u∈V,u∈U
structure ANK(D:DataW Unit)(H:List (Dn×Ah))(U V:List ByteArray)(XS:List (List A6))(j:Nat)(tx:ByteArray)(x:J4)(rd:Bool)(A:List ADV):Prop where
 le:j<=H.length
 was:∃D0 D1 xs0 qj,Maps.IsMap D0/\XS[j]? = some xs0/\V7 D0 (Ae H j) xs0 tx x D1 rd A qj/\Kept D1 D
 fit:AJH A
 ints:AA5 x
 tree:∃T,x.tree=λT'=>T'=T
 used:tx∈U
 new:¬tx∈V
 plain:Plain tx
 short:tx.size<=12
theorem AMh.last{D b:Td}{H H2:List (Dn×Ah)}{U e V:List Tb}{σ:Tb->Tb}{a:List (List A6)}(h:AMh D b H H2 U e V σ a):∃xs,a[H.length]? = some xs/\C7 D (Ae H H.length) xs/\C7 b (Ae H2 H2.length) (xs.map (ALj σ)):=by
 have d:H.length<a.length:=by rw[h.len];omega
 have c:=h.each H.length _ (Y' d);refine⟨_,Y' d,c,?_⟩;rw[h.snap];exact c.ren h.AMf
theorem AMh.grown{D a E:Td}{H H2:List (Dn×Ah)}{U b V:List Tb}{σ:Tb->Tb}{c:List (List A6)}{s:Tb}(h:AMh D a H H2 U b V σ c)(i:Plain s)(d:Grown s D E):AMh E a H H2 (s :: U) b V σ c:=by obtain⟨xs,_,g,_⟩:=h.last;have f:=Kept.grown d;exact⟨(h.inv.user i).grown (Ye ..) d,h.inv2,h.full,h.len,λk l j=>(h.each k l j).kept f,h.snap,⟨h.AMf.inj,h.AMf.nil,h.AMf.has,λe he=>(h.AMf.Gw e he).trans (f _ (g.has he)).2.symm,h.AMf.name⟩,h.made,λu hu=>Yd _ (h.sub u hu)⟩
theorem ANK.grown{D E:Td}{H:List (Dn×Ah)}{U V:List Tb}{f:List (List A6)}{j:Nat}{s t:Tb}{x:J4}{g:Bool}{A:List ADV}(h:ANK D H U V f j s x g A)(l:Grown t D E):ANK E H (t :: U) V f j s x g A:=by obtain⟨i,k,e,qj,a,b,c,d⟩:=h.was;exact⟨h.le,⟨i,k,e,qj,a,b,c,d.trans (Kept.grown l)⟩,h.fit,h.ints,h.tree,Yd _ h.used,h.new,h.plain,h.short⟩
theorem ANK.AJO{U V:List Tb}{f:List (List A6)}{s t:Tb}{n:Bool}{v:Td}{q:List A6}{c:Dn×Ah}(h:ANK D H U V f j s x n A)(r:f.length=H.length+1)(l:s≠t):ANK (D.put (B.lit (Ek i)) v) (H++[c]) U (t :: V) (f++[q]) j s x n A:=by
 obtain⟨o,p,m,qj,a,b,c,d⟩:=h.was;have g:=h.le;refine⟨by simp;omega,⟨o,p,m,qj,a,?_,?_,d.trans (Kept.log _ _ _)⟩,h.fit,h.ints,h.tree,h.used,λk=>?_,h.plain,h.short⟩
 ·rw[XI (by omega)];exact b
 ·rw[xA g];exact c
 rcases List.mem_cons.1 k with e|k
 ·exact l e
 exact h.new k
theorem AN0{R:Td}{H H2:List (Dn×Ah)}{U U2 V:List Tb}{σ:Tb->Tb}{XS:List (List A6)}{s tx':Tb}{w:Bool}{t:Ah}{xs:List A6}(h:AMh D R H H2 U U2 V σ XS)(o:ANK D H U V XS j s x w A)(ay:H.length<60)(Y:XS[H.length]? = some xs)(G:Bi (Ae H H.length) (s,w,A) t)(I:Cv (s,w,A)=true)(ae:Nj (s,w,A) H j H.length)(hA:A≠[])(au:¬tx'∈U2)(ag:Plain tx')(aq:Bx tx'=true)(af:∀k,k<100->Bx (Bw tx' k)=true):
 ANk R (Ae H2 H2.length) (xs.map (ALj σ)) tx' x/\∃ys,∀O n M L t',V7 R (Ae H2 H2.length) (xs.map (ALj σ)) tx' x O n M L->(M≠[]->Bi (Ae H2 H2.length) (tx',n,M) t')->M≠[]/\∀i,(Inv (O.put (B.lit (Ek i)) (B.Gw (C6 (tx',n,M)))) (H2++[((tx',n,M),t')]) (tx' :: U2) ->
  AMh (D.put (B.lit (Ek (H.length+1))) (B.Gw (C6 (s,w,A)))) (O.put (B.lit (Ek i)) (B.Gw (C6 (tx',n,M)))) (H++[((s,w,A),t)]) (H2++[((tx',n,M),t')]) U (tx' :: U2) (s :: V) (reN s tx' σ) (XS++[ys])):=by
 have hT:=h.each H.length xs Y;obtain⟨D0,D1,ax,qj,ac,av,ad,hk⟩:=o.was;have hx:j=H.length->ax=xs:=λe=>by subst e;rw[av] at Y;exact Yt Y
 have g:∀e∈(Ae H H.length).qx,∀k,e.1≠Bw s k:=λe r k W=>by obtain⟨u,J,i,l⟩:=h.made e r;obtain⟨rfl,_⟩:=S5 o.plain (h.inv.plain u (h.sub u J)) (W.symm.trans l);exact o.new J
 have m:∀e∈(Ae H H.length).qx,∀k,σ e.1≠Bw tx' k:=λe r k W=>by obtain⟨u,J,i,l⟩:=h.inv2.used _ (h.AMf.has e r);obtain⟨rfl,_⟩:=S5 ag (h.inv2.plain u J) (W.symm.trans l);exact au J
 have T:=o.fit.Iz;obtain⟨ys,f,a4⟩:=AOp h.inv.past o.le ad ae h.full hx G hT ac hk g o.plain o.short o.ints hA T;have a0:=h.inv.next H.length (XA _)
 have ah:∀a∈A,Ch a=true:=by have h0:=I;simp only[Cv,XE,XV] at h0;exact h0.2
 have al:=h.inv.AJO (by omega) G ⟨I,λa hm=>Qb (ah a hm) (o.fit.ints a hm),T,lV o.fit I⟩ f (by omega);obtain⟨F,ai,az,P,aj⟩:=AN1 h.inv.past o.le ad ae h.full hx G I;have X:=AMP G.2
 have ab:AMR (reN s tx' σ) (ANO (Ae H H.length) A):=by
  refine AN6 (N:=⟨#[]⟩ :: (Ae H H.length).qx.map (·.1)) (λy f z p e=>?_) (λy f k=>?_) (λy f k=>?_) (λy f=>?_)
  ·rcases List.mem_cons.1 f with rfl|f <;> rcases List.mem_cons.1 p with rfl|p
   ·rfl
   ·obtain⟨d,v,rfl⟩:=List.mem_map.1 p
    have:=h.AMf.name d v;rw[<-e,h.AMf.nil] at this;exact absurd this (by decide)
   ·obtain⟨d,v,rfl⟩:=List.mem_map.1 f
    have:=h.AMf.name d v;rw[e,h.AMf.nil] at this;exact absurd this (by decide)
   exact h.AMf.inj y f z p e
  ·rcases List.mem_cons.1 f with rfl|f
   ·exact AM0 s k
   obtain⟨d,v,rfl⟩:=List.mem_map.1 f;exact g d v k
  ·rcases List.mem_cons.1 f with rfl|f
   ·rw[h.AMf.nil];exact AM0 tx' k
   obtain⟨d,v,rfl⟩:=List.mem_map.1 f;exact m d v k
  rcases List.mem_append.1 f with f|f
  ·exact .inl (Yd _ f)
  obtain⟨a,ha,rfl⟩:=List.mem_map.1 f
  rcases X.2 a ha with q|q|⟨b,hb,q,e⟩
  ·exact .inl (by rw[AOC I ha q];exact Ye ..)
  ·exact .inl (Yd _ q)
  obtain⟨k,_,l⟩:=P b hb q;exact .inr ⟨k,e.trans l⟩
 have ar:∀a∈A,a.1≠4->Bx (reN s tx' σ a.2.1)=true:=λa ha h4=>by
  rcases X.2 a ha with q|q|⟨b,hb,q,e⟩
  ·exact absurd q h4
  ·obtain⟨d,v,e⟩:=List.mem_map.1 q
   rw[<-e];show Bx (reN s tx' σ d.1)=true;rw[AL1 (g d v)];exact h.AMf.name d v
  obtain⟨k,an,l⟩:=P b hb q;rw[e,l,AL7];exact af k (by omega)
 obtain⟨m1,m2,m3⟩:=aj (reN s tx' σ) R tx' AL7 aq ab ar;have hs:ALv (reN s tx' σ) (Ae H H.length)=Ae H2 H2.length:=(ANz λe r=>AL1 (g e r)).trans h.snap.symm;have aw:xs.map (ALj (reN s tx' σ))=xs.map (ALj σ):=ANy λz p=>AL1 (g z.1 (by rw[<-hT.Lz.qx];exact List.mem_map.2 ⟨z,p,rfl⟩))
 rw[hs,aw] at m1;rw[hs] at m3;refine⟨⟨_,_,_,_,m1,.inr ⟨m2,_,m3⟩⟩,ys,λO n M L t' k1 k2=>?_⟩;obtain⟨rfl,rfl,rfl⟩:=ANE o.tree m1 k1;have aa:A.map (ALh (reN s tx' σ))≠[]:=λe=>hA (List.map_eq_nil_iff.1 e)
 refine⟨aa,λi ak=>?_⟩;have et:=qX (k2 aa) m3;subst et;have ao:(H++[((s,w,A),t)]).length=H.length+1:=by simp
 have eS:Ae (H++[((s,w,A),t)]) (H++[((s,w,A),t)]).length=t:=by rw[bR,Re]
 refine⟨al,ak,λc hc=>?_,by rw[XT,h.len,ao];rfl,λk zs p=>?_,?_,?_,λe r=>?_,λu J=>?_⟩
 ·rcases List.mem_append.1 hc with hc|hc
  ·exact h.full c hc
  rw[XW] at hc;subst hc;exact hA
 ·rcases Yc k XS.length with ap|am
  ·rw[XI ap] at p
   have hl:=h.len;rw[xA (by omega)];exact(h.each k zs p).kept (Kept.log _ _ _)
  rw[XK am] at p;have hl:=h.len
  have e0:k=H.length+1:=by
   rcases Yc (k-XS.length) 1 with q|q
   ·omega
   rw[Yb (by simpa using q)] at p;cases p
  subst e0;rw[hl,YO] at p;obtain rfl:ys=zs:=by simpa using p
  rw[AAM];exact f.kept (Kept.log _ _ _)
 ·rw[eS,bR,Re]
 ·rw[eS]
  refine h.AMf.step G g m (λa ha h1=>?_) (λe r=>?_) (λe r=>?_)
  ·obtain⟨k,an,l⟩:=P a ha h1
   obtain⟨a1,a2,a3⟩:=AMs o.plain ag (Ae H H.length).qz (B.Gw ByteArray.empty) F 0 D0 R k ac h.inv2.Lm.1 (XD _) (by omega) (by omega);rw[<-ai] at a1 a3;obtain⟨b1,b2⟩:=hk _ a1;obtain⟨c1,c2⟩:=Kept.log (Km tx' (Ae H H.length).qz 0 F R) i (B.Gw (C6 (tx',w,A.map (ALh (reN s tx' σ))))) _ a2;obtain⟨d1,d2⟩:=Kept.log D (H.length+1) (B.Gw (C6 (s,w,A))) _ b1;exact⟨k,l,af k (by omega),c1,((c2.trans a3).trans b2.symm).trans d2.symm⟩
  ·exact(Kept.log _ _ _ _ (hT.has r)).2
  obtain⟨o1,o2⟩:=AL5 tx' (Ae H H.length).qz (Eh (σ e.1)) (B.Gw ByteArray.empty) F 0 R λi _ _ l=>m e r i (Uw l)
  have hh:=o1.trans (h.AMf.has e r);obtain⟨c1,c2⟩:=Kept.log (Km tx' (Ae H H.length).qz 0 F R) i (B.Gw (C6 (tx',w,A.map (ALh (reN s tx' σ))))) _ hh;exact⟨c1,c2.trans o2⟩
 ·rw[eS] at r
  rcases X.1 e.1 (List.mem_map.2 ⟨e,r,rfl⟩) with q|⟨b,hb,q,W⟩
  ·obtain⟨d,v,W⟩:=List.mem_map.1 q
   obtain⟨u,J,k,l⟩:=h.made d v;exact⟨u,Yd _ J,k,W.symm.trans l⟩
  obtain⟨k,_,l⟩:=P b hb q;exact⟨s,Ye ..,k,W.trans l⟩
 rcases List.mem_cons.1 J with rfl|J
 ·exact o.used
 exact h.sub u J
theorem AOh{W:Tw}{bb i n n2:Nat}{fs z:List Int}{mv v u f:Tv}(a:B.Bu w bb n D fs mv v)(h:B.Bu w i n2 c z u f)(l:B.A0 (B.Own bb mv) w W)(b:i≠bb)(j:∀k,u=.map (some k)->mv≠.map (some k)):B.Bu W i n2 c z u f:=by
 refine h.only l ?_ ?_ ?_
 ·rintro(e|e)
  ·exact b e
  exact a.2.1.ne h.1.c0 e
 ·rintro k g (e|e)
  ·subst e
   exact h.2.1.ne a.1.c0 g
  exact j k g e
 rintro p x d (e|e)
 ·exact B.Fs.far a.1 a.2.1 a.2.2 d e
 exact a.2.1.ne d e
theorem AMM{w0 w W:Tw}{i j bb m n n2:Nat}{fs z:List Int}{mv v u f:Tv}(d:Ey w0 w i bb n D fs mv v)(h:Ey w0 w j m n2 c z u f)(g:B.A0 (B.Own bb mv) w W)(a:Zb w0 W)(b:m≠bb)(e:∀k,u=.map (some k)->mv≠.map (some k)):Ey w0 W j m n2 c z u f :=
 ⟨AOh d.bu h.bu g b e,a,h.hb,h.hm,h.er,h.nc,h.tb,h.hf⟩
theorem AMo{n n2:Nat}{z:List Int}{mv v u f:Tv}(h:B.Bu w n n2 c z u f)(d:∀k,v=.map (some k)->mv=.map (some k)\/w.1.size<=k)(g:∀k,u=.map (some k)->mv≠.map (some k)):∀k,u=.map (some k)->v≠.map (some k):=λk b e=>by
 rcases d k e with a|a
 ·exact g k b a
 have:=h.2.1.lt b;omega
structure LwS(w0 w:World)(NF b1 b2 i m m2:Nat)(D D2:DataW Unit)(fs fs2:List Int)(mv fv mv2 fv2:Value)(H H2:List (Dn×Ah))(U U2 V:List ByteArray)(σ:ByteArray->ByteArray)(XS:List (List A6)):Prop where
 base:Ey w0 w NF b1 m D fs mv fv
 ALx:Ey w0 w 0 b2 m2 D2 fs2 mv2 fv2
 ser:AMh D D2 H H2 U U2 V σ XS
 sub:∀u∈U,u∈nms i
 ANU:∀u∈U2,u∈nms i
 Iz:H.length<=i
 ADp:H2.length<=i
 AFx:m<=i*100
 AMu:m2<=i*100
 nf:NF<=w.1.size
 ne:b2≠b1
 maps:∀k,mv2=.map (some k)->mv≠.map (some k)
theorem AMk(h:∀u∈U,u∈nms i):∀u∈U,u∈nms (i+1):=λu a=>Yd _ (h u a)
theorem ANe(h:∀u∈U,u∈nms i):∀u∈wK i :: U,u∈nms (i+1):=λu a=>by
 rcases List.mem_cons.1 a with rfl|a
 ·exact Ye ..
 exact AMk h u a
section
variable {w0 w : World} {NF b1 b2 i m m2 : Nat} {D D2 : DataW Unit} {fs fs2 : List Int} {mv fv mv2 fv2 : Value} {H H2 : List (Dn × Ah)} {U U2 V : List ByteArray} {σ : ByteArray → ByteArray} {XS : List (List A6)}
theorem LwS.up{W:Tw}(h:LwS w0 w NF b1 b2 i m m2 D D2 fs fs2 mv fv mv2 fv2 H H2 U U2 V σ XS)(a:Zb w W):LwS w0 W NF b1 b2 i m m2 D D2 fs fs2 mv fv mv2 fv2 H H2 U U2 V σ XS :=
 ⟨h.base.up a,h.ALx.up a,h.ser,h.sub,h.ANU,h.Iz,h.ADp,h.AFx,h.AMu,XC h.nf a.size,h.ne,h.maps⟩
theorem LwS.skip(h:LwS w0 w NF b1 b2 i m m2 D D2 fs fs2 mv fv mv2 fv2 H H2 U U2 V σ XS):LwS w0 w NF b1 b2 (i+1) m m2 D D2 fs fs2 mv fv mv2 fv2 H H2 U U2 V σ XS :=
 ⟨h.base,h.ALx,h.ser,AMk h.sub,AMk h.ANU,YH h.Iz,YH h.ADp,by have:=h.AFx;omega,by have:=h.AMu;omega,h.nf,h.ne,h.maps⟩
theorem LwS.sit(h:LwS w0 w NF b1 b2 i m m2 D D2 fs fs2 mv fv mv2 fv2 H H2 U U2 V σ XS)(b:i<=30)(a:B.Ob w0)(d:S.Lp w0):iK w0 w NF b1 m D fs mv fv H U (wK i) :=
 ⟨h.base,h.ser.inv,a,d,h.nf,by have:=h.AFx;omega,by have:=h.Iz;omega,AGv b,by show 3<=12;decide,AFl i,λc=>AD3 i i (XA _) (by omega) (h.sub _ c)⟩
end
structure PlS where
 pb:Nat
 j:Nat
 tx:ByteArray
 x:J4
 ca:Option Addr
 cc:Nat
 ra:Option Addr
 rc:Nat
 pa:Option Addr
 pn:Nat
 pc:Nat
 sa:Option Addr
 sc:Nat
def PlS.cells(s:PlS):List Value:=[Zi s.x.Qk,.slice s.ca s.x.qz.length s.cc,.slice s.ra s.x.qj.length s.rc,.slice s.pa s.pn s.pc,.slice s.sa s.x.A3.length s.sc,Zi s.x.change,.string s.x.name,.string s.x.tw]
def ALf(w0 w:World)(D:DataW Unit)(H:List (Dn×Ah))(U V:List ByteArray)(b:List (List A6))(s:PlS):Prop :=
 K8 w0 s.x s.ca s.cc s.ra s.rc s.pa s.pn s.pc s.sa s.sc/\∃base c n1 c1 h d n2 g a e f L qj,Dv base w s.pb (Ae H s.j) (s.j:Int) c n1 c1 h d n2 g s.tx a e f L qj/\ANK D H U V b s.j s.tx s.x a (L.map (·.1))
theorem ALf.up{w0 w W:Tw}{D:Td}{H:List (Dn×Ah)}{U V:List Tb}{a:List (List A6)}{s:PlS}(h:ALf w0 w D H U V a s)(i:Zb w W):ALf w0 W D H U V a s:=by obtain⟨j,base,b,n1,c1,m,c,n2,f,l,d,e,L,qj,g,k⟩:=h;exact⟨j,base,b,n1,c1,m,c,n2,f,l,d,e,L,qj,g.up i,k⟩
theorem ALf.put{w0 w W:Tw}{D:Td}{H:List (Dn×Ah)}{U V:List Tb}{a:List (List A6)}{s:PlS}(h:ALf w0 w D H U V a s){bb n:Nat}{E:Td}{fs:List Int}{mv v:Tv}(g:B.Bu w bb n E fs mv v)(k:B.A0 (B.Own bb mv) w W):ALf w0 W D H U V a s:=by obtain⟨j,base,b,n1,c1,o,c,n2,f,m,d,e,L,qj,i,l⟩:=h;exact⟨j,base,b,n1,c1,o,c,n2,f,m,d,e,L,qj,i.put g k,l⟩
theorem ALf.grown{w0 w:Tw}{D E:Td}{H:List (Dn×Ah)}{U V:List Tb}{a:List (List A6)}{s:PlS}{t:Tb}(h:ALf w0 w D H U V a s)(j:Grown t D E):ALf w0 w E H (t :: U) V a s:=by obtain⟨i,base,b,n1,c1,m,c,n2,f,l,d,e,L,qj,g,k⟩:=h;exact⟨i,base,b,n1,c1,m,c,n2,f,l,d,e,L,qj,g,k.grown j⟩
theorem ALf.AJO{w0 w:Tw}{D:Td}{H:List (Dn×Ah)}{U V:List Tb}{a:List (List A6)}{s:PlS}{t:Tb}{i:Nat}{v:Td}{q:List A6}{c:Dn×Ah}(h:ALf w0 w D H U V a s)(n:a.length=H.length+1)(b:s.tx≠t):ALf w0 w (D.put (B.lit (Ek i)) v) (H++[c]) U (t :: V) (a++[q]) s:=by obtain⟨m,base,e,n1,c1,p,f,n2,k,o,g,j,L,qj,l,d⟩:=h;refine⟨m,base,e,n1,c1,p,f,n2,k,o,g,j,L,qj,?_,d.AJO n b⟩;rw[xA d.le];exact l
theorem AO1(M:Mw){w0 w:Tw}{G:Td}{fs z:List Int}{mv v f a:Tv}{H H2:List (Dn×Ah)}{U I V:List Tb}{σ:Tb->Tb}{p:List (List A6)}(h:LwS w0 w n k j i m d D G fs z mv v f a H H2 U I V σ p)(hi:i<30)(he:B.Ob w0)(ho:S.Lp w0)(s:PlS)(q:K8 w0 s.x s.ca s.cc s.ra s.rc s.pa s.pn s.pc s.sa s.sc)(O:∃T,s.x.tree=λT'=>T'=T)(hV:∀u∈V,u∈nms i):
 Zc 8 #[Zp (some (Zd k 0)),Zg s.cells.toArray,Zt (wK i)] w λe o=>∃r l b g c,LwS w0 o n k j (i+1) r d l G b z g c f a H H2 (wK i :: U) I V σ p/\B.A0 (B.Own k mv) w o/\Grown (wK i) D l /\
  ∃R W,e=Zr (Zu #[R,W])/\((∃t,R=Zp (some (Zd t 0))/\W=Zn/\ALf w0 o l H (wK i :: U) V p ⟨t,H.length,wK i,s.x,s.ca,s.cc,s.ra,s.rc,s.pa,s.pn,s.pc,s.sa,s.sc⟩)\/∃T y,R=Zp none/\W=Zf T y):=by
 obtain⟨xs,P,hT,_⟩:=h.ser.last;have N:=h.sit (by omega) he ho;refine(ACD M w0 n k m D fs mv v H U (wK i) xs s.x s.ca s.cc s.ra s.rc s.pa s.pn s.pc s.sa s.sc w N hT (q.up h.base.low)).mono ?_;rintro e o⟨r,l,b,g,c,X,h2,J,h4,Y,h6⟩
 have hL:LwS w0 o n k j (i+1) r d l G b z g c f a H H2 (wK i :: U) I V σ p :=
  ⟨X,AMM h.base h.ALx J X.low h.ne h.maps,h.ser.grown (AFl i) Y,ANe h.sub,AMk h.ANU,YH h.Iz,YH h.ADp,by have:=h.AFx;omega,by have:=h.AMu;omega,XC h.nf J.size,h.ne,AMo h.ALx.bu h4 h.maps⟩
 refine⟨r,l,b,g,c,hL,J,Y,?_⟩
 rcases h6 with⟨t,L,rd,qj,a1,n1,c1,x2,a2,n2,c2,aa,ac,rfl,hP,hk⟩|⟨T,y,_,rfl⟩
 ·refine⟨_,_,rfl,.inl ⟨t,rfl,rfl,q,_,a1,n1,c1,x2,a2,n2,c2,rd,aa,ac,L,qj,hP,XA _,⟨D,l,xs,qj,h.ser.inv.Lm.1,P,hk,Kept.refl _⟩,?_,q.ints,O,Ye ..,λhm=>AD3 i i (XA _) (by omega) (hV _ hm),AFl i,by show 3<=12;decide⟩⟩
  exact AEj hT N.Of (Mq h.ser.inv.past (XA _)) ⟨vC h.ser.inv.past N.Of,by have:=h.ser.inv.next H.length (XA _);have:=h.Iz;omega⟩ q.ints hk
 exact⟨_,_,rfl,.inr ⟨T,y,rfl,rfl⟩⟩
theorem APD:(List.range 31).all (λi=>(List.range 100).all (λk=>Bx (Bw (wK i) k)))=true:=by kernel_rfl
theorem AOs(h:i<=30)(a:k<100):Bx (Bw (wK i) k)=true:=List.all_eq_true.1 (List.all_eq_true.1 APD i (List.mem_range.2 (by omega))) k (List.mem_range.2 a)
structure AOd(w0 w:World)(NF b1 b2 i m m2:Nat)(D D2:DataW Unit)(fs fs2:List Int)(mv fv mv2 fv2:Value)(H H2:List (Dn×Ah))(U U2 V:List ByteArray)(σ:ByteArray->ByteArray)(XS:List (List A6))(s:PlS)(rd:Bool)(A:List ADV)(t:Ah):Prop where
 base:Ey w0 w NF b1 m (D.put (B.lit (Ek (H.length+1))) (B.Gw (C6 (s.tx,rd,A)))) fs mv fv
 ALx:Ey w0 w 0 b2 m2 D2 fs2 mv2 fv2
 ser:AMh D D2 H H2 U U2 V σ XS
 APq:ANK D H U V XS s.j s.tx s.x rd A
 AP8:K8 w0 s.x s.ca s.cc s.ra s.rc s.pa s.pn s.pc s.sa s.sc
 app:Bi (Ae H H.length) (s.tx,rd,A) t
 prt:Cv (s.tx,rd,A)=true
 nof:Nj (s.tx,rd,A) H s.j H.length
 any:A≠[]
 sub:∀u∈U,u∈nms i
 ANU:∀u∈U2,u∈nms i
 Iz:H.length<=i
 ADp:H2.length<=i
 AFx:m<=i*100+50
 AMu:m2<=i*100
 nf:NF<=w.1.size
 ne:b2≠b1
 maps:∀k,mv2=.map (some k)->mv≠.map (some k)
theorem AOd.up{w0 w W:Tw}{n k j i m d:Nat}{D b:Td}{fs z:List Int}{mv v u f:Tv}{H H2:List (Dn×Ah)}{U c V:List Tb}{σ:Tb->Tb}{e:List (List A6)}{s:PlS}{g:Bool}{A:List ADV}{t:Ah}(h:AOd w0 w n k j i m d D b fs z mv v u f H H2 U c V σ e s g A t)(a:Zb w W):AOd w0 W n k j i m d D b fs z mv v u f H H2 U c V σ e s g A t :=
 { h with base:=h.base.up a,ALx:=h.ALx.up a,nf:=XC h.nf a.size }
theorem APu{w0 w:Tw}{q:Nat}{Y:Td}{fs z:List Int}{mv u f a:Tv}{H H2:List (Dn×Ah)}{U U2 V:List Tb}{σ:Tb->Tb}{M:List (List A6)}(h:LwS w0 w n d q i m p D Y fs z mv u f a H H2 U U2 V σ M)(hi:i<30)(s:PlS)(hs:ALf w0 w D H U V M s):
 Zc 10 #[Zp (some (Zd d 0)),Zp (some (Zd s.pb 0))] w λe J=>∃v N m' b l c o na r,e=Zr (Zu #[v,N])/\B.A0 (B.Own d mv) w J/\J.cell? (Zd s.pb 6)=some (Zs o na r) /\
  ((((∃T y,N=Zf T y)\/(N=Zn/\na=0))/\LwS w0 J n d q (i+1) m' p D Y b z l c f a H H2 U U2 V σ M) \/
   (N=Zn/\na≠0/\∃I A t,AOd w0 J n d q i m' p D Y b z l c f a H H2 U U2 V σ M s I A t)):=by
 obtain⟨hd,base,a1,n1,c1,x2,a2,n2,c2,I,o,r,L,qj,P,R⟩:=hs;have h1:=h.AFx;have h2:=h.Iz;have af:=R.short;refine(AHB w0 n base d m D fs mv u H s.j s.pb a1 n1 c1 x2 a2 n2 c2 s.tx I o r L qj w h.base h.nf (by omega) h.ser.inv.Lm h.ser.inv.past (by omega) R.le P R.fit (by omega)).mono ?_;intro e J ab
 have ANB:∀{W:Tw},Dv base W s.pb (Ae H s.j) (s.j:Int) a1 n1 c1 x2 a2 n2 c2 s.tx I o r L qj->W.cell? (Zd s.pb 6)=some (Zs o L.length r):=λhp=>by have G:=hp.box;simp[World.cell?,G]
 rcases ab with⟨O,rfl,G⟩|⟨O,W,hW,n',D',b,l,c,X,k2,k3,k4,⟨t,rfl,ha,hp,ad,rfl⟩|⟨ty,y,rfl,rfl,ae⟩⟩
 ·have hL:L.length=0:=by
   have:=congrArg List.length O;simpa using this
  exact⟨_,_,m,fs,mv,u,o,L.length,r,rfl,B.A0.Ba G,ANB (P.up G),.inl ⟨.inr ⟨rfl,hL⟩,(h.up G).skip⟩⟩
 ·have g:=dD (B.A0.Ba (S:=B.Own d mv) hW) (λk hk=>.inl hk) k3 k4
  have hL:L.length≠0:=λe0=>O (by have:=Yag.1 e0;subst this;rfl)
  have x:=AMM h.base h.ALx g.1 X.low h.ne h.maps;exact⟨_,_,n',b,l,c,o,L.length,r,rfl,g.1,ANB (P.put h.base.bu g.1),.inr ⟨rfl,hL,I,L.map (·.1),t,X,x,h.ser,R,hd,ha,hp,ad,O,h.sub,h.ANU,h.Iz,h.ADp,by omega,h.AMu,XC h.nf g.1.size,h.ne,AMo h.ALx.bu g.2 h.maps⟩⟩
 have g:=dD (B.A0.Ba (S:=B.Own d mv) hW) (λk hk=>.inl hk) k3 k4;have x:=AMM h.base h.ALx g.1 X.low h.ne h.maps;exact⟨_,_,n',b,l,c,o,L.length,r,rfl,g.1,ANB (P.put h.base.bu g.1),.inl ⟨.inl ⟨_,_,rfl⟩,X,x,h.ser,AMk h.sub,AMk h.ANU,YH h.Iz,YH h.ADp,by omega,by have:=h.AMu;omega,XC h.nf g.1.size,h.ne,AMo h.ALx.bu g.2 h.maps⟩⟩
theorem AO0(ab:Mw){w0 w:Tw}{N:Td}{fs z:List Int}{mv v u f:Tv}{H H2:List (Dn×Ah)}{U g V:List Tb}{σ:Tb->Tb}{XS:List (List A6)}{s:PlS}{rd:Bool}{t:Ah}(h:AOd w0 w n j d i m p D N fs z mv v u f H H2 U g V σ XS s rd A t)(hi:i<30)(he:B.Ob w0)(ho:S.Lp w0):
 Zc 11 #[Zp (some (Zd d 0)),Zg s.cells.toArray,Zt (wK i)] w λe w'=>e=Zr Zn/\B.A0 (B.Own d u) w w'/\∃af O o I r P σ' ys,
  LwS w0 w' n j d (i+1) m af (D.put (B.lit (Ek (H.length+1))) (B.Gw (C6 (s.tx,rd,A)))) O fs o mv v I r (H++[((s.tx,rd,A),t)]) P U (wK i :: g) (s.tx :: V) σ' (XS++[ys]):=by
 obtain⟨xs,ae,hT,ac⟩:=h.ser.last;have f1:=h.Iz;have f2:=h.ADp;have f3:=h.AFx;have f4:=h.AMu;have b:¬wK i∈g:=λM=>AD3 i i (XA _) (by omega) (h.ANU _ M)
 have hS:iK w0 w 0 d p N z u f H2 g (wK i):=⟨h.ALx,h.ser.inv2,he,ho,XD _,by omega,by omega,AGv (by omega),by show 3<=12;decide,AFl i,b⟩;obtain⟨c,ys,a⟩:=AN0 h.ser h.APq (by omega) ae h.app h.prt h.nof h.any b (AFl i) (AGv (by omega)) λk hk=>AOs (by omega) hk
 refine(V1 ab w0 0 d p N z u f H2 g (wK i) (xs.map (ALj σ)) s.x s.ca s.cc s.ra s.rc s.pa s.pn s.pc s.sa s.sc w hS (by omega) ac (h.AP8.up h.ALx.low)).mono ?_;intro e w' hd
 have ad:e=Zr Zn:=by
  rcases AOF (bJ h.ALx) h.APq.tree hd with⟨l,_⟩|⟨_,l⟩
  ·exact l
  exact absurd c l
 subst ad;obtain⟨n',D',R,ag,W,H',h1,h2,X,h4,h5,⟨_,D1,ai,A',ah,M,hc⟩|⟨T,y,l,_⟩⟩:=hd
 ·refine⟨rfl,X,?_⟩
  rcases hc with⟨Y,_,_⟩|⟨Y,_,t',ha,rfl,rfl⟩
  ·exact absurd Y (a _ _ _ _ F6 M λq=>absurd Y q).1
  have G:=(a _ _ _ _ t' M λ_=>ha).2 (H2.length+1) h5;have aa:=AMM h.ALx h.base X h1.low (λq=>h.ne q.symm) λk J L=>h.maps k L J
  exact⟨n',_,R,ag,W,_,_,ys,aa,h1,G,AMk h.sub,ANe h.ANU,by simp;omega,by simp;omega,by omega,by omega,XC h.nf X.size,h.ne,λk J L=>AMo h.base.bu h4 (λk J L=>h.maps k L J) k L J⟩
 cases l
def pvS:Option PlS->Value
 | none=>.pointer none
 | some s=>.pointer (some ⟨s.pb,0,none⟩)
structure ALI(w0 w:World)(pl dl i:Nat)(D:DataW Unit)(H:List (Dn×Ah))(U V:List ByteArray)(XS:List (List A6))(P:Nat->Option PlS)(dv:Nat->List Value):Prop where
 AMb:w.1[pl]? = some (.cells #[pvS (P 0),pvS (P 1),pvS (P 2)] 31 (0,0))
 AMy:w.1[dl]? = some (.cells (dv 0++dv 1++dv 2).toArray 38 (0,0))
 AMm:∀k,k<3->(dv k).length=8
 ne:pl≠dl
 low:w0.1.size<=pl/\w0.1.size<=dl
 each:∀k s,k<3->P k=some s->ALf w0 w D H U V XS s/\dv k=s.cells
 old:∀k s,k<3->P k=some s->s.tx∈nms i
 apart:∀k k' s s',k<3->k'<3->P k=some s->P k'=some s'->k≠k'->s.tx≠s'.tx
section
variable {w0 w W : World} {pl dl i : Nat} {D E : DataW Unit} {H : List (Dn × Ah)} {U V : List ByteArray} {XS : List (List A6)} {P : Nat → Option PlS} {dv : Nat → List Value}
theorem ALI.up(h:ALI w0 w pl dl i D H U V XS P dv)(a:Zb w W):ALI w0 W pl dl i D H U V XS P dv :=
 ⟨(a.block _ (Ac h.AMb)).trans h.AMb,(a.block _ (Ac h.AMy)).trans h.AMy,h.AMm,h.ne,h.low,λk s b e=>⟨(h.each k s b e).1.up a,(h.each k s b e).2⟩,h.old,h.apart⟩
theorem ALI.put(h:ALI w0 w pl dl i D H U V XS P dv){bb n:Nat}{G:Td}{fs:List Int}{mv v:Tv}(a:B.Bu w bb n G fs mv v)(b:B.A0 (B.Own bb mv) w W):ALI w0 W pl dl i D H U V XS P dv :=
 ⟨Ut a b h.AMb (by decide),Ut a b h.AMy (by decide),h.AMm,h.ne,h.low,λk s c e=>⟨(h.each k s c e).1.put a b,(h.each k s c e).2⟩,h.old,h.apart⟩
theorem ALI.skip(h:ALI w0 w pl dl i D H U V XS P dv):ALI w0 w pl dl (i+1) D H U V XS P dv :=
 ⟨h.AMb,h.AMy,h.AMm,h.ne,h.low,h.each,λk s a e=>Yd _ (h.old k s a e),h.apart⟩
theorem ALI.grown{t:Tb}(h:ALI w0 w pl dl i D H U V XS P dv)(b:Grown t D E):ALI w0 w pl dl i E H (t :: U) V XS P dv :=
 ⟨h.AMb,h.AMy,h.AMm,h.ne,h.low,λk s a e=>⟨(h.each k s a e).1.grown b,(h.each k s a e).2⟩,h.old,h.apart⟩
theorem ALI.AJO{t:Tb}{j:Nat}{v:Td}{f:List A6}{c:Dn×Ah}(h:ALI w0 w pl dl i D H U V XS P dv)(d:XS.length=H.length+1)(b:∀k s,k<3->P k=some s->s.tx≠t):ALI w0 w pl dl i (D.put (B.lit (Ek j)) v) (H++[c]) U (t :: V) (XS++[f]) P dv :=
 ⟨h.AMb,h.AMy,h.AMm,h.ne,h.low,λk s a e=>⟨(h.each k s a e).1.AJO d (b k s a e),(h.each k s a e).2⟩,h.old,h.apart⟩
theorem ALI.drop(h:ALI w0 w pl dl i D H U V XS P dv)(Y:n<3):ALI w0 (w.setCell (Zd pl n) (Zp none)) pl dl i D H U V XS (λk=>if k=n then none else P k) dv:=by
 have hs:=As w pl n _ _ (Zp none) h.AMb;refine⟨?_,?_,h.AMm,h.ne,h.low,λk s d e=>?_,λk s d e=>?_,λk k' s s' d hk' e e' o=>?_⟩
 ·rw[hs]
  have:n=0\/n=1\/n=2:=by omega
  rcases this with rfl|rfl|rfl <;> rfl
 ·exact(Wb _ _ _ _ (λe=>h.ne e.symm)).trans h.AMy
 ·split at e
  ·cases e
  obtain⟨⟨W,base,G,n1,c1,x2,I,n2,N,rd,J,M,L,qj,a,hq⟩,hv⟩:=h.each k s d e;have X:w.grownBy (w.setCell (Zd pl n) (Zp none)) (some pl):=⟨rfl,rfl,rfl,by simp[World.setCell],λj hj o=>Wb _ _ _ _ (λe=>o (by rw[e]))⟩;have keep:∀{b z m:Nat}{T:TypeId}{u:Tv}{xs:List Tv},w.ownsRow b T z u m xs->T≠31->(w.setCell (Zd pl n) (Zp none)).ownsRow b T z u m xs:=λhr R=>Mk hr h.AMb (λe=>R e.symm) X
  refine⟨⟨W,base,G,n1,c1,x2,I,n2,N,rd,J,M,L,qj,⟨?_,?_,keep a.row (by decide),λq f=>⟨keep (a.own q f).1 (by decide),keep (a.own q f).2 (by decide)⟩,a.Vv,a.low⟩,hq⟩,hv⟩
  ·refine(Wb _ _ _ _ (λl=>?_)).trans a.box
   have O:=h.AMb;have c:=a.box;rw[l,O] at c;injection c with c;injection c with _ c;exact absurd c (by decide)
  obtain⟨p,t,r,v,y,l,g⟩:=a.snap;exact⟨p,t,r,v,y,l,keep g.qz (by decide),g.qx,keep g.row (by decide),λx hx=>keep (g.Cl x hx) (by decide)⟩
 ·split at e
  ·cases e
  exact h.old k s d e
 split at e
 ·cases e
 split at e'
 ·cases e'
 exact h.apart k k' s s' d hk' e e' o
end
