import Derived.Test.YthlacpbkcmellaaGreatDoorQO
import Derived.Test.YthlacpbkcmellaaGreatDoorShelfZ
import Derived.Shelf.SlSortCmp.NoneTotal
import Derived.Deep.RegionLawGrows
set_option maxHeartbeats 40000000
set_option maxRecDepth 100000
open List renaming getElem?_eq_getElem->Y',mem_of_getElem?->XD,getElem?_take->XE,length_map->XG,getElem?_map->XH,take_succ_cons->XI,getElem?_append_right->XK,getElem?_append_left->XL,map_cons->XM,drop_succ_cons->XN,map_append->XO,map_map->XP,drop_zero->XQ,take_zero->XR,length_cons->XU,sum_append->XV,length_append->XW,getD_eq_getElem?_getD->XX,sum_cons->XY,filter_cons_of_neg->X2,filter_cons_of_pos->X4,mem_of_mem_drop->WA,flatMap_cons->WE,map_nil->WH,sum_nil->WI,take_sublist->WK,ext_getElem?->WL,all_eq_true->WM,not_mem_nil->WO,mem_range->WQ,mem_cons->WR,mem_map->WU
open Nat renaming le_refl->XA,zero_le->XC,le_trans->XF,add_zero->X6,le_succ->WB,zero_add->WS,le_of_lt->WT
open Go.RowKit.Below renaming refl->XB,heap_alloc->WN
open Go.World renaming news_of_block->XJ,cell?_alloc_past->X',ownsRow_nil->WD,cells?_some->WG,new_ne->WJ
open Array renaming getElem?_eq_none->XS,extract_size->WC
open Bool renaming and_eq_true->XT,or_eq_true->Wb
open Option renaming getD_some->XZ
namespace Go.Proofs.YthlacpbkcmellaaGreatDoor
open Tryz RowKit Shelf Joins ChangeShapes WideShapes ChangeAt Deep
namespace F
variable{l:List Aj}{r:List V}{W w:Tw}{T:S.CT}{k:Nat}{s:Ah}{A:List A5}{D:Td}{H:List (Dn×Ah)}{e:Ending}{x:J4}{U:List Tb}
def Ir(l:List (List V)):List (List V):=l.mergeSort λx y=>decide (ALG x y<=0)
theorem ALc(a b c:List V)(f:ALG a b<=0)(g:ALG b c<=0):ALG a c<=0:=by
 rcases ALN a b with d|d|d
 ·rcases ALN b c with e|e|e
  ·have:=ALo a b c d e;omega
  ·have:=ALh b c e;subst this;exact f
  omega
 ·have:=ALh a b d;subst this;exact g
 omega
theorem ALv{l l':List (List V)}(f:l'.Perm l)(g:l'.Pairwise λx y=>ALG x y<=0):l'=Ir l:=by
 have d:(Ir l).Pairwise λx y=>ALG x y<=0:=by
  have h:=YT (le:=λx y:List V=>decide (ALG x y<=0)) (λa b c e d=>by simp at e d ⊢;exact ALc a b c e d) (λa b=>by have:=ALM a b;simp only[Wb,decide_eq_true_eq];omega) l
  exact h.imp λh=>by simpa using h
 refine List.Perm.eq_of_pairwise (le:=λx y=>ALG x y<=0) ?_ g d (f.trans (YI _ _).symm);intro a b _ _ e d;have:=ALM a b;exact ALh a b (by omega)
theorem cU{l l':List (List V)}(e:l'.Perm l):Ir l'=Ir l:=by
 have d:(Ir l').Pairwise λx y=>ALG x y<=0:=by
  have h:=YT (le:=λx y:List V=>decide (ALG x y<=0)) (λa b c h1 d=>by simp at h1 d ⊢;exact ALc a b c h1 d) (λa b=>by have:=ALM a b;simp only[Wb,decide_eq_true_eq];omega) l'
  exact h.imp λh=>by simpa using h
 exact ALv ((YI _ _).trans e) d
theorem Ml(l:List (List V)):(Ir l).length=l.length:=by unfold Ir;rw[List.length_mergeSort]
theorem AMl{l:List (List V)}(h:r∈Ir l):r∈l:=(YI _ _).mem_iff.mp h
theorem AMy{P:Tv->List V->Prop}:∀(vs:List Tv)(rows:List (List V)),vs.length=rows.length->(∀(j:Nat)x r,vs[j]? = some x->rows[j]? = some r->P x r)->∃d:List {p:Tv×List V // P p.1 p.2},d.map (·.1.1)=vs/\d.map (·.1.2)=rows
 | [],[],_,_=>⟨[],rfl,rfl⟩
 | [],_ :: _,h,_=>by simp at h
 | _ :: _,[],h,_=>by simp at h
 | v :: vs,r :: rows,h,hp=>by obtain⟨d,a,b⟩:=AMy vs rows (by simpa using h) (λj x q hx hq=>hp (j+1) x q (by simpa using hx) (by simpa using hq));exact⟨⟨(v,r),hp 0 v r rfl rfl⟩ :: d,by simp[a],by simp[b]⟩
section
variable {α : Type} [Inhabited α] {enc : α → Value}
theorem ALx{zG off m:Nat}{d g:Array α}{os:Array Obj}(v:g.size=d.size)(o:Go.Sort.Holds enc w zG off d)(b:∀x,∃a n c,enc x=Zs a n c){a:Addr}{u:Tv}(p:a.block<w.heap.size)(f:a.spot=none)(k:w.cell? a=some u)(q:∀s n c,u≠Zs s n c):(sortWorld enc w zG off m g os).cell? a=some u:=by
 unfold sortWorld;rw[Go.Sort.cell?_grow _ _ _ (by simpa using p),Go.Sort.cell?_putRow_other]
 ·exact k
 rcases Yc a.off off with i|i
 ·exact .inr (.inl i)
 rcases Yc a.off (off+g.size) with j|j
 ·refine .inl λe=>?_
  have h:=(o (a.off-off) (by omega)).1;obtain⟨s,n,c,es⟩:=b d[a.off-off]!
  rw[show (⟨zG,off+(a.off-off),none⟩:Addr)=a from by obtain⟨r,t,l⟩:=a;simp only at e f i ⊢;subst e f;congr 1;omega,k,es] at h
  injection h with h;exact q s n c h
 exact .inr (.inr j)
theorem AL8{zG off m:Nat}{d i:Array α}{os:Array Obj}(q:i.size=d.size)(k:Go.Sort.Holds enc w zG off d)(f:∀x,∃a n c,enc x=Zs a n c){v:Tv}(h:E.Sl w v r):E.Sl (sortWorld enc w zG off m i os) v r:=by
 obtain⟨a,c,e,z,G⟩:=h;refine⟨a,c,e,z,λp=>?_⟩;obtain⟨b,o,s,l,g⟩:=G p;refine⟨b,o,s,?_,λj x D=>?_⟩
 ·unfold sortWorld
  rw[Go.Sort.size_grow];have:(Go.Sort.putRow enc (Go.Sort.ahead w m) zG off i).heap.size=w.heap.size:=by simp
  omega
 obtain⟨t,u,y⟩:=g j x D;exact⟨ALx q k f l rfl t (λ_ _ _=>by simp),ALx q k f l rfl u (λ_ _ _=>by simp),ALx q k f l rfl y (λ_ _ _=>by simp)⟩
theorem AL0{B zG off m:Nat}{c:Array α}{os:Array Obj}(d:B<=zG)(f:B<=w.heap.size):Below B w (sortWorld enc w zG off m c os):=by
 refine⟨rfl,rfl,rfl,?_,λk e=>?_⟩
 ·unfold sortWorld
  rw[Go.Sort.size_grow];have:(Go.Sort.putRow enc (Go.Sort.ahead w m) zG off c).heap.size=w.heap.size:=by simp
  omega
 unfold sortWorld;have b:¬zG=k:=by omega
 have a:k<w.heap.size:=by omega
 simp[Go.Sort.grow,Go.Sort.putRow,Go.Sort.mapBlock,Array.getElem?_append,Array.getElem_modify,b,a,Go.Sort.ahead]
end
theorem AL7(x y:List V):(ALG x y<=0)↔¬ALG y x<0:=by have:=ALM x y;omega
theorem AOB{P:Tv×List V->Prop}:Go.Sort.SWO (ltOf λ(x y:{p:Tv×List V // P p})=>ALG x.1.2 y.1.2) where
 irrefl x:=by simp[ltOf,AMo]
 trans x y z h1 h2:=by
  simp only[ltOf,decide_eq_true_eq] at *;have a:ALG x.1.2 y.1.2 = -1:=by rcases ALN x.1.2 y.1.2 with e|e|e <;> omega
  have b:ALG y.1.2 z.1.2 = -1:=by rcases ALN y.1.2 z.1.2 with e|e|e <;> omega
  have:=ALo _ _ _ a b;omega
 ntrans x y z h1 h2:=by simp only[ltOf,decide_eq_false_iff_not] at *;have a:=(AL7 y.1.2 x.1.2).mpr h1;have b:=(AL7 z.1.2 y.1.2).mpr h2;exact(AL7 z.1.2 x.1.2).mp (ALc _ _ _ b a)
theorem AMR(base:Nat)(v:Tv)(n:Nat)(xs:List Tv)(w:Tw)(h:w.ownsRow base 54 1 v n xs)(r:∀u∈xs,u.oneCell'=true)(D:n<=1000000):
 Zc 33 #[v] w λen e=>∃a c,en=Zr (Zs a n c)/\e.ownsRow w.heap.size 54 1 (Zs a n c) n xs/\Zb w e:=by
 rcases Di h with⟨f,e0⟩|⟨g,c,f,_,z,t,x⟩
 ·subst f e0
  refine(AnyE.slices_Clone_nil layCloneR 0 0 w).mono ?_;rintro en e⟨rfl,rfl⟩;refine⟨none,0,rfl,?_,XB _ _⟩;have:=h.1;rw[Nat.zero_mul] at this;rw[Yai.1 this];exact WD _ _ _ _
 subst f;obtain⟨y,i,b,m,o⟩:=info_parts eI;refine(AnyE.slices_Clone layCloneR y (Zs none 0 0) 1 24 i b m o rfl (by decide) sizeOf54 g 0 n c xs w h.1 (by unfold maxLen;omega) (by omega) (λj u k=>?_) r).mono ?_
 ·have l:j<n*1:=by
   rcases Yc j xs.length with d|d
   ·rw[h.1] at d;exact d
   rw[Yb d] at k;cases k
  rw[WS,h.cellAt j l];exact k
 rintro en e⟨v',rfl,p,_,s⟩;obtain⟨a,q,rfl,_⟩:=Au p;exact⟨a,q,rfl,p,s⟩
def ANh(w:World)(p:Value×List V):Prop:=E.Sl w p.1 p.2/\p.2.length<=1000
theorem AMp(g c:Nat)(vs:List Tv)(rows:List (List V))(w:Tw)(hv:vs.length=rows.length)(h:w.ownsRow g 54 1 (Zs (some ⟨g,0,none⟩) rows.length c) rows.length vs)(he:∀(j:Nat)x r,vs[j]? = some x->rows[j]? = some r->E.Sl w x r/\r.length<=1000)(hl:rows.length<=1000000)(hc:rows.length<=c):
 Zc 34 #[Zs (some ⟨g,0,none⟩) rows.length c,.func (.func 35) #[] #[]] w λe Y=>e=Zr (Zu #[])/\iJ Y (Zs (some ⟨g,0,none⟩) rows.length c) (Ir rows)/\Below g w Y:=by
 obtain⟨R,T,I⟩:=AMy (P:=λx r=>ANh w (x,r)) vs rows hv he;have J:R.length=rows.length:=by rw[<-I,XG]
 let α:Type:={p:Tv×List V // ANh w (p.1,p.2)}
 letI:Inhabited α:=⟨⟨(Zs none 0 0,[]),⟨none,0,rfl,by simp,λh=>absurd rfl h⟩,by simp⟩⟩
 let enc:α->Tv:=λp=>p.1.1
 let cf:α->α->Int:=λx y=>ALG x.1.2 y.1.2
 have k:∀x:α,∃a n c,enc x=Zs a n c:=λx=>by obtain⟨a,c,e,_⟩:=x.2.1;exact⟨a,_,c,e⟩
 have L:OneCell enc:=λx=>by obtain⟨a,n,c,e⟩:=k x;rw[e];rfl
 let d:Array α:=R.toArray
 have s:d.size=rows.length:=by simp[d,J]
 have hblk:g<w.heap.size/\∃o,w.heap[g]? = some (Zk o 54 (0,0)):=by
  rcases h.2 with⟨e,_⟩|⟨g',aa,o,e,_,N,_⟩
  ·cases e
  injection e with q _ _;injection q with q;injection q with q _ _;subst q;exact⟨E.Ac N,o,N⟩
 have D:Go.Sort.Holds enc w g 0 d:=λj t=>by
  constructor
  ·have b:j<rows.length*1:=by omega
   rw[WS,h.cellAt j b,<-T,XH,Y' (by omega)];simp[d,enc,getElem!_pos,J,show j<rows.length by omega]
  obtain⟨_,o,N⟩:=hblk;simp[World.frozen?,N]
 have G:CmpLays1 prog 35 #[] enc cf g 0 d.size w:=λm os dk O x y=>by have h1:=AL8 (m:=m) (os:=os) O D k x.2.1;have h2:=AL8 (m:=m) (os:=os) O D k y.2.1;exact(ANI (enc x) (enc y) x.1.2 y.1.2 _ h1 h2 x.2.2 y.2.2)
 have hS:=Any.slices_SortFunc laySort enc L cf AOB 35 #[] g 0 c d w (enters_of func35 (by kernel_rfl) rfl) G D hblk.1 (by omega);rw[s] at hS;refine hS.mono ?_;rintro e Y⟨rfl,l,n,os,hp,O,rfl⟩;obtain⟨X,_,M⟩:=hp;have f:l.size=rows.length:=by rw[X,s]
 have q:l.extract 0 rows.length=l:=by rw[<-f];exact WC
 have e2:d.extract 0 rows.length=d:=by rw[<-s];exact WC
 rw[q,e2] at M
 have v:l.toList.map (·.1.2)=Ir rows:=by
  refine ALv ?_ ?_
  ·have:=M.map (·.1.2)
   rw[show d.toList=R from rfl,I] at this;exact this
  rw[List.pairwise_map,Yr];intro i j hi t W;have U:i<l.size:=by simpa using hi
  have b:j<l.size:=by simpa using t
  have:=O i j (XC _) W (by omega);rw[getElem!_pos l i U,getElem!_pos l j b] at this;simp only[ltOf,decide_eq_false_iff_not,cf] at this;exact(AL7 _ _).mpr (by simpa using this)
 refine⟨rfl,⟨l.toList.map (·.1.1),⟨_,c,by simp[f],by simp[f];exact hc,λ_=>⟨g,0,rfl,?_,λj x t i u hu=>?_⟩⟩,by simp[Ml,f],λj x r hx hr=>?_⟩,AL0 (XA _) (WT hblk.1)⟩
 ·exact Ya hblk.1 (AL0 (B:=g) (XA _) (WT hblk.1)).size
 ·cases i with
  | succ i=>simp[encR] at hu
  | zero=>
    simp[encR] at hu;subst hu;have b:j<l.size:=by have:=Ax t;simpa using this
    rw[XH,Y' (by simpa using b)] at t;simp at t;subst t;rw[Nat.mul_one,X6];unfold sortWorld;rw[Go.Sort.cell?_grow _ _ _ (by simpa using hblk.1),Go.Sort.cell?_putRow enc _ g 0 d l (Go.Sort.holds_ahead enc w n g 0 d D) (by omega) j b,getElem!_pos l j b]
 rw[<-v,XH] at hr;rw[XH] at hx;cases hz:l.toList[j]? with
 | none=>rw[hz] at hx;cases hx
 | some z=>rw[hz] at hx hr;simp at hx hr;subst hx hr;exact AL8 (by omega) D k z.2.1
theorem Ho{B g n c z:Nat}{T:TypeId}{xs:List Tv}(h:w.ownsRow B T z (Zs (some ⟨g,0,none⟩) n c) n xs):w.ownsRow g T z (Zs (some ⟨g,0,none⟩) n c) n xs:=by
 refine⟨h.1,.inr ?_⟩
 rcases h.2 with⟨e,_⟩|⟨f,b,d,e,_,i⟩
 ·cases e
 refine⟨f,b,d,e,?_,i⟩;injection e with a _ _;injection a with a;injection a with a _ _;omega
theorem AL1(B:Nat)(v:Tv)(rows:List (List V))(w:Tw)(h:Sc B w v rows)(O:rows.length<=1000000)(P:∀r∈rows,r.length<=1000):
 Zc 16 #[v] w λe R=>∃v',e=Zr v'/\iJ R v' (Ir rows)/\Zb w R:=by
 obtain⟨vs,N,I,J⟩:=h
 have d:∀u∈vs,u.oneCell'=true:=λu Y=>by obtain⟨j,X,rfl⟩:=List.mem_iff_getElem.mp Y;obtain⟨a,c,e,_⟩:=Au (J j _ _ (Y' X) (Y' (by omega)));rw[e];rfl
 have i:=Aa (AMR B v rows.length vs w I d O);have q:Hid (∀(j:Nat)x r,vs[j]? = some x->rows[j]? = some r->E.Sl w x r/\r.length<=1000):=Aa λj x r l o=>⟨E.Cy (J j x r l o),P r (XD o)⟩
 obtain⟨va,vc,rfl,_⟩:=Au I;have H1:=Aa N;clear N I J d P;go_enter func16,ntmps16;go_wp2_with fail;refine i.o.mono ?_;rintro e T⟨a,c,rfl,s,b⟩
 rcases Di s with⟨k,e0⟩|⟨g,c',k,n,hg,L,W⟩
 ·have D:=YA e0
  subst D;injection k with k _ G;subst k G;have U:=Aa (AnyF.slices_SortFunc_none laySort0 none 0 (.func (.func 35) #[] #[]) T);have f:=Aa b;clear s b i q H1 e0;go_wp2_with fail;refine U.o.mono ?_;rintro e w2⟨rfl,rfl⟩;go_wp2;go_ret;exact⟨_,rfl,⟨[],⟨none,0,rfl,by simp,λh=>absurd rfl h⟩,by rw[Ml];rfl,λj x r l=>by simp at l⟩,f.o⟩
 injection k with k _ G;subst k G;have M:=Aa (AMp g c vs rows T H1.o (Ho s) (λj x r l o=>⟨((q.o j x r l o).1).up b,(q.o j x r l o).2⟩) O L);have f:=Aa b;have y:=Aa n;clear s b i q H1 n;go_wp2_with fail;refine M.o.mono ?_;rintro e w2⟨rfl,p,m⟩;have z:=Aa p;have t:=Aa (f.o.trans (m.mono y.o));clear p m M;go_wp2;go_ret;exact⟨_,rfl,z.o,t.o⟩
theorem ALu{next next':Int}(h:Go.Proofs.YthlacpbkcmellaaGreatDoor.Wc Go.Proofs.YthlacpbkcmellaaGreatDoor.Bv Go.Proofs.YthlacpbkcmellaaGreatDoor.Cm l next)(o:next<=next'):M7 l next':=by
 obtain⟨b,c,d,f⟩:=h;refine⟨b,c,λi a=>?_,λi j hij hj=>?_⟩
 ·rw[Y' a,XZ]
  obtain⟨⟨g,k,m,n⟩,p⟩:=d _ (Yh a);refine⟨?_,by omega⟩;simp only[Ko,XT,Wb,beq_iff_eq,decide_eq_true_eq];exact⟨g,k,m,n⟩
 have a:i<l.length:=by omega
 rw[Y' a,Y' hj,XZ,XZ];have:=(List.pairwise_iff_getElem.mp f) i j a hj hij;unfold Ez;rw[Bool.or_eq_false_iff];refine⟨by simpa using this.1,?_⟩;rw[beq_eq_false_iff_ne];exact λe=>this.2 (toList_inj e)
theorem AMP{α β:Type}(p:α->Bool)(f g:α->β):∀l:List α,((l.filter λx=>!p x).map g++(l.filter p).map f).Perm (l.map λx=>if p x then f x else g x)
 | []=>List.Perm.refl _
 | x :: l=>by
   have a:=AMP p f g l;cases hx:p x with
   | true=>rw[X2 (by simp[hx]),X4 hx,XM,XM,Yag hx];exact List.perm_middle.trans (a.cons _)
   | false=>rw[X4 (by simp[hx]),X2 (by simp[hx]),XM,XM,Yaf (by simp[hx]),List.cons_append];exact a.cons _
def n60(n:Nat):Nat:=(n+59) / 60
def Gg(rows:List (List V))(k:Nat):List (List V):=(rows.drop (60*k)).take 60
def Gd(rows:List (List V)):List (List (List V)):=(List.range (n60 rows.length)).map (Gg rows)
theorem Oz(rows:List (List V)):(Gd rows).length=n60 rows.length:=by simp[Gd]
theorem bU{rows:List (List V)}(h:k<n60 rows.length):1<=(Gg rows k).length/\(Gg rows k).length<=60:=by unfold n60 at h;simp only[Gg,List.length_take,List.length_drop];omega
theorem Xj{rows p:List (List V)}(h:p∈Gd rows):1<=p.length/\p.length<=60/\∀r∈p,r∈rows:=by simp only[Gd,WU,WQ] at h;obtain⟨k,a,rfl⟩:=h;have:=bU a;exact⟨this.1,this.2,λr b=>WA (Yl b)⟩
theorem ALD{rows p:List (List V)}(e:M7 l Lf)(f:∀r∈rows,Hu l r=0)(h:p∈Gd rows):De l p=true:=by obtain⟨b,c,d⟩:=Xj h;exact B4.mpr ⟨e,b,c,λr a=>f r (d r a)⟩
structure AJH(A:List A5):Prop where
 Iz:A.length<=100
 ints:∀a∈A,Ints a
 kind:A.length<=12\/∀a∈A,a.1=1\/a.1=2\/a.1=3
theorem AAX{a:A5}(h:Fh a)(f:a.1=1\/a.1=2\/a.1=3):(F3 a).size<=3000:=by
 have j:=h.path;have k:=Dw h.rows;unfold F3
 rcases f with e|e|e
 ·rw[Yag e]
  simp only[Ea];have:(⟨#[97,100,100,32]⟩:Tb).size=4:=rfl;have:(⟨#[32]⟩:Tb).size=1:=rfl;omega
 ·rw[Yaf (by omega),Yag e]
  simp only[Ea];have:(⟨#[114,101,109,111,118,101,32]⟩:Tb).size=7:=rfl;omega
 rw[Yaf (by omega),Yaf (by omega),Yag e];simp only[Ea]
 have d:=Jh (b:=21) (xs:=a.2.2.2.1.map Bm) (sep:=⟨#[44]⟩) (λx g=>by obtain⟨y,i,rfl⟩:=List.mem_map.1 g;exact Dw (h.mask y i))
 have:(⟨#[109,97,115,107,32]⟩:Tb).size=5:=rfl;have:(⟨#[32]⟩:Tb).size=1:=rfl;have c:(⟨#[44]⟩:Tb).size=1:=rfl;have l:=h.Iz;rw[XG,c] at d;omega
theorem X9:∀{l:List A5},(∀a∈l,Fh a/\(a.1=1\/a.1=2\/a.1=3))->(Ed l).length<=l.length*3001
 | [],_=>by simp[Ed]
 | a :: l,h=>by
   have f:=AAX (h a (Yf ..)).1 (h a (Yf ..)).2;have g:=X9 (l:=l) (λb d=>h b (Yg _ d))
   have e:(Ed (a :: l)).length=(F3 a).data.toList.length+1+(Ed l).length:=by simp only[Ed,WE,XW,XU,List.length_nil]
   have c:(F3 a).data.toList.length=(F3 a).size:=by simp
   rw[e,c,XU,Y5];omega
theorem lV{s:Tb}{b:Bool}(d:AJH A)(h:Cv (s,b,A)=true):0<(C6 (s,b,A)).size/\(C6 (s,b,A)).size<=1000000:=by
 have g:∀a∈A,Fh a:=λa c=>by simp only[Cv,XT,WM] at h;exact Qb (h.2 a c) (d.ints a c)
 rcases d.kind with f|f
 ·exact ACx h g f
 have e:(C6 (s,b,A)).size=(I4 s b).size+(Ed A).length:=by show (Nn (s,b,A)).toArray.size=_;rw[List.size_toArray,Nn,XW,Gm]
 simp only[Cv,XT] at h;have i:=Ri b (XF (Hh h.1) (by decide));have j:=X9 (l:=A) (λa c=>⟨g a c,f a c⟩);have m:=d.Iz
 have k:0<(I4 s b).size:=by unfold I4;have e9:(⟨#[10]⟩:Tb).size=1:=rfl;rw[Ea,e9];omega
 omega
theorem AG0{w0 w:Tw}{k bb n:Nat}{fs:List Int}{mv:Tv}{C:Dn}{j:Nat}(h:Jy w0 w k bb n D fs mv C H j e W):∃v a,e=Zr (Zu #[v,a])/\Hid (Jy w0 w k bb n D fs mv C H j (Zr (Zu #[v,a])) W):=by
 have b:=h;obtain⟨n',g,c,f,d,_,_,_,_,⟨t,rfl,_⟩|⟨i,x,rfl,_⟩⟩:=h
 ·exact⟨_,_,rfl,Aa b⟩
 exact⟨_,_,rfl,Aa b⟩
def DoP(w0 w:World)(b bb n:Nat)(D:DataW Unit)(fs:List Int)(mv:Value)(C:Dn)(H:List (Dn×Ah))(j:Nat)(e:Ending)(a:World):Prop :=
 (C.2.2=[]/\e=.returned (.tuple #[Zi (j:Int),.nilIface])/\Zb w a)\/(C.2.2≠[]/\∃W,Zb w W/\Jy w0 W b bb n D fs mv C H j e a)
theorem AHB(w0:Tw)(i base bb n:Nat)(D:Td)(fs:List Int)(mv G:Tv)(H:List (Dn×Ah))(j:Nat)(N:Nat)(r:To)(n1 c1:Nat)(z:Int)(s:To)(n2 t:Nat)(g:Tb)(p:Bool)(k:To)(l:Nat)(L:List Gx)(rows:Int)(w:Tw)(h:Ey w0 w i bb n D fs mv G)(x:i<=w.heap.size)(P:n<=90000)(J:U6 D H)(M:La H)(O5:H.length<=40)(O:j<=H.length)(d:Dv base w N (Ae H j) (j:Int) r n1 c1 z s n2 t g p k l L rows)(o:AJH (L.map (·.1)))(y:g.size<=60):
 Zc 21 #[Zp (some (Zd bb 0)),Zp (some (Zd N 0))] w (DoP w0 w i bb n D fs mv (g,p,L.map (·.1)) H j):=by
 have I:Dt w (Zs k L.length l) (L.map (·.1)):=sP (base:=0) (E.Ai d.row (XC _)) d.own d.Vv;have c:=Aa (λW(m:Zb w W)=>AHx w0 i bb n D fs mv G g p (L.map (·.1)) k L.length l H j r n1 c1 z s n2 t W (h.up m) (XF x m.size) P J M O5 O (d.snap.up m) (I.below m) o.Iz (lV o) y (λa ha hr=>Qb hr (o.ints a ha)));obtain⟨R,T,U,V,X,Y,y6,y7,yf⟩:=F2 d.box;clear h J M d o I
 by_cases hL:L.length=0
 ·have q:Hid (L=[]):=Aa (Yai.1 hL)
  have u:((L.length:Nat):Int)=0:=by omega
  clear hL c;go_enter func21,ntmps21;go_wp2_with fail;go_ret2;exact .inl ⟨by rw[q.o];rfl,rfl,XB _ _⟩
 have q:Hid (L.map (·.1)≠[]):=Aa (λe=>hL (by have:=congrArg List.length e;simpa using this));have u:¬((L.length:Nat):Int)=0:=by omega
 have f:Hid (∀args w,(callFunc 44 args).run prog w=.ok (.enter 44 args) w):=Aa (enters_of func44 (by kernel_rfl) rfl);have b:=Aa ((c.o w.drew ((XB _ _).drew)).mono λe w'=>AG0);unfold K4 at b;clear hL c;go_enter func21,ntmps21;go_wp2_with fail
 go_region_law
  (first
    | (refine Nh (by rfl) 44 (.tmp 23) (.tmp 27) (.tmp 31) 27 42 78 (by rfl) (Zp (some (Zd bb 0))) (Zg #[Zi (j:Int),Zs r n1 c1,Zi z,Zs s n2 t]) (Zg #[Zt g,Zo p,Zs k L.length l]) (by rfl) (by rfl) (by rfl) f.o _ b.o ?_
       rintro e w2⟨v,er,rfl,H2⟩;refine⟨_,rfl,?_⟩)
    | fail)
 all_goals
  clear b f R T U V X Y y6 y7 yf;go_wp2;go_ret2;exact .inr ⟨q.o,w.drew,(XB _ _).drew,H2.o⟩
def Km(a:ByteArray)(l:List Aj):Nat->List (List (List V))->DataW Unit->DataW Unit
 | _,[],D=>D
 | k,p :: ps,D=>Km a l (k+1) ps (D.put (B.lit (Eh (Bw a k))) (Pa l p))
def N5(b:ByteArray)(k:Nat)(a:List (List (List V))):List A5:=(a.zipIdx k).map λq=>(1,Bw b q.2,(q.1.length:Int),[],[],0)
def Tog(s:Ah)(n:Nat):Prop:=(∀e∈s.files,e.2.2=[])/\s.files.length<=n60 n
def AEz(D:DataW Unit)(s:Ah)(xs:List A6)(b:ByteArray)(a:DataW Unit)(c:Bool)(A:List A5)(rows:Int):Prop :=
 s.cols≠[]/\c=true/\rows=(Bo s.cols .nil xs).1.length /\
  ((Tog s (Bo s.cols .nil xs).1.length/\a=D/\A=[]) \/
   (¬Tog s (Bo s.cols .nil xs).1.length/\(∀p∈Gd (Fc s.cols xs),De s.cols p=true)/\a=Km b s.cols 0 (Gd (Fc s.cols xs)) D/\A=(s.files.map λe=>((2,e.1,0,[],[],0):A5))++N5 b 0 (Gd (Fc s.cols xs))))
def AMN(s:Ah)(a:Nat)(b:Value):Prop:=(s.cols=[]/\b=.iface 82 (Zi 6))\/a≠0
def Mw:Prop:=∀(w0:World)(b bb n:Nat)(D:DataW Unit)(fs:List Int)(mv c:Value)(H:List (Dn×Ah))(U:List ByteArray)(a:ByteArray)(xs:List A6)(w:World),iK w0 w b bb n D fs mv c H U a->C7 D (Ae H H.length) xs ->
 Zc 43 #[.pointer (some ⟨bb,0,none⟩),.string a] w (Kd w0 w b bb n D mv H a (AMN (Ae H H.length) b) (AEz D (Ae H H.length) xs a))
def nK:Aj:=(0,⟨#[]⟩,0,false,0,0,⟨#[]⟩)
def V7(D:DataW Unit)(s:Ah)(xs:List A6)(c:ByteArray)(x:J4)(a:DataW Unit)(b:Bool)(A:List A5)(rows:Int):Prop :=
 (x.Qk=0/\AIP D s x.cols a b A rows)\/(x.Qk=1/\AId D s x.change (x.cols.headD nK) x.name x.tw a b A rows)\/(x.Qk=2/\AIO D s c x.rows a b A rows) \/
 (x.Qk=3/\∃T,x.tree T/\AIX D s xs T a b A rows)\/(x.Qk=4/\∃T,x.tree T/\AIS D s xs c T x.A3 a b A rows)\/((x.Qk<0\/4<x.Qk)/\AEz D s xs c a b A rows)
def AB0(s:Ah)(a:Nat)(fs:List Int)(x:J4)(b:Value):Prop:=(x.Qk=0->AIU s x.cols)/\(x.Qk=2->AGF s fs x.rows)/\(x.Qk=3->∃T,x.tree T/\AIV s T)/\(x.Qk<0\/4<x.Qk->AMN s a b)
structure AA5(x:J4):Prop where
 cols:∀c∈x.cols,Vp c
 Iz:x.cols.length<=20
 rows:K9 x.rows
 ADp:x.rows.length<=100
 A3:∀s∈x.A3,Ks s.2
theorem mB:∀(k:Nat)(l:List Aj),(∀c∈l,Vp c)->k+l.length<=1000->∀c∈Nl k l,Vp c
 | _,[],_,_,c,a=>by cases a
 | k,d :: l,h,hk,c,a=>by
   simp at hk
   rcases List.mem_cons.1 a with rfl|a
   ·exact⟨⟨by show -9223372036854775808<=(k:Int);omega,by show (k:Int)<=9223372036854775807;omega⟩,(h d (Yf ..)).2⟩
   exact mB (k+1) l (λe b=>h e (Yg _ b)) (by omega) c a
theorem Jg{n:Int}(a : -1000000<=n)(b:n<=1000000):Lu n:=⟨by omega,by omega⟩
theorem AAl{xs:List A6}(d:C7 D s xs)(f:Good Bv Cm s)(T:S.CT):(∀a∈xs.flatMap (Vm s.cols T),Ints a/\(a.1=1\/a.1=2\/a.1=3))/\(xs.flatMap (Vm s.cols T)).length<=40:=by
 refine⟨λa b=>?_,?_⟩
 ·obtain⟨x,g,b⟩:=List.mem_flatMap.1 b
  have e:x.1∈s.files:=by rw[<-d.Lz.files];exact List.mem_map.2 ⟨x,g,rfl⟩
  have j:=(O6 s.cols T x (d.rows x g)).1;have i:=f.rows _ e;unfold Vm at b;split at b
  ·cases b
  split at b
  ·simp at b;subst b
   exact⟨⟨Im,(λy c=>by cases c),(λy c=>by cases c),Im⟩,.inr (.inl rfl)⟩
  simp at b;subst b;refine⟨⟨Im,λy c=>?_,(λy c=>by cases c),Im⟩,.inr (.inr rfl)⟩;have:=j.2 y c;exact Jg (by omega) (by omega)
 have k:=rV s.cols T xs;have h:=congrArg List.length d.Lz.files;rw[XG] at h;have:=f.Iz;omega
theorem AH5{α:Type}{l:List α}{q:α×Nat}(h:q∈l.zipIdx k):q.1∈l:=by have:=Y4 (f:=Prod.fst) h;rwa[List.zipIdx_map_fst] at this
theorem nH{n m:Nat}(h:n<=60*m):n60 n<=m:=by unfold n60;omega
theorem aN{xs:List A6}(a:C7 D s xs)(c:Good Bv Cm s)(T:S.CT):(Bo s.cols T xs).1.length<=60*40:=by have d:=(L0 s.cols T xs a.Lz.each).2;have b:=congrArg List.length a.Lz.files;rw[XG] at b;have:=c.Iz;have:60*xs.length<=60*40:=Nat.mul_le_mul_left _ (by omega);omega
theorem AEj{w:Td}{xs:List A6}{t:Tb}{L:Bool}{rows:Int}(o:C7 D s xs)(n:Good Bv Cm s)(p:∀c∈s.cols,Ib c)(N:0<=s.next/\s.next<=1000)(r:AA5 x)(h:V7 D s xs t x w L A rows):AJH A:=by
 have uB:∀c∈s.cols,Vp c:=λc h=>⟨(p c h).id,(p c h).kind,(p c h).num⟩
 rcases h with⟨_,_,_,_,_,rfl,_⟩|⟨_,_,⟨l',v,j,rfl⟩,_⟩|⟨_,_,g,_,_,rfl,_⟩|⟨_,T,_,_,_,_,_,rfl,_⟩|⟨_,T,_,_,_,_,_,ts,_,⟨_,_,rfl⟩|⟨_,R,rfl,g,_,rfl⟩⟩|⟨_,_,_,_,⟨_,_,rfl⟩|⟨_,_,_,rfl⟩⟩
 ·have:=r.Iz
  exact⟨by simp,λa b=>by simp at b;subst b;exact⟨Im,(λy f=>by cases f),mB 1 x.cols r.cols (by omega),Jg (by show (-1000000:Int)<=((x.cols.length+1:Nat):Int);omega) (by show ((x.cols.length+1:Nat):Int)<=1000000;omega)⟩,.inl (by simp)⟩
 ·refine⟨by simp,λa b=>?_,.inl (by simp)⟩
  simp at b;subst b;have i:=rQ j;refine⟨Im,(λy f=>by cases f),λc d=>?_,Jg (by show (-1000000:Int)<=v;omega) (by show v<=1000000;omega)⟩
  rcases j with⟨_,_,rfl,_⟩|⟨_,k,_,_,_,rfl,_⟩|⟨_,k,_,u,_,_,rfl,_⟩
  ·rcases List.mem_append.1 d with d|d
   ·exact uB c d
   rw[List.mem_singleton.1 d]
   have I:Vp (x.cols.headD nK):=by
    cases hxc:x.cols with
    | nil=>exact⟨⟨by decide,by decide⟩,⟨by decide,by decide⟩,⟨by decide,by decide⟩⟩
    | cons y l=>exact r.cols y (by rw[hxc];exact Yf ..)
   exact⟨Jg (by show (-1000000:Int)<=s.next;omega) (by show s.next<=1000000;omega),I.2⟩
  ·rcases List.mem_append.1 d with d|d
   ·exact uB c (Yl d)
   exact uB c (WA d)
  rcases Yv d with d|rfl
  ·exact uB c d
  exact(show Vp (rR s.cols[k]! _) from⟨(uB s.cols[k]! (Jj u)).1,(uB s.cols[k]! (Jj u)).2⟩)
 ·have:=(B4.mp g).2.2.1
  exact⟨by simp,λa b=>by simp at b;subst b;exact⟨Jg (by show (-1000000:Int)<=((x.rows.length:Nat):Int);omega) (by show ((x.rows.length:Nat):Int)<=1000000;omega),(λy f=>by cases f),(λy f=>by cases f),Im⟩,.inl (by simp)⟩
 ·obtain⟨i,z⟩:=AAl o n T
  exact⟨by omega,λa b=>(i a b).1,.inr λa b=>(i a b).2⟩
 ·exact⟨by simp,(λa b=>by cases b),.inl (by simp)⟩
 ·obtain⟨i,z⟩:=AAl o n T
  have G:=(B4.mp g).2.2.1;refine⟨by rw[XU];omega,λa b=>?_,.inr λa b=>?_⟩
  ·rcases List.mem_cons.1 b with rfl|b
   ·exact⟨Jg (Yad (by decide) (Int.natCast_nonneg _)) (Yad (Int.ofNat_le.2 G) (by decide)),(λy f=>by cases f),(λy f=>by cases f),Im⟩
   exact(i a b).1
  rcases List.mem_cons.1 b with rfl|b
  ·exact .inl rfl
  exact(i a b).2
 ·exact⟨by simp,(λa b=>by cases b),.inl (by simp)⟩
 have M:n60 (Fc s.cols xs).length<=40:=nH (by unfold Fc;rw[XG];exact aN o n .nil)
 have m:∀a∈(s.files.map λe=>((2,e.1,0,[],[],0):A5))++N5 t 0 (Gd (Fc s.cols xs)),Ints a/\(a.1=1\/a.1=2\/a.1=3):=λa b=>by
  rcases List.mem_append.1 b with b|b
  ·obtain⟨e,_,rfl⟩:=List.mem_map.1 b
   exact⟨⟨Im,(λy f=>by cases f),(λy f=>by cases f),Im⟩,.inr (.inl rfl)⟩
  obtain⟨q,J,rfl⟩:=List.mem_map.1 b;have O:=Xj (AH5 J);exact⟨⟨Jg (by show (-1000000:Int)<=((q.1.length:Nat):Int);omega) (by show ((q.1.length:Nat):Int)<=1000000;omega),(λy f=>by cases f),(λy f=>by cases f),Im⟩,.inl rfl⟩
 refine⟨?_,λa b=>(m a b).1,.inr λa b=>(m a b).2⟩;have:=n.Iz;simp[N5,Oz];omega
theorem uX(b:Tb)(l:List Aj):∀(a:List (List (List V)))(k:Nat)(D:Td),Maps.IsMap D->Maps.IsMap (Km b l k a D)
 | [],_,_,h=>h
 | _ :: a,k,_,h=>uX b l a (k+1) _ (h.put _ _)
theorem lU(b:Tb)(c:Plain b)(l:List Aj):∀(a:List (List (List V)))(k:Nat)(D:Td)(x:A6),(∀j,k<=j->j<=1000000->x.1.1≠Bw b j)->k+a.length<=1000000->Gt D x->Gt (Km b l k a D) x
 | [],_,_,_,_,_,h=>h
 | p :: a,k,D,x,hne,hk,h=>by simp at hk;exact lU b c l a (k+1) _ x (λj d=>hne j (by omega)) (by omega) (h.AFx (λe=>hne k (XA _) (by omega) e.symm) _)
theorem ABh(a:Tb)(d:Plain a)(i:a.size<=12)(l:List Aj):∀(b:List (List (List V)))(k:Nat)(D:Td),Maps.IsMap D->k+b.length<=1000->(∀p∈b,De l p=true/\K9 p)->∀q∈b.zipIdx k,Gt (Km a l k b D) (((Bw a q.2,(q.1.length:Int),[]),l,q.1):A6)
 | [],_,_,_,_,_,q,c=>by cases c
 | p :: b,k,D,hD,hk,h,q,c=>by
   simp at hk;rw[List.zipIdx_cons] at c
   rcases List.mem_cons.1 c with rfl|c
   ·refine lU a d l b (k+1) _ _ (λj m f e=>?_) (by omega) (bD hD (h p (Yf ..)).1 (h p (Yf ..)).2 ?_)
    ·have:=(S5 d d e).2 (by omega) f
     omega
    have:=Vu a k (by omega);show (Bw a k).size<=1000;omega
   exact ABh a d i l b (k+1) _ (hD.put _ _) (by omega) (λy g=>h y (Yg _ g)) q c
theorem AHC(b:Tb)(k:Nat)(a:List (List (List V))):N5 b k a=((a.zipIdx k).map λq=>(Bw b q.2,(q.1.length:Int))).map λe=>((1,e.1,e.2,[],[],0):A5):=by unfold N5;rw[XP];rfl
theorem mS(path:Tb)(mask:List Int)(l:List Aj)(T:S.CT)(c:List Aj):∀(b:List (List (List V)))(f:Int),∀z∈(Oe path mask l T c f b).1,∃p∈b,∃q∈p,z.2.2=l.map (pick c q)
 | [],_,z,a=>by cases a
 | p :: b,f,z,a=>by
   simp only[Oe] at a;split at a
   ·rcases List.mem_append.1 a with a|a
    ·obtain⟨q,i,e⟩:=List.mem_map.1 (iD _ _ _ _ _ _ z a)
     exact⟨p,Yf ..,q,i,e.symm⟩
    obtain⟨g,d,h⟩:=mS path mask l T c b _ z a;exact⟨g,Yg _ d,h⟩
   obtain⟨g,d,h⟩:=mS path mask l T c b _ z a;exact⟨g,Yg _ d,h⟩
theorem uQ(l:List Aj)(T:S.CT):∀(xs:List A6),∀z∈(Bo l T xs).1,∃x∈xs,∃q∈x.2.2,z.2.2=l.map (pick (By x.2.1) q)
 | [],z,a=>by cases a
 | x :: xs,z,a=>by
   simp only[Bo] at a
   rcases List.mem_append.1 a with a|a
   ·unfold N9 at a
    obtain⟨p,b,q,c,e⟩:=mS _ _ _ _ _ _ _ z a;exact⟨x,Yf ..,q,(Ij b).2.2 q c,e⟩
   obtain⟨y,d,h⟩:=uQ l T xs z a;exact⟨y,Yg _ d,h⟩
theorem ADx{xs:List A6}(g:C7 D s xs)(h:∀c∈s.cols,Ib c):∀z∈(Bo s.cols T xs).1,∀v∈z.2.2,Ks v:=λz j v f=>by
 obtain⟨x,i,q,d,e⟩:=uQ s.cols T xs z j;have b:=g.Lz.each x i;rw[e] at f;exact AIe (b.i64 q d) (O7.mp ((B4.mp b.ok).2.2.2 q d)).1 (λc a=>(h c a).num) v f
theorem AMf{xs:List A6}{t:Tb}{ts:List Nat}{A3:List Vi}{R:List (List V)}(n:Maps.IsMap D)(e:C7 D s xs)(g:Good Bv Cm s)(p:∀c∈s.cols,Ib c)(I:t.size<=12)(f:Maps.has D (B.lit (Eh (Bw t 0)))=false)(w:∀q∈A3,Ks q.2)(o:R=(Bo s.cols T xs).1.map (λz=>tU (Ly ts (A3.map (·.2))) z.2.2))(h:De s.cols R=true)(Eb:Int):
 C7 (D.put (B.lit (Eh (Bw t 0))) (Pa s.cols R)) ⟨Eb,s.cols,s.next,(xs.filterMap (pO s.cols T)).map (·.1)++[(Bw t 0,(R.length:Int),[])]⟩ (xs.filterMap (pO s.cols T)++[((Bw t 0,(R.length:Int),[]),s.cols,R)]):=by
 have b:K9 R:=λr l v j=>by
  rw[o] at l;obtain⟨z,k,rfl⟩:=List.mem_map.1 l
  rcases ABg j with j|⟨u,x⟩
  ·exact ADx e p z k v j
  obtain⟨i,_,a⟩:=bI x;rw[XH] at a;cases hq:A3[i]? with
  | none=>rw[hq] at a;cases a
  | some y=>rw[hq] at a;simp at a;rw[<-a];exact w y (XD hq)
 have m:=(e.put f (Pa s.cols R)).go g T 0;refine m.add (bD n h b (by have:=Vu t 0 (by omega);omega)) (show ∀d∈s.cols,d.1<s.next from We g) ?_ Eb;have:=congrArg List.length e.Lz.files;rw[XG] at this;have G:=List.length_filterMap_le (pO s.cols T) xs;have:=g.Iz;omega
theorem AI2{W:Td}{s t:Ah}{xs:List A6}{n:Tb}{rd:Bool}{rows:Int}(J:Maps.IsMap D)(a:C7 D s xs)(b:Good Bv Cm s)(Y:∀c∈s.cols,Ib c)(hp:Plain n)(hz:n.size<=12)(m:∀k,Maps.has D (B.lit (Eh (Bw n k)))=false)(hx:AA5 x)(h:V7 D s xs n x W rd A rows)(l:Bi s (n,rd,A) t)(X:A≠[]):∃ys,C7 W t ys/\t.next<=max (s.next+1) 9:=by
 have P:∀k,k<=1000->(Bw n k).size<=1000:=λk hk=>by have:=Vu n k hk;omega
 have O:∀k,¬Bw n k∈s.files.map (·.1):=λk w=>by rw[<-a.Lz.files,XP] at w;obtain⟨y,j,e⟩:=List.mem_map.1 w;have G:=(a.Lz.each y j).has;simp only[Function.comp] at e;rw[e,m k] at G;cases G
 rcases h with⟨_,L,_,rfl,_,rfl,_⟩|⟨_,_,⟨l',nx,u,rfl⟩,rfl,_⟩|⟨_,f,d,rfl,_,rfl,_⟩|⟨_,T,_,f,_,rfl,_,rfl,_⟩|⟨_,T,_,f,_,_,_,ts,aa,⟨_,_,rfl⟩|⟨_,R,hR,d,rfl,rfl⟩⟩|⟨_,f,_,_,⟨_,_,rfl⟩|⟨_,d,rfl,rfl⟩⟩
 ·obtain⟨rfl,i,N⟩:=Ry l
  have U:xs=[]:=by have:=a.Lz.files;rw[a.Lz.bare L] at this;simpa using this
  subst U;have h8:=i.2.1;rw[dK] at h8;refine⟨[],a.cols i.2.1 (λe=>by have:=i.1;rw[e] at this;simp at this) (λy j=>by cases j) N _,?_⟩;show ((x.cols.length+1:Nat):Int)<=_;omega
 ·obtain⟨rfl,i,N⟩:=Ry l
  have G:=rQ u;refine⟨xs,a.cols i.2.1 (λe=>by have:=i.1;rw[e] at this;simp at this) (λy j=>AJb u (a.link y j) (a.below y j)) N _,?_⟩;show nx<=_;omega
 ·have o:=eH l
  subst o;exact⟨_,(a.put (m 0) _).add (bD J d hx.rows (P 0 (by omega))) (We b) (by have:=congrArg List.length a.Lz.files;rw[XG] at this;have:=b.Iz;omega) _,by show s.next<=_;omega⟩
 ·have o:=zU a.Lz.files b.once a.rows l
  subst o;exact⟨_,a.go b T _,by show s.next<=_;omega⟩
 ·exact absurd rfl X
 ·have o:=AAO a.Lz.files a.rows (O 0) b.once l
  subst o;exact⟨_,AMf J a b Y hz (m 0) hx.A3 hR d _,by show s.next<=_;omega⟩
 ·exact absurd rfl X
 rw[AHC] at l;have o:=tW b.once l;subst o;have hl:n60 (Fc s.cols xs).length<=40:=nH (by unfold Fc;rw[XG];exact aN a b .nil)
 have I:∀p∈Gd (Fc s.cols xs),K9 p:=λp g r i v hv=>by have w:=(Xj g).2.2 r i;unfold Fc at w;obtain⟨z,V,rfl⟩:=List.mem_map.1 w;exact(No a b Y z V v hv).1
 have M:=ABh n hp hz s.cols (Gd (Fc s.cols xs)) 0 D J (by rw[Oz];omega) (λp g=>⟨d p g,I p g⟩);refine⟨((Gd (Fc s.cols xs)).zipIdx 0).map λq=>(((Bw n q.2,(q.1.length:Int),[]),s.cols,q.1):A6),?_,by show s.next<=_;omega⟩
 have:=AHL (D:=Km n s.cols 0 (Gd (Fc s.cols xs)) D) (M9 b) (We b) (s.Eb+1) (((Gd (Fc s.cols xs)).zipIdx 0).map λq=>(((Bw n q.2,(q.1.length:Int),[]),s.cols,q.1):A6)) (λy j=>by obtain⟨q,hq,rfl⟩:=List.mem_map.1 j;exact⟨M q hq,rfl,rfl⟩) (by simp[Oz];omega) f (ADC b)
 rw[XP] at this ⊢;exact this
theorem iK.up{w0 w W:Tw}{k bb n:Nat}{D:Td}{fs:List Int}{mv v:Tv}{H:List (Dn×Ah)}{U:List Tb}{s:Tb}(h:iK w0 w k bb n D fs mv v H U s)(a:Zb w W):iK w0 W k bb n D fs mv v H U s :=
 ⟨h.base.up a,h.inv,h.et,h.Pw,XF h.nf a.size,h.Iz,h.O5,h.name,h.short,h.plain,h.new⟩
theorem Kd.low{w0 w W r:Tw}{i bb n:Nat}{D:Td}{mv:Tv}{H:List (Dn×Ah)}{s:Tb}{p b:Tv->Prop}{Ok c:Td->Bool->List A5->Int->Prop}{e:Ending}(h:Kd w0 W i bb n D mv H s p Ok e r)(f:Zb w W)(P:∀t,p t->b t)(R:∀d g A rows,Ok d g A rows->c d g A rows):Kd w0 w i bb n D mv H s b c e r:=by
 obtain⟨n',d,j,o,l,I,J,M,N,O,m⟩:=h;refine⟨n',d,j,o,l,I,J,(B.A0.Ba f).trans M (λ_ _ e=>e),λk hk=>(N k hk).imp id (λq=>XF f.size q),O,?_⟩
 rcases m with⟨V,L,g,rows,u,n1,c1,X,v,n2,G,y,z,rfl,a,U⟩|m
 ·exact .inl ⟨V,L,g,rows,u,n1,c1,X,v,n2,G,y,z,rfl,⟨a.box,a.snap,E.Ai a.row f.size,a.own,a.Vv,XF f.size a.low⟩,R _ _ _ _ U⟩
 obtain⟨T,x,q,e⟩:=m;exact .inr ⟨T,x,P _ q,e⟩
theorem AAG{g:Array Oper}{o:Oper}{a:Act}{K:Act->Tw->Prop}{Q:Exit->Act->Tw->Prop}{E:Prop}(c:o.guard=none)(f:Nat)(x y z q:Operand)(t s r p:TypeId)(l:o.op=.call { callee:=.value (.func f),args:=#[x,y,z,q],argTypes:=#[t,s,r,p] })(u v b d:Tv)(n:a.eval x=u)(D:a.eval y=v)(G:a.eval z=b)(m:a.eval q=d)(j:∀args w,(callFunc f args).run prog w=.ok (.enter f args) w)(R:Ending->Tw->Prop)(k:Zc f #[u,v,b,d] W R)(h:∀e i,R e i->∃v,e=Zr v/\K (a.put o.dst v) i):
 if Region.wanted o (yielded g a.tmps)=true then Oper.wp prog o a W K Q else E :=
 Ih c f #[x,y,z,q] #[t,s,r,p] l #[u,v,b,d] (by simp[n,D,G,m]) j R k h
structure K8(w:World)(x:J4)(ca:Option Addr)(cc:Nat)(ra:Option Addr)(rc:Nat)(pa:Option Addr)(pn pc:Nat)(sa:Option Addr)(sc:Nat):Prop where
 cols:bH w (.slice ca x.cols.length cc) x.cols
 ACl:∀c∈x.cols,c.2.1.size<=maxLen/\c.2.2.2.2.2.2.size<=maxLen
 rows:iJ w (.slice ra x.rows.length rc) x.rows
 ACg:∀r∈x.rows,∀v∈r,v.2.2.size<=maxLen
 A3:F7 4 Wu w (.slice sa x.A3.length sc) x.A3
 AKL:x.A3.length<=100
 wX:∀s∈x.A3,s.2.2.2.size<=maxLen
 cnd:∀W,Zb w W->Zc 10 #[.slice pa pn pc] W λe w'=>∃v T,e=.returned v/\S.Gy w' T v/\x.tree T/\Zb W w'
 tw:x.tw.size<=maxLen
 ints:AA5 x
theorem K8.up{w W:Tw}{x:J4}{b:To}{n:Nat}{c:To}{k:Nat}{pa:To}{i j:Nat}{d:To}{m:Nat}(h:K8 w x b n c k pa i j d m)(a:Zb w W):K8 W x b n c k pa i j d m :=
 ⟨h.cols.below a,h.ACl,h.rows.up a,h.ACg,h.A3.up a,h.AKL,h.wX,λV e=>h.cnd V (Ap a e),h.tw,h.ints⟩
theorem Lc{w0 w W:Tw}{k bb n:Nat}{mv:Tv}{s:Tb}{a:Tv->Prop}{Ok:Td->Bool->List A5->Int->Prop}(h:Kd w0 w k bb n D mv H s a Ok e W):∃p b,e=Zr (Zu #[Zp p,b])/\Hid (Kd w0 w k bb n D mv H s a Ok (Zr (Zu #[Zp p,b])) W):=by
 have c:=h;obtain⟨n',i,d,g,f,_,_,_,_,_,⟨r,L,t,rows,j,n1,c1,u,l,n2,q,m,o,rfl,_⟩|⟨T,x,_,rfl⟩⟩:=h
 ·exact⟨_,_,rfl,Aa c⟩
 exact⟨_,_,rfl,Aa c⟩
theorem ACy(w0:Tw)(s bb n:Nat)(D:Td)(fs:List Int)(mv Y:Tv)(H:List (Dn×Ah))(U:List Tb)(m:Tb)(xs:List A6)(cols:List Aj)(rows:List (List V))(A3:List Vi)(a:Int)(nm b:Tb)(tr:S.CT->Prop)(O:To)(y:Nat)(I:To)(J:Nat)(pa:To)(G z:Nat)(L:To)(M:Nat)(w:Tw)(h:iK w0 w s bb n D fs mv Y H U m)(f:K8 w ⟨1,cols,rows,A3,a,nm,b,tr⟩ O y I J pa G z L M):
 Zc 20 #[Zp (some (Zd bb 0)),Zg #[Zi 1,Zs O cols.length y,Zs I rows.length J,Zs pa G z,Zs L A3.length M,Zi a,Zt nm,Zt b],Zt m] w (Kd w0 w s bb n D mv H m (AB0 (Ae H H.length) s fs ⟨1,cols,rows,A3,a,nm,b,tr⟩) (V7 D (Ae H H.length) xs m ⟨1,cols,rows,A3,a,nm,b,tr⟩)):=by
 cases hcl:cols with
 | nil=>subst hcl;obtain⟨t0,t1,t2,l⟩:=C1 w (Zk #[Zi 1,Zs O 0 y,Zs I rows.length J,Zs pa G z,Zs L A3.length M,Zi a,Zt nm,Zt b] 38) (Zk #[Zi 0,Zt ⟨#[]⟩,Zi 0,Zo false,Zi 0,Zi 0,Zt ⟨#[]⟩] 64);have HB:=Aa l;have r:=Aa (kP w0 s bb n D fs mv Y H U m a 0 ⟨#[]⟩ 0 false 0 0 ⟨#[]⟩ nm b _ (h.up l) ⟨XC _,XC _,f.tw⟩);clear h f t0 t1 t2 l;go_enter func20,ntmps20;go_wp2_with fail;refine(r.o.mono λe w'=>Lc).mono ?_;rintro e w1⟨p1,er,rfl,H1⟩;clear r;go_wp2_with fail;go_ret2;exact H1.o.low HB.o (λ_ _=>⟨λe=>absurd e (by simp),λe=>absurd e (by simp),λe=>absurd e (by simp),λe=>absurd e (by simp)⟩) λ_ _ _ _ q=>.inr (.inl ⟨rfl,q⟩)
 | cons c0 l0=>
   rw[<-hcl];have d:0<cols.length:=by rw[hcl];simp
   have t:cols[0]! = c0:=by rw[hcl];rfl
   have x:cols.headD nK=c0:=by rw[hcl];rfl
   have u:c0∈cols:=by rw[hcl];exact Yf ..
   obtain⟨i,P,k,mu,R,T,X⟩:=c0
   rcases f.cols with⟨_,e0⟩|⟨g,o,c',e,hc,hs⟩
   ·simp only at e0;rw[e0] at d;simp at d
   injection e with e1 _ e2;subst e1 e2;obtain⟨t0,t1,t2,l⟩:=C1 w (Zk #[Zi 1,Zs (some (Zd g o)) cols.length y,Zs I rows.length J,Zs pa G z,Zs L A3.length M,Zi a,Zt nm,Zt b] 38) (Zk #[Zi i,Zt P,Zi k,Zo mu,Zi R,Zi T,Zt X] 64);have aa:g<w.heap.size:=hs.1
   have cell:∀(j:Nat)(v:Tv),(Cc (i,P,k,mu,R,T,X))[j]? = some v->w.cell? (Zd g (o+j))=some v:=λj v hv=>by have:=hs.2 0 d j v (by show (Cc cols[0]!)[j]? = some v;rw[t];exact hv);simpa using this
   have q0:=cell 0 _ rfl;have q1:=cell 1 _ rfl;have q2:=cell 2 _ rfl;have q3:=cell 3 _ rfl;have q4:=cell 4 _ rfl;have q5:=cell 5 _ rfl;have q6:=cell 6 _ rfl;simp only[X6] at q0;have ab:(0:Int)<(cols.length:Int):=by omega
   have p:=Aa l;have N:=Aa x;have c:=f.ACl _ u;have r:=Aa (λW(hW:Zb w W)=>kP w0 s bb n D fs mv Y H U m a i P k mu R T X nm b W (h.up hW) ⟨c.1,c.2,f.tw⟩);clear h f hs hcl t u c cell t0 t1 t2 l x;go_enter func20,ntmps20;go_wp2_with fail;refine((r.o _ p.o).mono λe w'=>Lc).mono ?_;rintro e w1⟨p1,er,rfl,H1⟩;clear r;go_wp2_with fail;go_ret2;exact H1.o.low p.o (λ_ _=>⟨λe=>absurd e (by simp),λe=>absurd e (by simp),λe=>absurd e (by simp),λe=>absurd e (by simp)⟩) λ_ _ _ _ q=>.inr (.inl ⟨rfl,by rw[N.o];exact q⟩)
theorem ACD(af:Mw)(w0:Tw)(y bb n:Nat)(D:Td)(fs:List Int)(mv L:Tv)(H:List (Dn×Ah))(U:List Tb)(f:Tb)(xs:List A6)(x:J4)(i:To)(j:Nat)(l:To)(m:Nat)(pa:To)(d c:Nat)(a:To)(b:Nat)(w:Tw)(h:iK w0 w y bb n D fs mv L H U f)(hT:C7 D (Ae H H.length) xs)(hx:K8 w x i j l m pa d c a b):
 Zc 20 #[Zp (some (Zd bb 0)),Zg #[Zi x.Qk,Zs i x.cols.length j,Zs l x.rows.length m,Zs pa d c,Zs a x.A3.length b,Zi x.change,Zt x.name,Zt x.tw],Zt f] w (Kd w0 w y bb n D mv H f (AB0 (Ae H H.length) y fs x) (V7 D (Ae H H.length) xs f x)):=by
 obtain⟨J,cols,rows,A3,k,nm,o,tr⟩:=x;simp only;have G:Zb w (w.alloc (Zk #[Zi J,Zs i cols.length j,Zs l rows.length m,Zs pa d c,Zs a A3.length b,Zi k,Zt nm,Zt o] 38)):=Zal;have r:=Aa G;have V:=Aa (h.up G);have g:=Aa (hx.up G);have HT:=Aa hT;have R:=Aa (Yae w (Zk #[Zi J,Zs i cols.length j,Zs l rows.length m,Zs pa d c,Zs a A3.length b,Zi k,Zt nm,Zt o] 38));have ad:=Aa h;have ae:=Aa hx;clear h hx hT G
 by_cases k0:J=0
 ·subst k0
  have t:=Aa (zI w0 y bb n D fs mv L H U f i j cols _ V.o g.o.cols (by have:=g.o.ints.Iz;simp only at this;omega) g.o.ACl);go_enter func20,ntmps20;go_wp2_with fail;refine(t.o.mono λe z=>Lc).mono ?_;rintro e w1⟨p1,N,rfl,H1⟩;clear t;go_wp2_with fail;go_ret2;exact H1.o.low r.o (λ_ q=>⟨λ_=>q,λe=>absurd e (by simp),λe=>absurd e (by simp),λe=>absurd e (by simp)⟩) λ_ _ _ _ q=>.inl ⟨rfl,q⟩
 by_cases k2:J=2
 ·subst k2
  have t:=Aa (wV w0 y bb n D fs mv L H U f _ rows _ V.o g.o.rows (by have:=g.o.ints.ADp;simp only at this;omega) g.o.ACg g.o.ints.rows);clear k0;go_enter func20,ntmps20;go_wp2_with fail;refine(t.o.mono λe z=>Lc).mono ?_;rintro e w1⟨p1,N,rfl,H1⟩;clear t;go_wp2_with fail;go_ret2;exact H1.o.low r.o (λ_ q=>⟨λe=>absurd e (by simp),λ_=>q,λe=>absurd e (by simp),λe=>absurd e (by simp)⟩) λ_ _ _ _ q=>.inr (.inr (.inl ⟨rfl,q⟩))
 by_cases k3:J=3
 ·subst k3
  have u:=Aa (g.o.cnd _ (XB _ _));clear k0 k2;go_enter func20,ntmps20;go_wp2_with fail;refine u.o.mono ?_;rintro e w2⟨cv,T,rfl,aa,ab,M⟩;have X:=Aa ab;clear ab;have t:=Aa (Lo w0 y bb n D fs mv L H U f cv T xs w2 (V.o.up M) HT.o aa);have ac:=Aa (Ap r.o M);clear aa M u;go_wp2_with fail;refine(t.o.mono λe z=>Lc).mono ?_;rintro e w1⟨p1,N,rfl,H1⟩;clear t;go_wp2_with fail;go_ret2;exact H1.o.low ac.o (λ_ q=>⟨λe=>absurd e (by simp),λe=>absurd e (by simp),λ_=>⟨T,X.o,q⟩,λe=>absurd e (by simp)⟩) λ_ _ _ _ q=>.inr (.inr (.inr (.inl ⟨rfl,T,X.o,q⟩)))
 by_cases k4:J=4
 ·subst k4
  have I:=(XB (w.alloc (Zk #[Zi 4,Zs i cols.length j,Zs l rows.length m,Zs pa d c,Zs a A3.length b,Zi k,Zt nm,Zt o] 38)).heap.size (w.alloc (Zk #[Zi 4,Zs i cols.length j,Zs l rows.length m,Zs pa d c,Zs a A3.length b,Zi k,Zt nm,Zt o] 38))).drew
  have u:Hid (Zc 10 #[Zs pa d c] (w.alloc (Zk #[Zi 4,Zs i cols.length j,Zs l rows.length m,Zs pa d c,Zs a A3.length b,Zi k,Zt nm,Zt o] 38)).drew λe z=>∃v,e=Zr v/\Hid (∃T,S.Gy z T v/\tr T/\Zb w z/\Below (w.alloc (Zk #[Zi 4,Zs i cols.length j,Zs l rows.length m,Zs pa d c,Zs a A3.length b,Zi k,Zt nm,Zt o] 38)).heap.size (w.alloc (Zk #[Zi 4,Zs i cols.length j,Zs l rows.length m,Zs pa d c,Zs a A3.length b,Zi k,Zt nm,Zt o] 38)) z)):=Aa ((g.o.cnd _ I).mono (by rintro e z⟨v,T,rfl,h1,ht,h2⟩;exact⟨v,rfl,Aa ⟨T,h1,ht,Ap r.o (Ap I h2),Ap I h2⟩⟩))
  have Y:Hid (∀(v:Tv)(W:Tw),Hid (∃T,S.Gy W T v/\tr T/\Zb w W/\Below (w.alloc (Zk #[Zi 4,Zs i cols.length j,Zs l rows.length m,Zs pa d c,Zs a A3.length b,Zi k,Zt nm,Zt o] 38)).heap.size (w.alloc (Zk #[Zi 4,Zs i cols.length j,Zs l rows.length m,Zs pa d c,Zs a A3.length b,Zi k,Zt nm,Zt o] 38)) W)->Zc 42 #[Zp (some (Zd bb 0)),Zt f,v,Zs a A3.length b] W λe z=>∃p N,e=Zr (Zu #[Zp p,N])/\Hid (Kd w0 w y bb n D mv H f (AB0 (Ae H H.length) y fs ⟨4,cols,rows,A3,k,nm,o,tr⟩) (V7 D (Ae H H.length) xs f ⟨4,cols,rows,A3,k,nm,o,tr⟩) (Zr (Zu #[Zp p,N])) z)):=Aa λv W hW=>by
   obtain⟨T,h1,ht,h2,h3⟩:=hW.o;refine(xQ w0 y bb n D fs mv L H U f v T xs a b A3 W (V.o.up h3) HT.o h1 (g.o.A3.up h3) g.o.AKL (λs hs=>⟨g.o.wX s hs,g.o.ints.A3 s hs⟩)).mono λe z hP=>?_
   exact Lc (hP.low h2 (λ_ q=>⟨λe=>absurd e (by simp),λe=>absurd e (by simp),λe=>absurd e (by simp),λe=>absurd e (by simp)⟩) λ_ _ _ _ q=>.inr (.inr (.inr (.inr (.inl ⟨rfl,T,ht,q⟩)))))
  have O:Hid (∀args w,(callFunc 10 args).run prog w=.ok (.enter 10 args) w):=Aa (enters_of func10 (by kernel_rfl) rfl);have P:Hid (∀args w,(callFunc 42 args).run prog w=.ok (.enter 42 args) w):=Aa (enters_of func42 (by kernel_rfl) rfl);clear k0 k2 k3 I;go_enter func20,ntmps20;go_wp2_with fail
  go_region_law
   (first
     | (refine I6 (by rfl) 10 (.tmp 67) 23 (by rfl) (Zs pa d c) (by rfl) O.o _ u.o ?_
        rintro e w2⟨cv,rfl,H2⟩;refine⟨_,rfl,?_⟩;have z4:w2.cell? (Zd w.heap.size 4)=some (Zs a A3.length b):=(F2 ((H2.o.choose_spec.2.2.2.block _ (Ac R.o)).trans R.o)).2.2.2.2.1)
     | (refine AAG (by rfl) 42 (.tmp 64) (.tmp 65) (.tmp 68) (.tmp 70) 27 9 51 24 (by rfl) (Zp (some (Zd bb 0))) (Zt f) cv (Zs a A3.length b) (by rfl) (by rfl) (by rfl) (by rfl) P.o _ (Y.o cv w2 H2) ?_
        rintro e w3⟨p3,ag,rfl,H3⟩;refine⟨_,rfl,?_⟩)
     | fail)
  all_goals
   clear Y u O P z4;go_wp2;go_ret2;exact H3.o
 by_cases k1:J=1
 ·subst k1
  exact ACy w0 y bb n D fs mv L H U f xs cols rows A3 k nm o tr i j l m pa d c a b w ad.o ae.o
 have t:=Aa (af w0 y bb n D fs mv L H U f xs _ V.o HT.o);have HK:Hid (J<0\/4<J):=Aa (by omega);go_enter func20,ntmps20;go_wp2_with fail;refine(t.o.mono λe z=>Lc).mono ?_;rintro e w1⟨p1,N,rfl,H1⟩;clear t;go_wp2_with fail;go_ret2;exact H1.o.low r.o (λ_ q=>⟨λe=>absurd e (by have:=HK.o;simp only;omega),λe=>absurd e (by have:=HK.o;simp only;omega),λe=>absurd e (by have:=HK.o;simp only;omega),λ_=>q⟩) λ_ _ _ _ q=>.inr (.inr (.inr (.inr (.inr ⟨HK.o,q⟩))))
theorem Xh.grown{a:Td}{xs:List A6}{t:Tb}(h:Xh D s xs)(b:Grown t D a):Xh a s xs:=by
 induction b with
 | refl=>exact h
 | put k v _ hf ih=>exact ih.put hf v
def Xt(w0 w:World)(i bb n:Nat)(D:DataW Unit)(fs:List Int)(mv:Value)(H:List (Dn×Ah))(U:List ByteArray)(a:ByteArray)(xs:List A6)(x:J4)(e:Ending)(p:World):Prop :=
 ∃n' d j g l h,Ey w0 p i bb n' d j g l/\n'<=n+100/\B.A0 (B.Own bb mv) w p/\(∀k,g=.map (some k)->mv=.map (some k)\/w.heap.size<=k)/\Inv d h (a :: U) /\
  ((e=.returned .nilIface/\∃b c A rows,V7 D (Ae H H.length) xs a x b c A rows/\((A=[]/\h=H/\d=b)\/(A≠[]/\Inv b H (a :: U)/\∃t,Bi (Ae H H.length) (a,c,A) t/\h=H++[((a,c,A),t)]/\d=b.put (B.lit (Ek (H.length+1))) (B.Gw (C6 (a,c,A)))))) \/
   (∃T y,e=.returned (.iface T y)/\h=H/\(∀s zs,Xh D s zs->Xh d s zs)/\(AB0 (Ae H H.length) i fs x (.iface T y)\/∃b c A rows f q n1 o m,V7 D (Ae H H.length) xs a x b c A rows/\A≠[]/\Ey w0 q i bb n1 b f o m/\AD8 (a,c,A) H f H.length (.iface T y))))
theorem Xt.wU{w0 w W:Tw}{i bb n:Nat}{fs:List Int}{mv:Tv}{s:Tb}{xs:List A6}(h:Xt w0 w i bb n D fs mv H U s xs x e W):∃q,e=Zr q/\∃n' f b a d g,Ey w0 W i bb n' f b a d/\n'<=n+100/\B.A0 (B.Own bb mv) w W/\(∀k,a=.map (some k)->mv=.map (some k)\/w.heap.size<=k)/\Inv f g (s :: U)/\(g=H\/∃c,g=H++[c])/\g.length<=H.length+1:=by
 obtain⟨n',f,b,a,d,g,j,l,m,o,p,⟨rfl,r,u,A,rows,_,⟨_,rfl,_⟩|⟨_,_,t,_,rfl,_⟩⟩|⟨T,y,rfl,rfl,_⟩⟩:=h
 ·exact⟨_,rfl,n',f,b,a,d,_,j,l,m,o,p,.inl rfl,WB _⟩
 ·exact⟨_,rfl,n',f,b,a,d,_,j,l,m,o,p,.inr ⟨_,rfl⟩,by simp⟩
 exact⟨_,rfl,n',f,b,a,d,_,j,l,m,o,p,.inl rfl,WB _⟩
theorem dD{bb:Nat}{mv v u:Tv}{r:Tw}(a:B.A0 (B.Own bb mv) w W)(b:∀k,v=.map (some k)->mv=.map (some k)\/w.heap.size<=k)(d:B.A0 (B.Own bb v) W r)(f:∀k,u=.map (some k)->v=.map (some k)\/W.heap.size<=k):B.A0 (B.Own bb mv) w r/\∀k,u=.map (some k)->mv=.map (some k)\/w.heap.size<=k:=by
 refine⟨a.trans d λi g e=>?_,λk c=>?_⟩
 ·rcases e with e|e
  ·exact .inl e
  rcases b i e with e|e
  ·exact .inr e
  omega
 rcases f k c with e|e
 ·exact b k e
 exact .inr (XF a.size e)
theorem jN:∀{l:List A5}{s t:Ah},Il Bx Bv Cm s l t->0<=s.next->0<=t.next
 | [],_,_,h,hs=>by simp only[Il] at h;subst h;exact hs
 | a :: l,s,t,⟨u,b,h2⟩,hs=>by
   refine jN h2 ?_
   rcases b with⟨_,_,rfl⟩|⟨_,_,rfl⟩|⟨_,_,rfl⟩|⟨_,c,rfl⟩
   ·exact hs
   ·exact hs
   ·exact hs
   have:=c.2;show 0<=a.2.2.2.2.2;omega
theorem eD:∀{s:Ah}{H:List (Dn×Ah)},Xv s H->0<=s.next->∀k,k<=H.length->0<=(Ic s (H.take k)).next
 | _,_,_,hs,0,_=>by simpa[Ic] using hs
 | _,x :: l,h,hs,k+1,hk=>by have:=eD (s:=x.2) (H:=l) h.2.2 (jN h.1.2 hs) k (by simpa using hk);simpa[Ic] using this
theorem vC(h:La H)(b:Good Bv Cm (Ae H H.length)):0<=(Ae H H.length).next:=by
 rcases b.cols with e|e
 ·exact eD h (by show (0:Int)<=0;omega) H.length (XA _)
 have a:=e.1;have:=e.2.2.1 (Ae H H.length).cols[0] (Yh a);have:=this.1.2.1;omega
theorem AGp{w0 w r s:Tw}{i bb n n1:Nat}{l:Td}{fs z:List Int}{mv u f:Tv}{p:Tb}{xs:List A6}{m:Bool}{rows:Int}(h:iK w0 w i bb n D fs mv u H U p)(aa:H.length<40)(hT:C7 D (Ae H H.length) xs)(hx:AA5 x)(hG:Grown p D l)(hn:n1<=n+50)(V:B.A0 (B.Own bb mv) w r)(P:∀k,f=.map (some k)->mv=.map (some k)\/w.heap.size<=k)(b:V7 D (Ae H H.length) xs p x l m A rows)(g:∃d,Ey w0 r i bb n1 l z f d)(hd:DoP w0 r i bb n1 l z f (p,m,A) H H.length e s):
 ∃v X,e=Zr (Zu #[v,X])/\Xt w0 w i bb n D fs mv H U p xs x (Zr X) s:=by
 have j:Inv l H (p :: U):=(h.inv.user h.plain).grown (Yf ..) hG;obtain⟨d,g⟩:=g
 rcases hd with⟨I,rfl,hb⟩|⟨I,W,L,n',D',o,J,G,Y,h2,h3,h4,⟨t,rfl,N,M,_,rfl⟩|⟨ty,y,rfl,rfl,T⟩⟩
 ·have c:=dD V P (B.A0.Ba hb) (λk b=>.inl b)
  exact⟨_,_,rfl,n1,l,z,f,d,H,g.up hb,by omega,c.1,c.2,j,.inl ⟨rfl,l,m,A,rows,b,.inl ⟨I,rfl,rfl⟩⟩⟩
 ·have c:=dD V P ((B.A0.Ba L).trans h3 (λ_ _ e=>e)) (λk b=>(h4 k b).imp id λq=>XF L.size q)
  have hc:=Mq h.inv.past (XA _);have ab:=h.inv.next H.length (XA _);have R:0<=(Ae H H.length).next:=vC h.inv.past h.Of;have O:=AEj hT h.Of hc ⟨R,by omega⟩ hx b;obtain⟨ys,hy,ac⟩:=AI2 h.inv.Lm.1 hT h.Of hc h.plain h.short h.free hx b N I;refine⟨_,_,rfl,n',_,o,J,G,H++[((p,m,A),t)],Y,by omega,c.1,c.2,j.AJO (by omega) N ⟨M,λa c=>?_,O.Iz,lV O M⟩ hy (by omega),.inl ⟨rfl,l,m,A,rows,b,.inr ⟨I,j,t,N,rfl,rfl⟩⟩⟩;simp only[Cv,XT,WM] at M;exact Qb (M.2 a c) (O.ints a c)
 have c:=dD V P ((B.A0.Ba L).trans h3 (λ_ _ e=>e)) (λk b=>(h4 k b).imp id λq=>XF L.size q);exact⟨_,_,rfl,n',_,o,J,G,H,Y,by omega,c.1,c.2,j,.inr ⟨_,_,rfl,rfl,λ_ _ q=>q.grown hG,.inr ⟨_,m,A,rows,z,r,n1,f,d,b,I,g,T⟩⟩⟩
theorem V1(ae:Mw)(w0:Tw)(g bb n:Nat)(D:Td)(fs:List Int)(mv fv:Tv)(H:List (Dn×Ah))(U:List Tb)(c:Tb)(xs:List A6)(x:J4)(O:To)(P:Nat)(X:To)(Y:Nat)(pa:To)(W V:Nat)(sa:To)(sc:Nat)(w:Tw)(h:iK w0 w g bb n D fs mv fv H U c)(ad:H.length<40)(hT:C7 D (Ae H H.length) xs)(hx:K8 w x O P X Y pa W V sa sc):
 Zc 6 #[Zp (some (Zd bb 0)),Zg #[Zi x.Qk,Zs O x.cols.length P,Zs X x.rows.length Y,Zs pa W V,Zs sa x.A3.length sc,Zi x.change,Zt x.name,Zt x.tw],Zt c] w (Xt w0 w g bb n D fs mv H U c xs x):=by
 have i:Zb w (w.alloc (Zk #[Zi x.Qk,Zs O x.cols.length P,Zs X x.rows.length Y,Zs pa W V,Zs sa x.A3.length sc,Zi x.change,Zt x.name,Zt x.tw] 38)):=Zal;have m:=Aa (ACD ae w0 g bb n D fs mv fv H U c xs x O P X Y pa W V sa sc _ (h.up i) hT (hx.up i));have l:Hid (∀e w',Kd w0 (w.alloc (Zk #[Zi x.Qk,Zs O x.cols.length P,Zs X x.rows.length Y,Zs pa W V,Zs sa x.A3.length sc,Zi x.change,Zt x.name,Zt x.tw] 38)) g bb n D mv H c (AB0 (Ae H H.length) g fs x) (V7 D (Ae H H.length) xs c x) e w'->Kd w0 w g bb n D mv H c (AB0 (Ae H H.length) g fs x) (V7 D (Ae H H.length) xs c x) e w'):=Aa λe w' hp=>hp.low i (λ_ q=>q) λ_ _ _ _ q=>q
 have a:=Aa h;have M:=Aa hT;have N:=Aa hx.ints;clear h hT hx i;go_enter func6,ntmps6;go_wp2_with fail;refine m.o.mono ?_;intro e w1 u;obtain⟨n1,D1,o,z,p,d,af,f,j,b,⟨pb,L,rd,rows,a1,ah,c1,x2,a2,n2,c2,aa,ac,rfl,hP,t⟩|⟨T,y,R,rfl⟩⟩:=l.o _ _ u
 ·have ag:=a.o.inv.next H.length (XA _)
  have k:=AEj M.o a.o.Of (Mq a.o.inv.past (XA _)) ⟨vC a.o.inv.past a.o.Of,by have:=a.o.O5;omega⟩ N.o t;have r:Inv D1 H (c :: U):=(a.o.inv.user a.o.plain).grown (Yf ..) b;have J:=Aa (AHB w0 g _ bb n1 D1 o z p H H.length pb a1 ah c1 x2 a2 n2 c2 c rd aa ac L rows w1 d (XF a.o.nf f.size) (by have:=a.o.Iz;omega) r.Lm r.past a.o.O5 (XA _) hP k (by have:=a.o.short;omega));have I:Hid (∀e G,DoP w0 w1 g bb n1 D1 o z (c,rd,L.map (·.1)) H H.length e G->∃v er,e=Zr (Zu #[v,er])/\Hid (Xt w0 w g bb n D fs mv H U c xs x (Zr er) G)):=Aa λe G hd=>AGp a.o ad M.o N.o b af f j t ⟨p,d⟩ hd
  clear u d f j b hP t k r ag m l;go_wp2_with fail;refine(J.o.mono λe G=>I.o e G).mono ?_;rintro e G⟨v,er,rfl,H2⟩;clear J I;go_wp2_with fail;go_ret;exact H2.o
 have H1:=Aa (And.intro d (And.intro f (And.intro j (And.intro ((a.o.inv.user a.o.plain).grown (Yf ..) b) (λ(s:Ah)(zs:List A6)(q:Xh D s zs)=>q.grown b)))));have ab:=Aa R;clear R u d f j b m l;go_wp2_with fail;go_ret;exact⟨n1,D1,o,z,p,H,H1.o.1,by omega,H1.o.2.1,H1.o.2.2.1,H1.o.2.2.2.1,.inr ⟨_,_,rfl,rfl,H1.o.2.2.2.2,.inl ab.o⟩⟩
def Pb(P:Prop)(w:World)(e:Ending)(a:World):Prop:=∃b,e=.returned (.bool b)/\(b=true->P)/\Zb w a
def ABP(l:List Aj):Prop:=l.length<=20/\∀c∈l,c.2.1.size<=60/\c.2.2.2.2.2.2.size<=100
def RowsFit(l:List (List V)):Prop:=l.length<=70/\∀r∈l,r.length<=20/\∀v∈r,v.2.2.size<=100
theorem O1{α:Type}{P:α->Prop}{l:List α}(h:∀x∈l.take k,P x)(a:l.length<=k):∀x∈l,P x:=by rwa[Yd a] at h
theorem My{α:Type}{P:α->Prop}{l:List α}{x:α}(h:∀x∈l.take k,P x)(c:l[k]? = some x)(b:P x):∀x∈l.take (k+1),P x:=by
 rw[E.Br c];intro y a
 rcases List.mem_append.1 a with a|a
 ·exact h y a
 simp at a;subst a;exact b
theorem pS(u:Tv)(l:List Aj)(w:Tw)(s:F7 7 Cc w u l)(e:∀c∈l,c.2.1.size<=maxLen/\c.2.2.2.2.2.2.size<=maxLen):
 Zc 17 #[u] w (Pb (ABP l) w):=by
 have x:=Aa s;obtain⟨R,T,rfl,_⟩:=s.slice;have h:=Aa e;clear s e
 by_cases h20:l.length<=20
 ·have d:¬(20:Int)<(l.length:Int):=by omega
  go_enter func17,ntmps17;go_wp2
  go_loopw [3] (λt wr=>∃k:Nat,k<=l.length/\t=Zi k/\Hid (∀c∈l.take k,c.2.1.size<=60/\c.2.2.2.2.2.2.size<=100)/\Hid (Zb w wr)) (λt _=>l.length-(intOf t).toNat)
  case atStart=>exact⟨0,XC _,rfl,Aa (by simp),Aa (XB _ _)⟩
  case round=>
   obtain⟨k,P,rfl,f,b⟩:=hrel
   by_cases hlt:k<l.length
   ·obtain⟨⟨c1,n,L,M,N,O,o⟩,g⟩:∃c,l[k]? = some c:=⟨_,Y' hlt⟩
    obtain⟨lb,U,G,z,_,D,a⟩:=(x.o.up b.o).cons (by omega);injection z with p _ q;subst p q;obtain⟨V,W,X,Y,q4,q5,q6⟩:=F8 a g;obtain⟨I,J⟩:=h.o _ (XD g);dsimp only at I J;have r:(k:Int)<(l.length:Int):=by omega
    have v:=Aa g;clear a g
    by_cases a1:n.size<=60
    ·have j:¬(60:Int)<(n.size:Int):=by omega
     by_cases a2:o.size<=100
     ·have m:¬(100:Int)<(o.size:Int):=by omega
      have i:=Aa (My f.o v.o ⟨a1,a2⟩);go_wp2;exact⟨⟨k+1,by omega,by go_num,i,b⟩,by simp[intOf];omega⟩
     have m:(100:Int)<(o.size:Int):=by omega
     go_wp2;go_ret;exact⟨_,rfl,by simp,b.o⟩
    have j:(60:Int)<(n.size:Int):=by omega
    go_wp2;go_ret;exact⟨_,rfl,by simp,b.o⟩
   have r:¬(k:Int)<(l.length:Int):=by omega
   have y:=Aa (O1 f.o (by omega));go_wp2;go_ret;exact⟨_,rfl,λ_=>⟨h20,y.o⟩,b.o⟩
 have d:(20:Int)<(l.length:Int):=by omega
 go_enter func17,ntmps17;go_wp2;go_ret;exact⟨_,rfl,by simp,XB _ _⟩
theorem oH(W:Tv)(l:List (List V))(w:Tw)(T:iJ w W l)(m:∀r∈l,∀v∈r,v.2.2.size<=maxLen):
 Zc 18 #[W] w (Pb (RowsFit l) w):=by
 have HL:=Aa T;obtain⟨la,lc,rfl,_⟩:=T.slice;have y:=Aa m;clear T m
 by_cases h70:l.length<=70
 ·have h:¬(70:Int)<(l.length:Int):=by omega
  go_enter func18,ntmps18;go_wp2
  go_loopw [3] (λg wr=>∃k:Nat,k<=l.length/\g=Zi k/\Hid (∀r∈l.take k,r.length<=20/\∀v∈r,v.2.2.size<=100)/\Hid (Zb w wr)) (λg _=>l.length-(intOf g).toNat)
  case atStart=>exact⟨0,XC _,rfl,Aa (by simp),Aa (XB _ _)⟩
  case round=>
   obtain⟨k,hk,rfl,n,c⟩:=hrel
   by_cases hlt:k<l.length
   ·obtain⟨r,s⟩:∃r,l[k]? = some r:=⟨_,Y' hlt⟩
    obtain⟨rb,ro,ac,xv,er,aa,f,N⟩:=(HL.o.up c.o).at s;injection er with L _ M;subst L M;obtain⟨xa,xc,rfl,_,p⟩:=N;have G:=Aa p;have o:=y.o r (XD s);have D:=Aa o;have z:=Aa s;have R:(k:Int)<(l.length:Int):=by omega
    clear p o s
    by_cases a1:r.length<=20
    ·have I:¬(20:Int)<(r.length:Int):=by omega
     go_wp2;rename Tw=>wo
     go_loopw [4] (λg wi=>∃j:Nat,j<=r.length/\g=Zi j/\Hid (∀v∈r.take j,v.2.2.size<=100)/\Hid (Zb wo wi)) (λg _=>r.length-(intOf g).toNat)
     case atStart=>exact⟨0,XC _,rfl,Aa (by simp),Aa (XB _ _)⟩
     case round=>
      obtain⟨j,hj,rfl,i,a⟩:=hrel;have q:=Ag a.o f
      by_cases hjl:j<r.length
      ·obtain⟨⟨vk,vn,U⟩,t⟩:∃x,r[j]? = some x:=⟨_,Y' hjl⟩
       obtain⟨xb,xo,rfl,ab,b⟩:=G.o (by intro e;rw[e] at hjl;simp at hjl);obtain⟨X,Y,y2⟩:=b j _ t;replace X:=Ag a.o X;replace Y:=Ag a.o Y;replace y2:=Ag a.o y2;have m1:=D.o _ (XD t);dsimp only at m1;have O:(j:Int)<(r.length:Int):=by omega
       have HV:=Aa t;clear b t
       by_cases a2:U.size<=100
       ·have J:¬(100:Int)<(U.size:Int):=by omega
        have d:=Aa (My (P:=λv:V=>v.2.2.size<=100) i.o HV.o a2);go_wp2;exact⟨⟨j+1,by omega,by go_num,d,a⟩,by simp[intOf];omega⟩
       have J:(100:Int)<(U.size:Int):=by omega
       go_wp2;go_ret;exact⟨_,rfl,by simp,Ap c.o a.o⟩
      have O:¬(j:Int)<(r.length:Int):=by omega
      have d:=Aa (My (P:=λr:List V=>r.length<=20/\∀v∈r,v.2.2.size<=100) n.o z.o ⟨a1,O1 (P:=λv:V=>v.2.2.size<=100) i.o (by omega)⟩);have u:=Aa (Ap c.o a.o);go_wp2;exact⟨⟨k+1,by omega,by go_num,d,u⟩,by simp[intOf];omega⟩
    have I:(20:Int)<(r.length:Int):=by omega
    go_wp2;go_ret;exact⟨_,rfl,by simp,c.o⟩
   have R:¬(k:Int)<(l.length:Int):=by omega
   have z:=Aa (O1 (P:=λr:List V=>r.length<=20/\∀v∈r,v.2.2.size<=100) n.o (by omega));go_wp2;go_ret;exact⟨_,rfl,λ_=>⟨h70,z.o⟩,c.o⟩
 have h:(70:Int)<(l.length:Int):=by omega
 go_enter func18,ntmps18;go_wp2;go_ret;exact⟨_,rfl,by simp,XB _ _⟩
variable{H:Type}{W:Tw}{x:DataW H×List MemPlace}
theorem Db:prog.cellsOf 3=1:=by kernel_rfl
theorem zS:prog.cellsOf 2=1:=by kernel_rfl
theorem Vw:prog.cellsOf 9=1:=by kernel_rfl
theorem gQ:prog.cellsOf 48=3:=by kernel_rfl
theorem AGR:prog.cellsOf 64=7:=by kernel_rfl
theorem AHc:prog.cellsOf 54=1:=by kernel_rfl
theorem bounds{n:Int}(h:(Lit.int .i64 n).wf=true):-9223372036854775808<=n/\n<=9223372036854775807:=by have a:IntKind.i64.min = -9223372036854775808:=rfl;have b:IntKind.i64.max=9223372036854775807:=rfl;simp[Lit.wf,a,b] at h;omega
theorem qU{enc:TypeId×Tv->H}{base:Nat}{j:Nat->Bool}{held:Bool}{n:Nat}{cs:List Tv}(h:DataW.trod enc prog W base j held n 48 cs=some x):
 ∃v:V,cs=[Zi v.1,Zi v.2.1,Zt v.2.2]/\Ks v/\v.2.2.size<=maxLen:=by
 obtain⟨l,o,p,n1,_,f,c,d,e⟩:=trod_struct3 underlying48 h;rw[gQ] at f
 match cs,f with
 | [v0,v1,v2],_=>simp only[Db,Vw,zS,XQ,XN,XI,XR] at c d e;obtain⟨k,e0,_,_⟩:=DataW.trod_int underlying3 c;obtain⟨m,a,_,g⟩:=DataW.trod_int underlying2 d;obtain⟨t,b,_,i⟩:=DataW.trod_string underlying9 e;simp at e0 a b;subst e0 a b;exact⟨(k,m,t),rfl,⟨(bounds g).1,(bounds g).2⟩,i⟩
theorem M0{α:Type}[Inhabited α]{enc:TypeId×Tv->H}{O:Nat->Bool}{held:Bool}{fuel k:Nat}{T E:TypeId}{en:α->List Tv}{P:α->Prop}{cs:List Tv}(y:0<k)(hlen:∀x,(en x).length=k)(X:prog.underlying T=some (.slice E))(V:prog.cellsOf E=k)(J:∀{n:Nat}{cs:List Tv}{x:DataW H×List MemPlace},DataW.trod enc prog W 0 O held n E cs=some x->∃q,cs=en q/\P q)(h:DataW.trod enc prog W 0 O held fuel T cs=some x):∃v,cs=[v]/\∃l:List α,F7 k en W v l/\∀q∈l,P q:=by
 rcases open_slice X h with⟨d,_⟩|⟨a,len,G,m,n,D,Pl,d,hb,Y,hm,L,b,r⟩
 ·exact⟨_,d,[],⟨_,_,rfl,XC _,λh=>absurd rfl h⟩,λx b=>by simp at b⟩
 refine⟨_,d,?_⟩
 rcases Yw len with rfl|c
 ·exact⟨[],⟨_,_,rfl,XC _,λh=>absurd rfl h⟩,λx b=>by simp at b⟩
 have aa:len<=m:=by rw[L];split <;> omega
 have p:∀i,i<len->∃q:α,W.cells? 0 (a.add (i*k)) k=some (en q)/\P q:=λi w=>by obtain⟨R,N,U⟩:=r i (by omega);obtain⟨q,rfl,hq⟩:=J U;rw[V] at N;exact⟨q,N,hq⟩
 obtain⟨Q,I⟩:=choose_lt p;obtain⟨z,M,spot⟩:=a
 have g:spot=none:=by have:=(WG (I 0 c).1).2.2 0 y;obtain⟨u,t,o⟩:=YZ (l:=en (Q 0)) (by rw[hlen];exact y);rw[o] at this;simpa[Addr.add] using World.cell?_spot this
 subst g
 have cell:∀j,j<len->∀i,i<k->W.cell? (Zd z (M+j*k+i))=(en (Q j))[i]? := λj e i w=>by have:=(WG (I j e).1).2.2 i w;rwa[add_plain,add_plain] at this
 have f:((List.range len).map Q).length=len:=by simp
 refine⟨(List.range len).map Q,⟨some (Zd z M),G,by rw[f],by rw[f];exact Y,λ_=>⟨z,M,rfl,?_,λj x e i u o=>?_⟩⟩,λx b=>?_⟩
 ·obtain⟨u,t,o⟩:=YZ (l:=en (Q 0)) (by rw[hlen];exact y)
  exact block_lt_of_cell ((cell 0 c 0 y).trans (by rw[o];rfl))
 ·have s:j<len:=by have:=Ax e;rwa[f] at this
  have b:x=Q j:=by rw[XH,List.getElem?_range s] at e;exact(Yu e).symm
  subst b;have w:i<k:=by have:=Ax o;rwa[hlen] at this
  rw[cell j s i w,o]
 simp only[WU,WQ] at b;obtain⟨j,e,rfl⟩:=b;exact(I j e).2
def AIQ(v:V):List Value:=[Zi v.1,Zi v.2.1,.string v.2.2]
theorem mW{w:Tw}{v:Tv}{l:List V}(h:F7 3 AIQ w v l):E.Sl w v l:=by obtain⟨a,c,e,k,m⟩:=h;refine⟨a,c,e,k,λn=>?_⟩;obtain⟨b,off,g,i,d⟩:=m n;exact⟨b,off,g,i,λj x f=>⟨d j x f 0 _ rfl,d j x f 1 _ rfl,d j x f 2 _ rfl⟩⟩
end F
namespace S
variable{W w:Tw}{u v:Tv}{g i m n q:Nat}{a d:List CT}{T:CT}{c k:Int}
def AGj:CT->Nat
 | .nil=>0
 | .node _ _ _ l r=>1+max (AGj l) (AGj r)
theorem Gy.grown{w W:Tw}{row:Option Nat}(i:w.grownBy W row)(a:∀g,row=some g->∃d,w.heap[g]? = some (Zk d 51)):∀{T:CT}{v:Tv},Gy w T v->Gy W T v
 | .nil,_,h=>h
 | .node _ _ ⟨_,_,_,_,_⟩ _ _,_,⟨b,pl,pr,e,hh,hcd,hl,hr⟩=>⟨b,pl,pr,e,by
    rw[i.block b (by
     rcases Yc b w.heap.size with f|f
     ·exact f
     rw[XS f] at hh;cases hh) (λj=>by
     obtain⟨d,c⟩:=a b j.symm;rw[hh] at c;injection c with c;injection c with _ c;exact absurd c (by decide))]
    exact hh,hcd,Gy.grown i a hl,Gy.grown i a hr⟩
structure Stack(w0 wr:World)(i:Nat)(v:Value)(n:Nat)(vs:List Value)(Ts:List CT):Prop where
 own:wr.ownsRow w0.heap.size 51 1 v n vs
 len:Ts.length=n
 ins:∀(j:Nat)(T:CT)(u:Value),Ts[j]? = some T->vs[j]? = some u->Gy wr T u/\0<AGj T
 dep:(Ts.map AGj).sum<=i
 xL:Zb w0 wr
theorem Ad{B e z n:Nat}{xs:List Tv}(h:w.ownsRow B e z v n xs)(k:Zb w W):W.ownsRow B e z v n xs:=by
 refine⟨h.1,?_⟩
 rcases h.2 with a|⟨g,b,c,f,i,d,j⟩
 ·exact .inl a
 refine .inr ⟨g,b,c,f,i,?_,j⟩
 rw[k.block g (by
  rcases Yc g w.heap.size with a|a
  ·exact a
  rw[XS a] at d;cases d)]
 exact d
theorem Ai{B k e z n:Nat}{xs:List Tv}(h:w.ownsRow B e z v n xs)(j:k<=B):w.ownsRow k e z v n xs:=by
 refine⟨h.1,?_⟩
 rcases h.2 with i|⟨g,a,b,c,d,f⟩
 ·exact .inl i
 exact .inr ⟨g,a,b,c,XF j d,f⟩
theorem Ak{B e z n:Nat}{xs:List Tv}(h:w.ownsRow B e z v n xs):∃b a,v=Zs b n a/\n<=a/\a<=maxLen:=by
 rcases h.2 with⟨rfl,rfl⟩|⟨g,c,d,f,k,l,i,j,_⟩
 ·exact⟨none,0,rfl,XA _,by unfold maxLen;omega⟩
 exact⟨_,_,f,i,j⟩
theorem below_grown(a:w.grownBy W none):Zb w W :=
 ⟨a.os,a.tape,a.output,a.size,λk b=>a.block k b (by simp)⟩
theorem AFp:∀(a:List CT),(∀T∈a,0<AGj T)->a.length<=(a.map AGj).sum
 | [],_=>by simp
 | T :: a,h=>by have d:=h T (by simp);have e:=AFp a (λc b=>h c (by simp[b]));simp only[XM,XY,XU];omega
theorem Stack.sS{w0 wr:Tw}{vs:List Tv}(h:Stack w0 wr i v n vs a):vs.length=n:=by have:=h.own.1;omega
theorem Stack.pos{w0 wr:Tw}{vs:List Tv}(h:Stack w0 wr i v n vs a):∀T∈a,0<AGj T:=by
 intro T c;obtain⟨j,b,e⟩:=List.mem_iff_getElem.1 c;have d:j<vs.length:=by rw[h.sS,<-h.len];exact b
 exact(h.ins j T vs[j] (by rw[Y' b,e]) (Y' d)).2
theorem Stack.AK5{w0 wr:Tw}{vs:List Tv}(h:Stack w0 wr i v n vs a):n<=i:=by have b:=AFp a h.pos;have c:=h.dep;have d:=h.len;omega
theorem Stack.up{w0 wr W:Tw}{i k:Nat}{v:Tv}{n:Nat}{vs:List Tv}{b:List CT}(h:Stack w0 wr i v n vs b)(a:Zb wr W)(e:i<=k):Stack w0 W k v n vs b :=
 ⟨Ad h.own a,h.len,λj T u c d=>⟨(h.ins j T u c d).1.up a,(h.ins j T u c d).2⟩,XF h.dep e,Below.up h.xL a⟩
theorem AHw{B n:Nat}{xs:List Tv}(h:w.ownsRow B 51 1 v n xs):∀g,v.ownBlock=some g->∃a,w.heap[g]? = some (Zk a 51):=by
 intro g b
 rcases h.2 with⟨rfl,_⟩|⟨i,c,a,rfl,e,d,f⟩
 ·cases b
 cases b;exact⟨a,d⟩
theorem Stack.push{w0 wr w:Tw}{v v':Tv}{vs:List Tv}(h:Stack w0 wr i v n vs d)(o:Gy wr T u)(s:AGj T=1)(f:wr.grownBy w v.ownBlock)(r:w.ownsRow w0.heap.size 51 1 v' (n+1) (vs++[u])):Stack w0 w (i+1) v' (n+1) (vs++[u]) (d++[T]):=by
 have b:=AHw h.own;refine⟨r,by simp[h.len],?_,?_,?_⟩
 ·intro j g m a c
  have q:d.length=vs.length:=by rw[h.len,h.sS]
  by_cases hj:j<d.length
  ·rw[XL hj] at a
   rw[XL (by omega)] at c;exact⟨(h.ins j g m a c).1.grown f b,(h.ins j g m a c).2⟩
  rw[XK (by omega)] at a;rw[XK (by omega)] at c
  have e:j-d.length=0:=by
   rcases Yw (j-d.length) with l|l
   ·exact l
   rw[Yb (by simp;omega)] at a;cases a
  rw[e] at a;rw[<-q,e] at c;simp at a c;subst a c;exact⟨o.grown f b,by omega⟩
 ·have:=h.dep;simp;omega
 exact Below.grown h.xL f h.xL.size (λk p=>(h.own.lt k p).1)
theorem Stack.replace{w0 wr w:Tw}{v v':Tv}{vs:List Tv}{c:List CT}(h:Stack w0 wr i v n vs c)(m:Nat)(x:m<=n)(l:Gy wr T u)(r:0<AGj T)(t:((c.take m).map AGj).sum+AGj T<=i+1)(o:wr.grownBy w none)(q:w.ownsRow wr.heap.size 51 1 v' (m+1) (vs.take m++[u])):Stack w0 w (i+1) v' (m+1) (vs.take m++[u]) (c.take m++[T]):=by
 have d:=below_grown o;have p:(c.take m).length=m:=by simp[h.len];omega
 have s:(vs.take m).length=m:=by simp[h.sS];omega
 refine⟨Ai q h.xL.size,by simp[h.len];omega,?_,by rw[XO,XV];simp only[XM,WH,XY,WI];omega,Below.up h.xL d⟩;intro j f k a b
 by_cases hj:j<m
 ·rw[XL (by omega),Ym hj] at a
  rw[XL (by omega),Ym hj] at b;exact⟨(h.ins j f k a b).1.up d,(h.ins j f k a b).2⟩
 rw[XK (by omega)] at a;rw[XK (by omega)] at b
 have e:j-m=0:=by
  rcases Yw (j-m) with g|g
  ·exact g
  rw[Yb (by simp;omega)] at a;cases a
 rw[p,e] at a;rw[s,e] at b;simp at a b;subst a b;exact⟨l.up d,r⟩
theorem Stack.AK1{w0 wr:Tw}{vs:List Tv}(h:Stack w0 wr i v (m+1) vs a):∃u T,vs[m]? = some u/\Gy wr T u/\((a.take m).map AGj).sum+AGj T<=i/\a[m]? = some T:=by
 have c:m<vs.length:=by rw[h.sS];omega
 have b:m<a.length:=by rw[h.len];omega
 refine⟨vs[m],a[m],Y' c,(h.ins m _ _ (Y' b) (Y' c)).1,?_,Y' b⟩
 have e:a=a.take m++[a[m]]:=by rw[<-Ys b,Yd (by rw[h.len];omega)]
 have f:=h.dep;have d:=congrArg (λl=>(l.map AGj).sum) e;simp only[XO,XV,XM,WH,XY,WI] at d;omega
theorem Stack.AKv{w0 wr:Tw}{vs:List Tv}(h:Stack w0 wr i v (m+2) vs a):∃k n c d,vs[m]? = some k/\vs[m+1]? = some n/\Gy wr c k/\Gy wr d n/\0<AGj c/\0<AGj d/\((a.take m).map AGj).sum+AGj c+AGj d<=i/\a[m]? = some c/\a[m+1]? = some d:=by
 have f:m+1<vs.length:=by rw[h.sS];omega
 have b:m+1<a.length:=by rw[h.len];omega
 have g:=h.ins m _ _ (Y' (Yab b)) (Y' (Yab f));have j:=h.ins (m+1) _ _ (Y' b) (Y' f);refine⟨vs[m],vs[m+1],a[m],a[m+1],Y' _,Y' f,g.1,j.1,g.2,j.2,?_,Y' _,Y' b⟩
 have e:a=a.take m++[a[m]]++[a[m+1]]:=by rw[<-Ys (Yab b),<-Ys b,Yd (by rw[h.len];omega)]
 have p:=h.dep;have o:=congrArg (λl=>(l.map AGj).sum) e;simp only[XO,XV,XM,WH,XY,WI] at o;omega
theorem Stack.cells{w0 wr:Tw}{i:Nat}{g k:Nat}{n:Nat}{vs:List Tv}{b:List CT}(h:Stack w0 wr i (Zs (some (Zd g 0)) n k) n vs b){j:Nat}{u:Tv}(c:vs[j]? = some u):wr.cell? (Zd g j)=some u:=by
 have:=h.own.cells (g:=g) rfl j u c;have a:((Zd g 0):Addr).add j=(Zd g j):=by unfold Addr.add;split <;> simp_all
 rwa[a] at this
theorem Stack.Hc{w0 wr:Tw}{c:To}{k:Nat}{vs:List Tv}{f:List CT}(h:Stack w0 wr i (Zs c n k) n vs f)(p:0<n):∃g,c=some (Zd g 0)/\w0.heap.size<=g/\g<wr.heap.size:=by
 rcases h.own.2 with⟨e,o⟩|⟨g,j,l,a,m,d,_⟩
 ·omega
 injection a with a _ _;refine⟨g,a,m,?_⟩
 rcases Yc g wr.heap.size with b|b
 ·exact b
 rw[XS b] at d;cases d
theorem Stack.last{w0 wr:Tw}{vs:List Tv}(h:Stack w0 wr i v n vs a){j:Nat}(d:j<n):∃u T,vs[j]? = some u/\a[j]? = some T/\Gy wr T u/\0<AGj T:=by
 have c:j<vs.length:=by rw[h.sS];omega
 have b:j<a.length:=by rw[h.len];omega
 exact⟨vs[j],a[j],Y' c,Y' b,h.ins j _ _ (Y' b) (Y' c)⟩
theorem Ip:(prog.info? 51).map (λi=>(i.zero,i.size,i.bytes))=some (some (Zp none),1,8):=by kernel_rfl
theorem wrap_small(m:Nat)(h:m<=1000):IntKind.i64.wrap (m:Int)=(m:Int):=by rw[IntKind.wrap_i64];omega
theorem Gy.ptr:∀{T:CT}{v:Tv},Gy w T v->∃p,v=Zp p
 | .nil,_,h=>⟨none,h⟩
 | .node _ _ ⟨_,_,_,_,_⟩ _ _,_,⟨b,_,_,e,_⟩=>⟨some (Zd b 0),e⟩
theorem L9(w:Tw)(X Y Z:Obj):Zb w (((w.alloc X).alloc Y).alloc Z).drew:=(((Zal).alloc (by simp) _).alloc (by simp;omega) _).drew
theorem AFv(w:Tw)(X Y Z:Obj):(((w.alloc X).alloc Y).alloc Z).drew.heap[w.heap.size+1+1]? = some Z:=by rw[<-show ((w.alloc X).alloc Y).heap.size=w.heap.size+1+1 by simp];exact Yae _ _
theorem second(w:Tw)(X Y Z:Obj):(((w.alloc X).alloc Y).alloc Z).drew.heap[w.heap.size+1]? = some Y:=by refine(WN _ _ _ (by simp)).trans ?_;rw[<-show (w.alloc X).heap.size=w.heap.size+1 by simp];exact Yae _ _
theorem Nr(w:Tw)(cs:Array Tv)(Y Z:Obj):(((w.alloc (Zk cs 67)).alloc Y).alloc Z).drew.cell? (Zd w.heap.size 0)=cs[0]? := by
 show (((w.alloc (Zk cs 67)).alloc Y).alloc Z).cell? (Zd w.heap.size 0)=cs[0]?;rw[X' _ _ _ (by simp;omega),X' _ _ _ (by simp),World.cell?_alloc_at _ _ _ _ rfl]
theorem take_one{b:List CT}(h:b[0]? = some T):AGj T<=((b.take 1).map AGj).sum:=by
 cases b with
 | nil=>simp at h
 | cons a l=>simp at h;subst h;simp
theorem Br(h:a[q]? = some T):((a.take (q+1)).map AGj).sum=((a.take q).map AGj).sum+AGj T:=by
 have c:q<a.length:=by
  rcases Yc q a.length with b|b
  ·exact b
  rw[Yb b] at h;cases h
 rw[Ys c,XO,XV];rw[Y' c] at h;injection h with h;simp[h]
theorem jQ{w0 wr:Tw}{k:Nat}{vs:List Tv}{f:List CT}(h:Stack w0 wr i (Zs (some (Zd g 0)) n k) n vs f)(m:Nat):
 ∀W,Zb wr W->∀b,(some (Zd g 0):To)=some b->∀(j:Nat)(u:Tv),(vs.take m)[j]? = some u->W.cell? (b.add j)=some u:=by
 intro W l b e j u c;cases e;have a:((Zd g 0):Addr).add j=(Zd g j):=by unfold Addr.add;split <;> simp_all
 rw[a]
 have d:vs[j]? = some u:=by
  rw[XE] at c;split at c
  ·exact c
  cases c
 have:=(h.up l (XA _)).cells d;exact this
theorem fP{w0 wr:Tw}{k:Nat}{vs:List Tv}{e:List CT}(h:Stack w0 wr i (Zs (some (Zd g 0)) n k) n vs e):
 ∃a:Tw->Prop,Hid (a wr/\(∀W X,a W->a (W.alloc X))/\(∀W,a W->∀q,q<n->∃b c,W.cell? (Zd g q)=some (Zp b)/\Gy W c (Zp b)/\0<AGj c/\e[q]? = some c)/\(∀W,a W->Zb w0 W)):=by
 refine⟨λW=>Zb wr W,XB _ _,λW X hb=>hb.alloc hb.size _,λW hb q hq=>?_,λW hb=>Below.up h.xL hb⟩;obtain⟨u,T,l,d,f,j⟩:=h.last hq;obtain⟨b,rfl⟩:=f.ptr;exact⟨b,T,(h.up hb (XA _)).cells l,f.up hb,j,d⟩
theorem rA{a:CT}{p b:To}{c:List CT}{d:Tw->Prop}(f:Gy w T (Zp p))(g:Gy w a (Zp b))(j:0<AGj T)(k:0<AGj a)(l:AGj T<=((c.take q).map AGj).sum)(i:c[q]? = some a)(h:d (w.alloc (Zk #[Zi 9,Zt ⟨#[]⟩,Zi 0,Zi 0,Zt ⟨#[]⟩,Zp p,Zp b] 91))):
 Gy (w.alloc (Zk #[Zi 9,Zt ⟨#[]⟩,Zi 0,Zi 0,Zt ⟨#[]⟩,Zp p,Zp b] 91)) (.node 0 0 ⟨9,⟨#[]⟩,0,0,⟨#[]⟩⟩ T a) (Zp (some (Zd w.heap.size 0)))/\0<AGj (.node 0 0 ⟨9,⟨#[]⟩,0,0,⟨#[]⟩⟩ T a)/\AGj (.node 0 0 ⟨9,⟨#[]⟩,0,0,⟨#[]⟩⟩ T a)<=((c.take (q+1)).map AGj).sum/\d (w.alloc (Zk #[Zi 9,Zt ⟨#[]⟩,Zi 0,Zi 0,Zt ⟨#[]⟩,Zp p,Zp b] 91)):=by
 have e:Zb w (w.alloc (Zk #[Zi 9,Zt ⟨#[]⟩,Zi 0,Zi 0,Zt ⟨#[]⟩,Zp p,Zp b] 91)):=Zal;refine⟨?_,by simp only[AGj];omega,by rw[Br i];simp only[AGj];omega,h⟩;unfold Gy;exact⟨_,Zp p,Zp b,rfl,Yae _ _,by omega,f.up e,g.up e⟩
theorem vI(w:Tw):Gy w .nil (Zp none):=rfl
theorem Stack.step{w0 wr w:Tw}{v v':Tv}{vs:List Tv}{a b:CT}{u f:Tv}{c k n':Int}{Bl t:Tb}{X Z:Obj}(h:Stack w0 wr i v n vs d)(o:m<=n)(g:1<=c/\c<=11)(l:Gy wr a u)(q:Gy wr b f)(r:((d.take m).map AGj).sum+(1+max (AGj a) (AGj b))<=i+1)(j:(((wr.alloc X).alloc (Zk #[Zi c,Zt Bl,Zi k,Zi n',Zt t,u,f] 91)).alloc Z).drew.grownBy w none)(p:w.ownsRow (((wr.alloc X).alloc (Zk #[Zi c,Zt Bl,Zi k,Zi n',Zt t,u,f] 91)).alloc Z).drew.heap.size 51 1 v' (m+1) (vs.take m++[Zp (some (Zd (wr.heap.size+1) 0))])):
 Stack w0 w (i+1) v' (m+1) (vs.take m++[Zp (some (Zd (wr.heap.size+1) 0))]) (d.take m++[.node 0 0 ⟨c,Bl,k,n',t⟩ a b]):=by
 have e:=L9 wr X (Zk #[Zi c,Zt Bl,Zi k,Zi n',Zt t,u,f] 91) Z;refine(h.up e (XA _)).replace m o ?_ (by simp only[AGj];omega) (by simp only[AGj];omega) j p;unfold Gy;exact⟨_,u,f,rfl,second wr _ _ _,g,l.up e,q.up e⟩
theorem M4(w:Tw)(X Y:Obj):Zb w ((w.alloc X).alloc Y):=(Zal).alloc (by simp) _
theorem AJC(w:Tw)(X Y:Obj)(H:Nat)(a:w.heap.size=H):((w.alloc X).alloc Y).heap[H]? = some X:=by subst a;exact(WN _ _ _ (by simp)).trans (Yae _ _)
theorem bG(w:Tw)(X Y:Obj)(H:Nat)(a:w.heap.size+1=H):((w.alloc X).alloc Y).heap[H]? = some Y:=by subst a;rw[<-show (w.alloc X).heap.size=w.heap.size+1 by simp];exact Yae _ _
theorem Stack.leaf{w0 wr w W:Tw}{v v':Tv}{vs:List Tv}{b:List CT}{c k n':Int}{Bl t:Tb}{Z:Obj}{H:Nat}(h:Stack w0 wr i v n vs b)(a:1<=c/\c<=11)(e:Zb wr w)(d:w.heap.size=H)(f:((w.alloc (Zk #[Zi c,Zt Bl,Zi k,Zi n',Zt t,Zp none,Zp none] 91)).alloc Z).grownBy W v.ownBlock)(g:W.ownsRow w0.heap.size 51 1 v' (n+1) (vs++[Zp (some (Zd H 0))])):
 Stack w0 W (i+1) v' (n+1) (vs++[Zp (some (Zd H 0))]) (b++[.node 0 0 ⟨c,Bl,k,n',t⟩ .nil .nil]):=by
 refine(h.up (Below.up e (M4 w _ _)) (XA _)).push ?_ (by simp[AGj]) f g;unfold Gy;exact⟨_,Zp none,Zp none,rfl,AJC w _ _ H d,a,vI _,vI _⟩
def stp(c:Int)(Bl:ByteArray)(k n:Int)(t:ByteArray)(a:List CT):List CT :=
 if c=11 then (if a.length=0 then a else a.take (a.length-1)++[.node 0 0 ⟨11,⟨#[]⟩,0,0,⟨#[]⟩⟩ (a[a.length-1]?.getD .nil) .nil])
 else if c=9\/c=10 then (if a.length<=1 then a else a.take (a.length-2)++[.node 0 0 ⟨c,⟨#[]⟩,0,0,⟨#[]⟩⟩ (a[a.length-2]?.getD .nil) (a[a.length-1]?.getD .nil)])
 else if 1<=c/\c<=6 then (if t.size<=100/\E.A9 k n t=true then a++[.node 0 0 ⟨c,Bl,k,n,t⟩ .nil .nil] else a)
 else if c=7\/c=8 then a++[.node 0 0 ⟨c,Bl,0,0,⟨#[]⟩⟩ .nil .nil]
 else a
theorem AM3{Bl t:Tb}{n:Int}(h:a.length=0):stp 11 Bl k n t a=a:=by simp[stp,h]
theorem ANJ{Bl t:Tb}{n:Int}(h:a.length=m+1)(b:a[m]? = some T):stp 11 Bl k n t a=a.take m++[.node 0 0 ⟨11,⟨#[]⟩,0,0,⟨#[]⟩⟩ T .nil]:=by unfold stp;rw[Yag rfl,Yaf (by omega),h,show m+1-1=m from rfl,b];rfl
theorem AM5{n:Int}{Bl t:Tb}(b:c=9\/c=10)(h:a.length<=1):stp c Bl k n t a=a:=by unfold stp;rw[Yaf (by omega),Yag b,Yag h]
theorem ANK{n:Int}{Bl t:Tb}{b d:CT}(g:c=9\/c=10)(h:a.length=m+2)(e:a[m]? = some b)(f:a[m+1]? = some d):stp c Bl k n t a=a.take m++[.node 0 0 ⟨c,⟨#[]⟩,0,0,⟨#[]⟩⟩ b d]:=by unfold stp;rw[Yaf (by omega),Yag g,Yaf (by omega),h,show m+2-2=m from rfl,show m+2-1=m+1 from rfl,e,f];rfl
theorem AMJ{n:Int}{Bl t:Tb}(b:1<=c)(d:c<=6)(f:(t.size:Int)<=100)(e:E.A9 k n t=true):stp c Bl k n t a=a++[.node 0 0 ⟨c,Bl,k,n,t⟩ .nil .nil]:=by unfold stp;rw[Yaf (by omega),Yaf (by omega),Yag ⟨b,d⟩,Yag ⟨by omega,e⟩]
theorem AL4{n:Int}{Bl t:Tb}(b:1<=c)(d:c<=6)(h:¬((t.size:Int)<=100/\E.A9 k n t=true)):stp c Bl k n t a=a:=by unfold stp;rw[Yaf (by omega),Yaf (by omega),Yag ⟨b,d⟩,Yaf (λe=>h ⟨by omega,e.2⟩)]
theorem AM4{n:Int}{Bl t:Tb}(h:c=7\/c=8):stp c Bl k n t a=a++[.node 0 0 ⟨c,Bl,0,0,⟨#[]⟩⟩ .nil .nil]:=by unfold stp;rw[Yaf (by omega),Yaf (by omega),Yaf (by omega),Yag h]
theorem ANc{n:Int}{Bl t:Tb}(h:¬(1<=c/\c<=11)):stp c Bl k n t a=a:=by unfold stp;rw[Yaf (by omega),Yaf (by omega),Yaf (by omega),Yaf (by omega)]
def stk(a PK c:Nat->Int)(b d:Nat->ByteArray):Nat->List CT
 | 0=>[]
 | k+1=>stp (a k) (b k) (PK k) (c k) (d k) (stk a PK c b d k)
def ALj:List CT->CT
 | []=>.nil
 | T :: l=>l.foldl (λa b=>.node 0 0 ⟨9,⟨#[]⟩,0,0,⟨#[]⟩⟩ a b) T
theorem AMH(h:a[0]? = some T):ALj (a.take 1)=T:=by
 cases a with
 | nil=>cases h
 | cons x l=>simp at h;subst h;rfl
theorem AL3(b:1<=q)(h:a[q]? = some T):ALj (a.take (q+1))=.node 0 0 ⟨9,⟨#[]⟩,0,0,⟨#[]⟩⟩ (ALj (a.take q)) T:=by
 cases a with
 | nil=>cases h
 | cons x l=>obtain⟨r,rfl⟩:∃r,q=r+1:=⟨q-1,by omega⟩;simp only[List.getElem?_cons_succ] at h;simp only[XI,ALj];rw[YF,h,Option.toList_some,List.foldl_append];rfl
def ALg(L:Nat)(a PK c:Nat->Int)(b d:Nat->ByteArray):CT:=ALj (stk a PK c b d (min L 14))
theorem AL2{A B C D E:Prop}(h:A/\B/\C/\D)(e:E):A/\B/\C/\D/\E:=⟨h.1,h.2.1,h.2.2.1,h.2.2.2,e⟩
theorem AMG(N ol L aq:Nat)(D PK I:Nat->Int)(G z:Nat->Tb)(w:Tw)(_hL:L<=aq)(_hcap:aq<=maxLen)(hT:∀j,(z j).size<=maxLen)(ab:N<w.heap.size)(q0:∀j,j<L->w.cell? (Zd N (ol+j*5))=some (Zi (D j)))(q1:∀j,j<L->w.cell? (Zd N (ol+j*5+1))=some (Zt (G j)))(q2:∀j,j<L->w.cell? (Zd N (ol+j*5+2))=some (Zi (PK j)))(q3:∀j,j<L->w.cell? (Zd N (ol+j*5+3))=some (Zi (I j)))(q4:∀j,j<L->w.cell? (Zd N (ol+j*5+4))=some (Zt (z j))):
 Zc 10 #[Zs (some (Zd N ol)) L aq] w λe w'=>∃v,e=Zr v/\Gy w' (ALg L D PK I G z) v/\AGj (ALg L D PK I G z)<=14/\Zb w w':=by
 obtain⟨i0,a6,ba,bb,bc⟩:=info_parts Ip;have y:Hid (prog.info? 51=some i0/\i0.zero=some (Zp none)/\i0.size=1/\i0.bytes=8):=⟨a6,ba,bb,bc⟩;clear a6 ba bb bc;have Q0:=Ab q0;have Q1:=Ab q1;have Q2:=Ab q2;have Q3:=Ab q3;have Q4:=Ab q4;have HT:=Ab hT;clear q0 q1 q2 q3 q4 hT;unfold maxLen at _hcap;go_enter func10,ntmps10;go_wp2
 go_loopw [3,4] (λo i wr=>∃(k n:Nat)(vs:List Tv)(l:List CT),k<=14/\i=Zi k/\Hid (Stack w wr k o n vs l/\k<=L/\l=stk D PK I G z k)) (λ_ i _=>14-(intOf i).toNat)
 case atStart=>exact⟨0,0,[],[],by omega,rfl,⟨⟨WD _ _ _ _,rfl,λj T u h=>by simp at h,by simp,XB _ _⟩,XC _,rfl⟩⟩
 case round=>
  obtain⟨k,n,vs,l,hk,rfl,d⟩:=hrel;obtain⟨ao,cp,rfl,bm,bd⟩:=Ak d.o.1.own;have bx:=d.o.1.AK5;unfold maxLen at bd
  by_cases aa:k<L/\k<14
  ·obtain⟨U,a7⟩:=aa
   have hb:=d.o.1.xL;have bk:N<wr.heap.size:=Ya ab hb.size;have c0:wr.cell? (Zd N (ol+k*5))=some (Zi (D k)):=(hb.cell (p:=Zd N (ol+k*5)) ab).trans (Q0.o k U);have c1:wr.cell? (Zd N (ol+k*5+1))=some (Zt (G k)):=(hb.cell (p:=Zd N (ol+k*5+1)) ab).trans (Q1.o k U);have c2:wr.cell? (Zd N (ol+k*5+2))=some (Zi (PK k)):=(hb.cell (p:=Zd N (ol+k*5+2)) ab).trans (Q2.o k U);have c3:wr.cell? (Zd N (ol+k*5+3))=some (Zi (I k)):=(hb.cell (p:=Zd N (ol+k*5+3)) ab).trans (Q3.o k U);have c4:wr.cell? (Zd N (ol+k*5+4))=some (Zt (z k)):=(hb.cell (p:=Zd N (ol+k*5+4)) ab).trans (Q4.o k U);have ht:=HT.o k;have HE:Hid (stk D PK I G z (k+1)=stp (D k) (G k) (PK k) (I k) (z k) l):=Ab (by rw[d.o.2.2];rfl);have s:=Ab U;clear hb Q0 Q1 Q2 Q3 Q4 HT;generalize D k=c at *;generalize G k=Bl at *;generalize PK k=kk at *;generalize I k=nn at *;generalize z k=tt at *;have HB:Hid (∀X,Zb wr (wr.alloc X)):=λX=>Zal
   by_cases h11:c=11
   ·subst h11
    by_cases hn0:n=0
    ·subst hn0
     have M:Hid (stk D PK I G z (k+1)=l):=Ab (HE.o.trans (AM3 d.o.1.len));go_wp2
     all_goals
      go_roundw
      case rel=>exact⟨k+1,_,vs,l,by omega,by go_num,Ab ⟨d.o.1.up (HB.o _) (by omega),s.o,M.o.symm⟩⟩
      case measure=>simp[intOf];omega
    obtain⟨m,rfl⟩:∃m,n=m+1:=⟨n-1,by omega⟩;obtain⟨g,rfl,ax,ac⟩:=d.o.1.Hc (by omega);obtain⟨u,T,hu,aw,V,a2⟩:=d.o.1.AK1;have M:Hid (stk D PK I G z (k+1)=l.take m++[.node 0 0 ⟨11,⟨#[]⟩,0,0,⟨#[]⟩⟩ T .nil]):=Ab (HE.o.trans (ANJ d.o.1.len a2));clear a2;obtain⟨pu,rfl⟩:=aw.ptr;have cu:=d.o.1.cells hu;have Y:Hid (Gy wr T (Zp pu)/\vs[m]? = some (Zp pu)):=⟨aw,hu⟩;have HD:=Ab V;have bf:(0:Int)<=(m:Int):=by omega
    have bg:(m:Int)<(m:Int)+1:=by omega
    clear hu aw V;have HC:Hid (∀W,Zb wr W->∀b,(some (Zd g 0):To)=some b->∀(j:Nat)(u':Tv),(vs.take m)[j]? = some u'->W.cell? (b.add j)=some u'):=jQ d.o.1 m;have HV:Hid ((vs.take m).length=m*1):=Ab (by simp[d.o.1.sS]);have bw:=WJ wr (Zd g m) cu;have HK:Hid (∀W,Zb wr W->W.cell? (Zd g m)=some (Zp pu)):=λW hb=>(hb.cell (p:=Zd g m) ac).trans cu
    have bj:IntKind.i64.wrap (m:Int)=(m:Int):=wrap_small m (by omega);have bh:(m:Int)<=(cp:Int):=by omega
    go_wp2_with fail
    go_region_held3 (λw'=>w'.cell? (Zd g m)=some (Zp pu))
     (first
       | (go_keep;done)
       | exact HK.o _ (L9 wr _ _ _)
       | exact HK.o _ (Below.up (L9 wr _ _ _) (below_grown a)))
     ((refine step_append_grows (by rfl) (.tmp 38) (.tmp 46) 89 (by rfl) 51 i0 (.pointer none) 1 8 underlying89 y.o.1 y.o.2.1 y.o.2.2.1 y.o.2.2.2 rfl (by omega) (some (Zd g 0)) m m (vs.take m) (by rfl) (by simp) HV.o (HC.o _ (L9 wr _ _ _)) (Zd (wr.heap.size+1+1) 0) 1 1 [.pointer (some (Zd (wr.heap.size+1) 0))] (by rfl) (by rfl) (XJ (cs:=#[.pointer (some (Zd (wr.heap.size+1) 0))]) (t:=51) (fr:=(0,0)) (AFv wr _ _ _)) (by simp[Value.oneCell']) (by omega) (by unfold maxLen;omega) (by omega) ?_;intro v' O f a))
    go_wp2
    go_roundw
    case rel=>exact⟨k+1,m+1,_,_,by omega,by go_num,Ab ⟨d.o.1.step (by omega) (by omega) Y.o.1 (vI wr) (by have:=HD.o;simp only[AGj];omega) a f,s.o,M.o.symm⟩⟩
    case measure=>simp[intOf];omega
   have bs:(c==11)=false:=by simpa using h11
   by_cases h9:c=9\/c=10
   ·by_cases ak:n<=1
    ·have M:Hid (stk D PK I G z (k+1)=l):=Ab (HE.o.trans (AM5 h9 (by rw[d.o.1.len];exact ak)))
     rcases h9 with rfl|rfl
     ·go_wp2
      all_goals
       go_roundw
       case rel=>exact⟨k+1,_,vs,l,by omega,by go_num,Ab ⟨d.o.1.up (HB.o _) (by omega),s.o,M.o.symm⟩⟩
       case measure=>simp[intOf];omega
     go_wp2
     all_goals
      go_roundw
      case rel=>exact⟨k+1,_,vs,l,by omega,by go_num,Ab ⟨d.o.1.up (HB.o _) (by omega),s.o,M.o.symm⟩⟩
      case measure=>simp[intOf];omega
    obtain⟨m,rfl⟩:∃m,n=m+2:=⟨n-2,by omega⟩;obtain⟨g,rfl,ax,ac⟩:=d.o.1.Hc (by omega);obtain⟨u1,u2,T1,T2,a8,a9,au,av,a4,a5,V,am,an⟩:=d.o.1.AKv;have M:Hid (stk D PK I G z (k+1)=l.take m++[.node 0 0 ⟨c,⟨#[]⟩,0,0,⟨#[]⟩⟩ T1 T2]):=Ab (HE.o.trans (ANK h9 d.o.1.len am an));clear am an;have a1:=d.o.1.cells a8;have ar:=d.o.1.cells a9;obtain⟨p1,rfl⟩:=au.ptr;obtain⟨p2,rfl⟩:=av.ptr;have Y:Hid (Gy wr T1 (Zp p1)/\Gy wr T2 (Zp p2)):=⟨au,av⟩;have HD:Hid (0<AGj T1/\0<AGj T2/\((l.take m).map AGj).sum+AGj T1+AGj T2<=k):=⟨a4,a5,V⟩;have bf:(0:Int)<=(m:Int):=by omega
    have bg:(m:Int)<(m:Int)+2:=by omega
    obtain⟨m1,ap⟩:∃m1:Nat,m1=m+1:=⟨_,rfl⟩;have bu:(m1:Int)<(m:Int)+2:=by omega
    have bv:(0:Int)<=(m1:Int):=by omega
    have bq:IntKind.i64.wrap ((m:Int)+2-1)=(m1:Int):=by rw[show ((m:Int)+2-1)=(m1:Int) by omega];exact wrap_small m1 (by omega)
    rw[<-ap] at ar;clear ap;clear a8 a9 au av a4 a5 V;have HC:Hid (∀W,Zb wr W->∀b,(some (Zd g 0):To)=some b->∀(j:Nat)(u':Tv),(vs.take m)[j]? = some u'->W.cell? (b.add j)=some u'):=jQ d.o.1 m;have HV:Hid ((vs.take m).length=m*1):=Ab (by simp[d.o.1.sS]);have bn:=WJ wr (Zd g m) a1;have bo:=WJ wr (Zd g m1) ar;have HK:Hid (∀W,Zb wr W->∀X,W.cell? (Zd wr.heap.size 0)=some X->W.cell? (Zd g m)=some (Zp p1)/\W.cell? (Zd g m1)=some (Zp p2)/\W.cell? (Zd wr.heap.size 0)=some X):=λW hb X hX=>⟨(hb.cell (p:=Zd g m) ac).trans a1,(hb.cell (p:=Zd g m1) ac).trans ar,hX⟩
    have bj:IntKind.i64.wrap (m:Int)=(m:Int):=wrap_small m (by omega);have bh:(m:Int)<=(cp:Int):=by omega
    rcases h9 with rfl|rfl
    ·go_wp2_with fail
     go_region_held3 (λw'=>w'.cell? (Zd g m)=some (Zp p1)/\w'.cell? (Zd g m1)=some (Zp p2)/\w'.cell? (Zd wr.heap.size 0)=some (Zi 9))
      (first
        | (go_keep;done)
        | exact HK.o _ (L9 wr _ _ _) _ (Nr wr _ _ _)
        | exact HK.o _ (Below.up (L9 wr _ _ _) (below_grown a)) _ ((a.cell_far _ (by simp;omega) (by simp)).trans (Nr wr _ _ _)))
      ((refine step_append_grows (by rfl) (.tmp 66) (.tmp 81) 89 (by rfl) 51 i0 (.pointer none) 1 8 underlying89 y.o.1 y.o.2.1 y.o.2.2.1 y.o.2.2.2 rfl (by omega) (some (Zd g 0)) m m (vs.take m) (by rfl) (by simp) HV.o (HC.o _ (L9 wr _ _ _)) (Zd (wr.heap.size+1+1) 0) 1 1 [.pointer (some (Zd (wr.heap.size+1) 0))] (by rfl) (by rfl) (XJ (cs:=#[.pointer (some (Zd (wr.heap.size+1) 0))]) (t:=51) (fr:=(0,0)) (AFv wr _ _ _)) (by simp[Value.oneCell']) (by omega) (by unfold maxLen;omega) (by omega) ?_;intro v' O f a))
     go_wp2
     go_roundw
     case rel=>exact⟨k+1,m+1,_,_,by omega,by go_num,Ab ⟨d.o.1.step (by omega) (by omega) Y.o.1 Y.o.2 (by have:=HD.o;omega) a f,s.o,M.o.symm⟩⟩
     case measure=>simp[intOf];omega
    go_wp2_with fail
    go_region_held3 (λw'=>w'.cell? (Zd g m)=some (Zp p1)/\w'.cell? (Zd g m1)=some (Zp p2)/\w'.cell? (Zd wr.heap.size 0)=some (Zi 10))
     (first
       | (go_keep;done)
       | exact HK.o _ (L9 wr _ _ _) _ (Nr wr _ _ _)
       | exact HK.o _ (Below.up (L9 wr _ _ _) (below_grown a)) _ ((a.cell_far _ (by simp;omega) (by simp)).trans (Nr wr _ _ _)))
     ((refine step_append_grows (by rfl) (.tmp 66) (.tmp 81) 89 (by rfl) 51 i0 (.pointer none) 1 8 underlying89 y.o.1 y.o.2.1 y.o.2.2.1 y.o.2.2.2 rfl (by omega) (some (Zd g 0)) m m (vs.take m) (by rfl) (by simp) HV.o (HC.o _ (L9 wr _ _ _)) (Zd (wr.heap.size+1+1) 0) 1 1 [.pointer (some (Zd (wr.heap.size+1) 0))] (by rfl) (by rfl) (XJ (cs:=#[.pointer (some (Zd (wr.heap.size+1) 0))]) (t:=51) (fr:=(0,0)) (AFv wr _ _ _)) (by simp[Value.oneCell']) (by omega) (by unfold maxLen;omega) (by omega) ?_;intro v' O f a))
    go_wp2
    go_roundw
    case rel=>exact⟨k+1,m+1,_,_,by omega,by go_num,Ab ⟨d.o.1.step (by omega) (by omega) Y.o.1 Y.o.2 (by have:=HD.o;omega) a f,s.o,M.o.symm⟩⟩
    case measure=>simp[intOf];omega
   have b9:(c==9)=false:=by simp;omega
   have br:(c==10)=false:=by simp;omega
   by_cases h16:1<=c/\c<=6
   ·obtain⟨h1,h6⟩:=h16
    have b7:(c==7)=false:=by simp;omega
    have b8:(c==8)=false:=by simp;omega
    by_cases hsz:(tt.size:Int)<=100
    ·have x:Hid (∀W,Zc 25 #[Zg #[Zi kk,Zi nn,Zt tt]] W λe w'=>e=Zr (Zo (E.A9 kk nn tt))/\Zb W w'):=λW=>E.Ln kk nn tt W ht
     cases hrv:E.A9 kk nn tt
     ·rw[hrv] at x
      have M:Hid (stk D PK I G z (k+1)=l):=Ab (HE.o.trans (AL4 h1 h6 (λhh=>by rw[hrv] at hh;cases hh.2)));clear hrv;go_wp2_with fail;refine(x.o _).mono ?_;rintro e O⟨rfl,J⟩;have x0:O.cell? (Zd wr.heap.size 0)=some (Zi c):=(J.cell (p:=Zd wr.heap.size 0) (by simp)).trans (by go_simp);have HX:=Ab J;clear J;go_wp2
      all_goals
       go_roundw
       case rel=>exact⟨k+1,n,vs,l,by omega,by go_num,Ab ⟨d.o.1.up (Below.up (HB.o _) HX.o) (by omega),s.o,M.o.symm⟩⟩
       case measure=>simp[intOf];omega
     rw[hrv] at x;have M:Hid (stk D PK I G z (k+1)=l++[.node 0 0 ⟨c,Bl,kk,nn,tt⟩ .nil .nil]):=Ab (HE.o.trans (AMJ h1 h6 hsz hrv));clear hrv;go_wp2_with fail;refine(x.o _).mono ?_;rintro e O⟨rfl,J⟩;have x0:O.cell? (Zd wr.heap.size 0)=some (Zi c):=(J.cell (p:=Zd wr.heap.size 0) (by simp)).trans (by go_simp);have x1:O.cell? (Zd wr.heap.size 1)=some (Zt Bl):=(J.cell (p:=Zd wr.heap.size 1) (by simp)).trans (by go_simp);have x2:O.cell? (Zd wr.heap.size 2)=some (Zi kk):=(J.cell (p:=Zd wr.heap.size 2) (by simp)).trans (by go_simp);have x3:O.cell? (Zd wr.heap.size 3)=some (Zi nn):=(J.cell (p:=Zd wr.heap.size 3) (by simp)).trans (by go_simp);have x4:O.cell? (Zd wr.heap.size 4)=some (Zt tt):=(J.cell (p:=Zd wr.heap.size 4) (by simp)).trans (by go_simp);have HX:Hid (Zb wr O):=Below.up (HB.o _) J;clear J;go_wp2_with (at_builtin;refine wpList_append_lies _ rfl (.tmp 104) (.tmp 113) 89 rfl w.heap.size 51 i0 (.pointer none) 1 8 underlying89 y.o.1 y.o.2.1 y.o.2.2.1 y.o.2.2.2 rfl (by omega) (.slice ao n cp) n vs rfl (Ad d.o.1.own (Below.up HX.o (M4 O _ _))) (Zd (O.heap.size+1) 0) 1 1 [.pointer (some (Zd O.heap.size 0))] rfl rfl (XJ (cs:=#[.pointer (some (Zd O.heap.size 0))]) (t:=51) (fr:=(0,0)) (bG O _ _ _ (by simp))) (by simp[Value.oneCell']) (by omega) (by unfold maxLen;omega) (by omega) (XF d.o.1.xL.size (Below.up HX.o (M4 O _ _)).size) (O.heap.size+1+1) (by simp) ?_;intro gg a0 w2 f a a3 aa)
     go_roundw
     case rel=>exact⟨k+1,n+1,_,_,by omega,by go_num,Ab ⟨d.o.1.leaf (by omega) HX.o (by simp) a f,s.o,M.o.symm⟩⟩
     case measure=>simp[intOf];omega
    have bp:(100:Int)<tt.size:=by omega
    have M:Hid (stk D PK I G z (k+1)=l):=Ab (HE.o.trans (AL4 h1 h6 (λhh=>by omega)));clear hsz;go_wp2
    all_goals
     go_roundw
     case rel=>exact⟨k+1,_,vs,l,by omega,by go_num,Ab ⟨d.o.1.up (HB.o _) (by omega),s.o,M.o.symm⟩⟩
     case measure=>simp[intOf];omega
   by_cases al:c=7\/c=8
   ·skip
    have M:Hid (stk D PK I G z (k+1)=l++[.node 0 0 ⟨c,Bl,0,0,⟨#[]⟩⟩ .nil .nil]):=Ab (HE.o.trans (AM4 al));clear h16 h9 h11
    rcases al with rfl|rfl
    ·go_wp2_with (at_builtin;refine wpList_append_lies _ rfl (.tmp 124) (.tmp 131) 89 rfl w.heap.size 51 i0 (.pointer none) 1 8 underlying89 y.o.1 y.o.2.1 y.o.2.2.1 y.o.2.2.2 rfl (by omega) (.slice ao n cp) n vs rfl (Ad d.o.1.own (Below.up (HB.o _) (M4 _ _ _))) (Zd (wr.heap.size+1+1) 0) 1 1 [.pointer (some (Zd (wr.heap.size+1) 0))] rfl rfl (XJ (cs:=#[.pointer (some (Zd (wr.heap.size+1) 0))]) (t:=51) (fr:=(0,0)) (bG (wr.alloc _) _ _ _ (by simp))) (by simp[Value.oneCell']) (by omega) (by unfold maxLen;omega) (by omega) (XF d.o.1.xL.size (Below.up (HB.o _) (M4 _ _ _)).size) (wr.heap.size+1+1+1) (by simp) ?_;intro gg a0 w2 f a a3 aa)
     go_roundw
     case rel=>exact⟨k+1,n+1,_,_,by omega,by go_num,Ab ⟨d.o.1.leaf (by omega) (HB.o _) (by simp) a f,s.o,M.o.symm⟩⟩
     case measure=>simp[intOf];omega
    go_wp2_with (at_builtin;refine wpList_append_lies _ rfl (.tmp 124) (.tmp 131) 89 rfl w.heap.size 51 i0 (.pointer none) 1 8 underlying89 y.o.1 y.o.2.1 y.o.2.2.1 y.o.2.2.2 rfl (by omega) (.slice ao n cp) n vs rfl (Ad d.o.1.own (Below.up (HB.o _) (M4 _ _ _))) (Zd (wr.heap.size+1+1) 0) 1 1 [.pointer (some (Zd (wr.heap.size+1) 0))] rfl rfl (XJ (cs:=#[.pointer (some (Zd (wr.heap.size+1) 0))]) (t:=51) (fr:=(0,0)) (bG (wr.alloc _) _ _ _ (by simp))) (by simp[Value.oneCell']) (by omega) (by unfold maxLen;omega) (by omega) (XF d.o.1.xL.size (Below.up (HB.o _) (M4 _ _ _)).size) (wr.heap.size+1+1+1) (by simp) ?_;intro gg a0 w2 f a a3 aa)
    go_roundw
    case rel=>exact⟨k+1,n+1,_,_,by omega,by go_num,Ab ⟨d.o.1.leaf (by omega) (HB.o _) (by simp) a f,s.o,M.o.symm⟩⟩
    case measure=>simp[intOf];omega
   have b7:(c==7)=false:=by simp;omega
   have b8:(c==8)=false:=by simp;omega
   have M:Hid (stk D PK I G z (k+1)=l):=Ab (HE.o.trans (ANc (by omega)))
   by_cases hc1:1<=c
   ·have bt:¬c<=6:=by omega
    clear h16 al h9 h11;go_wp2
    all_goals
     go_roundw
     case rel=>exact⟨k+1,_,vs,l,by omega,by go_num,Ab ⟨d.o.1.up (HB.o _) (by omega),s.o,M.o.symm⟩⟩
     case measure=>simp[intOf];omega
   clear h16 al h9 h11;go_wp2
   all_goals
    go_roundw
    case rel=>exact⟨k+1,_,vs,l,by omega,by go_num,Ab ⟨d.o.1.up (HB.o _) (by omega),s.o,M.o.symm⟩⟩
    case measure=>simp[intOf];omega
  by_cases U:k<L
  ·have a7:¬k<14:=λhh=>aa ⟨U,hh⟩
   have ad:Hid (ALg L D PK I G z=ALj l):=Ab (by unfold ALg;rw[d.o.2.2];congr 1;have:=d.o.2.1;congr 1;omega);clear aa
   by_cases hn0:n=0
   ·subst hn0
    have ae:Hid (ALg L D PK I G z=.nil):=Ab (by rw[ad.o,Yai.1 d.o.1.len];rfl);go_wp2;go_ret;exact⟨_,rfl,by rw[ae.o];exact vI _,by rw[ae.o];simp[AGj],d.o.1.xL⟩
   obtain⟨g,rfl,ax,ac⟩:=d.o.1.Hc (by omega);obtain⟨BW,r⟩:=fP d.o.1;obtain⟨p0,T0,cu,ag,ai,P⟩:=r.o.2.2.1 _ r.o.1 0 (by omega);have H0:Hid (Gy wr T0 (Zp p0)/\0<AGj T0/\l[0]? = some T0):=⟨ag,ai,P⟩;have HD:=Ab d.o.1.dep;have HL:=Ab d.o.1.len;clear ag ai P d Q0 Q1 Q2 Q3 Q4 HT;have ak:(n==0)=false:=by simpa using hn0
   have ay:(0:Int)<(n:Int):=by omega
   go_wp2
   go_loopw [7,8] (λcv iv w2=>∃(q:Nat)(T:CT)(p:To),1<=q/\q<=n/\iv=Zi q/\cv=Zp p/\Hid (Gy w2 T (Zp p)/\0<AGj T/\AGj T<=((l.take q).map AGj).sum/\BW w2/\T=ALj (l.take q))) (λ_ iv _=>n-(intOf iv).toNat)
   case atStart=>exact⟨1,T0,p0,by omega,by omega,rfl,rfl,⟨H0.o.1,H0.o.2.1,take_one H0.o.2.2,r.o.1,(AMH H0.o.2.2).symm⟩⟩
   case round=>
    obtain⟨q,T,p,az,bi,rfl,rfl,x⟩:=hrel;clear cu ak ay
    by_cases hq:q<n
    ·obtain⟨pu,Tq,cq,ah,aj,R⟩:=r.o.2.2.1 _ x.o.2.2.2.1 q hq
     have Y:Hid (Gy wr Tq (Zp pu)/\0<AGj Tq/\l[q]? = some Tq):=⟨ah,aj,R⟩;clear ah aj R;go_wp2
     go_roundw
     case rel=>exact⟨q+1,.node 0 0 ⟨9,⟨#[]⟩,0,0,⟨#[]⟩⟩ T Tq,some (Zd wr.heap.size 0),by omega,by omega,by go_num,rfl,Ab (AL2 (rA x.o.1 Y.o.1 x.o.2.1 Y.o.2.1 x.o.2.2.1 Y.o.2.2 (r.o.2.1 _ _ x.o.2.2.2.1)) (by rw[AL3 az Y.o.2.2,<-x.o.2.2.2.2]))⟩
     case measure=>simp[intOf];omega
    have af:Hid (ALg L D PK I G z=T):=Ab (by rw[ad.o,x.o.2.2.2.2,Yd (by have:=HL.o;omega)])
    have HF:Hid (AGj T<=14):=Ab (by have h1:=x.o.2.2.1;have h2:=HD.o;rw[Yd (by have:=HL.o;omega)] at h1;omega)
    go_wp2;go_ret;exact⟨_,rfl,by rw[af.o];exact x.o.1,by rw[af.o];exact HF.o,r.o.2.2.2 _ x.o.2.2.2.1⟩
  have ad:Hid (ALg L D PK I G z=ALj l):=Ab (by unfold ALg;rw[d.o.2.2];congr 1;have:=d.o.2.1;congr 1;omega);clear aa
  by_cases hn0:n=0
  ·subst hn0
   have ae:Hid (ALg L D PK I G z=.nil):=Ab (by rw[ad.o,Yai.1 d.o.1.len];rfl);go_wp2;go_ret;exact⟨_,rfl,by rw[ae.o];exact vI _,by rw[ae.o];simp[AGj],d.o.1.xL⟩
  obtain⟨g,rfl,ax,ac⟩:=d.o.1.Hc (by omega);obtain⟨BW,r⟩:=fP d.o.1;obtain⟨p0,T0,cu,ag,ai,P⟩:=r.o.2.2.1 _ r.o.1 0 (by omega);have H0:Hid (Gy wr T0 (Zp p0)/\0<AGj T0/\l[0]? = some T0):=⟨ag,ai,P⟩;have HD:=Ab d.o.1.dep;have HL:=Ab d.o.1.len;clear ag ai P d Q0 Q1 Q2 Q3 Q4 HT;have ak:(n==0)=false:=by simpa using hn0
  have ay:(0:Int)<(n:Int):=by omega
  go_wp2
  go_loopw [7,8] (λcv iv w2=>∃(q:Nat)(T:CT)(p:To),1<=q/\q<=n/\iv=Zi q/\cv=Zp p/\Hid (Gy w2 T (Zp p)/\0<AGj T/\AGj T<=((l.take q).map AGj).sum/\BW w2/\T=ALj (l.take q))) (λ_ iv _=>n-(intOf iv).toNat)
  case atStart=>exact⟨1,T0,p0,by omega,by omega,rfl,rfl,⟨H0.o.1,H0.o.2.1,take_one H0.o.2.2,r.o.1,(AMH H0.o.2.2).symm⟩⟩
  case round=>
   obtain⟨q,T,p,az,bi,rfl,rfl,x⟩:=hrel;clear cu ak ay
   by_cases hq:q<n
   ·obtain⟨pu,Tq,cq,ah,aj,R⟩:=r.o.2.2.1 _ x.o.2.2.2.1 q hq
    have Y:Hid (Gy wr Tq (Zp pu)/\0<AGj Tq/\l[q]? = some Tq):=⟨ah,aj,R⟩;clear ah aj R;go_wp2
    go_roundw
    case rel=>exact⟨q+1,.node 0 0 ⟨9,⟨#[]⟩,0,0,⟨#[]⟩⟩ T Tq,some (Zd wr.heap.size 0),by omega,by omega,by go_num,rfl,Ab (AL2 (rA x.o.1 Y.o.1 x.o.2.1 Y.o.2.1 x.o.2.2.1 Y.o.2.2 (r.o.2.1 _ _ x.o.2.2.2.1)) (by rw[AL3 az Y.o.2.2,<-x.o.2.2.2.2]))⟩
    case measure=>simp[intOf];omega
   have af:Hid (ALg L D PK I G z=T):=Ab (by rw[ad.o,x.o.2.2.2.2,Yd (by have:=HL.o;omega)])
   have HF:Hid (AGj T<=14):=Ab (by have h1:=x.o.2.2.1;have h2:=HD.o;rw[Yd (by have:=HL.o;omega)] at h1;omega)
   go_wp2;go_ret;exact⟨_,rfl,by rw[af.o];exact x.o.1,by rw[af.o];exact HF.o,r.o.2.2.2 _ x.o.2.2.2.1⟩
theorem V8(c:To)(a:Nat)(w:Tw):
 Zc 10 #[Zs c 0 a] w λe b=>∃v,e=Zr v/\Gy b .nil v/\Zb w b:=by
 go_enter func10,ntmps10;go_wp2
 go_loopw [3,4] (λo i wr=>o=Zs none 0 0/\i=Zi 0/\wr=w) (λ_ _ _=>0)
 case atStart=>exact⟨rfl,rfl,rfl⟩
 case round=>obtain⟨rfl,rfl,rfl⟩:=hrel;go_wp2;go_ret;exact⟨_,rfl,rfl,XB _ _⟩
theorem AHt:prog.cellsOf 67=5:=by kernel_rfl
theorem Db:prog.cellsOf 3=1:=by kernel_rfl
theorem zS:prog.cellsOf 2=1:=by kernel_rfl
theorem Vw:prog.cellsOf 9=1:=by kernel_rfl
theorem gQ:prog.cellsOf 48=3:=by kernel_rfl
theorem ABw{H:Type}{enc:TypeId×Tv->H}{W:Tw}{base:Nat}{s:Nat->Bool}{held:Bool}{n:Nat}{cs:List Tv}{x:DataW H×List MemPlace}(h:DataW.trod enc prog W base s held n 67 cs=some x):
 ∃(c k m:Int)(l t:Tb),cs=[Zi c,Zt l,Zi k,Zi m,Zt t]/\t.size<=maxLen:=by
 obtain⟨u,v,w,n1,_,q,j,o,p⟩:=trod_struct3 underlying67 h;rw[AHt] at q
 match cs,q with
 | [v0,v1,v2,v3,v4],_=>simp only[Db,Vw,gQ,XQ,XN,XI,XR] at j o p;obtain⟨c,e0,_,_⟩:=DataW.trod_int underlying3 j;obtain⟨l,a,_,_⟩:=DataW.trod_string underlying9 o;obtain⟨y,z,D,n2,_,_,f,g,i⟩:=trod_struct3 underlying48 p;simp only[Db,Vw,zS,XQ,XN,XI,XR] at f g i;obtain⟨k,b,_,_⟩:=DataW.trod_int underlying3 f;obtain⟨m,d,_,_⟩:=DataW.trod_int underlying2 g;obtain⟨t,e,_,r⟩:=DataW.trod_string underlying9 i;simp at e0 a b d e;subst e0 a b d e;exact⟨c,k,m,l,t,rfl,r⟩
structure Pt where
 c:Int
 k:Int
 m:Int
 l:ByteArray
 t:ByteArray
end S
namespace F
variable{W w:Tw}{v:Tv}{H:Type}{n:Nat}{d:DataW H}{p:List MemPlace}
theorem kM:prog.cellsOf 38=8:=by kernel_rfl
theorem pR:prog.cellsOf 50=4:=by kernel_rfl
theorem ACj:prog.cellsOf 67=5:=by kernel_rfl
theorem AH4:prog.cellsOf 35=1:=by kernel_rfl
theorem AID:prog.cellsOf 36=1:=by kernel_rfl
theorem AH3:prog.cellsOf 23=1:=by kernel_rfl
theorem AHJ:prog.cellsOf 24=1:=by kernel_rfl
structure DdS where
 x:J4
 ca:Option Addr
 cc:Nat
 ra:Option Addr
 rc:Nat
 pa:Option Addr
 pn:Nat
 pc:Nat
 sa:Option Addr
 sc:Nat
def AGa(q:DdS):List Value:=[Zi q.x.Qk,.slice q.ca q.x.cols.length q.cc,.slice q.ra q.x.rows.length q.rc,.slice q.pa q.pn q.pc,.slice q.sa q.x.A3.length q.sc,Zi q.x.change,.string q.x.name,.string q.x.tw]
structure Nf(w:World)(q:DdS):Prop where
 cols:F7 7 Cc w (.slice q.ca q.x.cols.length q.cc) q.x.cols
 ACl:∀c∈q.x.cols,c.2.1.size<=maxLen/\c.2.2.2.2.2.2.size<=maxLen
 uB:∀c∈q.x.cols,Vp c
 rows:iJ w (.slice q.ra q.x.rows.length q.rc) q.x.rows
 ACg:∀r∈q.x.rows,∀v∈r,Ks v/\v.2.2.size<=maxLen
 A3:F7 4 Wu w (.slice q.sa q.x.A3.length q.sc) q.x.A3
 wX:∀s∈q.x.A3,Ks s.2/\s.2.2.2.size<=maxLen
 cnd:∀W,Zb w W->Zc 10 #[.slice q.pa q.pn q.pc] W λe w'=>∃v T,e=.returned v/\S.Gy w' T v/\q.x.tree T/\Zb W w'
 nm:q.x.name.size<=maxLen
 tw:q.x.tw.size<=maxLen
structure U8(q:DdS):Prop where
 cols:ABP q.x.cols
 rows:RowsFit q.x.rows
 parts:q.pn<=20
 A3:q.x.A3.length<=10
 wX:∀s∈q.x.A3,s.2.2.2.size<=100
theorem ADe{l:List Aj}(h:F7 7 Cc w v l):bH w v l:=by
 obtain⟨a,c,e,k,n⟩:=h
 by_cases hn:l=[]
 ·subst hn;exact .inl ⟨⟨_,_,e⟩,rfl⟩
 obtain⟨b,off,f,g,d⟩:=n hn;subst f;refine .inr ⟨b,off,c,e,k,g,λj m i v o=>?_⟩;exact d j l[j]! (by rw[List.getElem!_eq_getElem?_getD,Y' m];rfl) i v o
theorem Nf.at{q:DdS}(h:Nf w q)(f:U8 q):K8 w q.x q.ca q.cc q.ra q.rc q.pa q.pn q.pc q.sa q.sc :=
 ⟨ADe h.cols,h.ACl,h.rows,λr a v b=>(h.ACg r a v b).2,h.A3,by have:=f.A3;omega,λs hs=>(h.wX s hs).2,h.cnd,h.tw,⟨h.uB,f.cols.1,λr a v b=>(h.ACg r a v b).1,by have:=f.rows.1;omega,λs hs=>(h.wX s hs).1⟩⟩
theorem oC{enc:TypeId×Tv->H}{P:Program}{base:Nat}{spare:Nat->Bool}{held:Bool}{t:TypeId}{b c d e f g i j:Field}{fuel:Nat}{cs:List Tv}{x:DataW H×List MemPlace}(m:P.underlying t=some (.struct #[b,c,d,e,f,g,i,j]))(h:DataW.trod enc P w base spare held fuel t cs=some x):
 ∃(n:Nat),cs.length=P.cellsOf t/\(∃y,DataW.trod enc P w base spare held n b.type ((cs.drop b.offset).take (P.cellsOf b.type))=some y)/\(∃y,DataW.trod enc P w base spare held n c.type ((cs.drop c.offset).take (P.cellsOf c.type))=some y)/\(∃y,DataW.trod enc P w base spare held n d.type ((cs.drop d.offset).take (P.cellsOf d.type))=some y)/\(∃y,DataW.trod enc P w base spare held n e.type ((cs.drop e.offset).take (P.cellsOf e.type))=some y)/\(∃y,DataW.trod enc P w base spare held n f.type ((cs.drop f.offset).take (P.cellsOf f.type))=some y)/\(∃y,DataW.trod enc P w base spare held n g.type ((cs.drop g.offset).take (P.cellsOf g.type))=some y)/\(∃y,DataW.trod enc P w base spare held n i.type ((cs.drop i.offset).take (P.cellsOf i.type))=some y)/\(∃y,DataW.trod enc P w base spare held n j.type ((cs.drop j.offset).take (P.cellsOf j.type))=some y):=by
 obtain⟨xs,n,_,_,l,k,a⟩:=DataW.trod_struct m h
 match xs,k with
 | [y0,y1,y2,y3,y4,y5,y6,y7],_=>exact⟨n,l,⟨y0,a 0 b rfl⟩,⟨y1,a 1 c rfl⟩,⟨y2,a 2 d rfl⟩,⟨y3,a 3 e rfl⟩,⟨y4,a 4 f rfl⟩,⟨y5,a 5 g rfl⟩,⟨y6,a 6 i rfl⟩,⟨y7,a 7 j rfl⟩⟩
section
variable {H : Type} {enc : TypeId × Value → H} {W : World} {sp : Nat → Bool} {held : Bool} {n : Nat} {cs : List Value} {x : DataW H × List MemPlace}
theorem AFs(h:DataW.trod enc prog W 0 sp held n 50 cs=some x):∃s:Vi,cs=Wu s/\Ks s.2/\s.2.2.2.size<=maxLen:=by
 obtain⟨k,l,n1,_,e,b,d⟩:=trod_struct2 underlying50 h;rw[pR] at e
 match cs,e with
 | [v0,v1,v2,v3],_=>simp only[Vw,gQ,XQ,XN,XI,XR] at b d;obtain⟨c,e0,_,_⟩:=DataW.trod_string underlying9 b;obtain⟨v,a,j,i⟩:=qU d;simp at e0 a;obtain⟨a,f,g⟩:=a;subst e0 a f g;exact⟨(c,v),rfl,j,i⟩
theorem zP(h:DataW.trod enc prog W 0 sp held n 36 cs=some x):∃v,cs=[v]/\∃l:List (List V),iJ W v l/\∀r∈l,∀x∈r,Ks x/\x.2.2.size<=maxLen:=by
 obtain⟨v',e,l,z,p⟩:=M0 (α:=Tv×List V) (k:=1) (en:=λq=>[q.1]) (P:=λq=>E.Sl W q.1 q.2/\∀x∈q.2,Ks x/\x.2.2.size<=maxLen) (by decide) (λ_=>rfl) underlying36 AHc (λh=>by obtain⟨u,e,r,f,d⟩:=M0 (k:=3) (en:=AIQ) (P:=λx:V=>Ks x/\x.2.2.size<=maxLen) (by decide) (λ_=>rfl) underlying54 gQ (λh=>qU h) h;exact⟨(u,r),e,mW f,d⟩) h
 refine⟨v',e,?_⟩;obtain⟨a,c,t,y,g⟩:=z;refine⟨l.map (·.2),⟨l.map (·.1),⟨a,c,by rw[XG];exact t,by rw[XG];exact y,λD=>?_⟩,by simp,λj x r m f=>?_⟩,λr f=>?_⟩
 ·obtain⟨b,off,s,w,o⟩:=g (by intro h0;exact D (by rw[h0];rfl))
  refine⟨b,off,s,w,λj x m i u G=>?_⟩;rw[XH] at m;obtain⟨q,d,rfl⟩:=Option.map_eq_some_iff.1 m;exact o j q d i u G
 ·rw[XH] at m f
  obtain⟨q,d,rfl⟩:=Option.map_eq_some_iff.1 m;rw[d] at f;simp at f;subst f;exact(p q (XD d)).1
 obtain⟨q,d,rfl⟩:=List.mem_map.1 f;exact(p q d).2
def AHF(q:S.Pt):List Value:=[Zi q.c,.string q.l,Zi q.k,Zi q.m,.string q.t]
def AEm(W:World)(v:Value):Prop:=∃T,∀a,Zb W a->Zc 10 #[v] a λe b=>∃u,e=.returned u/\S.Gy b T u/\Zb a b
theorem AAi{l:List S.Pt}(h:F7 5 AHF W v l)(I:∀q∈l,q.t.size<=maxLen)(G:∀a n c,v=Zs a n c->c<=maxLen):AEm W v:=by
 obtain⟨a,c,rfl,z,D⟩:=h
 by_cases hn:l=[]
 ·subst hn
  refine⟨.nil,λs y=>(S.V8 a c s).mono ?_⟩;rintro e L⟨u,rfl,w,x⟩;exact⟨u,rfl,w,x⟩
 refine⟨S.ALg l.length (λj=>(l.getD j ⟨0,0,0,⟨#[]⟩,⟨#[]⟩⟩).c) (λj=>(l.getD j ⟨0,0,0,⟨#[]⟩,⟨#[]⟩⟩).k) (λj=>(l.getD j ⟨0,0,0,⟨#[]⟩,⟨#[]⟩⟩).m) (λj=>(l.getD j ⟨0,0,0,⟨#[]⟩,⟨#[]⟩⟩).l) (λj=>(l.getD j ⟨0,0,0,⟨#[]⟩,⟨#[]⟩⟩).t),λs y=>?_⟩;obtain⟨b,off,rfl,r,g⟩:=D hn;have M:∀j,j<l.length->∃q,l[j]? = some q:=λj d=>⟨_,Y' d⟩
 have f:∀(j:Nat)(d:j<l.length)(i:Nat)u,(AHF l[j])[i]? = some u->s.cell? (Zd b (off+j*5+i))=some u:=λj d i u J=>(y.cell (p:=Zd b (off+j*5+i)) r).trans (g j _ (Y' d) i u J)
 have o:∀(j:Nat)(d:j<l.length),l.getD j ⟨0,0,0,⟨#[]⟩,⟨#[]⟩⟩=l[j]:=λj d=>by rw[XX,Y' d];rfl
 refine(S.AMG b off l.length c (λj=>(l.getD j ⟨0,0,0,⟨#[]⟩,⟨#[]⟩⟩).c) (λj=>(l.getD j ⟨0,0,0,⟨#[]⟩,⟨#[]⟩⟩).k) (λj=>(l.getD j ⟨0,0,0,⟨#[]⟩,⟨#[]⟩⟩).m) (λj=>(l.getD j ⟨0,0,0,⟨#[]⟩,⟨#[]⟩⟩).l) (λj=>(l.getD j ⟨0,0,0,⟨#[]⟩,⟨#[]⟩⟩).t) s z (G _ _ _ rfl) (λj=>?_) (Ya r y.size) (λj d=>?_) (λj d=>?_) (λj d=>?_) (λj d=>?_) (λj d=>?_)).mono ?_
 ·rcases Yc j l.length with d|d
  ·simp only[o j d];exact I _ (Yh d)
  rw[XX,Yb d];decide
 ·rw[o j d];exact f j d 0 _ rfl
 ·rw[o j d];exact f j d 1 _ rfl
 ·rw[o j d];exact f j d 2 _ rfl
 ·rw[o j d];exact f j d 3 _ rfl
 ·rw[o j d];exact f j d 4 _ rfl
 rintro e L⟨u,rfl,w,_,x⟩;exact⟨u,rfl,w,x⟩
theorem AAh(h:DataW.trod enc prog W 0 sp held n 67 cs=some x):∃q:S.Pt,cs=AHF q/\q.t.size<=maxLen:=by obtain⟨c,k,m,l,t,e,a⟩:=S.ABw h;exact⟨⟨c,k,m,l,t⟩,e,a⟩
theorem ACw{T E:TypeId}(g:prog.underlying T=some (.slice E))(h:DataW.trod enc prog W 0 sp held n T cs=some x)(e:cs=[v]):∀a l c,v=.slice a l c->c<=maxLen:=by
 intro a l c f;subst f
 rcases open_slice g h with⟨b,_⟩|⟨k,len,d,m,n,D,j,b,o,p,i,_⟩
 ·rw[e] at b
  simp at b;rw[b.2.2];exact XC _
 rw[e] at b;simp at b;rw[b.2.2];exact i
theorem qH(h:DataW.trod enc prog W 0 sp held n 23 cs=some x):∃a l c,cs=[.slice a l c]/\l<=c/\AEm W (.slice a l c):=by
 haveI:Inhabited S.Pt:=⟨⟨0,0,0,⟨#[]⟩,⟨#[]⟩⟩⟩
 obtain⟨v,e,l,f,i⟩:=M0 (k:=5) (en:=AHF) (P:=λq:S.Pt=>q.t.size<=maxLen) (by decide) (λ_=>rfl) underlying23 ACj (λh=>AAh h) h;have g:=ACw underlying23 h e;have b:=f;obtain⟨a,c,rfl,d,_⟩:=b;exact⟨a,l.length,c,e,d,AAi f i g⟩
theorem ADH(h:DataW.trod enc prog W 0 sp held n 38 cs=some x):∃q:DdS,cs=AGa q/\Nf W q/\∃T,q.x.tree=λj=>j=T:=by
 obtain⟨n1,O,⟨y0,G⟩,⟨y1,g⟩,⟨y2,i⟩,⟨y3,I⟩,⟨y4,J⟩,⟨y5,L⟩,⟨y6,M⟩,⟨y7,N⟩⟩:=oC underlying38 h;rw[kM] at O
 match cs,O with
 | [v0,v1,v2,v3,v4,v5,v6,v7],_=>simp only[Db,Vw,AH4,AID,AH3,AHJ,XQ,XN,XI,XR] at G g i I J L M N;obtain⟨wh,e0,_,_⟩:=DataW.trod_int underlying3 G;obtain⟨cv,t,cols,a,b⟩:=M0 (k:=7) (en:=Cc) (P:=λc:Aj=>(c.2.1.size<=maxLen/\c.2.2.2.2.2.2.size<=maxLen)/\Vp c) (by decide) (λ_=>rfl) underlying35 AGR (λh=>Go.Proofs.YthlacpbkcmellaaGreatDoor.AEc h) g;obtain⟨rv,v,rows,d,o⟩:=zP i;obtain⟨pa,Y,X,w,_,m⟩:=qH I;obtain⟨sv,y,A3,f,p⟩:=M0 (k:=4) (en:=Wu) (P:=λs:Vi=>Ks s.2/\s.2.2.2.size<=maxLen) (by decide) (λ_=>rfl) underlying24 pR (λh=>AFs h) J;obtain⟨V,z,_,_⟩:=DataW.trod_int underlying3 L;obtain⟨nm,D,_,l⟩:=DataW.trod_string underlying9 M;obtain⟨tw,e7,_,r⟩:=DataW.trod_string underlying9 N;simp at e0 t v w y z D e7;subst e0 t v w y z D e7;obtain⟨R,U,rfl,_⟩:=a.slice;obtain⟨ra,rc,rfl,_⟩:=d.slice;obtain⟨sa,sc,rfl,_⟩:=f.slice;obtain⟨T,m⟩:=m;refine⟨⟨⟨wh,cols,rows,A3,V,nm,tw,λj=>j=T⟩,R,U,ra,rc,pa,Y,X,sa,sc⟩,rfl,⟨a,λc hc=>(b c hc).1,λc hc=>(b c hc).2,d,o,f,p,λW' hb=>?_,l,r⟩,T,rfl⟩;refine(m W' hb).mono ?_;rintro e w'⟨u,rfl,g,i⟩;exact⟨u,T,rfl,g,rfl,i⟩
end
theorem yI{enc:TypeId×Tv->H}(m:Value.okWide prog W .any n 22 v)(h:DataW.Trod enc prog W 0 (λ_=>true) true 22 v d p):
 ∃l:List DdS,F7 8 AGa W v l/\∀q∈l,Nf W q/\∃T,q.x.tree=λa=>a=T:=by
 haveI:Inhabited DdS:=⟨⟨⟨0,[],[],[],0,⟨#[]⟩,⟨#[]⟩,λ_=>True⟩,none,0,none,0,none,0,0,none,0⟩⟩
 obtain⟨c,len,b,rfl⟩:=okWide_slice underlying22 m;obtain⟨fuel,g⟩:=h;obtain⟨v',e,l,i,j⟩:=M0 (k:=8) (en:=AGa) (P:=λq:DdS=>Nf W q/\∃T,q.x.tree=λa=>a=T) (by decide) (λ_=>rfl) underlying22 kM (λh=>ADH h) g;have f:v'=Zs c len b:=by simpa[Value.cells] using e.symm
 subst f;exact⟨l,i,j⟩
theorem AGh{enc:TypeId×Tv->H}(o:Value.okWide prog W .any n 23 v)(h:DataW.Trod enc prog W 0 (λ_=>true) true 23 v d p):∃a l c,v=.slice a l c/\l<=c/\c<=maxLen/\AEm W (.slice a l c):=by
 obtain⟨j,len,b,rfl⟩:=okWide_slice underlying23 o;obtain⟨fuel,i⟩:=h;obtain⟨a,l,c,e,k,g⟩:=qH i;have f:Value.slice a l c=Zs j len b:=by simpa[Value.cells] using e.symm
 have m:=ACw underlying23 i e;rw[f] at g;injection f with q r s;subst q r s;exact⟨a,l,c,rfl,k,m _ _ _ rfl,g⟩
variable{D:Td}{H:List (Dn×Ah)}{s:Ah}{a:Bool}{A:List A5}{e:Ending}{l:List Aj}{T:S.CT}
theorem Py(lv:Tv)(l:List DdS)(w:Tw)(hl:F7 8 AGa w lv l)(T:∀q∈l,Nf w q):
 Zc 4 #[lv] w (Pb (l.length<=30/\∀q∈l,U8 q) w):=by
 have HL:=Aa hl;obtain⟨la,lc,rfl,_⟩:=hl.slice;have HR:=Aa T;clear hl T
 by_cases h30:l.length<=30
 ·have I:¬(30:Int)<(l.length:Int):=by omega
  go_enter func4,ntmps4;go_wp2
  go_loopw [3] (λy wr=>∃k:Nat,k<=l.length/\y=Zi k/\Hid (∀q∈l.take k,U8 q)/\Hid (Zb w wr)) (λy _=>l.length-(intOf y).toNat)
  case atStart=>exact⟨0,XC _,rfl,Aa (by simp),Aa (XB _ _)⟩
  case round=>
   obtain⟨k,hk,rfl,M,u⟩:=hrel
   by_cases hlt:k<l.length
   ·obtain⟨q,f⟩:∃q,l[k]? = some q:=⟨_,Y' hlt⟩
    obtain⟨lb,lo,ap,el,_,an,a⟩:=(HL.o.up u.o).cons (by omega);injection el with ah _ ai;subst ah ai;have q0:=a k q f 0 _ rfl;have q1:=a k q f 1 _ rfl;have q2:=a k q f 2 _ rfl;have q3:=a k q f 3 _ rfl;have q4:=a k q f 4 _ rfl;have q5:=a k q f 5 _ rfl;have q6:=a k q f 6 _ rfl;have q7:=a k q f 7 _ rfl;simp only[X6] at q0;have d:=Aa (HR.o q (XD f));have HQ:=Aa f;have am:(k:Int)<(l.length:Int):=by omega
    clear a f;obtain⟨⟨wh,cols,rows,A3,ch,nm,z,tr⟩,ca,cc,ra,rc,pa,R,pc,sa,sc⟩:=q;simp only at q0 q1 q2 q3 q4 q5 q6 q7;have J:Zb wr (wr.alloc (Zk #[Zi wh,Zs ca cols.length cc,Zs ra rows.length rc,Zs pa R pc,Zs sa A3.length sc,Zi ch,Zt nm,Zt z] 38)):=Zal;have G:=Aa (Yae wr (Zk #[Zi wh,Zs ca cols.length cc,Zs ra rows.length rc,Zs pa R pc,Zs sa A3.length sc,Zi ch,Zt nm,Zt z] 38));have D:=Aa (Ap u.o J);have m1:nm.size<=maxLen:=d.o.nm;have m2:z.size<=maxLen:=d.o.tw;have i:=Aa (pS (Zs ca cols.length cc) cols _ (d.o.cols.up D.o) d.o.ACl);have o:=Aa (λW(hW:Zb w W)=>oH (Zs ra rows.length rc) rows W (d.o.rows.up hW) (λr T v g=>(d.o.ACg r T v g).2));unfold Pb at i o;clear J;go_wp2_with fail;refine i.o.mono ?_;rintro e w2⟨b2,rfl,N,p⟩;have X:=Aa N;have h:=Aa (Ap D.o p);have m:=Aa ((p.block _ (Ac G.o)).trans G.o);clear N p i;obtain⟨y0,y1,y2,y3,y4,y5,y6,y7,yf⟩:=F2 m.o;clear q0 q1 q2 q3 q4 q5 q6 q7;cases b2 with
    | false=>go_wp2_with fail;go_ret;exact⟨_,rfl,by simp,h.o⟩
    | true=>
      go_wp2_with fail;refine(o.o _ h.o).mono ?_;rintro e w3⟨b3,rfl,O,t⟩;have Y:=Aa O;have c:=Aa (Ap h.o t);have V:=Aa ((t.block _ (Ac m.o)).trans m.o);clear O t o y0 y1 y2 y3 y4 y5 y6 y7 yf;obtain⟨y0,y1,y2,y3,y4,y5,y6,y7,yf⟩:=F2 V.o;cases b3 with
      | false=>go_wp2_with fail;go_ret;exact⟨_,rfl,by simp,c.o⟩
      | true=>
        by_cases a1:R<=20
        ·have ac:¬(20:Int)<(R:Int):=by omega
         by_cases a2:A3.length<=10
         ·have ad:¬(10:Int)<(A3.length:Int):=by omega
          by_cases a3:nm.size<=60
          ·have ae:¬(60:Int)<(nm.size:Int):=by omega
           by_cases a4:z.size<=60
           ·have af:¬(60:Int)<(z.size:Int):=by omega
            have ab:=Aa d.o.wX;have aa:=Aa (d.o.A3.up c.o);go_wp2_with fail
            go_loopw [5] (λy wi=>∃j:Nat,j<=A3.length/\y=Zi j/\Hid (∀s∈A3.take j,s.2.2.2.size<=100)/\wi=w3) (λy _=>A3.length-(intOf y).toNat)
            case atStart=>exact⟨0,XC _,rfl,Aa (by simp),rfl⟩
            case round=>
             obtain⟨j,hj,rfl,L,rfl⟩:=hrel
             by_cases hjl:j<A3.length
             ·obtain⟨⟨sn,vk,vn,U⟩,g⟩:∃x,A3[j]? = some x:=⟨_,Y' hjl⟩
              obtain⟨sb,so,aq,es,_,ao,b⟩:=aa.o.cons (by omega);injection es with aj _ ak;subst aj ak;have s0:=b j _ g 0 _ rfl;have s1:=b j _ g 1 _ rfl;have s2:=b j _ g 2 _ rfl;have s3:=b j _ g 3 _ rfl;simp only[X6] at s0;have m3:U.size<=maxLen:=(ab.o _ (XD g)).2;have al:(j:Int)<(A3.length:Int):=by omega
              have HV:=Aa g;clear b g
              by_cases a5:U.size<=100
              ·have ag:¬(100:Int)<(U.size:Int):=by omega
               have n:=Aa (My (P:=λv:Vi=>v.2.2.2.size<=100) L.o HV.o a5);go_wp2;exact⟨⟨j+1,by omega,by go_num,n,trivial⟩,by simp[intOf];omega⟩
              have ag:(100:Int)<(U.size:Int):=by omega
              go_wp2;go_ret;exact⟨_,rfl,by simp,c.o⟩
             have al:¬(j:Int)<(A3.length:Int):=by omega
             have n:=Aa (My (P:=λq:DdS=>U8 q) M.o HQ.o ⟨X.o trivial,Y.o trivial,a1,a2,O1 (P:=λv:Vi=>v.2.2.2.size<=100) L.o (show A3.length<=j by omega)⟩);go_wp2;exact⟨⟨k+1,by omega,by go_num,n,c⟩,by simp[intOf];omega⟩
           have af:(60:Int)<(z.size:Int):=by omega
           go_wp2_with fail;go_ret;exact⟨_,rfl,by simp,c.o⟩
          have ae:(60:Int)<(nm.size:Int):=by omega
          go_wp2_with fail;go_ret;exact⟨_,rfl,by simp,c.o⟩
         have ad:(10:Int)<(A3.length:Int):=by omega
         go_wp2_with fail;go_ret;exact⟨_,rfl,by simp,c.o⟩
        have ac:(20:Int)<(R:Int):=by omega
        go_wp2_with fail;go_ret;exact⟨_,rfl,by simp,c.o⟩
   have am:¬(k:Int)<(l.length:Int):=by omega
   have HF:=Aa (O1 (P:=λq:DdS=>U8 q) M.o (by omega));go_wp2;go_ret;exact⟨_,rfl,λ_=>HF.o,u.o⟩
 have I:(30:Int)<(l.length:Int):=by omega
 go_enter func4,ntmps4;go_wp2;go_ret;exact⟨_,rfl,by simp,XB _ _⟩
theorem AIz:(List.range 31).all (λi=>Bx (wK i))=true:=by kernel_rfl
theorem AGv{i:Nat}(h:i<=30):Bx (wK i)=true:=List.all_eq_true.1 AIz i (List.mem_range.2 (by omega))
def nms:Nat->List ByteArray
 | 0=>[]
 | i+1=>wK i :: nms i
theorem AD3:∀(i k:Nat),i<=k->k<=600->¬wK k∈nms i
 | 0,_,_,_,h=>by cases h
 | i+1,k,h1,h2,h=>by
   rcases List.mem_cons.1 h with e|e
   ·have:=AHh (by omega) (by omega) e
    omega
   exact AD3 i k (by omega) h2 e
structure LwT(w0 w:World)(bb i m:Nat)(D:DataW Unit)(fs:List Int)(mv fv:Value)(H:List (Dn×Ah)):Prop where
 base:Ey w0 w 0 bb m D fs mv fv
 inv:Inv D H (nms i)
 Iz:H.length<=i
 AFx:m<=i*100
theorem LwT.sit{w0 w:Tw}{bb i m:Nat}{fs:List Int}{mv v:Tv}(h:LwT w0 w bb i m D fs mv v H)(b:i<=30)(a:B.Ob w0)(c:S.Lp w0):iK w0 w 0 bb m D fs mv v H (nms i) (wK i) :=
 ⟨h.base,h.inv,a,c,XC _,by have:=h.AFx;omega,by have:=h.Iz;omega,AGv b,by show 3<=12;decide,AFl i,AD3 i i (XA _) (by omega)⟩
theorem LwT.up{w0 w W:Tw}{bb i m:Nat}{D:Td}{fs:List Int}{mv v:Tv}{H:List (Dn×Ah)}(h:LwT w0 w bb i m D fs mv v H)(a:Zb w W):LwT w0 W bb i m D fs mv v H:=⟨h.base.up a,h.inv,h.Iz,h.AFx⟩
theorem uF(w:Tw)(a:Ik w)(g:Lw w)(f:Jp w):Ey w (w.alloc (Zk #[.map none,Zs none 0 0] 31)) 0 w.heap.size 0 (.map []) [] (.map none) (Zs none 0 0) :=
 ⟨B.AJj w,Zal,XA _,λk d=>(by cases d),a,g,f,λb off l c e=>(by cases e)⟩
theorem LwT.start(w:Tw)(a:Ik w)(c:Lw w)(b:Jp w):LwT w (w.alloc (Zk #[.map none,Zs none 0 0] 31)) w.heap.size 0 0 (.map []) [] (.map none) (Zs none 0 0) [] :=
 ⟨uF w a c b,Inv.nil,XA _,XA _⟩
theorem AHq(l:Mw)(w0:Tw)(bb i m:Nat)(D:Td)(fs:List Int)(mv t:Tv)(H:List (Dn×Ah))(x:J4)(g:To)(j:Nat)(p:To)(q:Nat)(pa:To)(o n:Nat)(r:To)(s:Nat)(w:Tw)(h:LwT w0 w bb i m D fs mv t H)(P:i<30)(I:B.Ob w0)(J:S.Lp w0)(L:K8 w x g j p q pa o n r s):
 Zc 6 #[Zp (some (Zd bb 0)),Zg #[Zi x.Qk,Zs g x.cols.length j,Zs p x.rows.length q,Zs pa o n,Zs r x.A3.length s,Zi x.change,Zt x.name,Zt x.tw],Zt (wK i)] w λe u=>∃k,e=Zr k/\∃M d a c b f,LwT w0 u bb (i+1) M d a c b f:=by
 obtain⟨xs,z⟩:=h.inv.wU H.length (XA _);refine(V1 l w0 0 bb m D fs mv t H (nms i) (wK i) xs x g j p q pa o n r s w (h.sit (by omega) I J) (by have:=h.Iz;omega) z L).mono ?_;intro e u G;obtain⟨k,rfl,n',d,a,c,b,f,v,N,_,_,y,_,O⟩:=G.wU;exact⟨k,rfl,n',d,a,c,b,f,v,y,by have:=h.Iz;omega,by have:=h.AFx;omega⟩
def cA:Aj:=(1,⟨#[97]⟩,1,false,0,0,⟨#[]⟩)
def iL:ByteArray:=⟨#[116]⟩
def Pz:ByteArray:=⟨#[117]⟩
def txV:ByteArray:=⟨#[118]⟩
def aT:List A5:=[(4,⟨#[]⟩,0,[],[cA],2)]
def sT:Ah:=⟨1,[cA],2,[]⟩
def R2:List (List V):=[[(1,1,⟨#[]⟩)],[(1,2,⟨#[]⟩)]]
def aU:List A5:=[(1,Bw Pz 0,2,[],[],0)]
def sU:Ah:=⟨2,[cA],2,[(Bw Pz 0,2,[])]⟩
def xU:List A6:=[((Bw Pz 0,2,[]),[cA],R2)]
def tV:S.CT:=.node 0 0 ⟨1,⟨#[97]⟩,1,1,⟨#[]⟩⟩ .nil .nil
def aV:List A5:=[(3,Bw Pz 0,0,[0],[],0)]
def sV:Ah:=⟨3,[cA],2,[(Bw Pz 0,2,[0])]⟩
def xV:List A6:=[((Bw Pz 0,2,[0]),[cA],R2)]
def H1:List (Dn×Ah):=[((iL,false,aT),sT)]
def H2:List (Dn×Ah):=[((iL,false,aT),sT),((Pz,false,aU),sU)]
def H3:List (Dn×Ah):=[((iL,false,aT),sT),((Pz,false,aU),sU),((txV,true,aV),sV)]
theorem AJd:Go.Proofs.YthlacpbkcmellaaGreatDoor.Be [cA] 2=true:=by kernel_rfl
theorem AIh:De [cA] R2=true:=by kernel_rfl
theorem AJ4:Ex [cA] tV=0:=by kernel_rfl
theorem ABN:Ct [cA] tV ((Bw Pz 0,2,[]),[cA],R2)=[0]:=by kernel_rfl
theorem AFC:(E4 [cA] ((Bw Pz 0,2,[]),[cA],R2)).length=2:=by kernel_rfl
theorem goV:xU.flatMap (Vm [cA] tV)=aV:=by show Vm [cA] tV ((Bw Pz 0,2,[]),[cA],R2)++[]=aV;unfold Vm;rw[ABN,AFC];rfl
theorem AKR:xU.filterMap (pO [cA] tV)=xV:=by
 have h:pO [cA] tV ((Bw Pz 0,2,[]),[cA],R2)=some ((Bw Pz 0,2,[0]),[cA],R2):=by unfold pO;rw[ABN,AFC];simp[N6,Go.Proofs.YthlacpbkcmellaaGreatDoor.Ir]
 unfold xU xV;rw[YK,h];rfl
theorem AKF:Fc [cA] xV=[[(1,2,⟨#[]⟩)]]:=by kernel_rfl
theorem okT:Cv (iL,false,aT)=true:=by kernel_rfl
theorem okU:Cv (Pz,false,aU)=true:=by kernel_rfl
theorem okV:Cv (txV,true,aV)=true:=by kernel_rfl
theorem apT:Bi F6 (iL,false,aT) sT:=⟨by kernel_rfl,sT,.inr (.inr (.inr ⟨rfl,⟨(I9 _ _).1 (by kernel_rfl),by decide⟩,rfl⟩)),rfl⟩
theorem nX{s:Tb}{fs:List Int}{v:Tv}{t:Ah}(g:Cv (s,a,A)=true)(e:Bi (Ae H H.length) (s,a,A) t)(f:fs=[])(h:AD8 (s,a,A) H fs H.length v):False:=by
 rcases h with h|⟨i,b,j,_,h⟩|⟨i,c,b,d,_⟩|⟨_,h⟩
 ·rw[g] at h;cases h
 ·have:i=H.length:=by omega
  subst this;exact h t e
 ·rw[Yb b] at d;cases d
 subst f;cases h
theorem apU:Bi sT (Pz,false,aU) sU:=⟨by kernel_rfl,sU,.inl ⟨rfl,⟨by kernel_rfl,by decide,by decide,by decide +kernel,(λe=>by cases e),by decide⟩,rfl⟩,rfl⟩
theorem AJN:Bt (bump sU).files (Bw Pz 0)=0:=by kernel_rfl
theorem AKq:sV=gJ (bump sU) (3,Bw Pz 0,0,[0],[],0):=by unfold gJ;simp only[AJN];simp[N6,Go.Proofs.YthlacpbkcmellaaGreatDoor.Ir,sV,bump,sU]
theorem apV:Bi sU (txV,true,aV) sV:=⟨by kernel_rfl,sV,.inr (.inr (.inl ⟨rfl,⟨by decide +kernel,by kernel_rfl,by kernel_rfl⟩,AKq⟩)),rfl⟩
def dT:J4:=⟨0,[(0,⟨#[97]⟩,1,false,0,0,⟨#[]⟩)],[],[],0,⟨#[]⟩,⟨#[]⟩,λ_=>True⟩
def dU:J4:=⟨2,[],R2,[],0,⟨#[]⟩,⟨#[]⟩,λ_=>True⟩
def dV:J4:=⟨3,[],[],[],0,⟨#[]⟩,⟨#[]⟩,λT=>T=tV⟩
theorem mkT{D b:Td}{xs:List A6}{t:Tb}{rows:Int}(h:V7 D s xs t dT b a A rows):a=false/\A=aT:=by
 rcases h with⟨_,_,_,_,rfl,rfl,_⟩|⟨e,_⟩|⟨e,_⟩|⟨e,_⟩|⟨e,_⟩|⟨e,_⟩
 ·exact⟨rfl,rfl⟩
 all_goals exact absurd e (by decide)
theorem mkU{a:Td}{xs:List A6}{b:Bool}{rows:Int}(c:s.cols=[cA])(h:V7 D s xs Pz dU a b A rows):b=false/\A=aU/\a=D.put (B.lit (Eh (Bw Pz 0))) (Pa [cA] R2):=by
 rcases h with⟨e,_⟩|⟨e,_⟩|⟨_,_,_,rfl,rfl,rfl,_⟩|⟨e,_⟩|⟨e,_⟩|⟨e,_⟩
 rotate_left 2
 ·exact⟨rfl,rfl,by rw[c];rfl⟩
 all_goals exact absurd e (by decide)
theorem mkV{D b:Td}{t:Tb}{c:Bool}{rows:Int}(f:s.cols=[cA])(h:V7 D s xU t dV b c A rows):c=true/\A=aV/\b=D:=by
 rcases h with⟨e,_⟩|⟨e,_⟩|⟨e,_⟩|⟨_,T,d,_,_,rfl,rfl,rfl,_⟩|⟨e,_⟩|⟨e,_⟩
 rotate_left 3
 ·have a:T=tV:=d
  subst a;exact⟨rfl,by rw[f,goV],rfl⟩
 all_goals exact absurd e (by decide)
theorem AJW{w0 w W:Tw}{bb n:Nat}{fs:List Int}{mv:Tv}(h:Xt w0 w 0 bb n (.map []) fs mv [] [] iL [] dT e W):e=Zr Zn/\∃n' d b a c,Ey w0 W 0 bb n' d b a c/\n'<=n+100/\B.A0 (B.Own bb mv) w W/\(∀k,a=.map (some k)->mv=.map (some k)\/w.heap.size<=k)/\Inv d H1 [iL]:=by
 obtain⟨n',d,b,a,c,z,o,s,u,r,p,⟨rfl,j,x,A,rows,g,h⟩|⟨T,y,rfl,rfl,_,h⟩⟩:=h
 ·obtain⟨rfl,rfl⟩:=mkT g
  rcases h with⟨e,_⟩|⟨_,_,t,q,rfl,rfl⟩
  ·cases e
  obtain⟨rfl,_⟩:=Ry q;exact⟨rfl,n',_,b,a,c,o,s,u,r,p⟩
 exfalso
 rcases h with h|⟨j,x,A,rows,l,G,n1,v,m,g,D,f,i⟩
 ·rcases h.1 rfl with h|h
  ·have:=AJd
   rw[show Go.Proofs.YthlacpbkcmellaaGreatDoor.Be [cA] 2=false from h] at this;cases this
  exact h rfl
 obtain⟨rfl,rfl⟩:=mkT g;exact nX (H:=[]) okT apT (bJ f) i
theorem AKO(D:Td):C7 D sT []:=⟨⟨rfl,(λx a=>by cases a),XC _,by decide,λe=>by cases e⟩,(λx a=>by cases a),(λx a=>by cases a),(λx a=>by cases a)⟩
theorem AEL:K9 R2:=λr a v b=>by
 simp only[R2,WR,WO,or_false] at a
 rcases a with rfl|rfl <;> (simp at b;subst b;exact⟨by decide,by decide⟩)
theorem AI4{w0 w W:Tw}{bb n:Nat}{fs:List Int}{mv:Tv}(G:fs=[])(j:Inv D H1 [iL])(f:Maps.has D (B.lit (Eh (Bw Pz 0)))=false)(h:Xt w0 w 0 bb n D fs mv H1 [iL] Pz [] dU e W):e=.returned .nilIface/\∃n' g b a c,Ey w0 W 0 bb n' g b a c/\n'<=n+100/\B.A0 (B.Own bb mv) w W/\(∀k,a=.map (some k)->mv=.map (some k)\/w.heap.size<=k)/\Inv g H2 [Pz,iL]/\C7 g sU xU:=by
 obtain⟨n',g,b,a,c,P,u,J,L,I,v,⟨rfl,q,O,A,rows,o,h⟩|⟨T,y,rfl,rfl,_,h⟩⟩:=h
 ·obtain⟨rfl,rfl,rfl⟩:=mkU rfl o
  rcases h with⟨e,_⟩|⟨_,l,t,x,rfl,rfl⟩
  ·cases e
  have M:=eH x;subst M
  have m:C7 (D.put (B.lit (Eh (Bw Pz 0))) (Pa [cA] R2)) sU xU:=((AKO D).put f _).add (bD j.Lm.1 AIh AEL (by decide +kernel)) (λd z=>by
   have:d=cA:=by simpa[sT] using z
   subst this;decide) (by decide) 2
  exact⟨rfl,n',_,b,a,c,u,J,L,I,v,m.put ((l.Lm.2 1 (by decide)).2 (XA _)) _⟩
 exfalso
 rcases h with h|⟨q,O,A,rows,r,U,n1,N,s,o,R,i,p⟩
 ·rcases h.2.1 rfl with h|h|h
  ·cases h
  ·have:=AIh
   rw[show De [cA] R2=false from h] at this;cases this
  subst G;cases h
 obtain⟨rfl,rfl,_⟩:=mkU rfl o;exact nX (H:=H1) okU apU (bJ i) p
theorem AI9{w0 w W:Tw}{bb n:Nat}{fs:List Int}{mv:Tv}(g:Inv D H2 [Pz,iL])(x:C7 D sU xU)(h:Xt w0 w 0 bb n D fs mv H2 [Pz,iL] txV xU dV e W):e=Zr Zn/\∃n' d b a c,Ey w0 W 0 bb n' d b a c/\n'<=n+100/\B.A0 (B.Own bb mv) w W/\(∀k,a=.map (some k)->mv=.map (some k)\/w.heap.size<=k)/\Inv d H3 [txV,Pz,iL]/\C7 d sV xV:=by
 obtain⟨n',d,b,a,c,P,u,J,L,I,v,⟨rfl,q,O,A,rows,o,h⟩|⟨T,y,rfl,rfl,_,h⟩⟩:=h
 ·obtain⟨rfl,rfl,rfl⟩:=mkV rfl o
  rcases h with⟨e,_⟩|⟨_,j,t,z,rfl,rfl⟩
  ·cases e
  have M:=K6 z.2 apV.2;subst M;have G:Good Bv Cm sU:=(Jb g.past (i:=2) (XA _)).1
  have m:C7 q sV xV:=by have:=x.go G tV 3;rw[show sU.cols=[cA] from rfl,AKR] at this;exact this
  exact⟨rfl,n',_,b,a,c,u,J,L,I,v,m.put ((j.Lm.2 2 (by decide)).2 (XA _)) _⟩
 exfalso
 rcases h with h|⟨q,O,A,rows,r,U,n1,N,s,o,R,f,p⟩
 ·obtain⟨T,l,h⟩:=h.2.2.1 rfl
  have e:T=tV:=l;subst e
  rcases h with h|h
  ·cases h
  exact h AJ4
 obtain⟨rfl,rfl,_⟩:=mkV rfl o;exact nX (H:=H2) okV apV (bJ f) p
theorem AD0{W Y:Tw}{bb n:Nat}{D:Td}{fs:List Int}{mv u:Tv}(a:B.Bu W bb n D fs mv u)(c:B.A0 (B.Own bb mv) W Y):∀{T:S.CT}{v:Tv},S.Gy W T v->S.Gy Y T v
 | .nil,_,h=>h
 | .node _ _ ⟨_,_,_,_,_⟩ _ _,_,⟨b,pl,pr,e,hh,hcd,hl,hr⟩=>⟨b,pl,pr,e,Ut a c hh (by decide),hcd,AD0 a c hl,AD0 a c hr⟩
def zB:ByteArray:=⟨#[122]⟩
theorem ALL:∀i,¬zB∈nms i
 | 0,h=>by cases h
 | i+1,h=>by
   rcases List.mem_cons.1 h with e|e
   ·have:=congrArg ByteArray.size e
    revert this
    show ¬(1=3);decide
   exact ALL i e
theorem ALU:Bx zB=true:=by kernel_rfl
theorem LwT.ALy{w0 w:Tw}{bb i m:Nat}{fs:List Int}{mv v:Tv}(h:LwT w0 w bb i m D fs mv v H)(d:i<=30)(a:B.Ob w0)(b:S.Lp w0):iK w0 w 0 bb m D fs mv v H (nms i) zB :=
 ⟨h.base,h.inv,a,b,XC _,by have:=h.AFx;omega,by have:=h.Iz;omega,ALU,by show 1<=12;decide,λx c=>by have:x∈([122]:List UInt8):=c;obtain rfl:=List.mem_singleton.1 this;decide,ALL i⟩
def ALP(l:List Aj)(T:S.CT)(ts:List Nat)(vs:List V)(r:List V):List V:=if evR l r T=1 then tU (Ly ts vs) r else r
theorem ANL(d:∀c∈l,Nz (bP c))(f:S.okT T)(b:Ex l T=0){xs:List A6}(g:∀x∈xs,Gt D x)(ts:List Nat)(vs:List V){R:List (List V)}(a:R=(Bo l T xs).1.map λz=>tU (Ly ts vs) z.2.2)(e:De l R=true)(p:Tb)(n:Int):
 (Fc l (xs.filterMap (pO l T)++[((p,n,[]),l,R)])).Perm ((Fc l xs).map (ALP l T ts vs)):=by
 rw[(all_filter l T d f b xs g).1,H9] at a;rw[sW,sW,List.flatMap_append,AKW,XO,WE,List.flatMap_nil,List.append_nil,ALa e,a,XP];refine(AMP (Q9 l T) (λz:Px=>tU (Ly ts vs) z.2.2) (λz:Px=>z.2.2) _).trans ?_
 rw[show (λx:Px=>if Q9 l T x=true then tU (Ly ts vs) x.2.2 else x.2.2)=(ALP l T ts vs ∘ λx:Px=>x.2.2) from funext λx=>by simp only[Function.comp,Q9,decide_eq_true_eq,ALP]]
theorem AMM(b:∀c∈l,Nz (bP c))(d:S.okT T)(a:Ex l T=0){xs:List A6}(e:∀x∈xs,Gt D x)(ts:List Nat)(vs:List V)(h:(Bo l T xs).1=[]):(Fc l xs).map (ALP l T ts vs)=Fc l xs:=by
 rw[(all_filter l T b d a xs e).1] at h;unfold Fc;rw[XP];refine Yt λz f=>?_
 have:=List.filter_eq_nil_iff.1 h z f;simp only[Q9,decide_eq_true_eq] at this;simp only[Function.comp,ALP,Yaf this]
def ANi(w0 w:World)(bb:Nat)(mv:Value)(H:List (Dn×Ah))(U:List ByteArray)(i:ByteArray)(s:Ah)(xs:List A6)(T:S.CT)(A3:List Vi)(e:Ending)(h:World):Prop :=
 ∃n' b c f d a g,Ey w0 h 0 bb n' b c f d/\B.A0 (B.Own bb mv) w h/\Inv b a (i :: U)/\a.length<=H.length+1/\Xh b (Ae a a.length) g/\(Ae a a.length).cols=s.cols /\
  ((∃j y,e=.returned (.iface j y)/\Fc s.cols g=Fc s.cols xs) \/
   (e=.returned .nilIface/\s.cols≠[]/\Ex s.cols T=0/\∃ts,Tgt s.cols A3 ts/\(Fc s.cols g).Perm ((Fc s.cols xs).map (ALP s.cols T ts (A3.map (·.2))))))
def AM7(T:S.CT)(A3:List Vi):J4:=⟨4,[],[],A3,0,⟨#[]⟩,⟨#[]⟩,λa=>a=T⟩
theorem AM8{w0 w W:Tw}{bb n:Nat}{fs:List Int}{mv v:Tv}{U:List Tb}{s:Tb}{xs:List A6}{A3:List Vi}(h:iK w0 w 0 bb n D fs mv v H U s)(aa:H.length<40)(b:C7 D (Ae H H.length) xs)(V:S.okT T)(hs:∀q∈A3,Ks q.2)(hd:Xt w0 w 0 bb n D fs mv H U s xs (AM7 T A3) e W):ANi w0 w bb mv H U s (Ae H H.length) xs T A3 e W:=by
 have d:=h.Of
 have M:∀{O:Td}{p:Bool}{N:List A5}{a:Int},V7 D (Ae H H.length) xs s (AM7 T A3) O p N a->AIS D (Ae H H.length) xs s T A3 O p N a:=λJ=>by
  rcases J with⟨q,_⟩|⟨q,_⟩|⟨q,_⟩|⟨q,_⟩|⟨_,T',e,r⟩|⟨q,_⟩
  ·exact absurd q (show ¬(4:Int)=0 by decide)
  ·exact absurd q (show ¬(4:Int)=1 by decide)
  ·exact absurd q (show ¬(4:Int)=2 by decide)
  ·exact absurd q (show ¬(4:Int)=3 by decide)
  ·have e':T'=T:=e
   subst e';exact r
  exact absurd q (show ¬((4:Int)<0\/4<(4:Int)) by decide)
 have I:=Mq h.inv.past (XA H.length);obtain⟨n',D',f,i,g,H',j,_,u,_,x,⟨rfl,D1,rd,A,rows,J,hc⟩|⟨ty,y,rfl,rfl,hk,_⟩⟩:=hd
 ·obtain⟨l,c,_,_,ts,o,r⟩:=M J
  rcases hc with⟨z,rfl,rfl⟩|⟨z,hI,t,ha,rfl,rfl⟩
  ·rcases r with⟨h0,rfl,_⟩|⟨_,R,_,_,_,rfl⟩
   ·refine⟨n',_,f,i,g,_,xs,j,u,x,WB _,b.Lz,rfl,.inr ⟨rfl,l,c,ts,o,?_⟩⟩
    rw[AMM (uI d) V c b.Lz.each ts _ h0]
   cases z
  rcases r with⟨_,_,rfl⟩|⟨_,R,P,k,rfl,rfl⟩
  ·exact absurd rfl z
  have L:¬Bw s 0∈(Ae H H.length).files.map (·.1):=λX=>by rw[<-b.Lz.files,XP] at X;obtain⟨y,hy,e⟩:=List.mem_map.1 X;have j:=(b.Lz.each y hy).has;simp only[Function.comp] at e;rw[e,h.free 0] at j;cases j
  have Y:=AAO b.Lz.files b.rows L d.once ha
  have m:Ae (H++[((s,rd,(1,Bw s 0,(R.length:Int),[],[],0) :: xs.flatMap (Vm (Ae H H.length).cols T)),t)]) (H++[((s,rd,(1,Bw s 0,(R.length:Int),[],[],0) :: xs.flatMap (Vm (Ae H H.length).cols T)),t)]).length=t:=by rw[XW];exact AAM
  have G:=AMf h.inv.Lm.1 b d I h.short (h.free 0) hs P k ((Ae H H.length).Eb+1);refine⟨n',_,f,i,g,_,_,j,u,x,by simp,?_,by rw[m,Y],.inr ⟨rfl,l,c,ts,o,ANL (uI d) V c b.Lz.each ts _ P k (Bw s 0) R.length⟩⟩;rw[m,Y];exact G.Lz.put ((hI.Lm.2 H.length (by omega)).2 (XA _)) _
 exact⟨n',D',f,i,g,_,xs,j,u,x,WB _,hk _ _ b.Lz,rfl,.inl ⟨ty,y,rfl,rfl⟩⟩
theorem AM0{ts:List Nat}{vs:List V}{k t:Nat}{v:V}(h:ts.Nodup)(g:ts[k]? = some t)(j:vs[k]? = some v)(r:List V):(tU (Ly (ts.take k) (vs.take k)) r).set t v=tU (Ly (ts.take (k+1)) (vs.take (k+1))) r:=by
 have f:∀u,Ly (ts.take (k+1)) (vs.take (k+1)) u=if t=u then some v else Ly (ts.take k) (vs.take k) u:=λu=>by
  have d:(ts.take (k+1)).Nodup:=h.sublist (WK _ _)
  by_cases e:t=u
  ·subst e
   rw[Yag rfl];exact AD5 (i:=k) d (by rw[XE,Yag (by omega)];exact g) (by rw[XE,Yag (by omega)];exact j)
  rw[Yaf e];cases hq:Ly (ts.take k) (vs.take k) u with
  | none=>
    cases hp:Ly (ts.take (k+1)) (vs.take (k+1)) u with
    | none=>rfl
    | some x=>
      exfalso;obtain⟨i,a,b⟩:=bI hp;rw[XE] at a b;split at a
      ·rename_i hi
       rw[Yag hi] at b
       rcases Yc i k with c|c
       ·have:=AD5 (ts:=ts.take k) (vs:=vs.take k) (i:=i) (h.sublist (WK _ _)) (by rw[XE,Yag c];exact a) (by rw[XE,Yag c];exact b)
        rw[hq] at this;cases this
       obtain rfl:i=k:=by omega
       rw[g] at a;exact e (Yu a)
      cases a
  | some x=>
    obtain⟨i,a,b⟩:=bI hq;rw[XE] at a b;split at a
    ·rename_i hi
     rw[Yag hi] at b;exact AD5 (i:=i) d (by rw[XE,Yag (by omega)];exact a) (by rw[XE,Yag (by omega)];exact b)
    cases a
 refine WL λi=>?_
 unfold tU;rw[YP,List.getElem?_set,YP,f i,YN]
 by_cases e:t=i
 ·subst e
  rw[Yag rfl,Yag rfl];split
  ·rename_i hl
   rw[Y' hl];rfl
  rename_i hl;rw[Yb (by omega)];rfl
 rw[Yaf e,Yaf e]
theorem AM2(r:List V):tU (Ly [] []) r=r:=by
 unfold tU;refine WL λi=>?_
 rw[YP];cases r[i]? <;> rfl
theorem AM6(l:List Aj)(r:List V)(g o G D z a b q:Nat)(s:Tb)(w:Tw)(h8:l.length<=8)(hs:I1 w g o l)(N:r.length=l.length)(h:Rf l s)(t:w.cell? (Zd z 1)=some (Zs (some (Zd g o)) l.length G))(i:w.cell? (Zd D 0)=some (Zs (some (Zd a b)) l.length q))(hc:∀j x,r[j]? = some x->w.cell? (Zd a (b+j*3))=some (Zi x.1)/\w.cell? (Zd a (b+j*3+1))=some (Zi x.2.1)/\w.cell? (Zd a (b+j*3+2))=some (Zt x.2.2))(q1:z<w.heap.size)(q2:D<w.heap.size)(O:a<w.heap.size):
 Zc 14 #[Zt s,Zp (some (Zd D 0)),Zp (some (Zd z 0))] w λe w'=>e=Zr (Zg #[Zi (Uk l r s).1,Zi (Uk l r s).2.1,Zt (Uk l r s).2.2])/\Zb w w':=by
 obtain⟨j,hj,n⟩:∃j:Nat,j<l.length/\Ce l s=j:=by
  rcases Gz l s with⟨n,_⟩|⟨j,hj,n,_⟩
  ·unfold Rf at h;omega
  exact⟨j,hj,n⟩
 have X:=Aa (λW(c:Zb w W)=>E8 g o G l s W (hs.below c) h8);simp only[n] at X;obtain⟨⟨P,R,T⟩,y⟩:∃v,Uk l r s=v:=⟨_,rfl⟩
 have u:r[j]? = some (P,R,T):=by unfold Uk at y;rw[n,Int.toNat_natCast,Y' (by omega)] at y;rw[Y' (by omega)];simpa using y
 rw[y];obtain⟨x0,x1,x2⟩:=hc j _ u;have ab:(j:Int)<(l.length:Int):=by omega
 have aa:(0:Int)<=(j:Int):=by omega
 have L:Hid (∀args w,(callFunc 15 args).run prog w=.ok (.enter 15 args) w):=Aa (enters_of func15 (by kernel_rfl) rfl);clear y u hc hs h n N;go_enter func14,ntmps14;go_wp2_with fail;have m:Zb w (w.alloc (Zk #[Zi 0,Zi 0,Zt ⟨#[]⟩] 48)):=Zal;have M:=Yae w (Zk #[Zi 0,Zi 0,Zt ⟨#[]⟩] 48)
 have Y:Hid (∀W,Zb w W->W.cell? (Zd z 1)=some (Zs (some (Zd g o)) l.length G)/\W.cell? (Zd D 0)=some (Zs (some (Zd a b)) l.length q)/\W.cell? (Zd a (b+j*3))=some (Zi P)/\W.cell? (Zd a (b+j*3+1))=some (Zi R)/\W.cell? (Zd a (b+j*3+2))=some (Zt T)):=Aa (λW c=>⟨(c.cell (p:=Zd z 1) q1).trans t,(c.cell (p:=Zd D 0) q2).trans i,(c.cell (p:=Zd a (b+j*3)) O).trans x0,(c.cell (p:=Zd a (b+j*3+1)) O).trans x1,(c.cell (p:=Zd a (b+j*3+2)) O).trans x2⟩)
 generalize w.alloc (Zk #[Zi 0,Zi 0,Zt ⟨#[]⟩] 48)=I at *;obtain⟨p0,p1,p4,p5,p6⟩:=Y.o I m;have HZ:Hid (∀W,Zb I W->W.heap[w.heap.size]? = some (Zk #[Zi 0,Zi 0,Zt ⟨#[]⟩] 48)):=Aa (λW c=>(c.block _ (E.Ac M)).trans M);have k:=Aa m;clear t i x0 x1 x2 m M
 go_region_law
  (first
    | (refine Gc (by rfl) 15 (.tmp 7) (.tmp 8) 35 9 (by rfl) (Zs (some (Zd g o)) l.length G) (Zt s) (by rfl) (by rfl) L.o _ (X.o I.drew k.o.drew) ?_
       rintro e U⟨rfl,f⟩;have d:Zb I U:=Ap (XB _ _).drew f;obtain⟨r0,r1,r4,r5,r6⟩:=Y.o U (Ap k.o d);obtain⟨z0,z1,z2,t0,t1,t2⟩:=J5 (HZ.o U d);refine⟨_,rfl,?_⟩)
    | fail)
 all_goals
  have J:=Aa (Ap k.o d);clear d f;go_wp2;exact bodyPost_ret (v:=Zg #[Zi P,Zi R,Zt T]) (by simp[results,results14,go_sem,z0,z1,z2]) rfl ⟨rfl,((J.o.setCell (p:=Zd w.heap.size 0) (XA _) _).setCell (p:=Zd w.heap.size 1) (XA _) _).setCell (p:=Zd w.heap.size 2) (XA _) _⟩
theorem AMr(pa i:Tv)(g h:Tb->Int)(gt:Tb->Tb)(P:Tb->Prop)(s:Tb)(w:Tw)(r:P s)(l:∀(W:Tw)(s:Tb),P s->Zb w W->Zc 14 #[Zt s,pa,i] W λe d=>e=Zr (Zg #[Zi (g s),Zi (h s),Zt (gt s)])/\Zb W d):
 Zc 56 #[.func (.func 14) #[] #[pa,i],Zt s] w λe d=>e=Zr (Zg #[Zi (g s),Zi (h s),Zt (gt s)])/\Zb w d:=by
 have o:Hid (∀W,Zb w W->Zc 14 #[Zt s,pa,i] W λe d=>e=Zr (Zg #[Zi (g s),Zi (h s),Zt (gt s)])/\Zb W d):=λW hb=>l W s r hb
 clear l;have u:∀(j:Fn)(first c:Array Tv)(w:Tw),(Instr.makeFunc j first c).run prog w=.ok (.func j first c) w:=λ_ _ _ _=>rfl
 generalize g s=k,h s=n,gt s=t at *
 go_enter_defers func56,ntmps56
 go_wp2_with fail;refine(o.o _ (Zal)).mono ?_;rintro e b⟨rfl,a⟩;have c0:b.cell? (Zd w.heap.size 0)=some (Zi 0):=(a.cell (p:=Zd w.heap.size 0) (by simp)).trans (by go_simp);have c1:b.cell? (Zd w.heap.size 1)=some (Zi 0):=(a.cell (p:=Zd w.heap.size 1) (by simp)).trans (by go_simp);have q:b.cell? (Zd w.heap.size 2)=some (Zt ⟨#[]⟩):=(a.cell (p:=Zd w.heap.size 2) (by simp)).trans (by go_simp);have x:b.frozen? (Zd w.heap.size 0)=false:=(a.frozen (p:=Zd w.heap.size 0) (by simp)).trans (by go_simp);have y:b.frozen? (Zd w.heap.size 1)=false:=(a.frozen (p:=Zd w.heap.size 1) (by simp)).trans (by go_simp);have z:b.frozen? (Zd w.heap.size 2)=false:=(a.frozen (p:=Zd w.heap.size 2) (by simp)).trans (by go_simp);have m:Hid (Zb w b):=((XB _ w).alloc (XA _) _).trans (a.mono (by simp));clear a;go_wp2;refine leaves_cons (f:=100) (args:=#[Zp (some (Zd w.heap.size 0))]) (by simp) (by simp[go_sem]) ?_;refine(S.AEX (Zd w.heap.size 0) _).mono ?_;rintro e D v⟨rfl,rfl,rfl⟩;simp[Leaves,settle,results,results56,go_sem,c0,c1,q];exact((m.o.setCell (XA _) _).setCell (XA _) _).setCell (XA _) _
def ANo(b a:Nat):Value:=.func (.func 14) #[] #[.pointer (some ⟨b,0,none⟩),.pointer (some ⟨a,0,none⟩)]
theorem AMj(l:List Aj)(r:List V)(g o n d c:Nat)(p:Tv)(T:S.CT)(v:Tv)(w:Tw)(t:l.length<=8)(I:I1 w g o l)(b:r.length=l.length)(N:1<=l.length)(x:E.Sl w p r)(m:w.cell? (Zd c 1)=some (Zs (some (Zd g o)) l.length n))(f:w.cell? (Zd d 0)=some p)(P:c<w.heap.size)(R:d<w.heap.size)(G:S.Gy w T v)(y:S.Kg (Rf l) T)(D:S.C9 T 24=true):
 Zc 13 #[v,ANo d c] w λe L=>e=Zr (Zi (evR l r T))/\Zb w L:=by
 refine S.AAk (Rf l) (ANo d c) _ _ _ T v w G y (λW s u z=>?_) D;refine AMr (Zp (some (Zd d 0))) (Zp (some (Zd c 0))) (λs=>(Uk l r s).1) (λs=>(Uk l r s).2.1) (λs=>(Uk l r s).2.2) (Rf l) s W u (λW2 s2 hP2 hb2=>?_);have a:=Ap z hb2;have O:=a.size;obtain⟨M,h,rfl,_,i⟩:=x.up a;obtain⟨q,J,rfl,j,k⟩:=i (by intro e;rw[e] at b;simp at b;omega);rw[b] at f;exact AM6 l r g o n d c q J h s2 W2 t (I.below a) b hP2 (Ag a m) (Ag a f) k (by omega) (by omega) j
theorem ANX:(prog.info? 48).map (λi=>(i.zero,i.size,i.bytes))=some (some (Zg #[Zi 0,Zi 0,Zt ⟨#[]⟩]),3,32):=by kernel_rfl
theorem ALz(base:Nat)(v:Tv)(n:Nat)(l:List V)(w:Tw)(h:w.ownsRow base 48 3 v n (E.A1 l))(e:n<=1000):
 Zc 12 #[v] w λen d=>∃a c,en=Zr (Zs a n c)/\d.ownsRow w.heap.size 48 3 (Zs a n c) n (E.A1 l)/\Zb w d :=
 V3 layCloneV rfl rfl ANX rfl (by decide) (by decide) sizeOf48 base v n _ w h (by
  intro u f;obtain⟨x,_,b⟩:=List.mem_flatMap.1 f;simp only[E.aD,WR,WO,or_false] at b
  rcases b with rfl|rfl|rfl <;> rfl) e
