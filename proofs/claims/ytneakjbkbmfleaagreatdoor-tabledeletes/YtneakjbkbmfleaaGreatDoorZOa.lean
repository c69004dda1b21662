import Derived.Test.YtneakjbkbmfleaaGreatDoorZR
import Derived.Deep.RegionLawGrows
set_option maxHeartbeats 40000000
set_option maxRecDepth 100000
open List renaming getElem?_eq_getElem->Y',length_map->XA,mem_of_getElem?->XB,getElem?_append_right->XH,getElem?_append_left->XI,drop_succ_cons->XJ,take_succ_cons->XK,getElem?_map->XL,map_append->XN,drop_zero->XO,take_zero->XP,length_cons->XR,sum_append->XS,getD_eq_getElem?_getD->XT,map_cons->XU,sum_cons->XV,map_map->XW,mem_of_mem_drop->XY,length_append->XZ,map_nil->X4,sum_nil->X6,all_eq_true->Wb,mem_range->WB,mem_map->WC
open Nat renaming le_trans->XC,le_refl->XD,zero_le->XE,le_succ->WD
open Go.RowKit.Below renaming refl->XF,heap_alloc->WA
open Go.World renaming news_of_block->XG,cell?_alloc_past->XX,cells?_some->X2,new_ne->X'
open Bool renaming and_eq_true->XM
open Array renaming getElem?_eq_none->XQ
namespace Go.Proofs.YtneakjbkbmfleaaGreatDoor
open Tryz RowKit Shelf Joins ChangeShapes WideShapes ChangeAt Deep
namespace F
variable{s:Ah}{l:List Aj}{x:J4}{a:A5}{H:List (Dn×Ah)}{k n:Nat}{v:Tv}{r:List V}{D:Td}{W w:Tw}{A:List A5}{e:Ending}{U:List Tb}
theorem uI(h:Good Bv Cm s):∀c∈s.cols,Nz (bP c):=λc b=>by
 rcases h.cols with e|e
 ·rw[e] at b;cases b
 have d:=(e.2.2.1 c b).1.2.2.2;simp only[Cm,XM] at d;have a:=d.1;unfold A9 at a;unfold Nz bP;split at a
 ·rename_i h;exact .inl h
 split at a
 ·rename_i h;exact .inr (.inl h)
 split at a
 ·rename_i h;exact .inr (.inr h)
 cases a
def AIX(D:DataW Unit)(s:Ah)(xs:List A6)(T:S.CT)(a:DataW Unit)(b:Bool)(A:List A5)(rows:Int):Prop :=
 s.cols≠[]/\Ex s.cols T=0/\a=D/\b=true/\A=xs.flatMap (Vm s.cols T)/\rows=(Bo s.cols T xs).1.length
def AIV(s:Ah)(T:S.CT):Prop:=s.cols=[]\/Ex s.cols T≠0
theorem Lo(w0:Tw)(R bb n:Nat)(D:Td)(fs:List Int)(mv G:Tv)(H:List (Dn×Ah))(U:List Tb)(tx:Tb)(N:Tv)(T:S.CT)(xs:List A6)(w:Tw)(h:iK w0 w R bb n D fs mv G H U tx)(I:C7 D (Ae H H.length) xs)(O:S.Gy w T N):
 Zc 11 #[Zp (some ⟨bb,0,none⟩),Zt tx,N] w (Kd w0 w R bb n D mv H tx (AIV (Ae H H.length) T) (AIX D (Ae H H.length) xs T)):=by
 have m:=Aa h;have d:=Aa (Wo bb n D mv H tx xs T N w h.base.ground (h.et.below h.base.low) (h.Pw.below h.base.low) h.inv.Lm h.inv.past h.O5 h.name h.short I.Lz O)
 have l:=Aa (λ(y:Nat)(o:To)(n1 c1:Nat)(z:Int)(p:To)(n2 q:Nat)(rows:Int)(X:Tv)W(J:Zb w W)(f:Ex (Ae H H.length).cols T=0)(t:Dv w.heap.size W y (Ae H H.length) (H.length:Int) o n1 c1 z p n2 q tx true none 0 [] rows)(r:Fp w.heap.size w.heap.size W X (Bo (Ae H H.length).cols T xs).1)=>mL w.heap.size bb n D mv y (Ae H H.length) (H.length:Int) o n1 c1 z p n2 q tx true none 0 [] rows w.heap.size X T xs W (h.base.ground.up J) ((h.et.below h.base.low).below J) ((h.Pw.below h.base.low).below J) t J.size I.Lz h.Of r.AJP (all_filter _ T (uI h.Of) O.ok f xs I.Lz.each).1 (XE _))
 clear h I O;unfold tK at d;generalize x:Ae H H.length=Y at *;have M:=Aa x;clear x;go_enter func11,ntmps11;go_wp2_with fail;refine d.o.mono ?_;rintro e w1⟨b,⟨f,rfl⟩|⟨f,j,rfl⟩|⟨f,P,y,v1,o,n1,c1,z,p,n2,q,rfl,t,r⟩⟩
 ·have g:=Aa b
  have L:=Aa f;clear f b d;go_wp2_with fail;go_ret2;exact⟨n,D,fs,mv,G,m.o.base.up g.o,by omega,B.A0.Ba g.o,λ_ e=>.inl e,.refl,.inr ⟨.inl L.o,_,_,rfl⟩⟩
 ·have g:=Aa b
  have L:=Aa j;rw[Et j];clear f b j d;go_wp2_with fail;go_ret2;exact⟨n,D,fs,mv,G,m.o.base.up g.o,by omega,B.A0.Ba g.o,λ_ e=>.inl e,.refl,.inr ⟨.inr L.o,_,_,rfl⟩⟩
 have k:=Aa b;have g:=Aa (And.intro f P);have HP:=Aa t;have i:=Aa (l.o y o n1 c1 z p n2 q _ v1 w1 b P t r)
 obtain⟨fa,fc,rfl,_⟩:∃a c,v1=Zs a (Bo Y.cols T xs).1.length c/\(Bo Y.cols T xs).1.length<=c:=by obtain⟨zs,_,e2,_⟩:=r;exact Au e2
 clear b f P t r d l;go_wp2_with fail;refine i.o.mono ?_;rintro e w2⟨rfl,⟨aa,ac,Lq,u,s⟩,v⟩;have H2:=Aa (And.intro u (And.intro s v));clear u s v i;go_wp2_with fail;go_ret2;have V:=(Mv.below (base:=w.heap.size) (bb:=bb) (mv:=mv) k.o).trans (Mv.ACV H2.o.2.2);refine⟨n,D,fs,mv,G,Kv (m.o.base.up k.o) m.o.nf m.o.base.low.size H2.o.2.2,by omega,V.o (XD _),V.link,.refl,.inl ⟨y,Lq,true,_,o,n1,c1,z,p,n2,q,aa,ac,rfl,by rw[M.o];exact H2.o.1,g.o.1,g.o.2,rfl,rfl,H2.o.2.1,rfl⟩⟩
theorem iD(path:Tb)(mask:List Int)(l:List Aj)(T:S.CT):∀(rs:List (List V))(p:Int),∀z∈Jw path mask l T p rs,z.2.2∈rs
 | [],_,z,a=>by cases a
 | r :: rs,p,z,a=>by
   simp only[Jw] at a;split at a
   ·rcases List.mem_cons.1 a with rfl|a
    ·exact Yf ..
    exact Yg _ (iD path mask l T rs _ z a)
   exact Yg _ (iD path mask l T rs _ z a)
theorem ADa{x:A6}{z:Px}(a:z∈E4 l x):z.2.2.length=l.length:=by obtain⟨q,_,e⟩:=List.mem_map.1 (iD _ _ _ _ _ _ z a);rw[<-e,XA]
theorem AC5{s t:Ah}(h:pQ Bx Bv Cm s a t)(d:Fh a)(b:∀c∈s.cols,Ib c):∀c∈t.cols,Ib c:=by
 rcases h with⟨_,_,rfl⟩|⟨_,_,rfl⟩|⟨_,_,rfl⟩|⟨_,_,rfl⟩
 ·exact b
 ·exact b
 ·exact b
 exact d.cols
theorem kL:∀{l:List A5}{s t:Ah},Il Bx Bv Cm s l t->(∀a∈l,Fh a)->(∀c∈s.cols,Ib c)->∀c∈t.cols,Ib c
 | [],_,_,h,_,hs=>by simp only[Il] at h;subst h;exact hs
 | a :: l,s,t,⟨u,h1,h2⟩,hl,hs=>kL h2 (λb d=>hl b (Yg _ d)) (AC5 h1 (hl a (Yf ..)) hs)
theorem gH:∀{s:Ah}{H:List (Dn×Ah)},Xv s H->(∀c∈s.cols,Ib c)->∀k,k<=H.length->∀c∈(Ic s (H.take k)).cols,Ib c
 | _,_,_,hs,0,_=>by simpa[Ic] using hs
 | _,x :: l,h,hs,k+1,hk=>by have:=gH (s:=x.2) (H:=l) h.2.2 (kL h.1.2 h.2.1.lines hs) k (by simpa using hk);simpa[Ic] using this
theorem Mq(h:La H)(b:k<=H.length):∀c∈(Ae H k).cols,Ib c:=gH h (λc a=>by cases a) k b
theorem AFe{c:Aj}{v:V}(h:Lx c v=true):v.2.2.size<=40:=by unfold Lx Cm at h;simp only[XM] at h;exact Go.Proofs.YtneakjbkbmfleaaGreatDoor.gA (k:=v.1) (n:=v.2.1) h.1
theorem AIe{L:List Aj}(d:∀v∈r,Ks v)(f:r.length=L.length)(b:∀c∈l,Ks (bP c)):∀v∈l.map (pick (By L) r),Ks v:=λv e=>by
 obtain⟨c,a,rfl⟩:=List.mem_map.1 e;rw[eV];unfold pick
 by_cases hp:pos L c.1<L.length
 ·rw[Yae hp,Y' (by omega)]
  exact d _ (Yh _)
 rw[Yad hp];exact b c a
theorem No{xs:List A6}(m:C7 D s xs)(t:Good Bv Cm s)(r:∀c∈s.cols,Ib c):∀z∈(Bo s.cols .nil xs).1,∀v∈z.2.2,Ks v/\v.2.2.size<=40:=λz p v i=>by
 rw[H9] at p;obtain⟨x,o,k⟩:=List.mem_flatMap.1 p;have d:=m.Lz.each x o;obtain⟨q,g,e⟩:=List.mem_map.1 (iD _ _ _ _ _ _ z k);have a:=kA (m.link x o) ((B4.mp d.ok).2.2.2 q g) (sM t);have h:=(O7.mp ((B4.mp d.ok).2.2.2 q g)).1;rw[<-e] at i;refine⟨AIe (d.i64 q g) h (λc b=>(r c b).num) v i,?_⟩;obtain⟨j,n,rfl⟩:=List.mem_iff_getElem.mp i;have f:j<s.cols.length:=by simpa using n
 have l:=((O7.mp a).2 j f).1;rw[Y' n] at l;exact AFe l
def VB(w:World)(base i:Nat):Prop:=base<=i/\∃cs,w.heap[i]? = some (.cells cs 57 (0,0))
theorem AFV{base:Nat}{a b c:Tw}(h:B.A0 (VB a base) a b)(k:B.A0 (VB b base) b c):B.A0 (VB a base) a c :=
 h.trans k λi g e=>by
  by_cases hs:VB a base i
  ·exact hs
  obtain⟨d,cs,f⟩:=e;exact⟨d,cs,(h.block i g hs).symm.trans f⟩
theorem Mf{base b z m:Nat}{T:TypeId}{xs:List Tv}(h:w.ownsRow b T z v m xs)(l:B.A0 (VB w base) w W)(k:T≠57):W.ownsRow b T z v m xs:=by
 refine⟨h.1,?_⟩
 rcases h.2 with j|⟨g,c,a,n,d,f,i⟩
 ·exact .inl j
 refine .inr ⟨g,c,a,n,d,(l.block g (Ac f) ?_).trans f,i⟩;rintro⟨_,cs,e⟩;rw[f] at e;injection e with e;injection e with _ e;exact k e
theorem uH{base:Nat}(d:B.A0 (VB w base) w W){w0:Tw}(b:Below base w0 w)(a:base<=w.heap.size):Below base w0 W:=d.below b a λ_ c=>c.1
theorem AHn{w0 w W:Tw}{k base bb n:Nat}{fs:List Int}{mv v:Tv}(h:Ey w0 w k bb n D fs mv v)(R:k<=base)(O:w0.heap.size<=base)(o:B.A0 (VB w base) w W):Ey w0 W k bb n D fs mv v:=by
 obtain⟨p,c,J⟩:=h.bu
 have r:¬VB w base bb:=by rintro⟨_,cs,b⟩;have q:w.heap[bb]? = _:=p;rw[q] at b;injection b with b;injection b with _ b;exact absurd b (by decide)
 refine⟨⟨p.keep (o.block bb p.lt r),c.keep λm e=>o.block m (c.lt e) ?_,?_⟩,o.below h.low h.low.size (λi hi=>XC O hi.1),h.hb,h.hm,h.er,h.nc,h.tb,h.hf⟩
 ·rintro⟨_,cs,b⟩
  rcases c with⟨I,_⟩|⟨T,z,es,clock,s,_⟩
  ·rw[I] at e;cases e
  rw[z] at e;cases e;rw[s] at b;cases b
 obtain⟨a,j,e,L,M⟩:=J;refine⟨a,j,e,L,λu=>?_⟩;obtain⟨g,off,t,d⟩:=M u;refine⟨g,off,t,λi x P=>?_⟩
 have N:g<k:=by
  cases hfs:fs with
  | nil=>exact absurd hfs u
  | cons y l=>refine h.hf g off l.length j ?_;rw[e,t,hfs];rfl
 have f:=d i x P;have G:=o.block g (Fv f) (λe=>by have:=e.1;omega);simp only[World.cell?,G] at f ⊢;exact f
theorem AH1{base b:Nat}{v:Int}{d:To}{n1 c1:Nat}{y:Int}{f:To}{n2 k:Nat}{tx:Tb}{l:Bool}{g:To}{i:Nat}{L:List Gx}{rows:Int}(h:Dv base w n s v d n1 c1 y f n2 k tx l g i L rows)(a:B.A0 (VB w b) w W):Dv base W n s v d n1 c1 y f n2 k tx l g i L rows:=by
 refine⟨(a.block n (Ac h.box) ?_).trans h.box,?_,Mf h.row a (by decide),λq j=>⟨Mf (h.own q j).1 a (by decide),Mf (h.own q j).2 a (by decide)⟩,h.Vv,h.low⟩
 ·rintro⟨_,cs,e⟩
  rw[h.box] at e;injection e with e;injection e with _ e;exact absurd e (by decide)
 obtain⟨o,r,p,t,m,e,c⟩:=h.snap;exact⟨o,r,p,t,m,e,Mf c.cols a (by decide),c.files,Mf c.row a (by decide),λx u=>Mf (c.Cl x u) a (by decide)⟩
theorem AJc{B0 b:Nat}{rs:List Px}(h:jE B0 w v rs)(e:B.A0 (VB w b) w W):jE B0 W v rs:=by obtain⟨zs,a,c,d⟩:=h;exact⟨zs,a,Mf c e (by decide),d⟩
theorem AIy{B0 base bb n:Nat}{fs:List Int}{mv u f:Tv}{rs:List Px}(h:jE B0 w v rs)(e:Mv base bb mv f w W)(d:B.Bu w bb n D fs mv u):jE B0 W v rs:=by obtain⟨zs,a,b,c⟩:=h;exact⟨zs,a,e.row d b (by decide) (by decide) (by decide),c⟩
theorem ABg{f:Nat->Option V}{v:V}(h:v∈tU f r):v∈r\/∃t,f t=some v:=by
 unfold tU at h;rw[List.mem_mapIdx] at h;obtain⟨i,a,e⟩:=h;cases hf:f i with
 | none=>rw[hf] at e;simp at e;left;rw[<-e];exact Yh _
 | some x=>rw[hf] at e;simp at e;exact .inr ⟨i,by rw[hf,e]⟩
def AIS(D:DataW Unit)(s:Ah)(xs:List A6)(tx:ByteArray)(T:S.CT)(A3:List Vi)(a:DataW Unit)(b:Bool)(A:List A5)(rows:Int):Prop :=
 s.cols≠[]/\Ex s.cols T=0/\b=true/\rows=(Bo s.cols T xs).1.length/\∃ts,Tgt s.cols A3 ts /\
  (((Bo s.cols T xs).1=[]/\a=D/\A=[]) \/
   ((Bo s.cols T xs).1≠[]/\∃R,R=(Bo s.cols T xs).1.map (λz=>tU (Ly ts (A3.map (·.2))) z.2.2)/\De s.cols R=true/\a=D.put (B.lit (Eh (Bw tx 0))) (Pa s.cols R)/\A=(1,Bw tx 0,(R.length:Int),[],[],0) :: xs.flatMap (Vm s.cols T)))
theorem xQ(w0:Tw)(NF bb n:Nat)(D:Td)(fs:List Int)(mv fv:Tv)(H:List (Dn×Ah))(U:List Tb)(tx:Tb)(cv:Tv)(T:S.CT)(xs:List A6)(sa:To)(sc:Nat)(A3:List Vi)(w:Tw)(h:iK w0 w NF bb n D fs mv fv H U tx)(hT:C7 D (Ae H H.length) xs)(hi:S.Gy w T cv)(hS:F7 4 Wu w (Zs sa A3.length sc) A3)(c7:A3.length<=100)(b4:∀s∈A3,s.2.2.2.size<=maxLen/\Lu s.2.2.1):
 Zc 38 #[Zp (some ⟨bb,0,none⟩),Zt tx,cv,Zs sa A3.length sc] w (Kd w0 w NF bb n D mv H tx True (AIS D (Ae H H.length) xs tx T A3)):=by
 have m:=Aa h;have bh:=Aa hT;have dd:=Aa hi;have aa:=Aa (Wo bb n D mv H tx xs T cv w h.base.ground (h.et.below h.base.low) (h.Pw.below h.base.low) h.inv.Lm h.inv.past h.O5 h.name h.short hT.Lz hi);have h8:=M9 h.Of;have bf:=Aa (λg cp W(hW:Zb w W)(hs:I1 W g 0 (Ae H H.length).cols)=>uA g cp (Ae H H.length).cols sa sc A3 W hs h8 (hS.up hW) c7);have cj:=Aa b4;have ci:=Aa hS;have a7:=Aa (L0 (Ae H H.length).cols T xs hT.Lz.each);have di:=hT.Lz.Iz;have av:=Aa (λ(l:Ex (Ae H H.length).cols T=0)=>(all_filter _ T (uI h.Of) hi.ok l xs hT.Lz.each).1);have a6:=Aa h.Of;have cb:=Aa (No hT h.Of (Mq h.inv.past (XD _)));clear h hT hi hS b4;unfold tK at aa;go_enter func38,ntmps38;go_wp2_with fail;refine aa.o.mono ?_;rintro e w1⟨L,⟨l,rfl⟩|⟨l,bz,rfl⟩|⟨l,hz,pb,v1,a1,n1,c1,x2,a2,n2,c2,rfl,hP,hF⟩⟩
 ·have M:=Aa L
  clear l L aa;go_wp2_with fail;go_ret2;exact⟨n,D,fs,mv,fv,m.o.base.up M.o,by omega,B.A0.Ba M.o,λ_ e=>.inl e,.refl,.inr ⟨trivial,_,_,rfl⟩⟩
 ·have M:=Aa L
  rw[Et bz];clear l L bz aa;go_wp2_with fail;go_ret2;exact⟨n,D,fs,mv,fv,m.o.base.up M.o,by omega,B.A0.Ba M.o,λ_ e=>.inl e,.refl,.inr ⟨trivial,_,_,rfl⟩⟩
 have a4:=Aa L;have M:=Aa (And.intro l hz);have HP:=Aa hP;have HF:=Aa hF
 obtain⟨fa,fc,rfl,_⟩:∃a c,v1=Zs a (Bo (Ae H H.length).cols T xs).1.length c/\(Bo (Ae H H.length).cols T xs).1.length<=c:=by obtain⟨zs,_,e2,_⟩:=hF;exact Au e2
 obtain⟨g,ga,am⟩:∃g,a1=some ⟨g,0,none⟩/\n1=(Ae H H.length).cols.length/\I1 w1 g 0 (Ae H H.length).cols:=by
  obtain⟨b1,d1,b2,d2,Ls,ev,hV⟩:=hP.snap;unfold K4 at ev;simp only[Value.agg.injEq,Array.mk.injEq,List.cons.injEq,Value.int.injEq,Value.slice.injEq] at ev;obtain⟨-,⟨e1,e2,e3⟩,-⟩:=ev
  rcases hV.cols.2 with⟨_,h0⟩|⟨g,ak,al,ev,_⟩
  ·exact absurd (Yag.1 h0) l
  injection ev with ac _ dg;subst ac;exact⟨g,e1,e2,I1.Fz hV.cols rfl⟩
 obtain⟨ct,am⟩:=am;subst ga ct;have ab:=Aa (bf.o g c1 w1 L am);obtain⟨y0,y1,y2,y3,y4,y5,y6,y7,yf⟩:=F2 hP.box;clear L l hz hP hF aa bf am;generalize b3:Ae H H.length=d at *;have ax:=Aa b3;clear b3;go_wp2_with fail;refine ab.o.mono ?_;rintro e w2⟨X,⟨ta,tc,ts,rfl,b7,b5⟩|⟨ta,tn,tc,T',y,rfl⟩⟩
 rotate_left
 ·have O:=Aa (Ap a4.o X)
  clear X ab y0 y1 y2 y3 y4 y5 y6 y7 yf;go_wp2_with fail;go_ret2;exact⟨n,D,fs,mv,fv,m.o.base.up O.o,by omega,B.A0.Ba O.o,λ_ e=>.inl e,.refl,.inr ⟨trivial,_,_,rfl⟩⟩
 have O:=Aa (Ap a4.o X);have an:=Aa b7;have f:=Aa b5;have aw:=Aa (HP.o.up X);have au:=Aa (HF.o.up X);clear X b7 b5 ab y0 y1 y2 y3 y4 y5 y6 y7 yf HP HF
 by_cases hem:(Bo d.cols T xs).1.length=0
 ·have ar:Hid ((Bo d.cols T xs).1=[]):=Aa (Yag.1 hem)
  have cy:(((Bo d.cols T xs).1.length:Nat):Int)=0:=by omega
  clear hem;go_wp2_with fail;go_ret2;exact⟨n,D,fs,mv,fv,m.o.base.up O.o,by omega,B.A0.Ba O.o,λ_ e=>.inl e,.refl,.inl ⟨pb,[],true,_,_,_,c1,x2,a2,n2,c2,none,0,rfl,by rw[ax.o];exact aw.o,M.o.1,M.o.2,rfl,rfl,ts,f.o,.inl ⟨ar.o,rfl,rfl⟩⟩⟩
 have ar:Hid ((Bo d.cols T xs).1≠[]):=Aa (λe=>hem (by rw[e];rfl));have cy:¬(((Bo d.cols T xs).1.length:Nat):Int)=0:=by omega
 have bm:=Aa (X7 _ _ _ _ w2 au.o (by have:=a7.o.2;omega));clear hem;go_wp2_with fail;refine bm.o.mono ?_;rintro e w3⟨v3,rfl,cx,af⟩;obtain⟨us,u1,u2,u3⟩:=cx;obtain⟨ra,rc,rfl,_⟩:=Au u2;have Y:=Aa (Ap O.o af);have bj:=Aa u1;have bk:=Aa u2;have cm:=Aa u3;have cf:=Aa (aw.o.up af);have b9:=Aa (au.o.up af);have ck:=Aa (Bc an.o af);clear af u1 u2 u3 bm aw au an
 have aq:Hid (∀r∈(Bo d.cols T xs).1.map (·.2.2),r.length=d.cols.length):=Aa (λr p=>by obtain⟨z,hz,rfl⟩:=List.mem_map.1 p;rw[av.o M.o.2,H9] at hz;obtain⟨x,_,hz⟩:=List.mem_flatMap.1 (List.mem_filter.1 hz).1;exact ADa hz)
 have G:Hid (((Bo d.cols T xs).1.map (·.2.2)).length=(Bo d.cols T xs).1.length):=Aa (XA ..);have df:Hid ((A3.map (·.2)).length=A3.length):=Aa (XA ..);have a9:Hid (vK w.heap.size w3 us ((Bo d.cols T xs).1.map (·.2.2)) (Ly ts (A3.map (·.2))) d.cols.length 0 (λ_=>True)):=Aa λj x r hx p=>⟨r,by rw[<-aq.o r (XB p)];exact cm.o j x r hx p,aq.o r (XB p),aq.o r (XB p),oI.refl _ _,(λh=>absurd h (Ym _)),λ_=>trivial⟩
 have c4:(Bo d.cols T xs).1.length<=100000:=by have:=a7.o.2;omega
 go_wp2_with fail
 go_loopw [53] (λvi wr=>∃k:Nat,k<=(Bo d.cols T xs).1.length/\vi=Zi (k:Int)/\Hid (vK w.heap.size wr us ((Bo d.cols T xs).1.map (·.2.2)) (Ly ts (A3.map (·.2))) d.cols.length k (λ_=>True))/\Hid (B.A0 (VB w3 w.heap.size) w3 wr)) (λvi _=>(Bo d.cols T xs).1.length-Ev vi)
 case atStart=>exact⟨0,XE _,rfl,a9,Aa (B.A0.refl _ _)⟩
 case round=>
  clear a9;obtain⟨k,hk,rfl,HR,P⟩:=hrel
  rcases Yc k (Bo d.cols T xs).1.length with bv|dl
  ·obtain⟨u,hu⟩:∃u,us[k]? = some u:=⟨_,Y' (by have:=bj.o;rw[G.o] at this;omega)⟩
   obtain⟨r,p⟩:∃r,((Bo d.cols T xs).1.map (·.2.2))[k]? = some r:=⟨_,Y' (by rw[G.o];exact bv)⟩;obtain⟨c0,q1,q2,_⟩:=HR.o k u r hu p;have dk:0<d.cols.length:=List.length_pos_iff.2 M.o.1
   obtain⟨g,ak,eu,bq⟩:∃g ak,u=Zs (some ⟨g,0,none⟩) d.cols.length ak/\w.heap.size<=g:=by
    rcases Di q1 with⟨_,e⟩|⟨g,c,e,hb,_⟩
    ·omega
    exact⟨g,c,e,hb⟩
   subst eu;have N:=Mf bk.o P.o (by decide);rw[G.o] at N
   obtain⟨rb,cu,dp,c6⟩:∃rb,ra=some ⟨rb,0,none⟩/\rb<wr.heap.size/\wr.cell? ⟨rb,k,none⟩=some (Zs (some ⟨g,0,none⟩) d.cols.length ak):=by
    rcases N.2 with⟨_,h0⟩|⟨rb,cp,al,ev,_,hh,_,_,_⟩
    ·omega
    injection ev with ac _ _;subst ac;have l:=N.cells (g:=rb) rfl;simp only[E.addr_add] at l;have:=l k _ hu;exact⟨rb,rfl,E.Ac hh,by simpa using this⟩
   subst cu;have c3:(k:Int)<((Bo d.cols T xs).1.length:Int):=by omega
   have bl:=Aa hu;have cd:=Aa bq;have c8:d.cols.length<=8:=h8;clear N q1 q2 p hu bq;have ba:Hid (vK w.heap.size wr us ((Bo d.cols T xs).1.map (·.2.2)) (Ly ts (A3.map (·.2))) d.cols.length k (λc=>∀(i t:Nat)v,i<0->ts[i]? = some t->(A3.map (·.2))[i]? = some v->c[t]? = some v)):=Aa (HR.o.imp λc _ i t v h=>absurd h (Ym _));go_wp2_with fail
   go_loopw [59] (λvi wi=>∃i:Nat,i<=A3.length/\vi=Zi (i:Int)/\Hid (vK w.heap.size wi us ((Bo d.cols T xs).1.map (·.2.2)) (Ly ts (A3.map (·.2))) d.cols.length k (λc=>∀(j t:Nat)v,j<i->ts[j]? = some t->(A3.map (·.2))[j]? = some v->c[t]? = some v))/\Hid (B.A0 (VB w3 w.heap.size) w3 wi)) (λvi _=>A3.length-Ev vi)
   case atStart=>exact⟨0,XE _,rfl,ba,P⟩
   case round=>
    clear ba HR P c6;rename_i wr0;obtain⟨i,dm,rfl,HR,P⟩:=hrel
    rcases Yc i A3.length with ao|c9
    ·obtain⟨x,hx⟩:∃x,A3[i]? = some x:=⟨_,Y' ao⟩
     obtain⟨t,ht⟩:∃t,ts[i]? = some t:=⟨_,Y' (by rw[f.o.len];exact ao)⟩;obtain⟨_,b6⟩:=f.o.find i t x ht hx;have ad:=uH P.o Y.o Y.o.size;obtain⟨b,off,cc,ev,_,dj,o⟩:=(ci.o.up ad).cons (by omega);injection ev with e1 _ e3;subst e1 e3;obtain⟨nm,vk,vn,vt⟩:=x;have s1:=o i _ hx 1 _ rfl;have s2:=o i _ hx 2 _ rfl;have s3:=o i _ hx 3 _ rfl;have a0:=Mf ck.o P.o (by decide)
     obtain⟨tb,cw,dq,dr⟩:∃tb,ta=some ⟨tb,0,none⟩/\tb<wr.heap.size/\wr.cell? ⟨tb,i,none⟩=some (Zi (t:Int)):=by
      rcases a0.2 with⟨_,h0⟩|⟨tb,cp,al,ev,_,hh,_,_,_⟩
      ·omega
      injection ev with ac _ _;subst ac;have l:=a0.cells (g:=tb) rfl;simp only[E.addr_add] at l;have:=l i (Zi (t:Int)) (by simp[ints,ht]);exact⟨tb,rfl,E.Ac hh,by simpa using this⟩
     subst cw;obtain⟨r,p⟩:∃r,((Bo d.cols T xs).1.map (·.2.2))[k]? = some r:=⟨_,Y' (by rw[G.o];exact bv)⟩;obtain⟨c0,q1,q2,_⟩:=HR.o k _ r bl.o p;have cz:(E.A1 c0).length=d.cols.length*3:=by rw[E.K3,q2]
     obtain⟨z0,dt⟩:∃z,wr.cell? ⟨g,t*3,none⟩=some z:=by rw[q1.cellAt (t*3) (by omega)];exact⟨_,Y' (by omega)⟩
     obtain⟨z1,du⟩:∃z,wr.cell? ⟨g,t*3+1,none⟩=some z:=by rw[q1.cellAt (t*3+1) (by omega)];exact⟨_,Y' (by omega)⟩
     obtain⟨z2,dv⟩:∃z,wr.cell? ⟨g,t*3+2,none⟩=some z:=by rw[q1.cellAt (t*3+2) (by omega)];exact⟨_,Y' (by omega)⟩
     have f0:=q1.frozenAt (t*3);have f1:=q1.frozenAt (t*3+1);have f2:=q1.frozenAt (t*3+2)
     have ay:Hid (VB wr w.heap.size g):=Aa (by obtain⟨al,l⟩:=Go.Proofs.YtneakjbkbmfleaaGreatDoor.Ho q1 (k:=g) rfl;exact⟨cd.o,al,l⟩)
     have bi:Hid (Ly ts (A3.map (·.2)) t=some (vk,vn,vt)):=Aa (AD5 f.o.once ht (by simp[hx]));have cl:=Aa ht;have bt:(i:Int)<(A3.length:Int):=by omega
     have ds:(t:Int)<(d.cols.length:Int):=by omega
     have dc:(0:Int)<=(t:Int):=by omega
     have db:(0:Int)<=(i:Int):=by omega
     have bg:=Aa b6;clear o a0 hx ht b6 p q1 q2 cz ad;go_wp2;refine⟨⟨i+1,by omega,by simp,Aa (HR.o.store bl.o bg.o bi.o λc l hP j t' v' hj h1 h2=>?_),Aa (AFV P.o ((((B.A0.refl _ _).setCell (λ_=>ay.o) _).setCell (λ_=>ay.o) _).setCell (λ_=>ay.o) _))⟩,by simp only[Ev];omega⟩;have b8:=AD5 f.o.once h1 h2
     by_cases e:t=t'
     ·subst e
      rw[bi.o] at b8;rw[Yi (by rw[l];exact bg.o)];exact b8
     rw[Yp e];refine hP j t' v' ?_ h1 h2
     rcases Yc j i with bw|da
     ·exact bw
     have:j=i:=by omega
     subst this;rw[cl.o] at h1;injection h1 with h1;exact absurd h1 e
    have bt:¬(i:Int)<(A3.length:Int):=by omega
    have br:i=A3.length:=by omega
    have bc:=Aa ((HR.o.imp (P':=λc=>∀(j t:Nat)v,ts[j]? = some t->(A3.map (·.2))[j]? = some v->c[t]? = some v) λc l j t v h1 h2=>l j t v (by rw[br,<-f.o.len];exact Ax h1) h1 h2).next (P':=λ_=>True) λ_=>trivial);clear br;go_wp2
    go_roundw
    case rel=>exact⟨k+1,by omega,by simp,bc,P⟩
    case measure=>simp only[Ev];omega
  have c3:¬(k:Int)<((Bo d.cols T xs).1.length:Int):=by omega
  have bs:k=(Bo d.cols T xs).1.length:=by omega
  have bd:Hid (Sc w2.heap.size wr (Zs ra ((Bo d.cols T xs).1.map (·.2.2)).length rc) (((Bo d.cols T xs).1.map (·.2.2)).map (tU (Ly ts (A3.map (·.2)))))):=Aa (vK.rows (by rw[G.o,<-bs];exact HR.o) bj.o (Mf bk.o P.o (by decide)));have ad:=uH P.o Y.o Y.o.size;have ah:=Aa ad;have a5:=Aa (AHn (m.o.base.up Y.o) m.o.nf m.o.base.low.size P.o);have cg:=Aa (AH1 cf.o P.o);have ca:=Aa (AJc b9.o.AJP P.o);obtain⟨R,ae⟩:∃R,((Bo d.cols T xs).1.map (·.2.2)).map (tU (Ly ts (A3.map (·.2))))=R:=⟨_,rfl⟩;rw[ae,G.o] at bd;have ch:=Aa ae;have J:R.length=(Bo d.cols T xs).1.length:=by rw[<-ae,XA,G.o]
  have bc:=Aa J
  have ag:∀r∈R,∀v∈r,Ks v/\v.2.2.size<=maxLen:=λr p v hv=>by
   rw[<-ae] at p;obtain⟨q,hq,rfl⟩:=List.mem_map.1 p;obtain⟨z,hz,rfl⟩:=List.mem_map.1 hq
   rcases ABg hv with h|⟨t,h⟩
   ·rw[av.o M.o.2] at hz
    have:=cb.o z (List.mem_filter.1 hz).1 v h;exact⟨this.1,by have:=this.2;unfold maxLen;omega⟩
   obtain⟨i,_,h2⟩:=bI h;rw[XL] at h2;cases hs:A3[i]? with
   | none=>rw[hs] at h2;cases h2
   | some x=>rw[hs] at h2;simp at h2;have:=cj.o x (XB hs);rw[h2] at this;exact⟨this.2,this.1⟩
  have aj:=Aa (bK w0 NF w.heap.size bb n D fs mv fv pb d (H.length:Int) _ _ c1 x2 a2 n2 c2 tx true none 0 [] _ _ R wr a5.o m.o.nf m.o.base.low.size (by have:=m.o.Iz;omega) m.o.inv.Lm.1 cg.o ah.o.size a6.o m.o.et bd.o.slr (by rw[J];exact c4) (λr p v hv=>(ag r p v hv).2) (λr p v hv=>(ag r p v hv).1) m.o.short (XE _) (m.o.free 0));unfold AIr at aj;clear bs ad ag ae J;go_wp2_with fail;refine aj.o.mono ?_;rintro e w5⟨n5,D5,dh,a3,bn,I,dn,V,⟨rfl,hm,hf,rfl,rfl,co,cr,az⟩|⟨T5,x5,rfl,rfl,c5⟩⟩
  ·have ai:=Aa ((Mv.below (base:=w.heap.size) ah.o).trans V)
   have ap:=Aa I;have de:=Aa az;have ce:=Aa hm;have cn:=Aa (XC ah.o.size V.only.size);have a8:=Aa (mL w.heap.size bb n5 _ a3 pb d (H.length:Int) _ _ c1 x2 a2 n2 c2 tx true co cr _ _ _ _ T xs w5 I.ground (m.o.et.below I.low) (m.o.Pw.below I.low) az cn.o (by rw[<-ax.o] at bh ⊢;exact bh.o.Lz.put (m.o.free 0) _) a6.o (AIy ca.o V a5.o.bu) (av.o M.o.2) (by simp));clear I V hm hf az aj;go_wp2_with fail;refine a8.o.mono ?_;rintro e w6⟨rfl,⟨cq,cs,Lq,bp,bo⟩,b0⟩;have H6:=Aa (And.intro bp (And.intro bo b0));clear bp bo b0 a8;go_wp2_with fail;go_ret2;have bx:=ai.o.trans (Mv.ACV H6.o.2.2);refine⟨n5,_,_,a3,bn,Kv ap.o m.o.nf m.o.base.low.size H6.o.2.2,by omega,bx.o (XD _),bx.link,.put 0 _ .refl (m.o.free 0),.inl ⟨pb,_,true,_,_,_,c1,x2,a2,n2,c2,cq,cs,rfl,by rw[ax.o];exact H6.o.1,M.o.1,M.o.2,rfl,rfl,ts,f.o,.inr ⟨ar.o,R,?_,ce.o,rfl,?_⟩⟩⟩
   ·rw[<-ch.o,XW];rfl
   rw[XN,H6.o.2.1];rfl
  have ai:=Aa ((Mv.below (base:=w.heap.size) ah.o).trans V);have ap:=Aa I;clear I V c5 aj;go_wp2_with fail;go_ret2;exact⟨n5,_,_,a3,bn,ap.o,by omega,ai.o.o (XD _),ai.o.link,.refl,.inr ⟨trivial,_,_,rfl⟩⟩
def n60(n:Nat):Nat:=(n+59) / 60
def Gg(rows:List (List V))(k:Nat):List (List V):=(rows.drop (60*k)).take 60
def Gd(rows:List (List V)):List (List (List V)):=(List.range (n60 rows.length)).map (Gg rows)
theorem Oz(rows:List (List V)):(Gd rows).length=n60 rows.length:=by simp[Gd]
theorem bU{rows:List (List V)}(h:k<n60 rows.length):1<=(Gg rows k).length/\(Gg rows k).length<=60:=by unfold n60 at h;simp only[Gg,List.length_take,List.length_drop];omega
theorem Xj{rows p:List (List V)}(h:p∈Gd rows):1<=p.length/\p.length<=60/\∀r∈p,r∈rows:=by simp only[Gd,WC,WB] at h;obtain⟨k,a,rfl⟩:=h;have:=bU a;exact⟨this.1,this.2,λr b=>XY (Yk b)⟩
structure AJH(A:List A5):Prop where
 Iz:A.length<=100
 ints:∀a∈A,Ints a
 kind:A.length<=12\/∀a∈A,a.1=1\/a.1=2\/a.1=3
theorem AAX(h:Fh a)(f:a.1=1\/a.1=2\/a.1=3):(F3 a).size<=3000:=by
 have j:=h.path;have k:=Dw h.rows;unfold F3
 rcases f with e|e|e
 ·rw[Yae e]
  simp only[Ea];have:(⟨#[97,100,100,32]⟩:Tb).size=4:=rfl;have:(⟨#[32]⟩:Tb).size=1:=rfl;omega
 ·rw[Yad (by omega),Yae e]
  simp only[Ea];have:(⟨#[114,101,109,111,118,101,32]⟩:Tb).size=7:=rfl;omega
 rw[Yad (by omega),Yad (by omega),Yae e];simp only[Ea]
 have d:=Jh (b:=21) (xs:=a.2.2.2.1.map Bm) (sep:=⟨#[44]⟩) (λx g=>by obtain⟨y,i,rfl⟩:=List.mem_map.1 g;exact Dw (h.mask y i))
 have:(⟨#[109,97,115,107,32]⟩:Tb).size=5:=rfl;have:(⟨#[32]⟩:Tb).size=1:=rfl;have c:(⟨#[44]⟩:Tb).size=1:=rfl;have l:=h.Iz;rw[XA,c] at d;omega
theorem X9:∀{l:List A5},(∀a∈l,Fh a/\(a.1=1\/a.1=2\/a.1=3))->(Ed l).length<=l.length*3001
 | [],_=>by simp[Ed]
 | a :: l,h=>by
   have f:=AAX (h a (Yf ..)).1 (h a (Yf ..)).2;have g:=X9 (l:=l) (λb d=>h b (Yg _ d))
   have e:(Ed (a :: l)).length=(F3 a).data.toList.length+1+(Ed l).length:=by simp only[Ed,List.flatMap_cons,XZ,XR,List.length_nil]
   have c:(F3 a).data.toList.length=(F3 a).size:=by simp
   rw[e,c,XR,Y2];omega
theorem lV{tx:Tb}{b:Bool}(d:AJH A)(h:Cv (tx,b,A)=true):0<(C6 (tx,b,A)).size/\(C6 (tx,b,A)).size<=1000000:=by
 have g:∀a∈A,Fh a:=λa c=>by simp only[Cv,XM,Wb] at h;exact Qb (h.2 a c) (d.ints a c)
 rcases d.kind with f|f
 ·exact ACx h g f
 have e:(C6 (tx,b,A)).size=(I4 tx b).size+(Ed A).length:=by show (Nn (tx,b,A)).toArray.size=_;rw[List.size_toArray,Nn,XZ,Gm]
 simp only[Cv,XM] at h;have i:=Ri b (XC (Hh h.1) (by decide));have j:=X9 (l:=A) (λa c=>⟨g a c,f a c⟩);have m:=d.Iz
 have k:0<(I4 tx b).size:=by unfold I4;have e9:(⟨#[10]⟩:Tb).size=1:=rfl;rw[Ea,e9];omega
 omega
theorem AG0{w0 w:Tw}{k bb n:Nat}{fs:List Int}{mv:Tv}{C:Dn}{j:Nat}(h:Jy w0 w k bb n D fs mv C H j e W):∃v a,e=Zr (Zu #[v,a])/\Hid (Jy w0 w k bb n D fs mv C H j (Zr (Zu #[v,a])) W):=by
 have b:=h;obtain⟨n',g,c,f,d,_,_,_,_,⟨t,rfl,_⟩|⟨i,x,rfl,_⟩⟩:=h
 ·exact⟨_,_,rfl,Aa b⟩
 exact⟨_,_,rfl,Aa b⟩
def DoP(w0 w:World)(b bb n:Nat)(D:DataW Unit)(fs:List Int)(mv:Value)(C:Dn)(H:List (Dn×Ah))(j:Nat)(e:Ending)(a:World):Prop :=
 (C.2.2=[]/\e=.returned (.tuple #[Zi (j:Int),.nilIface])/\Zb w a)\/(C.2.2≠[]/\∃W,Zb w W/\Jy w0 W b bb n D fs mv C H j e a)
theorem AHB(w0:Tw)(g base bb n:Nat)(D:Td)(fs:List Int)(mv z:Tv)(H:List (Dn×Ah))(j:Nat)(M:Nat)(q:To)(n1 c1:Nat)(y:Int)(r:To)(n2 s:Nat)(tx:Tb)(o:Bool)(i:To)(k:Nat)(L:List Gx)(rows:Int)(w:Tw)(h:Ey w0 w g bb n D fs mv z)(u:g<=w.heap.size)(O:n<=90000)(I:U6 D H)(J:La H)(O5:H.length<=40)(N:j<=H.length)(d:Dv base w M (Ae H j) (j:Int) q n1 c1 y r n2 s tx o i k L rows)(m:AJH (L.map (·.1)))(x:tx.size<=60):
 Zc 13 #[Zp (some ⟨bb,0,none⟩),Zp (some ⟨M,0,none⟩)] w (DoP w0 w g bb n D fs mv (tx,o,L.map (·.1)) H j):=by
 have G:Dt w (Zs i L.length k) (L.map (·.1)):=sP (base:=0) (E.Ai d.row (XE _)) d.own d.Vv;have c:=Aa (λW(l:Zb w W)=>AHx w0 g bb n D fs mv z tx o (L.map (·.1)) i L.length k H j q n1 c1 y r n2 s W (h.up l) (XC u l.size) O I J O5 N (d.snap.up l) (G.below l) m.Iz (lV m) x (λa ha hr=>Qb hr (m.ints a ha)));obtain⟨P,R,T,U,V,X,Y,y7,yf⟩:=F2 d.box;clear h I J d m G
 by_cases hL:L.length=0
 ·have p:Hid (L=[]):=Aa (Yag.1 hL)
  have t:((L.length:Nat):Int)=0:=by omega
  clear hL c;go_enter func13,ntmps13;go_wp2_with fail;go_ret2;exact .inl ⟨by rw[p.o];rfl,rfl,XF _ _⟩
 have p:Hid (L.map (·.1)≠[]):=Aa (λe=>hL (by have:=congrArg List.length e;simpa using this));have t:¬((L.length:Nat):Int)=0:=by omega
 have f:Hid (∀args w,(callFunc 30 args).run prog w=.ok (.enter 30 args) w):=Aa (enters_of func30 (by kernel_rfl) rfl);have b:=Aa ((c.o w.drew ((XF _ _).drew)).mono λe w'=>AG0);unfold K4 at b;clear hL c;go_enter func13,ntmps13;go_wp2_with fail
 go_region_law
  (first
    | (refine Nh (by rfl) 30 (.tmp 23) (.tmp 27) (.tmp 31) 26 42 63 (by rfl) (Zp (some ⟨bb,0,none⟩)) (Zg #[Zi (j:Int),Zs q n1 c1,Zi y,Zs r n2 s]) (Zg #[Zt tx,Zo o,Zs i L.length k]) (by rfl) (by rfl) (by rfl) f.o _ b.o ?_
       rintro e w2⟨v,er,rfl,H2⟩;refine⟨_,rfl,?_⟩)
    | fail)
 all_goals
  clear b f P R T U V X Y y7 yf;go_wp2;go_ret2;exact .inr ⟨p.o,w.drew,(XF _ _).drew,H2.o⟩
def Km(tx:ByteArray)(l:List Aj):Nat->List (List (List V))->DataW Unit->DataW Unit
 | _,[],D=>D
 | k,p :: ps,D=>Km tx l (k+1) ps (D.put (B.lit (Eh (Bw tx k))) (Pa l p))
def N5(tx:ByteArray)(k:Nat)(a:List (List (List V))):List A5:=(a.zipIdx k).map λq=>(1,Bw tx q.2,(q.1.length:Int),[],[],0)
def Tog(s:Ah)(n:Nat):Prop:=(∀e∈s.files,e.2.2=[])/\s.files.length<=n60 n
def AEz(D:DataW Unit)(s:Ah)(xs:List A6)(tx:ByteArray)(a:DataW Unit)(b:Bool)(A:List A5)(rows:Int):Prop :=
 s.cols≠[]/\b=true/\rows=(Bo s.cols .nil xs).1.length /\
  ((Tog s (Bo s.cols .nil xs).1.length/\a=D/\A=[]) \/
   (¬Tog s (Bo s.cols .nil xs).1.length/\(∀p∈Gd (Fc s.cols xs),De s.cols p=true)/\a=Km tx s.cols 0 (Gd (Fc s.cols xs)) D/\A=(s.files.map λe=>((2,e.1,0,[],[],0):A5))++N5 tx 0 (Gd (Fc s.cols xs))))
def Mw:Prop:=∀(w0:World)(a bb n:Nat)(D:DataW Unit)(fs:List Int)(mv b:Value)(H:List (Dn×Ah))(U:List ByteArray)(tx:ByteArray)(xs:List A6)(w:World),iK w0 w a bb n D fs mv b H U tx->C7 D (Ae H H.length) xs ->
 Zc 39 #[.pointer (some ⟨bb,0,none⟩),.string tx] w (Kd w0 w a bb n D mv H tx True (AEz D (Ae H H.length) xs tx))
def nK:Aj:=(0,⟨#[]⟩,0,false,0,0,⟨#[]⟩)
def V7(D:DataW Unit)(s:Ah)(xs:List A6)(tx:ByteArray)(x:J4)(a:DataW Unit)(b:Bool)(A:List A5)(rows:Int):Prop :=
 (x.Qk=0/\AIP D s x.cols a b A rows)\/(x.Qk=1/\AId D s x.change (x.cols.headD nK) x.name x.tw a b A rows)\/(x.Qk=2/\AIO D s tx x.rows a b A rows) \/
 (x.Qk=3/\∃T,x.tree T/\AIX D s xs T a b A rows)\/(x.Qk=4/\∃T,x.tree T/\AIS D s xs tx T x.A3 a b A rows)\/((x.Qk<0\/4<x.Qk)/\AEz D s xs tx a b A rows)
def AB0(s:Ah)(fs:List Int)(x:J4):Prop:=(x.Qk=0->AIU s x.cols)/\(x.Qk=2->AGF s fs x.rows)/\(x.Qk=3->∃T,x.tree T/\AIV s T)
structure AA5(x:J4):Prop where
 cols:∀c∈x.cols,Vp c
 Iz:x.cols.length<=20
 rows:K9 x.rows
 ADp:x.rows.length<=100
 A3:∀s∈x.A3,Ks s.2
theorem mB:∀(k:Nat)(l:List Aj),(∀c∈l,Vp c)->k+l.length<=1000->∀c∈Nl k l,Vp c
 | _,[],_,_,c,a=>by cases a
 | k,d :: l,h,hk,c,a=>by
   simp at hk
   rcases List.mem_cons.1 a with rfl|a
   ·exact⟨⟨by show -9223372036854775808<=(k:Int);omega,by show (k:Int)<=9223372036854775807;omega⟩,(h d (Yf ..)).2⟩
   exact mB (k+1) l (λe b=>h e (Yg _ b)) (by omega) c a
theorem Jg{n:Int}(a : -1000000<=n)(b:n<=1000000):Lu n:=⟨by omega,by omega⟩
theorem AAl{xs:List A6}(d:C7 D s xs)(f:Good Bv Cm s)(T:S.CT):(∀a∈xs.flatMap (Vm s.cols T),Ints a/\(a.1=1\/a.1=2\/a.1=3))/\(xs.flatMap (Vm s.cols T)).length<=40:=by
 refine⟨λa b=>?_,?_⟩
 ·obtain⟨x,g,b⟩:=List.mem_flatMap.1 b
  have e:x.1∈s.files:=by rw[<-d.Lz.files];exact List.mem_map.2 ⟨x,g,rfl⟩
  have j:=(O6 s.cols T x (d.rows x g)).1;have i:=f.rows _ e;unfold Vm at b;split at b
  ·cases b
  split at b
  ·simp at b;subst b
   exact⟨⟨Im,(λy c=>by cases c),(λy c=>by cases c),Im⟩,.inr (.inl rfl)⟩
  simp at b;subst b;refine⟨⟨Im,λy c=>?_,(λy c=>by cases c),Im⟩,.inr (.inr rfl)⟩;have:=j.2 y c;exact Jg (by omega) (by omega)
 have k:=rV s.cols T xs;have h:=congrArg List.length d.Lz.files;rw[XA] at h;have:=f.Iz;omega
theorem AH5{α:Type}{l:List α}{q:α×Nat}(h:q∈l.zipIdx k):q.1∈l:=by have:=Y1 (f:=Prod.fst) h;rwa[List.zipIdx_map_fst] at this
theorem nH{m:Nat}(h:n<=60*m):n60 n<=m:=by unfold n60;omega
theorem aN{xs:List A6}(a:C7 D s xs)(c:Good Bv Cm s)(T:S.CT):(Bo s.cols T xs).1.length<=60*40:=by have d:=(L0 s.cols T xs a.Lz.each).2;have b:=congrArg List.length a.Lz.files;rw[XA] at b;have:=c.Iz;have:60*xs.length<=60*40:=Nat.mul_le_mul_left _ (by omega);omega
theorem AEj{v:Td}{xs:List A6}{tx:Tb}{J:Bool}{rows:Int}(o:C7 D s xs)(n:Good Bv Cm s)(p:∀c∈s.cols,Ib c)(M:0<=s.next/\s.next<=1000)(r:AA5 x)(h:V7 D s xs tx x v J A rows):AJH A:=by
 have uB:∀c∈s.cols,Vp c:=λc h=>⟨(p c h).id,(p c h).kind,(p c h).num⟩
 rcases h with⟨_,_,_,_,_,rfl,_⟩|⟨_,_,⟨l',u,j,rfl⟩,_⟩|⟨_,_,g,_,_,rfl,_⟩|⟨_,T,_,_,_,_,_,rfl,_⟩|⟨_,T,_,_,_,_,_,ts,_,⟨_,_,rfl⟩|⟨_,R,rfl,g,_,rfl⟩⟩|⟨_,_,_,_,⟨_,_,rfl⟩|⟨_,_,_,rfl⟩⟩
 ·have:=r.Iz
  exact⟨by simp,λa b=>by simp at b;subst b;exact⟨Im,(λy f=>by cases f),mB 1 x.cols r.cols (by omega),Jg (by show (-1000000:Int)<=((x.cols.length+1:Nat):Int);omega) (by show ((x.cols.length+1:Nat):Int)<=1000000;omega)⟩,.inl (by simp)⟩
 ·refine⟨by simp,λa b=>?_,.inl (by simp)⟩
  simp at b;subst b;have i:=rQ j;refine⟨Im,(λy f=>by cases f),λc d=>?_,Jg (by show (-1000000:Int)<=u;omega) (by show u<=1000000;omega)⟩
  rcases j with⟨_,_,rfl,_⟩|⟨_,k,_,_,_,rfl,_⟩|⟨_,k,_,t,_,_,rfl,_⟩
  ·rcases List.mem_append.1 d with d|d
   ·exact uB c d
   rw[List.mem_singleton.1 d]
   have G:Vp (x.cols.headD nK):=by
    cases hxc:x.cols with
    | nil=>exact⟨⟨by decide,by decide⟩,⟨by decide,by decide⟩,⟨by decide,by decide⟩⟩
    | cons y l=>exact r.cols y (by rw[hxc];exact Yf ..)
   exact⟨Jg (by show (-1000000:Int)<=s.next;omega) (by show s.next<=1000000;omega),G.2⟩
  ·rcases List.mem_append.1 d with d|d
   ·exact uB c (Yk d)
   exact uB c (XY d)
  rcases Yr d with d|rfl
  ·exact uB c d
  exact(show Vp (rR s.cols[k]! _) from⟨(uB s.cols[k]! (Jj t)).1,(uB s.cols[k]! (Jj t)).2⟩)
 ·have:=(B4.mp g).2.2.1
  exact⟨by simp,λa b=>by simp at b;subst b;exact⟨Jg (by show (-1000000:Int)<=((x.rows.length:Nat):Int);omega) (by show ((x.rows.length:Nat):Int)<=1000000;omega),(λy f=>by cases f),(λy f=>by cases f),Im⟩,.inl (by simp)⟩
 ·obtain⟨i,w⟩:=AAl o n T
  exact⟨by omega,λa b=>(i a b).1,.inr λa b=>(i a b).2⟩
 ·exact⟨by simp,(λa b=>by cases b),.inl (by simp)⟩
 ·obtain⟨i,w⟩:=AAl o n T
  have z:=(B4.mp g).2.2.1;refine⟨by rw[XR];omega,λa b=>?_,.inr λa b=>?_⟩
  ·rcases List.mem_cons.1 b with rfl|b
   ·exact⟨Jg (Yab (by decide) (Int.natCast_nonneg _)) (Yab (Int.ofNat_le.2 z) (by decide)),(λy f=>by cases f),(λy f=>by cases f),Im⟩
   exact(i a b).1
  rcases List.mem_cons.1 b with rfl|b
  ·exact .inl rfl
  exact(i a b).2
 ·exact⟨by simp,(λa b=>by cases b),.inl (by simp)⟩
 have L:n60 (Fc s.cols xs).length<=40:=nH (by unfold Fc;rw[XA];exact aN o n .nil)
 have m:∀a∈(s.files.map λe=>((2,e.1,0,[],[],0):A5))++N5 tx 0 (Gd (Fc s.cols xs)),Ints a/\(a.1=1\/a.1=2\/a.1=3):=λa b=>by
  rcases List.mem_append.1 b with b|b
  ·obtain⟨e,_,rfl⟩:=List.mem_map.1 b
   exact⟨⟨Im,(λy f=>by cases f),(λy f=>by cases f),Im⟩,.inr (.inl rfl)⟩
  obtain⟨q,I,rfl⟩:=List.mem_map.1 b;have N:=Xj (AH5 I);exact⟨⟨Jg (by show (-1000000:Int)<=((q.1.length:Nat):Int);omega) (by show ((q.1.length:Nat):Int)<=1000000;omega),(λy f=>by cases f),(λy f=>by cases f),Im⟩,.inl rfl⟩
 refine⟨?_,λa b=>(m a b).1,.inr λa b=>(m a b).2⟩;have:=n.Iz;simp[N5,Oz];omega
theorem uX(tx:Tb)(l:List Aj):∀(a:List (List (List V)))(k:Nat)(D:Td),Maps.IsMap D->Maps.IsMap (Km tx l k a D)
 | [],_,_,h=>h
 | _ :: a,k,_,h=>uX tx l a (k+1) _ (h.put _ _)
theorem lU(tx:Tb)(b:Plain tx)(l:List Aj):∀(a:List (List (List V)))(k:Nat)(D:Td)(x:A6),(∀j,k<=j->j<=1000000->x.1.1≠Bw tx j)->k+a.length<=1000000->Gt D x->Gt (Km tx l k a D) x
 | [],_,_,_,_,_,h=>h
 | p :: a,k,D,x,hne,hk,h=>by simp at hk;exact lU tx b l a (k+1) _ x (λj c=>hne j (by omega)) (by omega) (h.AFx (λe=>hne k (XD _) (by omega) e.symm) _)
theorem ABh(tx:Tb)(c:Plain tx)(g:tx.size<=12)(l:List Aj):∀(a:List (List (List V)))(k:Nat)(D:Td),Maps.IsMap D->k+a.length<=1000->(∀p∈a,De l p=true/\K9 p)->∀q∈a.zipIdx k,Gt (Km tx l k a D) (((Bw tx q.2,(q.1.length:Int),[]),l,q.1):A6)
 | [],_,_,_,_,_,q,b=>by cases b
 | p :: a,k,D,hD,hk,h,q,b=>by
   simp at hk;rw[List.zipIdx_cons] at b
   rcases List.mem_cons.1 b with rfl|b
   ·refine lU tx c l a (k+1) _ _ (λj i d e=>?_) (by omega) (bD hD (h p (Yf ..)).1 (h p (Yf ..)).2 ?_)
    ·have:=(S5 c c e).2 (by omega) d
     omega
    have:=Vu tx k (by omega);show (Bw tx k).size<=1000;omega
   exact ABh tx c g l a (k+1) _ (hD.put _ _) (by omega) (λy f=>h y (Yg _ f)) q b
theorem AHC(tx:Tb)(k:Nat)(a:List (List (List V))):N5 tx k a=((a.zipIdx k).map λq=>(Bw tx q.2,(q.1.length:Int))).map λe=>((1,e.1,e.2,[],[],0):A5):=by unfold N5;rw[XW];rfl
theorem mS(path:Tb)(mask:List Int)(l:List Aj)(T:S.CT)(c:List Aj):∀(b:List (List (List V)))(f:Int),∀z∈(Oe path mask l T c f b).1,∃p∈b,∃q∈p,z.2.2=l.map (pick c q)
 | [],_,z,a=>by cases a
 | p :: b,f,z,a=>by
   simp only[Oe] at a;split at a
   ·rcases List.mem_append.1 a with a|a
    ·obtain⟨q,i,e⟩:=List.mem_map.1 (iD _ _ _ _ _ _ z a)
     exact⟨p,Yf ..,q,i,e.symm⟩
    obtain⟨g,d,h⟩:=mS path mask l T c b _ z a;exact⟨g,Yg _ d,h⟩
   obtain⟨g,d,h⟩:=mS path mask l T c b _ z a;exact⟨g,Yg _ d,h⟩
theorem uQ(l:List Aj)(T:S.CT):∀(xs:List A6),∀z∈(Bo l T xs).1,∃x∈xs,∃q∈x.2.2,z.2.2=l.map (pick (By x.2.1) q)
 | [],z,a=>by cases a
 | x :: xs,z,a=>by
   simp only[Bo] at a
   rcases List.mem_append.1 a with a|a
   ·unfold N9 at a
    obtain⟨p,b,q,c,e⟩:=mS _ _ _ _ _ _ _ z a;exact⟨x,Yf ..,q,(Ij b).2.2 q c,e⟩
   obtain⟨y,d,h⟩:=uQ l T xs z a;exact⟨y,Yg _ d,h⟩
theorem ADx{xs:List A6}(g:C7 D s xs)(h:∀c∈s.cols,Ib c){T:S.CT}:∀z∈(Bo s.cols T xs).1,∀v∈z.2.2,Ks v:=λz j v f=>by
 obtain⟨x,i,q,d,e⟩:=uQ s.cols T xs z j;have b:=g.Lz.each x i;rw[e] at f;exact AIe (b.i64 q d) (O7.mp ((B4.mp b.ok).2.2.2 q d)).1 (λc a=>(h c a).num) v f
theorem AI2{D D':Td}{s t:Ah}{xs:List A6}{tx:Tb}{rd:Bool}{rows:Int}(U:Maps.IsMap D)(a:C7 D s xs)(b:Good Bv Cm s)(hc:∀c∈s.cols,Ib c)(hp:Plain tx)(hz:tx.size<=12)(w:∀k,Maps.has D (B.lit (Eh (Bw tx k)))=false)(hx:AA5 x)(h:V7 D s xs tx x D' rd A rows)(o:Bi s (tx,rd,A) t)(hA:A≠[]):∃ys,C7 D' t ys/\t.next<=max (s.next+1) 9:=by
 have O:∀k,k<=1000->(Bw tx k).size<=1000:=λk hk=>by have:=Vu tx k hk;omega
 have Y:∀k,¬Bw tx k∈s.files.map (·.1):=λk N=>by rw[<-a.Lz.files,XW] at N;obtain⟨y,m,e⟩:=List.mem_map.1 N;have L:=(a.Lz.each y m).has;simp only[Function.comp] at e;rw[e,w k] at L;cases L
 rcases h with⟨_,V,_,rfl,_,rfl,_⟩|⟨_,_,⟨l',nx,M,rfl⟩,rfl,_⟩|⟨_,j,f,rfl,_,rfl,_⟩|⟨_,T,_,j,_,rfl,_,rfl,_⟩|⟨_,T,_,j,_,_,_,ts,ab,⟨_,_,rfl⟩|⟨_,R,hR,f,rfl,rfl⟩⟩|⟨_,j,_,_,⟨_,_,rfl⟩|⟨_,f,rfl,rfl⟩⟩
 ·obtain⟨rfl,g,X⟩:=Ry o
  have aa:xs=[]:=by have:=a.Lz.files;rw[a.Lz.bare V] at this;simpa using this
  subst aa;have h8:=g.2.1;rw[dK] at h8;refine⟨[],a.cols g.2.1 (λe=>by have:=g.1;rw[e] at this;simp at this) (λy m=>by cases m) X _,?_⟩;show ((x.cols.length+1:Nat):Int)<=_;omega
 ·obtain⟨rfl,g,X⟩:=Ry o
  have L:=rQ M;refine⟨xs,a.cols g.2.1 (λe=>by have:=g.1;rw[e] at this;simp at this) (λy m=>AJb M (a.link y m) (a.below y m)) X _,?_⟩;show nx<=_;omega
 ·have G:=eH o
  subst G;exact⟨_,(a.put (w 0) _).add (bD U f hx.rows (O 0 (by omega))) (We b) (by have:=congrArg List.length a.Lz.files;rw[XA] at this;have:=b.Iz;omega) _,by show s.next<=_;omega⟩
 ·have G:=zU a.Lz.files b.once a.rows o
  subst G;exact⟨_,a.go b T _,by show s.next<=_;omega⟩
 ·exact absurd rfl hA
 ·have G:=AAO a.Lz.files a.rows (Y 0) b.once o
  subst G
  have n:K9 R:=λr g v P=>by
   rw[hR] at g;obtain⟨z,I,rfl⟩:=List.mem_map.1 g
   rcases ABg P with P|⟨u,hu⟩
   ·exact ADx a hc z I v P
   obtain⟨i,_,J⟩:=bI hu;rw[XL] at J;cases hs:x.A3[i]? with
   | none=>rw[hs] at J;cases J
   | some y=>rw[hs] at J;simp at J;rw[<-J];exact hx.A3 y (XB hs)
  have L:=(a.put (w 0) (Pa s.cols R)).go b T 0;refine⟨_,L.add (bD U f n (O 0 (by omega))) (show ∀d∈s.cols,d.1<s.next from We b) ?_ _,by show s.next<=_;omega⟩;have:=congrArg List.length a.Lz.files;rw[XA] at this;have h3:=List.length_filterMap_le (pO s.cols T) xs;have:=b.Iz;omega
 ·exact absurd rfl hA
 rw[AHC] at o;have G:=tW b.once o;subst G;have hl:n60 (Fc s.cols xs).length<=40:=nH (by unfold Fc;rw[XA];exact aN a b .nil)
 have n:∀p∈Gd (Fc s.cols xs),K9 p:=λp l r g v P=>by have N:=(Xj l).2.2 r g;unfold Fc at N;obtain⟨z,I,rfl⟩:=List.mem_map.1 N;exact(No a b hc z I v P).1
 have W:=ABh tx hp hz s.cols (Gd (Fc s.cols xs)) 0 D U (by rw[Oz];omega) (λp l=>⟨f p l,n p l⟩);refine⟨((Gd (Fc s.cols xs)).zipIdx 0).map λq=>(((Bw tx q.2,(q.1.length:Int),[]),s.cols,q.1):A6),?_,by show s.next<=_;omega⟩
 have:=AHL (D:=Km tx s.cols 0 (Gd (Fc s.cols xs)) D) (M9 b) (We b) (s.Eb+1) (((Gd (Fc s.cols xs)).zipIdx 0).map λq=>(((Bw tx q.2,(q.1.length:Int),[]),s.cols,q.1):A6)) (λy m=>by obtain⟨q,hq,rfl⟩:=List.mem_map.1 m;exact⟨W q hq,rfl,rfl⟩) (by simp[Oz];omega) j (ADC b)
 rw[XW] at this ⊢;exact this
theorem iK.up{w0 w W:Tw}{k bb n:Nat}{D:Td}{fs:List Int}{mv v:Tv}{H:List (Dn×Ah)}{U:List Tb}{tx:Tb}(h:iK w0 w k bb n D fs mv v H U tx)(a:Zb w W):iK w0 W k bb n D fs mv v H U tx :=
 ⟨h.base.up a,h.inv,h.et,h.Pw,XC h.nf a.size,h.Iz,h.O5,h.name,h.short,h.plain,h.new⟩
theorem Kd.low{w0 w W r:Tw}{i bb n:Nat}{D:Td}{mv:Tv}{H:List (Dn×Ah)}{tx:Tb}{p b:Prop}{Ok c:Td->Bool->List A5->Int->Prop}{e:Ending}(h:Kd w0 W i bb n D mv H tx p Ok e r)(g:Zb w W)(M:p->b)(N:∀d j A rows,Ok d j A rows->c d j A rows):Kd w0 w i bb n D mv H tx b c e r:=by
 obtain⟨n',d,l,o,m,y,z,G,I,J,f⟩:=h;refine⟨n',d,l,o,m,y,z,(B.A0.Ba g).trans G (λ_ _ e=>e),λk hk=>(I k hk).imp id (λq=>XC g.size q),J,?_⟩
 rcases f with⟨P,L,j,rows,s,n1,c1,R,t,n2,x,u,v,rfl,a,O⟩|f
 ·exact .inl ⟨P,L,j,rows,s,n1,c1,R,t,n2,x,u,v,rfl,⟨a.box,a.snap,E.Ai a.row g.size,a.own,a.Vv,XC g.size a.low⟩,N _ _ _ _ O⟩
 exact .inr ⟨M f.1,f.2⟩
theorem AAG{g:Array Oper}{o:Oper}{a:Act}{K:Act->Tw->Prop}{Q:Exit->Act->Tw->Prop}{E:Prop}(c:o.guard=none)(f:Nat)(x y z q:Operand)(t s r p:TypeId)(l:o.op=.call { callee:=.value (.func f),args:=#[x,y,z,q],argTypes:=#[t,s,r,p] })(u v b d:Tv)(n:a.eval x=u)(D:a.eval y=v)(G:a.eval z=b)(m:a.eval q=d)(j:∀args w,(callFunc f args).run prog w=.ok (.enter f args) w)(R:Ending->Tw->Prop)(k:Zc f #[u,v,b,d] W R)(h:∀e i,R e i->∃v,e=Zr v/\K (a.put o.dst v) i):
 if Region.wanted o (yielded g a.tmps)=true then Oper.wp prog o a W K Q else E :=
 Ih c f #[x,y,z,q] #[t,s,r,p] l #[u,v,b,d] (by simp[n,D,G,m]) j R k h
structure K8(w:World)(x:J4)(ca:Option Addr)(cc:Nat)(ra:Option Addr)(rc:Nat)(pa:Option Addr)(pn pc:Nat)(sa:Option Addr)(sc:Nat):Prop where
 cols:bH w (.slice ca x.cols.length cc) x.cols
 ACl:∀c∈x.cols,c.2.1.size<=maxLen/\c.2.2.2.2.2.2.size<=maxLen
 rows:iJ w (.slice ra x.rows.length rc) x.rows
 ACg:∀r∈x.rows,∀v∈r,v.2.2.size<=maxLen
 A3:F7 4 Wu w (.slice sa x.A3.length sc) x.A3
 AKL:x.A3.length<=100
 wX:∀s∈x.A3,s.2.2.2.size<=maxLen
 cnd:∀W,Zb w W->Zc 10 #[.slice pa pn pc] W λe w'=>∃v T,e=.returned v/\S.Gy w' T v/\x.tree T/\Zb W w'
 tw:x.tw.size<=maxLen
 ints:AA5 x
theorem K8.up{w W:Tw}{x:J4}{b:To}{n:Nat}{c:To}{k:Nat}{pa:To}{i j:Nat}{d:To}{m:Nat}(h:K8 w x b n c k pa i j d m)(a:Zb w W):K8 W x b n c k pa i j d m :=
 ⟨h.cols.below a,h.ACl,h.rows.up a,h.ACg,h.A3.up a,h.AKL,h.wX,λV e=>h.cnd V (Ap a e),h.tw,h.ints⟩
theorem Lc{w0 w W:Tw}{k bb n:Nat}{mv:Tv}{tx:Tb}{a:Prop}{Ok:Td->Bool->List A5->Int->Prop}(h:Kd w0 w k bb n D mv H tx a Ok e W):∃p b,e=Zr (Zu #[Zp p,b])/\Hid (Kd w0 w k bb n D mv H tx a Ok (Zr (Zu #[Zp p,b])) W):=by
 have c:=h;obtain⟨n',i,d,g,f,_,_,_,_,_,⟨r,L,s,rows,j,n1,c1,t,l,n2,q,m,o,rfl,_⟩|⟨_,T,x,rfl⟩⟩:=h
 ·exact⟨_,_,rfl,Aa c⟩
 exact⟨_,_,rfl,Aa c⟩
theorem ACy(w0:Tw)(u bb n:Nat)(D:Td)(fs:List Int)(mv X:Tv)(H:List (Dn×Ah))(U:List Tb)(tx:Tb)(xs:List A6)(cols:List Aj)(rows:List (List V))(A3:List Vi)(a:Int)(nm b:Tb)(tr:S.CT->Prop)(N:To)(x:Nat)(G:To)(I:Nat)(pa:To)(z y:Nat)(J:To)(L:Nat)(w:Tw)(h:iK w0 w u bb n D fs mv X H U tx)(f:K8 w ⟨1,cols,rows,A3,a,nm,b,tr⟩ N x G I pa z y J L):
 Zc 20 #[Zp (some ⟨bb,0,none⟩),Zg #[Zi 1,Zs N cols.length x,Zs G rows.length I,Zs pa z y,Zs J A3.length L,Zi a,Zt nm,Zt b],Zt tx] w (Kd w0 w u bb n D mv H tx (AB0 (Ae H H.length) fs ⟨1,cols,rows,A3,a,nm,b,tr⟩) (V7 D (Ae H H.length) xs tx ⟨1,cols,rows,A3,a,nm,b,tr⟩)):=by
 cases hcl:cols with
 | nil=>subst hcl;obtain⟨t0,t1,t2,l⟩:=C1 w (Zk #[Zi 1,Zs N 0 x,Zs G rows.length I,Zs pa z y,Zs J A3.length L,Zi a,Zt nm,Zt b] 38) (Zk #[Zi 0,Zt ⟨#[]⟩,Zi 0,Zo false,Zi 0,Zi 0,Zt ⟨#[]⟩] 72);have HB:=Aa l;have p:=Aa (kP w0 u bb n D fs mv X H U tx a 0 ⟨#[]⟩ 0 false 0 0 ⟨#[]⟩ nm b _ (h.up l) ⟨XE _,XE _,f.tw⟩);clear h f t0 t1 t2 l;go_enter func20,ntmps20;go_wp2_with fail;refine(p.o.mono λe w'=>Lc).mono ?_;rintro e w1⟨p1,er,rfl,H1⟩;clear p;go_wp2_with fail;go_ret2;exact H1.o.low HB.o (λ_=>⟨λe=>absurd e (by simp),λe=>absurd e (by simp),λe=>absurd e (by simp)⟩) λ_ _ _ _ q=>.inr (.inl ⟨rfl,q⟩)
 | cons c0 l0=>
   rw[<-hcl];have d:0<cols.length:=by rw[hcl];simp
   have r:cols[0]! = c0:=by rw[hcl];rfl
   have t:cols.headD nK=c0:=by rw[hcl];rfl
   have s:c0∈cols:=by rw[hcl];exact Yf ..
   obtain⟨i,O,k,mu,P,R,T⟩:=c0
   rcases f.cols with⟨_,e0⟩|⟨g,o,c',e,hc,Y⟩
   ·simp only at e0;rw[e0] at d;simp at d
   injection e with e1 _ e2;subst e1 e2;obtain⟨t0,t1,t2,l⟩:=C1 w (Zk #[Zi 1,Zs (some ⟨g,o,none⟩) cols.length x,Zs G rows.length I,Zs pa z y,Zs J A3.length L,Zi a,Zt nm,Zt b] 38) (Zk #[Zi i,Zt O,Zi k,Zo mu,Zi P,Zi R,Zt T] 72);have aa:g<w.heap.size:=Y.1
   have cell:∀(j:Nat)(v:Tv),(Cc (i,O,k,mu,P,R,T))[j]? = some v->w.cell? ⟨g,o+j,none⟩=some v:=λj v hv=>by have:=Y.2 0 d j v (by show (Cc cols[0]!)[j]? = some v;rw[r];exact hv);simpa using this
   have q0:=cell 0 _ rfl;have q1:=cell 1 _ rfl;have q2:=cell 2 _ rfl;have q3:=cell 3 _ rfl;have q4:=cell 4 _ rfl;have q5:=cell 5 _ rfl;have q6:=cell 6 _ rfl;simp only[Nat.add_zero] at q0;have ab:(0:Int)<(cols.length:Int):=by omega
   have m:=Aa l;have M:=Aa t;have c:=f.ACl _ s;have p:=Aa (λW(hW:Zb w W)=>kP w0 u bb n D fs mv X H U tx a i O k mu P R T nm b W (h.up hW) ⟨c.1,c.2,f.tw⟩);clear h f Y hcl r s c cell t0 t1 t2 l t;go_enter func20,ntmps20;go_wp2_with fail;refine((p.o _ m.o).mono λe w'=>Lc).mono ?_;rintro e w1⟨p1,er,rfl,H1⟩;clear p;go_wp2_with fail;go_ret2;exact H1.o.low m.o (λ_=>⟨λe=>absurd e (by simp),λe=>absurd e (by simp),λe=>absurd e (by simp)⟩) λ_ _ _ _ q=>.inr (.inl ⟨rfl,by rw[M.o];exact q⟩)
theorem ACD(ae:Mw)(w0:Tw)(y bb n:Nat)(D:Td)(fs:List Int)(mv J:Tv)(H:List (Dn×Ah))(U:List Tb)(tx:Tb)(xs:List A6)(x:J4)(g:To)(i:Nat)(k:To)(l:Nat)(pa:To)(d c:Nat)(a:To)(b:Nat)(w:Tw)(h:iK w0 w y bb n D fs mv J H U tx)(hT:C7 D (Ae H H.length) xs)(hx:K8 w x g i k l pa d c a b):
 Zc 20 #[Zp (some ⟨bb,0,none⟩),Zg #[Zi x.Qk,Zs g x.cols.length i,Zs k x.rows.length l,Zs pa d c,Zs a x.A3.length b,Zi x.change,Zt x.name,Zt x.tw],Zt tx] w (Kd w0 w y bb n D mv H tx (AB0 (Ae H H.length) fs x) (V7 D (Ae H H.length) xs tx x)):=by
 obtain⟨I,cols,rows,A3,j,nm,m,tr⟩:=x;simp only;have z:Zb w (w.alloc (Zk #[Zi I,Zs g cols.length i,Zs k rows.length l,Zs pa d c,Zs a A3.length b,Zi j,Zt nm,Zt m] 38)):=Zal;have o:=Aa z;have R:=Aa (h.up z);have f:=Aa (hx.up z);have HT:=Aa hT;have P:=Aa (Yac w (Zk #[Zi I,Zs g cols.length i,Zs k rows.length l,Zs pa d c,Zs a A3.length b,Zi j,Zt nm,Zt m] 38));have ac:=Aa h;have ad:=Aa hx;clear h hx hT z
 by_cases k0:I=0
 ·subst k0
  have r:=Aa (zI w0 y bb n D fs mv J H U tx g i cols _ R.o f.o.cols (by have:=f.o.ints.Iz;simp only at this;omega) f.o.ACl);go_enter func20,ntmps20;go_wp2_with fail;refine(r.o.mono λe u=>Lc).mono ?_;rintro e w1⟨p1,M,rfl,H1⟩;clear r;go_wp2_with fail;go_ret2;exact H1.o.low o.o (λq=>⟨λ_=>q,λe=>absurd e (by simp),λe=>absurd e (by simp)⟩) λ_ _ _ _ q=>.inl ⟨rfl,q⟩
 by_cases k2:I=2
 ·subst k2
  have r:=Aa (wV w0 y bb n D fs mv J H U tx _ rows _ R.o f.o.rows (by have:=f.o.ints.ADp;simp only at this;omega) f.o.ACg f.o.ints.rows);clear k0;go_enter func20,ntmps20;go_wp2_with fail;refine(r.o.mono λe u=>Lc).mono ?_;rintro e w1⟨p1,M,rfl,H1⟩;clear r;go_wp2_with fail;go_ret2;exact H1.o.low o.o (λq=>⟨λe=>absurd e (by simp),λ_=>q,λe=>absurd e (by simp)⟩) λ_ _ _ _ q=>.inr (.inr (.inl ⟨rfl,q⟩))
 by_cases k3:I=3
 ·subst k3
  have t:=Aa (f.o.cnd _ (XF _ _));clear k0 k2;go_enter func20,ntmps20;go_wp2_with fail;refine t.o.mono ?_;rintro e w2⟨cv,T,rfl,Y,aa,L⟩;have V:=Aa aa;clear aa;have r:=Aa (Lo w0 y bb n D fs mv J H U tx cv T xs w2 (R.o.up L) HT.o Y);have ab:=Aa (Ap o.o L);clear Y L t;go_wp2_with fail;refine(r.o.mono λe u=>Lc).mono ?_;rintro e w1⟨p1,M,rfl,H1⟩;clear r;go_wp2_with fail;go_ret2;exact H1.o.low ab.o (λq=>⟨λe=>absurd e (by simp),λe=>absurd e (by simp),λ_=>⟨T,V.o,q⟩⟩) λ_ _ _ _ q=>.inr (.inr (.inr (.inl ⟨rfl,T,V.o,q⟩)))
 by_cases k4:I=4
 ·subst k4
  have G:=(XF (w.alloc (Zk #[Zi 4,Zs g cols.length i,Zs k rows.length l,Zs pa d c,Zs a A3.length b,Zi j,Zt nm,Zt m] 38)).heap.size (w.alloc (Zk #[Zi 4,Zs g cols.length i,Zs k rows.length l,Zs pa d c,Zs a A3.length b,Zi j,Zt nm,Zt m] 38))).drew
  have t:Hid (Zc 10 #[Zs pa d c] (w.alloc (Zk #[Zi 4,Zs g cols.length i,Zs k rows.length l,Zs pa d c,Zs a A3.length b,Zi j,Zt nm,Zt m] 38)).drew λe u=>∃v,e=Zr v/\Hid (∃T,S.Gy u T v/\tr T/\Zb w u/\Below (w.alloc (Zk #[Zi 4,Zs g cols.length i,Zs k rows.length l,Zs pa d c,Zs a A3.length b,Zi j,Zt nm,Zt m] 38)).heap.size (w.alloc (Zk #[Zi 4,Zs g cols.length i,Zs k rows.length l,Zs pa d c,Zs a A3.length b,Zi j,Zt nm,Zt m] 38)) u)):=Aa ((f.o.cnd _ G).mono (by rintro e u⟨v,T,rfl,h1,ht,h2⟩;exact⟨v,rfl,Aa ⟨T,h1,ht,Ap o.o (Ap G h2),Ap G h2⟩⟩))
  have X:Hid (∀(v:Tv)(W:Tw),Hid (∃T,S.Gy W T v/\tr T/\Zb w W/\Below (w.alloc (Zk #[Zi 4,Zs g cols.length i,Zs k rows.length l,Zs pa d c,Zs a A3.length b,Zi j,Zt nm,Zt m] 38)).heap.size (w.alloc (Zk #[Zi 4,Zs g cols.length i,Zs k rows.length l,Zs pa d c,Zs a A3.length b,Zi j,Zt nm,Zt m] 38)) W)->Zc 38 #[Zp (some ⟨bb,0,none⟩),Zt tx,v,Zs a A3.length b] W λe u=>∃p M,e=Zr (Zu #[Zp p,M])/\Hid (Kd w0 w y bb n D mv H tx (AB0 (Ae H H.length) fs ⟨4,cols,rows,A3,j,nm,m,tr⟩) (V7 D (Ae H H.length) xs tx ⟨4,cols,rows,A3,j,nm,m,tr⟩) (Zr (Zu #[Zp p,M])) u)):=Aa λv W hW=>by
   obtain⟨T,h1,ht,h2,h3⟩:=hW.o;refine(xQ w0 y bb n D fs mv J H U tx v T xs a b A3 W (R.o.up h3) HT.o h1 (f.o.A3.up h3) f.o.AKL (λs hs=>⟨f.o.wX s hs,f.o.ints.A3 s hs⟩)).mono λe u hP=>?_
   exact Lc (hP.low h2 (λq=>⟨λe=>absurd e (by simp),λe=>absurd e (by simp),λe=>absurd e (by simp)⟩) λ_ _ _ _ q=>.inr (.inr (.inr (.inr (.inl ⟨rfl,T,ht,q⟩)))))
  have N:Hid (∀args w,(callFunc 10 args).run prog w=.ok (.enter 10 args) w):=Aa (enters_of func10 (by kernel_rfl) rfl);have O:Hid (∀args w,(callFunc 38 args).run prog w=.ok (.enter 38 args) w):=Aa (enters_of func38 (by kernel_rfl) rfl);clear k0 k2 k3 G;go_enter func20,ntmps20;go_wp2_with fail
  go_region_law
   (first
     | (refine I6 (by rfl) 10 (.tmp 67) 23 (by rfl) (Zs pa d c) (by rfl) N.o _ t.o ?_
        rintro e w2⟨cv,rfl,H2⟩;refine⟨_,rfl,?_⟩;have z4:w2.cell? ⟨w.heap.size,4,none⟩=some (Zs a A3.length b):=(F2 ((H2.o.choose_spec.2.2.2.block _ (Ac P.o)).trans P.o)).2.2.2.2.1)
     | (refine AAG (by rfl) 38 (.tmp 64) (.tmp 65) (.tmp 68) (.tmp 70) 26 9 47 36 (by rfl) (Zp (some ⟨bb,0,none⟩)) (Zt tx) cv (Zs a A3.length b) (by rfl) (by rfl) (by rfl) (by rfl) O.o _ (X.o cv w2 H2) ?_
        rintro e w3⟨p3,af,rfl,H3⟩;refine⟨_,rfl,?_⟩)
     | fail)
  all_goals
   clear X t N O z4;go_wp2;go_ret2;exact H3.o
 by_cases k1:I=1
 ·subst k1
  exact ACy w0 y bb n D fs mv J H U tx xs cols rows A3 j nm m tr g i k l pa d c a b w ac.o ad.o
 have r:=Aa (ae w0 y bb n D fs mv J H U tx xs _ R.o HT.o);have HK:Hid (I<0\/4<I):=Aa (by omega);go_enter func20,ntmps20;go_wp2_with fail;refine(r.o.mono λe u=>Lc).mono ?_;rintro e w1⟨p1,M,rfl,H1⟩;clear r;go_wp2_with fail;go_ret2;exact H1.o.low o.o (λq=>⟨λe=>absurd e (by have:=HK.o;simp only;omega),λe=>absurd e (by have:=HK.o;simp only;omega),λe=>absurd e (by have:=HK.o;simp only;omega)⟩) λ_ _ _ _ q=>.inr (.inr (.inr (.inr (.inr ⟨HK.o,q⟩))))
def Xt(w0 w:World)(m bb n:Nat)(D:DataW Unit)(fs:List Int)(mv:Value)(H:List (Dn×Ah))(U:List ByteArray)(tx:ByteArray)(xs:List A6)(x:J4)(e:Ending)(o:World):Prop :=
 ∃n' f h d i g,Ey w0 o m bb n' f h d i/\n'<=n+100/\B.A0 (B.Own bb mv) w o/\(∀k,d=.map (some k)->mv=.map (some k)\/w.heap.size<=k)/\Inv f g (tx :: U) /\
  ((e=.returned .nilIface/\∃a b A rows,V7 D (Ae H H.length) xs tx x a b A rows/\((A=[]/\g=H/\f=a)\/(A≠[]/\Inv a H (tx :: U)/\∃t,Bi (Ae H H.length) (tx,b,A) t/\g=H++[((tx,b,A),t)]/\f=a.put (B.lit (Ek (H.length+1))) (B.Gw (C6 (tx,b,A)))))) \/
   (∃T y,e=.returned (.iface T y)/\g=H/\(AB0 (Ae H H.length) fs x\/∃a b A rows c p n1 l j,V7 D (Ae H H.length) xs tx x a b A rows/\A≠[]/\Ey w0 p m bb n1 a c l j/\AD8 (tx,b,A) H c H.length (.iface T y))))
theorem Xt.wU{w0 w W:Tw}{i bb n:Nat}{fs:List Int}{mv:Tv}{tx:Tb}{xs:List A6}(h:Xt w0 w i bb n D fs mv H U tx xs x e W):∃q,e=Zr q/\∃n' f b a d g,Ey w0 W i bb n' f b a d/\n'<=n+100/\B.A0 (B.Own bb mv) w W/\(∀k,a=.map (some k)->mv=.map (some k)\/w.heap.size<=k)/\Inv f g (tx :: U)/\(g=H\/∃c,g=H++[c])/\g.length<=H.length+1:=by
 obtain⟨n',f,b,a,d,g,j,l,m,o,p,⟨rfl,r,s,A,rows,_,⟨_,rfl,_⟩|⟨_,_,t,_,rfl,_⟩⟩|⟨T,y,rfl,rfl,_⟩⟩:=h
 ·exact⟨_,rfl,n',f,b,a,d,_,j,l,m,o,p,.inl rfl,WD _⟩
 ·exact⟨_,rfl,n',f,b,a,d,_,j,l,m,o,p,.inr ⟨_,rfl⟩,by simp⟩
 exact⟨_,rfl,n',f,b,a,d,_,j,l,m,o,p,.inl rfl,WD _⟩
theorem dD{bb:Nat}{mv v u:Tv}{r:Tw}(a:B.A0 (B.Own bb mv) w W)(b:∀k,v=.map (some k)->mv=.map (some k)\/w.heap.size<=k)(d:B.A0 (B.Own bb v) W r)(f:∀k,u=.map (some k)->v=.map (some k)\/W.heap.size<=k):B.A0 (B.Own bb mv) w r/\∀k,u=.map (some k)->mv=.map (some k)\/w.heap.size<=k:=by
 refine⟨a.trans d λi g e=>?_,λk c=>?_⟩
 ·rcases e with e|e
  ·exact .inl e
  rcases b i e with e|e
  ·exact .inr e
  omega
 rcases f k c with e|e
 ·exact b k e
 exact .inr (XC a.size e)
theorem jN:∀{l:List A5}{s t:Ah},Il Bx Bv Cm s l t->0<=s.next->0<=t.next
 | [],_,_,h,hs=>by simp only[Il] at h;subst h;exact hs
 | a :: l,s,t,⟨u,b,h2⟩,hs=>by
   refine jN h2 ?_
   rcases b with⟨_,_,rfl⟩|⟨_,_,rfl⟩|⟨_,_,rfl⟩|⟨_,c,rfl⟩
   ·exact hs
   ·exact hs
   ·exact hs
   have:=c.2;show 0<=a.2.2.2.2.2;omega
theorem eD:∀{s:Ah}{H:List (Dn×Ah)},Xv s H->0<=s.next->∀k,k<=H.length->0<=(Ic s (H.take k)).next
 | _,_,_,hs,0,_=>by simpa[Ic] using hs
 | _,x :: l,h,hs,k+1,hk=>by have:=eD (s:=x.2) (H:=l) h.2.2 (jN h.1.2 hs) k (by simpa using hk);simpa[Ic] using this
theorem vC(h:La H)(b:Good Bv Cm (Ae H H.length)):0<=(Ae H H.length).next:=by
 rcases b.cols with e|e
 ·exact eD h (by show (0:Int)<=0;omega) H.length (XD _)
 have a:=e.1;have:=e.2.2.1 (Ae H H.length).cols[0] (Yh a);have:=this.1.2.1;omega
theorem AGp{w0 w r s:Tw}{i bb n n1:Nat}{l:Td}{fs z:List Int}{mv u f:Tv}{tx:Tb}{xs:List A6}{m:Bool}{rows:Int}(h:iK w0 w i bb n D fs mv u H U tx)(aa:H.length<40)(hT:C7 D (Ae H H.length) xs)(hx:AA5 x)(hG:Grown tx D l)(hn:n1<=n+50)(T:B.A0 (B.Own bb mv) w r)(O:∀k,f=.map (some k)->mv=.map (some k)\/w.heap.size<=k)(b:V7 D (Ae H H.length) xs tx x l m A rows)(g:∃d,Ey w0 r i bb n1 l z f d)(hd:DoP w0 r i bb n1 l z f (tx,m,A) H H.length e s):
 ∃v V,e=Zr (Zu #[v,V])/\Xt w0 w i bb n D fs mv H U tx xs x (Zr V) s:=by
 have j:Inv l H (tx :: U):=(h.inv.user h.plain).grown (Yf ..) hG;obtain⟨d,g⟩:=g
 rcases hd with⟨G,rfl,hb⟩|⟨G,W,J,n',D',o,I,p,X,h2,Y,h4,⟨t,rfl,M,L,_,rfl⟩|⟨ty,y,rfl,rfl,R⟩⟩
 ·have c:=dD T O (B.A0.Ba hb) (λk b=>.inl b)
  exact⟨_,_,rfl,n1,l,z,f,d,H,g.up hb,by omega,c.1,c.2,j,.inl ⟨rfl,l,m,A,rows,b,.inl ⟨G,rfl,rfl⟩⟩⟩
 ·have c:=dD T O ((B.A0.Ba J).trans Y (λ_ _ e=>e)) (λk b=>(h4 k b).imp id λq=>XC J.size q)
  have hc:=Mq h.inv.past (XD _);have ab:=h.inv.next H.length (XD _);have P:0<=(Ae H H.length).next:=vC h.inv.past h.Of;have N:=AEj hT h.Of hc ⟨P,by omega⟩ hx b;obtain⟨ys,hy,ac⟩:=AI2 h.inv.Lm.1 hT h.Of hc h.plain h.short h.free hx b M G;refine⟨_,_,rfl,n',_,o,I,p,H++[((tx,m,A),t)],X,by omega,c.1,c.2,j.AJO (by omega) M ⟨L,λa c=>?_,N.Iz,lV N L⟩ hy (by omega),.inl ⟨rfl,l,m,A,rows,b,.inr ⟨G,j,t,M,rfl,rfl⟩⟩⟩;simp only[Cv,XM,Wb] at L;exact Qb (L.2 a c) (N.ints a c)
 have c:=dD T O ((B.A0.Ba J).trans Y (λ_ _ e=>e)) (λk b=>(h4 k b).imp id λq=>XC J.size q);exact⟨_,_,rfl,n',_,o,I,p,H,X,by omega,c.1,c.2,j,.inr ⟨_,_,rfl,rfl,.inr ⟨_,m,A,rows,z,r,n1,f,d,b,G,g,R⟩⟩⟩
theorem V1(ae:Mw)(w0:Tw)(i bb n:Nat)(D:Td)(fs:List Int)(mv fv:Tv)(H:List (Dn×Ah))(U:List Tb)(tx:Tb)(xs:List A6)(x:J4)(M:To)(N:Nat)(V:To)(W:Nat)(pa:To)(R P:Nat)(X:To)(Y:Nat)(w:Tw)(h:iK w0 w i bb n D fs mv fv H U tx)(ad:H.length<40)(hT:C7 D (Ae H H.length) xs)(hx:K8 w x M N V W pa R P X Y):
 Zc 6 #[Zp (some ⟨bb,0,none⟩),Zg #[Zi x.Qk,Zs M x.cols.length N,Zs V x.rows.length W,Zs pa R P,Zs X x.A3.length Y,Zi x.change,Zt x.name,Zt x.tw],Zt tx] w (Xt w0 w i bb n D fs mv H U tx xs x):=by
 have f:Zb w (w.alloc (Zk #[Zi x.Qk,Zs M x.cols.length N,Zs V x.rows.length W,Zs pa R P,Zs X x.A3.length Y,Zi x.change,Zt x.name,Zt x.tw] 38)):=Zal;have l:=Aa (ACD ae w0 i bb n D fs mv fv H U tx xs x M N V W pa R P X Y _ (h.up f) hT (hx.up f));have k:Hid (∀e w',Kd w0 (w.alloc (Zk #[Zi x.Qk,Zs M x.cols.length N,Zs V x.rows.length W,Zs pa R P,Zs X x.A3.length Y,Zi x.change,Zt x.name,Zt x.tw] 38)) i bb n D mv H tx (AB0 (Ae H H.length) fs x) (V7 D (Ae H H.length) xs tx x) e w'->Kd w0 w i bb n D mv H tx (AB0 (Ae H H.length) fs x) (V7 D (Ae H H.length) xs tx x) e w'):=Aa λe w' hp=>hp.low f (λq=>q) λ_ _ _ _ q=>q
 have a:=Aa h;have I:=Aa hT;have J:=Aa hx.ints;clear h hT hx f;go_enter func6,ntmps6;go_wp2_with fail;refine l.o.mono ?_;intro e w1 s;obtain⟨n1,D1,m,t,o,b,af,d,g,c,⟨pb,L,rd,rows,a1,ah,c1,x2,a2,n2,c2,aa,ac,rfl,hP,r⟩|⟨O,T,y,rfl⟩⟩:=k.o _ _ s
 ·have ag:=a.o.inv.next H.length (XD _)
  have j:=AEj I.o a.o.Of (Mq a.o.inv.past (XD _)) ⟨vC a.o.inv.past a.o.Of,by have:=a.o.O5;omega⟩ J.o r;have p:Inv D1 H (tx :: U):=(a.o.inv.user a.o.plain).grown (Yf ..) c;have G:=Aa (AHB w0 i _ bb n1 D1 m t o H H.length pb a1 ah c1 x2 a2 n2 c2 tx rd aa ac L rows w1 b (XC a.o.nf d.size) (by have:=a.o.Iz;omega) p.Lm p.past a.o.O5 (XD _) hP j (by have:=a.o.short;omega));have z:Hid (∀e u,DoP w0 w1 i bb n1 D1 m t (tx,rd,L.map (·.1)) H H.length e u->∃v er,e=Zr (Zu #[v,er])/\Hid (Xt w0 w i bb n D fs mv H U tx xs x (Zr er) u)):=Aa λe u hd=>AGp a.o ad I.o J.o c af d g r ⟨o,b⟩ hd
  clear s b d g c hP r j p ag l k;go_wp2_with fail;refine(G.o.mono λe u=>z.o e u).mono ?_;rintro e u⟨v,er,rfl,H2⟩;clear G z;go_wp2_with fail;go_ret;exact H2.o
 have H1:=Aa (And.intro b (And.intro d (And.intro g ((a.o.inv.user a.o.plain).grown (Yf ..) c))));have ab:=Aa O;clear O s b d g c l k;go_wp2_with fail;go_ret;exact⟨n1,D1,m,t,o,H,H1.o.1,by omega,H1.o.2.1,H1.o.2.2.1,H1.o.2.2.2,.inr ⟨_,_,rfl,rfl,.inl ab.o⟩⟩
def Pb(P:Prop)(w:World)(e:Ending)(a:World):Prop:=∃b,e=.returned (.bool b)/\(b=true->P)/\Zb w a
def ABP(l:List Aj):Prop:=l.length<=20/\∀c∈l,c.2.1.size<=60/\c.2.2.2.2.2.2.size<=100
def RowsFit(l:List (List V)):Prop:=l.length<=70/\∀r∈l,r.length<=20/\∀v∈r,v.2.2.size<=100
theorem O1{α:Type}{P:α->Prop}{l:List α}(h:∀x∈l.take k,P x)(a:l.length<=k):∀x∈l,P x:=by rwa[Yd a] at h
theorem My{α:Type}{P:α->Prop}{l:List α}{x:α}(h:∀x∈l.take k,P x)(c:l[k]? = some x)(b:P x):∀x∈l.take (k+1),P x:=by
 rw[E.Br c];intro y a
 rcases List.mem_append.1 a with a|a
 ·exact h y a
 simp at a;subst a;exact b
theorem pS(u:Tv)(l:List Aj)(w:Tw)(s:F7 7 Cc w u l)(e:∀c∈l,c.2.1.size<=maxLen/\c.2.2.2.2.2.2.size<=maxLen):
 Zc 17 #[u] w (Pb (ABP l) w):=by
 have x:=Aa s;obtain⟨R,T,rfl,_⟩:=s.slice;have h:=Aa e;clear s e
 by_cases h20:l.length<=20
 ·have d:¬(20:Int)<(l.length:Int):=by omega
  go_enter func17,ntmps17;go_wp2
  go_loopw [3] (λt wr=>∃k:Nat,k<=l.length/\t=Zi k/\Hid (∀c∈l.take k,c.2.1.size<=60/\c.2.2.2.2.2.2.size<=100)/\Hid (Zb w wr)) (λt _=>l.length-(intOf t).toNat)
  case atStart=>exact⟨0,XE _,rfl,Aa (by simp),Aa (XF _ _)⟩
  case round=>
   obtain⟨k,P,rfl,f,b⟩:=hrel
   by_cases hlt:k<l.length
   ·obtain⟨⟨c1,n,L,M,N,O,o⟩,g⟩:∃c,l[k]? = some c:=⟨_,Y' hlt⟩
    obtain⟨lb,U,G,z,_,D,a⟩:=(x.o.up b.o).cons (by omega);injection z with p _ q;subst p q;obtain⟨V,W,X,Y,q4,q5,q6⟩:=F8 a g;obtain⟨I,J⟩:=h.o _ (XB g);dsimp only at I J;have r:(k:Int)<(l.length:Int):=by omega
    have v:=Aa g;clear a g
    by_cases a1:n.size<=60
    ·have j:¬(60:Int)<(n.size:Int):=by omega
     by_cases a2:o.size<=100
     ·have m:¬(100:Int)<(o.size:Int):=by omega
      have i:=Aa (My f.o v.o ⟨a1,a2⟩);go_wp2;exact⟨⟨k+1,by omega,by go_num,i,b⟩,by simp[intOf];omega⟩
     have m:(100:Int)<(o.size:Int):=by omega
     go_wp2;go_ret;exact⟨_,rfl,by simp,b.o⟩
    have j:(60:Int)<(n.size:Int):=by omega
    go_wp2;go_ret;exact⟨_,rfl,by simp,b.o⟩
   have r:¬(k:Int)<(l.length:Int):=by omega
   have y:=Aa (O1 f.o (by omega));go_wp2;go_ret;exact⟨_,rfl,λ_=>⟨h20,y.o⟩,b.o⟩
 have d:(20:Int)<(l.length:Int):=by omega
 go_enter func17,ntmps17;go_wp2;go_ret;exact⟨_,rfl,by simp,XF _ _⟩
theorem oH(W:Tv)(l:List (List V))(w:Tw)(T:iJ w W l)(m:∀r∈l,∀v∈r,v.2.2.size<=maxLen):
 Zc 18 #[W] w (Pb (RowsFit l) w):=by
 have HL:=Aa T;obtain⟨la,lc,rfl,_⟩:=T.slice;have y:=Aa m;clear T m
 by_cases h70:l.length<=70
 ·have h:¬(70:Int)<(l.length:Int):=by omega
  go_enter func18,ntmps18;go_wp2
  go_loopw [3] (λg wr=>∃k:Nat,k<=l.length/\g=Zi k/\Hid (∀r∈l.take k,r.length<=20/\∀v∈r,v.2.2.size<=100)/\Hid (Zb w wr)) (λg _=>l.length-(intOf g).toNat)
  case atStart=>exact⟨0,XE _,rfl,Aa (by simp),Aa (XF _ _)⟩
  case round=>
   obtain⟨k,hk,rfl,n,c⟩:=hrel
   by_cases hlt:k<l.length
   ·obtain⟨r,s⟩:∃r,l[k]? = some r:=⟨_,Y' hlt⟩
    obtain⟨rb,ro,ac,xv,er,aa,f,N⟩:=(HL.o.up c.o).at s;injection er with L _ M;subst L M;obtain⟨xa,xc,rfl,_,p⟩:=N;have G:=Aa p;have o:=y.o r (XB s);have D:=Aa o;have z:=Aa s;have R:(k:Int)<(l.length:Int):=by omega
    clear p o s
    by_cases a1:r.length<=20
    ·have I:¬(20:Int)<(r.length:Int):=by omega
     go_wp2;rename Tw=>wo
     go_loopw [4] (λg wi=>∃j:Nat,j<=r.length/\g=Zi j/\Hid (∀v∈r.take j,v.2.2.size<=100)/\Hid (Zb wo wi)) (λg _=>r.length-(intOf g).toNat)
     case atStart=>exact⟨0,XE _,rfl,Aa (by simp),Aa (XF _ _)⟩
     case round=>
      obtain⟨j,hj,rfl,i,a⟩:=hrel;have q:=Ag a.o f
      by_cases hjl:j<r.length
      ·obtain⟨⟨vk,vn,U⟩,t⟩:∃x,r[j]? = some x:=⟨_,Y' hjl⟩
       obtain⟨xb,xo,rfl,ab,b⟩:=G.o (by intro e;rw[e] at hjl;simp at hjl);obtain⟨X,Y,y2⟩:=b j _ t;replace X:=Ag a.o X;replace Y:=Ag a.o Y;replace y2:=Ag a.o y2;have m1:=D.o _ (XB t);dsimp only at m1;have O:(j:Int)<(r.length:Int):=by omega
       have HV:=Aa t;clear b t
       by_cases a2:U.size<=100
       ·have J:¬(100:Int)<(U.size:Int):=by omega
        have d:=Aa (My (P:=λv:V=>v.2.2.size<=100) i.o HV.o a2);go_wp2;exact⟨⟨j+1,by omega,by go_num,d,a⟩,by simp[intOf];omega⟩
       have J:(100:Int)<(U.size:Int):=by omega
       go_wp2;go_ret;exact⟨_,rfl,by simp,Ap c.o a.o⟩
      have O:¬(j:Int)<(r.length:Int):=by omega
      have d:=Aa (My (P:=λr:List V=>r.length<=20/\∀v∈r,v.2.2.size<=100) n.o z.o ⟨a1,O1 (P:=λv:V=>v.2.2.size<=100) i.o (by omega)⟩);have u:=Aa (Ap c.o a.o);go_wp2;exact⟨⟨k+1,by omega,by go_num,d,u⟩,by simp[intOf];omega⟩
    have I:(20:Int)<(r.length:Int):=by omega
    go_wp2;go_ret;exact⟨_,rfl,by simp,c.o⟩
   have R:¬(k:Int)<(l.length:Int):=by omega
   have z:=Aa (O1 (P:=λr:List V=>r.length<=20/\∀v∈r,v.2.2.size<=100) n.o (by omega));go_wp2;go_ret;exact⟨_,rfl,λ_=>⟨h70,z.o⟩,c.o⟩
 have h:(70:Int)<(l.length:Int):=by omega
 go_enter func18,ntmps18;go_wp2;go_ret;exact⟨_,rfl,by simp,XF _ _⟩
variable{H:Type}{W:Tw}{x:DataW H×List MemPlace}
theorem Db:prog.cellsOf 3=1:=by kernel_rfl
theorem zS:prog.cellsOf 2=1:=by kernel_rfl
theorem Vw:prog.cellsOf 9=1:=by kernel_rfl
theorem gQ:prog.cellsOf 57=3:=by kernel_rfl
theorem AGR:prog.cellsOf 72=7:=by kernel_rfl
theorem AHc:prog.cellsOf 58=1:=by kernel_rfl
theorem bounds{n:Int}(h:(Lit.int .i64 n).wf=true):-9223372036854775808<=n/\n<=9223372036854775807:=by have a:IntKind.i64.min = -9223372036854775808:=rfl;have b:IntKind.i64.max=9223372036854775807:=rfl;simp[Lit.wf,a,b] at h;omega
theorem qU{enc:TypeId×Tv->H}{base:Nat}{j:Nat->Bool}{held:Bool}{n:Nat}{cs:List Tv}(h:DataW.trod enc prog W base j held n 57 cs=some x):
 ∃v:V,cs=[Zi v.1,Zi v.2.1,Zt v.2.2]/\Ks v/\v.2.2.size<=maxLen:=by
 obtain⟨l,o,p,n1,_,f,c,d,e⟩:=trod_struct3 underlying57 h;rw[gQ] at f
 match cs,f with
 | [v0,v1,v2],_=>simp only[Db,Vw,zS,XO,XJ,XK,XP] at c d e;obtain⟨k,e0,_,_⟩:=DataW.trod_int underlying3 c;obtain⟨m,a,_,g⟩:=DataW.trod_int underlying2 d;obtain⟨t,b,_,i⟩:=DataW.trod_string underlying9 e;simp at e0 a b;subst e0 a b;exact⟨(k,m,t),rfl,⟨(bounds g).1,(bounds g).2⟩,i⟩
theorem M0{α:Type}[Inhabited α]{enc:TypeId×Tv->H}{O:Nat->Bool}{held:Bool}{fuel k:Nat}{T E:TypeId}{en:α->List Tv}{P:α->Prop}{cs:List Tv}(y:0<k)(hlen:∀x,(en x).length=k)(X:prog.underlying T=some (.slice E))(V:prog.cellsOf E=k)(J:∀{n:Nat}{cs:List Tv}{x:DataW H×List MemPlace},DataW.trod enc prog W 0 O held n E cs=some x->∃q,cs=en q/\P q)(h:DataW.trod enc prog W 0 O held fuel T cs=some x):∃v,cs=[v]/\∃l:List α,F7 k en W v l/\∀q∈l,P q:=by
 rcases open_slice X h with⟨d,_⟩|⟨a,len,G,m,n,D,Pl,d,hb,Y,hm,L,b,r⟩
 ·exact⟨_,d,[],⟨_,_,rfl,XE _,λh=>absurd rfl h⟩,λx b=>by simp at b⟩
 refine⟨_,d,?_⟩
 rcases Yt len with rfl|c
 ·exact⟨[],⟨_,_,rfl,XE _,λh=>absurd rfl h⟩,λx b=>by simp at b⟩
 have aa:len<=m:=by rw[L];split <;> omega
 have p:∀i,i<len->∃q:α,W.cells? 0 (a.add (i*k)) k=some (en q)/\P q:=λi w=>by obtain⟨R,N,U⟩:=r i (by omega);obtain⟨q,rfl,hq⟩:=J U;rw[V] at N;exact⟨q,N,hq⟩
 obtain⟨Q,I⟩:=choose_lt p;obtain⟨z,M,spot⟩:=a
 have g:spot=none:=by have:=(X2 (I 0 c).1).2.2 0 y;obtain⟨u,t,o⟩:=YY (l:=en (Q 0)) (by rw[hlen];exact y);rw[o] at this;simpa[Addr.add] using World.cell?_spot this
 subst g
 have cell:∀j,j<len->∀i,i<k->W.cell? ⟨z,M+j*k+i,none⟩=(en (Q j))[i]? := λj e i w=>by have:=(X2 (I j e).1).2.2 i w;rwa[add_plain,add_plain] at this
 have f:((List.range len).map Q).length=len:=by simp
 refine⟨(List.range len).map Q,⟨some ⟨z,M,none⟩,G,by rw[f],by rw[f];exact Y,λ_=>⟨z,M,rfl,?_,λj x e i u o=>?_⟩⟩,λx b=>?_⟩
 ·obtain⟨u,t,o⟩:=YY (l:=en (Q 0)) (by rw[hlen];exact y)
  exact block_lt_of_cell ((cell 0 c 0 y).trans (by rw[o];rfl))
 ·have s:j<len:=by have:=Ax e;rwa[f] at this
  have b:x=Q j:=by rw[XL,List.getElem?_range s] at e;exact(Yv e).symm
  subst b;have w:i<k:=by have:=Ax o;rwa[hlen] at this
  rw[cell j s i w,o]
 simp only[WC,WB] at b;obtain⟨j,e,rfl⟩:=b;exact(I j e).2
def AIQ(v:V):List Value:=[Zi v.1,Zi v.2.1,.string v.2.2]
theorem mW{w:Tw}{v:Tv}{l:List V}(h:F7 3 AIQ w v l):E.Sl w v l:=by obtain⟨a,c,e,k,m⟩:=h;refine⟨a,c,e,k,λn=>?_⟩;obtain⟨b,off,g,i,d⟩:=m n;exact⟨b,off,g,i,λj x f=>⟨d j x f 0 _ rfl,d j x f 1 _ rfl,d j x f 2 _ rfl⟩⟩
end F
namespace S
variable{W w:Tw}{u v:Tv}{g i k m n q:Nat}{X Y:List Tv}{a c d:List CT}{T:CT}
def A2:CT->Nat
 | .nil=>0
 | .node _ _ _ l r=>1+max (A2 l) (A2 r)
theorem Gy.grown{w W:Tw}{row:Option Nat}(i:w.grownBy W row)(a:∀g,row=some g->∃d,w.heap[g]? = some (Zk d 47)):∀{T:CT}{v:Tv},Gy w T v->Gy W T v
 | .nil,_,h=>h
 | .node _ _ ⟨_,_,_,_,_⟩ _ _,_,⟨b,pl,pr,e,hh,hcd,hl,hr⟩=>⟨b,pl,pr,e,by
    rw[i.block b (by
     rcases Yc b w.heap.size with f|f
     ·exact f
     rw[XQ f] at hh;cases hh) (λj=>by
     obtain⟨d,c⟩:=a b j.symm;rw[hh] at c;injection c with c;injection c with _ c;exact absurd c (by decide))]
    exact hh,hcd,Gy.grown i a hl,Gy.grown i a hr⟩
structure Stack(w0 wr:World)(i:Nat)(v:Value)(n:Nat)(vs:List Value)(Ts:List CT):Prop where
 own:wr.ownsRow w0.heap.size 47 1 v n vs
 len:Ts.length=n
 ins:∀(j:Nat)(T:CT)(u:Value),Ts[j]? = some T->vs[j]? = some u->Gy wr T u/\0<A2 T
 dep:(Ts.map A2).sum<=i
 xL:Zb w0 wr
theorem Ad{B e z n:Nat}{xs:List Tv}(h:w.ownsRow B e z v n xs)(k:Zb w W):W.ownsRow B e z v n xs:=by
 refine⟨h.1,?_⟩
 rcases h.2 with a|⟨g,b,c,f,i,d,j⟩
 ·exact .inl a
 refine .inr ⟨g,b,c,f,i,?_,j⟩
 rw[k.block g (by
  rcases Yc g w.heap.size with a|a
  ·exact a
  rw[XQ a] at d;cases d)]
 exact d
theorem Ai{B k e z n:Nat}{xs:List Tv}(h:w.ownsRow B e z v n xs)(j:k<=B):w.ownsRow k e z v n xs:=by
 refine⟨h.1,?_⟩
 rcases h.2 with i|⟨g,a,b,c,d,f⟩
 ·exact .inl i
 exact .inr ⟨g,a,b,c,XC j d,f⟩
theorem Ak{B e z n:Nat}{xs:List Tv}(h:w.ownsRow B e z v n xs):∃b a,v=Zs b n a/\n<=a/\a<=maxLen:=by
 rcases h.2 with⟨rfl,rfl⟩|⟨g,c,d,f,k,l,i,j,_⟩
 ·exact⟨none,0,rfl,XD _,by unfold maxLen;omega⟩
 exact⟨_,_,f,i,j⟩
theorem below_grown(a:w.grownBy W none):Zb w W :=
 ⟨a.os,a.tape,a.output,a.size,λk b=>a.block k b (by simp)⟩
theorem AFp:∀(a:List CT),(∀T∈a,0<A2 T)->a.length<=(a.map A2).sum
 | [],_=>by simp
 | T :: a,h=>by have d:=h T (by simp);have e:=AFp a (λc b=>h c (by simp[b]));simp only[XU,XV,XR];omega
theorem Stack.sS{w0 wr:Tw}(h:Stack w0 wr i v n X a):X.length=n:=by have:=h.own.1;omega
theorem Stack.pos{w0 wr:Tw}(h:Stack w0 wr i v n X a):∀T∈a,0<A2 T:=by
 intro T c;obtain⟨j,b,e⟩:=List.mem_iff_getElem.1 c;have d:j<X.length:=by rw[h.sS,<-h.len];exact b
 exact(h.ins j T X[j] (by rw[Y' b,e]) (Y' d)).2
theorem Stack.AK5{w0 wr:Tw}(h:Stack w0 wr i v n X a):n<=i:=by have b:=AFp a h.pos;have c:=h.dep;have d:=h.len;omega
theorem Stack.up{w0 wr W:Tw}{i k:Nat}{v:Tv}{n:Nat}{X:List Tv}{b:List CT}(h:Stack w0 wr i v n X b)(a:Zb wr W)(e:i<=k):Stack w0 W k v n X b :=
 ⟨Ad h.own a,h.len,λj T u c d=>⟨(h.ins j T u c d).1.up a,(h.ins j T u c d).2⟩,XC h.dep e,Below.up h.xL a⟩
theorem AHw{B n:Nat}{xs:List Tv}(h:w.ownsRow B 47 1 v n xs):∀g,v.ownBlock=some g->∃a,w.heap[g]? = some (Zk a 47):=by
 intro g b
 rcases h.2 with⟨rfl,_⟩|⟨i,c,a,rfl,e,d,f⟩
 ·cases b
 cases b;exact⟨a,d⟩
theorem Stack.push{w0 wr w:Tw}{v v':Tv}(h:Stack w0 wr i v n X d)(o:Gy wr T u)(s:A2 T=1)(f:wr.grownBy w v.ownBlock)(r:w.ownsRow w0.heap.size 47 1 v' (n+1) (X++[u])):Stack w0 w (i+1) v' (n+1) (X++[u]) (d++[T]):=by
 have b:=AHw h.own;refine⟨r,by simp[h.len],?_,?_,?_⟩
 ·intro j g m a c
  have q:d.length=X.length:=by rw[h.len,h.sS]
  by_cases hj:j<d.length
  ·rw[XI hj] at a
   rw[XI (by omega)] at c;exact⟨(h.ins j g m a c).1.grown f b,(h.ins j g m a c).2⟩
  rw[XH (by omega)] at a;rw[XH (by omega)] at c
  have e:j-d.length=0:=by
   rcases Yt (j-d.length) with l|l
   ·exact l
   rw[Yb (by simp;omega)] at a;cases a
  rw[e] at a;rw[<-q,e] at c;simp at a c;subst a c;exact⟨o.grown f b,by omega⟩
 ·have:=h.dep;simp;omega
 exact Below.grown h.xL f h.xL.size (λk p=>(h.own.lt k p).1)
theorem Stack.replace{w0 wr w:Tw}{v v':Tv}(h:Stack w0 wr i v n X c)(m:Nat)(x:m<=n)(l:Gy wr T u)(r:0<A2 T)(t:((c.take m).map A2).sum+A2 T<=i+1)(o:wr.grownBy w none)(q:w.ownsRow wr.heap.size 47 1 v' (m+1) (X.take m++[u])):Stack w0 w (i+1) v' (m+1) (X.take m++[u]) (c.take m++[T]):=by
 have d:=below_grown o;have p:(c.take m).length=m:=by simp[h.len];omega
 have s:(X.take m).length=m:=by simp[h.sS];omega
 refine⟨Ai q h.xL.size,by simp[h.len];omega,?_,by rw[XN,XS];simp only[XU,X4,XV,X6];omega,Below.up h.xL d⟩;intro j f k a b
 by_cases hj:j<m
 ·rw[XI (by omega),Yl hj] at a
  rw[XI (by omega),Yl hj] at b;exact⟨(h.ins j f k a b).1.up d,(h.ins j f k a b).2⟩
 rw[XH (by omega)] at a;rw[XH (by omega)] at b
 have e:j-m=0:=by
  rcases Yt (j-m) with g|g
  ·exact g
  rw[Yb (by simp;omega)] at a;cases a
 rw[p,e] at a;rw[s,e] at b;simp at a b;subst a b;exact⟨l.up d,r⟩
theorem Stack.AK1{w0 wr:Tw}(h:Stack w0 wr i v (m+1) X a):∃u T,X[m]? = some u/\Gy wr T u/\((a.take m).map A2).sum+A2 T<=i:=by
 have c:m<X.length:=by rw[h.sS];omega
 have b:m<a.length:=by rw[h.len];omega
 refine⟨X[m],a[m],Y' c,(h.ins m _ _ (Y' b) (Y' c)).1,?_⟩
 have e:a=a.take m++[a[m]]:=by rw[<-Ys b,Yd (by rw[h.len];omega)]
 have f:=h.dep;have d:=congrArg (λl=>(l.map A2).sum) e;simp only[XN,XS,XU,X4,XV,X6] at d;omega
theorem Stack.AKv{w0 wr:Tw}(h:Stack w0 wr i v (m+2) X a):∃k n c d,X[m]? = some k/\X[m+1]? = some n/\Gy wr c k/\Gy wr d n/\0<A2 c/\0<A2 d/\((a.take m).map A2).sum+A2 c+A2 d<=i:=by
 have f:m+1<X.length:=by rw[h.sS];omega
 have b:m+1<a.length:=by rw[h.len];omega
 have g:=h.ins m _ _ (Y' (Y9 b)) (Y' (Y9 f));have j:=h.ins (m+1) _ _ (Y' b) (Y' f);refine⟨X[m],X[m+1],a[m],a[m+1],Y' _,Y' f,g.1,j.1,g.2,j.2,?_⟩
 have e:a=a.take m++[a[m]]++[a[m+1]]:=by rw[<-Ys (Y9 b),<-Ys b,Yd (by rw[h.len];omega)]
 have p:=h.dep;have o:=congrArg (λl=>(l.map A2).sum) e;simp only[XN,XS,XU,X4,XV,X6] at o;omega
theorem Stack.cells{w0 wr:Tw}{i:Nat}{g k:Nat}{n:Nat}{X:List Tv}{b:List CT}(h:Stack w0 wr i (Zs (some ⟨g,0,none⟩) n k) n X b){j:Nat}{u:Tv}(c:X[j]? = some u):wr.cell? ⟨g,j,none⟩=some u:=by
 have:=h.own.cells (g:=g) rfl j u c;have a:(⟨g,0,none⟩:Addr).add j=⟨g,j,none⟩:=by unfold Addr.add;split <;> simp_all
 rwa[a] at this
theorem Stack.Hc{w0 wr:Tw}{c:To}{f:List CT}(h:Stack w0 wr i (Zs c n k) n X f)(p:0<n):∃g,c=some ⟨g,0,none⟩/\w0.heap.size<=g/\g<wr.heap.size:=by
 rcases h.own.2 with⟨e,o⟩|⟨g,j,l,a,m,d,_⟩
 ·omega
 injection a with a _ _;refine⟨g,a,m,?_⟩
 rcases Yc g wr.heap.size with b|b
 ·exact b
 rw[XQ b] at d;cases d
theorem Stack.last{w0 wr:Tw}(h:Stack w0 wr i v n X a){j:Nat}(d:j<n):∃u T,X[j]? = some u/\a[j]? = some T/\Gy wr T u/\0<A2 T:=by
 have c:j<X.length:=by rw[h.sS];omega
 have b:j<a.length:=by rw[h.len];omega
 exact⟨X[j],a[j],Y' c,Y' b,h.ins j _ _ (Y' b) (Y' c)⟩
theorem Ip:(prog.info? 47).map (λi=>(i.zero,i.size,i.bytes))=some (some (Zp none),1,8):=by kernel_rfl
theorem wrap_small(m:Nat)(h:m<=1000):IntKind.i64.wrap (m:Int)=(m:Int):=by rw[IntKind.wrap_i64];omega
theorem Gy.ptr:∀{T:CT}{v:Tv},Gy w T v->∃p,v=Zp p
 | .nil,_,h=>⟨none,h⟩
 | .node _ _ ⟨_,_,_,_,_⟩ _ _,_,⟨b,_,_,e,_⟩=>⟨some ⟨b,0,none⟩,e⟩
theorem L9(w:Tw)(X Y Z:Obj):Zb w (((w.alloc X).alloc Y).alloc Z).drew:=(((Zal).alloc (by simp) _).alloc (by simp;omega) _).drew
theorem AFv(w:Tw)(X Y Z:Obj):(((w.alloc X).alloc Y).alloc Z).drew.heap[w.heap.size+1+1]? = some Z:=by rw[<-show ((w.alloc X).alloc Y).heap.size=w.heap.size+1+1 by simp];exact Yac _ _
theorem second(w:Tw)(X Y Z:Obj):(((w.alloc X).alloc Y).alloc Z).drew.heap[w.heap.size+1]? = some Y:=by refine(WA _ _ _ (by simp)).trans ?_;rw[<-show (w.alloc X).heap.size=w.heap.size+1 by simp];exact Yac _ _
theorem Nr(w:Tw)(cs:Array Tv)(Y Z:Obj):(((w.alloc (Zk cs 75)).alloc Y).alloc Z).drew.cell? ⟨w.heap.size,0,none⟩=cs[0]? := by
 show (((w.alloc (Zk cs 75)).alloc Y).alloc Z).cell? ⟨w.heap.size,0,none⟩=cs[0]?;rw[XX _ _ _ (by simp;omega),XX _ _ _ (by simp),World.cell?_alloc_at _ _ _ _ rfl]
theorem take_one{b:List CT}(h:b[0]? = some T):A2 T<=((b.take 1).map A2).sum:=by
 cases b with
 | nil=>simp at h
 | cons a l=>simp at h;subst h;simp
theorem Br(h:a[q]? = some T):((a.take (q+1)).map A2).sum=((a.take q).map A2).sum+A2 T:=by
 have c:q<a.length:=by
  rcases Yc q a.length with b|b
  ·exact b
  rw[Yb b] at h;cases h
 rw[Ys c,XN,XS];rw[Y' c] at h;injection h with h;simp[h]
theorem jQ{w0 wr:Tw}{f:List CT}(h:Stack w0 wr i (Zs (some ⟨g,0,none⟩) n k) n X f)(m:Nat):
 ∀W,Zb wr W->∀b,(some ⟨g,0,none⟩:To)=some b->∀(j:Nat)(u:Tv),(X.take m)[j]? = some u->W.cell? (b.add j)=some u:=by
 intro W l b e j u c;cases e;have a:(⟨g,0,none⟩:Addr).add j=⟨g,j,none⟩:=by unfold Addr.add;split <;> simp_all
 rw[a]
 have d:X[j]? = some u:=by
  rw[List.getElem?_take] at c;split at c
  ·exact c
  cases c
 have:=(h.up l (XD _)).cells d;exact this
theorem fP{w0 wr:Tw}{e:List CT}(h:Stack w0 wr i (Zs (some ⟨g,0,none⟩) n k) n Y e):
 ∃a:Tw->Prop,Hid (a wr/\(∀W X,a W->a (W.alloc X))/\(∀W,a W->∀q,q<n->∃b c,W.cell? ⟨g,q,none⟩=some (Zp b)/\Gy W c (Zp b)/\0<A2 c/\e[q]? = some c)/\(∀W,a W->Zb w0 W)):=by
 refine⟨λW=>Zb wr W,XF _ _,λW X hb=>hb.alloc hb.size _,λW hb q hq=>?_,λW hb=>Below.up h.xL hb⟩;obtain⟨u,T,l,d,f,j⟩:=h.last hq;obtain⟨b,rfl⟩:=f.ptr;exact⟨b,T,(h.up hb (XD _)).cells l,f.up hb,j,d⟩
theorem rA{a:CT}{p b:To}{d:Tw->Prop}(f:Gy w T (Zp p))(g:Gy w a (Zp b))(j:0<A2 T)(k:0<A2 a)(l:A2 T<=((c.take q).map A2).sum)(i:c[q]? = some a)(h:d (w.alloc (Zk #[Zi 9,Zt ⟨#[]⟩,Zi 0,Zi 0,Zt ⟨#[]⟩,Zp p,Zp b] 92))):
 Gy (w.alloc (Zk #[Zi 9,Zt ⟨#[]⟩,Zi 0,Zi 0,Zt ⟨#[]⟩,Zp p,Zp b] 92)) (.node 0 0 ⟨9,⟨#[]⟩,0,0,⟨#[]⟩⟩ T a) (Zp (some ⟨w.heap.size,0,none⟩))/\0<A2 (.node 0 0 ⟨9,⟨#[]⟩,0,0,⟨#[]⟩⟩ T a)/\A2 (.node 0 0 ⟨9,⟨#[]⟩,0,0,⟨#[]⟩⟩ T a)<=((c.take (q+1)).map A2).sum/\d (w.alloc (Zk #[Zi 9,Zt ⟨#[]⟩,Zi 0,Zi 0,Zt ⟨#[]⟩,Zp p,Zp b] 92)):=by
 have e:Zb w (w.alloc (Zk #[Zi 9,Zt ⟨#[]⟩,Zi 0,Zi 0,Zt ⟨#[]⟩,Zp p,Zp b] 92)):=Zal;refine⟨?_,by simp only[A2];omega,by rw[Br i];simp only[A2];omega,h⟩;unfold Gy;exact⟨_,Zp p,Zp b,rfl,Yac _ _,by omega,f.up e,g.up e⟩
theorem vI(w:Tw):Gy w .nil (Zp none):=rfl
theorem Stack.step{w0 wr w:Tw}{v v':Tv}{a b:CT}{u f:Tv}{c k n':Int}{Bl t:Tb}{X Z:Obj}(h:Stack w0 wr i v n Y d)(o:m<=n)(g:1<=c/\c<=11)(l:Gy wr a u)(q:Gy wr b f)(r:((d.take m).map A2).sum+(1+max (A2 a) (A2 b))<=i+1)(j:(((wr.alloc X).alloc (Zk #[Zi c,Zt Bl,Zi k,Zi n',Zt t,u,f] 92)).alloc Z).drew.grownBy w none)(p:w.ownsRow (((wr.alloc X).alloc (Zk #[Zi c,Zt Bl,Zi k,Zi n',Zt t,u,f] 92)).alloc Z).drew.heap.size 47 1 v' (m+1) (Y.take m++[Zp (some ⟨wr.heap.size+1,0,none⟩)])):
 Stack w0 w (i+1) v' (m+1) (Y.take m++[Zp (some ⟨wr.heap.size+1,0,none⟩)]) (d.take m++[.node 0 0 ⟨c,Bl,k,n',t⟩ a b]):=by
 have e:=L9 wr X (Zk #[Zi c,Zt Bl,Zi k,Zi n',Zt t,u,f] 92) Z;refine(h.up e (XD _)).replace m o ?_ (by simp only[A2];omega) (by simp only[A2];omega) j p;unfold Gy;exact⟨_,u,f,rfl,second wr _ _ _,g,l.up e,q.up e⟩
theorem M4(w:Tw)(X Y:Obj):Zb w ((w.alloc X).alloc Y):=(Zal).alloc (by simp) _
theorem AJC(w:Tw)(X Y:Obj)(H:Nat)(a:w.heap.size=H):((w.alloc X).alloc Y).heap[H]? = some X:=by subst a;exact(WA _ _ _ (by simp)).trans (Yac _ _)
theorem bG(w:Tw)(X Y:Obj)(H:Nat)(a:w.heap.size+1=H):((w.alloc X).alloc Y).heap[H]? = some Y:=by subst a;rw[<-show (w.alloc X).heap.size=w.heap.size+1 by simp];exact Yac _ _
theorem Stack.leaf{w0 wr w W:Tw}{v v':Tv}{b:List CT}{c k n':Int}{Bl t:Tb}{Z:Obj}{H:Nat}(h:Stack w0 wr i v n X b)(a:1<=c/\c<=11)(e:Zb wr w)(d:w.heap.size=H)(f:((w.alloc (Zk #[Zi c,Zt Bl,Zi k,Zi n',Zt t,Zp none,Zp none] 92)).alloc Z).grownBy W v.ownBlock)(g:W.ownsRow w0.heap.size 47 1 v' (n+1) (X++[Zp (some ⟨H,0,none⟩)])):
 Stack w0 W (i+1) v' (n+1) (X++[Zp (some ⟨H,0,none⟩)]) (b++[.node 0 0 ⟨c,Bl,k,n',t⟩ .nil .nil]):=by
 refine(h.up (Below.up e (M4 w _ _)) (XD _)).push ?_ (by simp[A2]) f g;unfold Gy;exact⟨_,Zp none,Zp none,rfl,AJC w _ _ H d,a,vI _,vI _⟩
theorem ADb(z N L ah:Nat)(PC PK PN:Nat->Int)(PL PT:Nat->Tb)(w:Tw)(_hL:L<=ah)(_hcap:ah<=maxLen)(hT:∀j,(PT j).size<=maxLen)(Y:z<w.heap.size)(q0:∀j,j<L->w.cell? ⟨z,N+j*5,none⟩=some (Zi (PC j)))(q1:∀j,j<L->w.cell? ⟨z,N+j*5+1,none⟩=some (Zt (PL j)))(q2:∀j,j<L->w.cell? ⟨z,N+j*5+2,none⟩=some (Zi (PK j)))(q3:∀j,j<L->w.cell? ⟨z,N+j*5+3,none⟩=some (Zi (PN j)))(q4:∀j,j<L->w.cell? ⟨z,N+j*5+4,none⟩=some (Zt (PT j))):
 Zc 10 #[Zs (some ⟨z,N,none⟩) L ah] w λe V=>∃v T,e=Zr v/\Gy V T v/\A2 T<=14/\Zb w V:=by
 obtain⟨i0,ax,a1,a2,a3⟩:=info_parts Ip;have r:Hid (prog.info? 47=some i0/\i0.zero=some (Zp none)/\i0.size=1/\i0.bytes=8):=⟨ax,a1,a2,a3⟩;clear ax a1 a2 a3;have Q0:=Ab q0;have Q1:=Ab q1;have Q2:=Ab q2;have Q3:=Ab q3;have Q4:=Ab q4;have HT:=Ab hT;clear q0 q1 q2 q3 q4 hT;unfold maxLen at _hcap;go_enter func10,ntmps10;go_wp2
 go_loopw [3,4] (λo i wr=>∃(k n:Nat)(y:List Tv)(M:List CT),k<=14/\i=Zi k/\Hid (Stack w wr k o n y M)) (λ_ i _=>14-(intOf i).toNat)
 case atStart=>exact⟨0,0,[],[],by omega,rfl,⟨World.ownsRow_nil _ _ _ _,rfl,λj T u h=>by simp at h,by simp,XF _ _⟩⟩
 case round=>
  obtain⟨k,n,y,M,hk,rfl,d⟩:=hrel;obtain⟨ao,cp,rfl,bc,a4⟩:=Ak d.o.own;have bp:=d.o.AK5;unfold maxLen at a4
  by_cases P:k<L/\k<14
  ·obtain⟨O,ay⟩:=P
   have hb:=d.o.xL;have bb:z<wr.heap.size:=Ya Y hb.size;have c0:wr.cell? ⟨z,N+k*5,none⟩=some (Zi (PC k)):=(hb.cell (p:=⟨z,N+k*5,none⟩) Y).trans (Q0.o k O);have c1:wr.cell? ⟨z,N+k*5+1,none⟩=some (Zt (PL k)):=(hb.cell (p:=⟨z,N+k*5+1,none⟩) Y).trans (Q1.o k O);have c2:wr.cell? ⟨z,N+k*5+2,none⟩=some (Zi (PK k)):=(hb.cell (p:=⟨z,N+k*5+2,none⟩) Y).trans (Q2.o k O);have c3:wr.cell? ⟨z,N+k*5+3,none⟩=some (Zi (PN k)):=(hb.cell (p:=⟨z,N+k*5+3,none⟩) Y).trans (Q3.o k O);have c4:wr.cell? ⟨z,N+k*5+4,none⟩=some (Zt (PT k)):=(hb.cell (p:=⟨z,N+k*5+4,none⟩) Y).trans (Q4.o k O);have ht:=HT.o k;clear hb Q0 Q1 Q2 Q3 Q4 HT;generalize PC k=c at *;generalize PL k=Bl at *;generalize PK k=kk at *;generalize PN k=nn at *;generalize PT k=tt at *;have R:Hid (∀X,Zb wr (wr.alloc X)):=λX=>Zal
   by_cases h11:c=11
   ·subst h11
    by_cases hn0:n=0
    ·subst hn0
     go_wp2
     all_goals
      go_roundw
      case rel=>exact⟨k+1,_,y,M,by omega,by go_num,Ab (d.o.up (R.o _) (by omega))⟩
      case measure=>simp[intOf];omega
    obtain⟨m,rfl⟩:∃m,n=m+1:=⟨n-1,by omega⟩;obtain⟨g,rfl,an,aa⟩:=d.o.Hc (by omega);obtain⟨u,T,hu,am,J⟩:=d.o.AK1;obtain⟨pu,rfl⟩:=am.ptr;have cu:=d.o.cells hu;have U:Hid (Gy wr T (Zp pu)/\y[m]? = some (Zp pu)):=⟨am,hu⟩;have HD:=Ab J;have a5:(0:Int)<=(m:Int):=by omega
    have a6:(m:Int)<(m:Int)+1:=by omega
    clear hu am J;have HC:Hid (∀W,Zb wr W->∀b,(some ⟨g,0,none⟩:To)=some b->∀(j:Nat)(u':Tv),(y.take m)[j]? = some u'->W.cell? (b.add j)=some u'):=jQ d.o m;have HV:Hid ((y.take m).length=m*1):=Ab (by simp[d.o.sS]);have bo:=X' wr ⟨g,m,none⟩ cu;have HK:Hid (∀W,Zb wr W->W.cell? ⟨g,m,none⟩=some (Zp pu)):=λW hb=>(hb.cell (p:=⟨g,m,none⟩) aa).trans cu
    have ba:IntKind.i64.wrap (m:Int)=(m:Int):=wrap_small m (by omega);have a7:(m:Int)<=(cp:Int):=by omega
    go_wp2_with fail
    go_region_held3 (λV=>V.cell? ⟨g,m,none⟩=some (Zp pu))
     (first
       | (go_keep;done)
       | exact HK.o _ (L9 wr _ _ _)
       | exact HK.o _ (Below.up (L9 wr _ _ _) (below_grown a)))
     ((refine step_append_grows (by rfl) (.tmp 38) (.tmp 46) 90 (by rfl) 47 i0 (.pointer none) 1 8 underlying90 r.o.1 r.o.2.1 r.o.2.2.1 r.o.2.2.2 rfl (by omega) (some ⟨g,0,none⟩) m m (y.take m) (by rfl) (by simp) HV.o (HC.o _ (L9 wr _ _ _)) ⟨wr.heap.size+1+1,0,none⟩ 1 1 [.pointer (some ⟨wr.heap.size+1,0,none⟩)] (by rfl) (by rfl) (XG (cs:=#[.pointer (some ⟨wr.heap.size+1,0,none⟩)]) (t:=47) (fr:=(0,0)) (AFv wr _ _ _)) (by simp[Value.oneCell']) (by omega) (by unfold maxLen;omega) (by omega) ?_;intro v' D f a))
    go_wp2
    go_roundw
    case rel=>exact⟨k+1,m+1,_,_,by omega,by go_num,Ab (d.o.step (by omega) (by omega) U.o.1 (vI wr) (by have:=HD.o;simp only[A2];omega) a f)⟩
    case measure=>simp[intOf];omega
   have bj:(c==11)=false:=by simpa using h11
   by_cases h9:c=9\/c=10
   ·by_cases af:n<=1
    ·rcases h9 with rfl|rfl
     ·go_wp2
      all_goals
       go_roundw
       case rel=>exact⟨k+1,_,y,M,by omega,by go_num,Ab (d.o.up (R.o _) (by omega))⟩
       case measure=>simp[intOf];omega
     go_wp2
     all_goals
      go_roundw
      case rel=>exact⟨k+1,_,y,M,by omega,by go_num,Ab (d.o.up (R.o _) (by omega))⟩
      case measure=>simp[intOf];omega
    obtain⟨m,rfl⟩:∃m,n=m+2:=⟨n-2,by omega⟩;obtain⟨g,rfl,an,aa⟩:=d.o.Hc (by omega);obtain⟨u1,u2,T1,T2,az,a0,ak,al,av,aw,J⟩:=d.o.AKv;have ar:=d.o.cells az;have ai:=d.o.cells a0;obtain⟨p1,rfl⟩:=ak.ptr;obtain⟨p2,rfl⟩:=al.ptr;have U:Hid (Gy wr T1 (Zp p1)/\Gy wr T2 (Zp p2)):=⟨ak,al⟩;have HD:Hid (0<A2 T1/\0<A2 T2/\((M.take m).map A2).sum+A2 T1+A2 T2<=k):=⟨av,aw,J⟩;have a5:(0:Int)<=(m:Int):=by omega
    have a6:(m:Int)<(m:Int)+2:=by omega
    obtain⟨m1,ag⟩:∃m1:Nat,m1=m+1:=⟨_,rfl⟩;have bm:(m1:Int)<(m:Int)+2:=by omega
    have bn:(0:Int)<=(m1:Int):=by omega
    have bh:IntKind.i64.wrap ((m:Int)+2-1)=(m1:Int):=by rw[show ((m:Int)+2-1)=(m1:Int) by omega];exact wrap_small m1 (by omega)
    rw[<-ag] at ai;clear ag;clear az a0 ak al av aw J;have HC:Hid (∀W,Zb wr W->∀b,(some ⟨g,0,none⟩:To)=some b->∀(j:Nat)(u':Tv),(y.take m)[j]? = some u'->W.cell? (b.add j)=some u'):=jQ d.o m;have HV:Hid ((y.take m).length=m*1):=Ab (by simp[d.o.sS]);have bd:=X' wr ⟨g,m,none⟩ ar;have bf:=X' wr ⟨g,m1,none⟩ ai;have HK:Hid (∀W,Zb wr W->∀X,W.cell? ⟨wr.heap.size,0,none⟩=some X->W.cell? ⟨g,m,none⟩=some (Zp p1)/\W.cell? ⟨g,m1,none⟩=some (Zp p2)/\W.cell? ⟨wr.heap.size,0,none⟩=some X):=λW hb X hX=>⟨(hb.cell (p:=⟨g,m,none⟩) aa).trans ar,(hb.cell (p:=⟨g,m1,none⟩) aa).trans ai,hX⟩
    have ba:IntKind.i64.wrap (m:Int)=(m:Int):=wrap_small m (by omega);have a7:(m:Int)<=(cp:Int):=by omega
    rcases h9 with rfl|rfl
    ·go_wp2_with fail
     go_region_held3 (λV=>V.cell? ⟨g,m,none⟩=some (Zp p1)/\V.cell? ⟨g,m1,none⟩=some (Zp p2)/\V.cell? ⟨wr.heap.size,0,none⟩=some (Zi 9))
      (first
        | (go_keep;done)
        | exact HK.o _ (L9 wr _ _ _) _ (Nr wr _ _ _)
        | exact HK.o _ (Below.up (L9 wr _ _ _) (below_grown a)) _ ((a.cell_far _ (by simp;omega) (by simp)).trans (Nr wr _ _ _)))
      ((refine step_append_grows (by rfl) (.tmp 66) (.tmp 81) 90 (by rfl) 47 i0 (.pointer none) 1 8 underlying90 r.o.1 r.o.2.1 r.o.2.2.1 r.o.2.2.2 rfl (by omega) (some ⟨g,0,none⟩) m m (y.take m) (by rfl) (by simp) HV.o (HC.o _ (L9 wr _ _ _)) ⟨wr.heap.size+1+1,0,none⟩ 1 1 [.pointer (some ⟨wr.heap.size+1,0,none⟩)] (by rfl) (by rfl) (XG (cs:=#[.pointer (some ⟨wr.heap.size+1,0,none⟩)]) (t:=47) (fr:=(0,0)) (AFv wr _ _ _)) (by simp[Value.oneCell']) (by omega) (by unfold maxLen;omega) (by omega) ?_;intro v' D f a))
     go_wp2
     go_roundw
     case rel=>exact⟨k+1,m+1,_,_,by omega,by go_num,Ab (d.o.step (by omega) (by omega) U.o.1 U.o.2 (by have:=HD.o;omega) a f)⟩
     case measure=>simp[intOf];omega
    go_wp2_with fail
    go_region_held3 (λV=>V.cell? ⟨g,m,none⟩=some (Zp p1)/\V.cell? ⟨g,m1,none⟩=some (Zp p2)/\V.cell? ⟨wr.heap.size,0,none⟩=some (Zi 10))
     (first
       | (go_keep;done)
       | exact HK.o _ (L9 wr _ _ _) _ (Nr wr _ _ _)
       | exact HK.o _ (Below.up (L9 wr _ _ _) (below_grown a)) _ ((a.cell_far _ (by simp;omega) (by simp)).trans (Nr wr _ _ _)))
     ((refine step_append_grows (by rfl) (.tmp 66) (.tmp 81) 90 (by rfl) 47 i0 (.pointer none) 1 8 underlying90 r.o.1 r.o.2.1 r.o.2.2.1 r.o.2.2.2 rfl (by omega) (some ⟨g,0,none⟩) m m (y.take m) (by rfl) (by simp) HV.o (HC.o _ (L9 wr _ _ _)) ⟨wr.heap.size+1+1,0,none⟩ 1 1 [.pointer (some ⟨wr.heap.size+1,0,none⟩)] (by rfl) (by rfl) (XG (cs:=#[.pointer (some ⟨wr.heap.size+1,0,none⟩)]) (t:=47) (fr:=(0,0)) (AFv wr _ _ _)) (by simp[Value.oneCell']) (by omega) (by unfold maxLen;omega) (by omega) ?_;intro v' D f a))
    go_wp2
    go_roundw
    case rel=>exact⟨k+1,m+1,_,_,by omega,by go_num,Ab (d.o.step (by omega) (by omega) U.o.1 U.o.2 (by have:=HD.o;omega) a f)⟩
    case measure=>simp[intOf];omega
   have b9:(c==9)=false:=by simp;omega
   have bi:(c==10)=false:=by simp;omega
   by_cases h16:1<=c/\c<=6
   ·obtain⟨h1,h6⟩:=h16
    have b7:(c==7)=false:=by simp;omega
    have b8:(c==8)=false:=by simp;omega
    by_cases hsz:(tt.size:Int)<=100
    ·have x:Hid (∀W,Zc 24 #[Zg #[Zi kk,Zi nn,Zt tt]] W λe V=>e=Zr (Zo (E.A9 kk nn tt))/\Zb W V):=λW=>E.Ln kk nn tt W ht
     cases hrv:E.A9 kk nn tt
     ·rw[hrv] at x
      clear hrv;go_wp2_with fail;refine(x.o _).mono ?_;rintro e D⟨rfl,s⟩;have x0:D.cell? ⟨wr.heap.size,0,none⟩=some (Zi c):=(s.cell (p:=⟨wr.heap.size,0,none⟩) (by simp)).trans (by go_simp);have HX:=Ab s;clear s;go_wp2
      all_goals
       go_roundw
       case rel=>exact⟨k+1,n,y,M,by omega,by go_num,Ab (d.o.up (Below.up (R.o _) HX.o) (by omega))⟩
       case measure=>simp[intOf];omega
     rw[hrv] at x;clear hrv;go_wp2_with fail;refine(x.o _).mono ?_;rintro e D⟨rfl,s⟩;have x0:D.cell? ⟨wr.heap.size,0,none⟩=some (Zi c):=(s.cell (p:=⟨wr.heap.size,0,none⟩) (by simp)).trans (by go_simp);have x1:D.cell? ⟨wr.heap.size,1,none⟩=some (Zt Bl):=(s.cell (p:=⟨wr.heap.size,1,none⟩) (by simp)).trans (by go_simp);have x2:D.cell? ⟨wr.heap.size,2,none⟩=some (Zi kk):=(s.cell (p:=⟨wr.heap.size,2,none⟩) (by simp)).trans (by go_simp);have x3:D.cell? ⟨wr.heap.size,3,none⟩=some (Zi nn):=(s.cell (p:=⟨wr.heap.size,3,none⟩) (by simp)).trans (by go_simp);have x4:D.cell? ⟨wr.heap.size,4,none⟩=some (Zt tt):=(s.cell (p:=⟨wr.heap.size,4,none⟩) (by simp)).trans (by go_simp);have HX:Hid (Zb wr D):=Below.up (R.o _) s;clear s;go_wp2_with (at_builtin;refine wpList_append_lies _ rfl (.tmp 104) (.tmp 113) 90 rfl w.heap.size 47 i0 (.pointer none) 1 8 underlying90 r.o.1 r.o.2.1 r.o.2.2.1 r.o.2.2.2 rfl (by omega) (.slice ao n cp) n y rfl (Ad d.o.own (Below.up HX.o (M4 D _ _))) ⟨D.heap.size+1,0,none⟩ 1 1 [.pointer (some ⟨D.heap.size,0,none⟩)] rfl rfl (XG (cs:=#[.pointer (some ⟨D.heap.size,0,none⟩)]) (t:=47) (fr:=(0,0)) (bG D _ _ _ (by simp))) (by simp[Value.oneCell']) (by omega) (by unfold maxLen;omega) (by omega) (XC d.o.xL.size (Below.up HX.o (M4 D _ _)).size) (D.heap.size+1+1) (by simp) ?_;intro gg aq w2 f a au P)
     go_roundw
     case rel=>exact⟨k+1,n+1,_,_,by omega,by go_num,Ab (d.o.leaf (by omega) HX.o (by simp) a f)⟩
     case measure=>simp[intOf];omega
    have bg:(100:Int)<tt.size:=by omega
    clear hsz;go_wp2
    all_goals
     go_roundw
     case rel=>exact⟨k+1,_,y,M,by omega,by go_num,Ab (d.o.up (R.o _) (by omega))⟩
     case measure=>simp[intOf];omega
   by_cases aj:c=7\/c=8
   ·skip
    clear h16 h9 h11
    rcases aj with rfl|rfl
    ·go_wp2_with (at_builtin;refine wpList_append_lies _ rfl (.tmp 124) (.tmp 131) 90 rfl w.heap.size 47 i0 (.pointer none) 1 8 underlying90 r.o.1 r.o.2.1 r.o.2.2.1 r.o.2.2.2 rfl (by omega) (.slice ao n cp) n y rfl (Ad d.o.own (Below.up (R.o _) (M4 _ _ _))) ⟨wr.heap.size+1+1,0,none⟩ 1 1 [.pointer (some ⟨wr.heap.size+1,0,none⟩)] rfl rfl (XG (cs:=#[.pointer (some ⟨wr.heap.size+1,0,none⟩)]) (t:=47) (fr:=(0,0)) (bG (wr.alloc _) _ _ _ (by simp))) (by simp[Value.oneCell']) (by omega) (by unfold maxLen;omega) (by omega) (XC d.o.xL.size (Below.up (R.o _) (M4 _ _ _)).size) (wr.heap.size+1+1+1) (by simp) ?_;intro gg aq w2 f a au P)
     go_roundw
     case rel=>exact⟨k+1,n+1,_,_,by omega,by go_num,Ab (d.o.leaf (by omega) (R.o _) (by simp) a f)⟩
     case measure=>simp[intOf];omega
    go_wp2_with (at_builtin;refine wpList_append_lies _ rfl (.tmp 124) (.tmp 131) 90 rfl w.heap.size 47 i0 (.pointer none) 1 8 underlying90 r.o.1 r.o.2.1 r.o.2.2.1 r.o.2.2.2 rfl (by omega) (.slice ao n cp) n y rfl (Ad d.o.own (Below.up (R.o _) (M4 _ _ _))) ⟨wr.heap.size+1+1,0,none⟩ 1 1 [.pointer (some ⟨wr.heap.size+1,0,none⟩)] rfl rfl (XG (cs:=#[.pointer (some ⟨wr.heap.size+1,0,none⟩)]) (t:=47) (fr:=(0,0)) (bG (wr.alloc _) _ _ _ (by simp))) (by simp[Value.oneCell']) (by omega) (by unfold maxLen;omega) (by omega) (XC d.o.xL.size (Below.up (R.o _) (M4 _ _ _)).size) (wr.heap.size+1+1+1) (by simp) ?_;intro gg aq w2 f a au P)
    go_roundw
    case rel=>exact⟨k+1,n+1,_,_,by omega,by go_num,Ab (d.o.leaf (by omega) (R.o _) (by simp) a f)⟩
    case measure=>simp[intOf];omega
   have b7:(c==7)=false:=by simp;omega
   have b8:(c==8)=false:=by simp;omega
   by_cases hc1:1<=c
   ·have bk:¬c<=6:=by omega
    clear h16 aj h9 h11;go_wp2
    all_goals
     go_roundw
     case rel=>exact⟨k+1,_,y,M,by omega,by go_num,Ab (d.o.up (R.o _) (by omega))⟩
     case measure=>simp[intOf];omega
   clear h16 aj h9 h11;go_wp2
   all_goals
    go_roundw
    case rel=>exact⟨k+1,_,y,M,by omega,by go_num,Ab (d.o.up (R.o _) (by omega))⟩
    case measure=>simp[intOf];omega
  by_cases O:k<L
  ·have ay:¬k<14:=λhh=>P ⟨O,hh⟩
   clear P
   by_cases hn0:n=0
   ·subst hn0
    go_wp2;go_ret;exact⟨_,.nil,rfl,vI _,by simp[A2],d.o.xL⟩
   obtain⟨g,rfl,an,aa⟩:=d.o.Hc (by omega);obtain⟨BW,l⟩:=fP d.o;obtain⟨p0,T0,cu,ab,ad,G⟩:=l.o.2.2.1 _ l.o.1 0 (by omega);have H0:Hid (Gy wr T0 (Zp p0)/\0<A2 T0/\M[0]? = some T0):=⟨ab,ad,G⟩;have HD:=Ab d.o.dep;have HL:=Ab d.o.len;clear ab ad G d Q0 Q1 Q2 Q3 Q4 HT;have af:(n==0)=false:=by simpa using hn0
   have ap:(0:Int)<(n:Int):=by omega
   go_wp2
   go_loopw [7,8] (λcv iv w2=>∃(q:Nat)(T:CT)(p:To),1<=q/\q<=n/\iv=Zi q/\cv=Zp p/\Hid (Gy w2 T (Zp p)/\0<A2 T/\A2 T<=((M.take q).map A2).sum/\BW w2)) (λ_ iv _=>n-(intOf iv).toNat)
   case atStart=>exact⟨1,T0,p0,by omega,by omega,rfl,rfl,⟨H0.o.1,H0.o.2.1,take_one H0.o.2.2,l.o.1⟩⟩
   case round=>
    obtain⟨q,T,p,a8,a9,rfl,rfl,x⟩:=hrel;clear cu af ap
    by_cases hq:q<n
    ·obtain⟨pu,Tq,cq,ac,ae,I⟩:=l.o.2.2.1 _ x.o.2.2.2 q hq
     have U:Hid (Gy wr Tq (Zp pu)/\0<A2 Tq/\M[q]? = some Tq):=⟨ac,ae,I⟩;clear ac ae I;go_wp2
     go_roundw
     case rel=>exact⟨q+1,.node 0 0 ⟨9,⟨#[]⟩,0,0,⟨#[]⟩⟩ T Tq,some ⟨wr.heap.size,0,none⟩,by omega,by omega,by go_num,rfl,Ab (rA x.o.1 U.o.1 x.o.2.1 U.o.2.1 x.o.2.2.1 U.o.2.2 (l.o.2.1 _ _ x.o.2.2.2))⟩
     case measure=>simp[intOf];omega
    have HF:Hid (A2 T<=14):=Ab (by have h1:=x.o.2.2.1;have h2:=HD.o;rw[Yd (by have:=HL.o;omega)] at h1;omega)
    go_wp2;go_ret;exact⟨_,T,rfl,x.o.1,HF.o,l.o.2.2.2 _ x.o.2.2.2⟩
  clear P
  by_cases hn0:n=0
  ·subst hn0
   go_wp2;go_ret;exact⟨_,.nil,rfl,vI _,by simp[A2],d.o.xL⟩
  obtain⟨g,rfl,an,aa⟩:=d.o.Hc (by omega);obtain⟨BW,l⟩:=fP d.o;obtain⟨p0,T0,cu,ab,ad,G⟩:=l.o.2.2.1 _ l.o.1 0 (by omega);have H0:Hid (Gy wr T0 (Zp p0)/\0<A2 T0/\M[0]? = some T0):=⟨ab,ad,G⟩;have HD:=Ab d.o.dep;have HL:=Ab d.o.len;clear ab ad G d Q0 Q1 Q2 Q3 Q4 HT;have af:(n==0)=false:=by simpa using hn0
  have ap:(0:Int)<(n:Int):=by omega
  go_wp2
  go_loopw [7,8] (λcv iv w2=>∃(q:Nat)(T:CT)(p:To),1<=q/\q<=n/\iv=Zi q/\cv=Zp p/\Hid (Gy w2 T (Zp p)/\0<A2 T/\A2 T<=((M.take q).map A2).sum/\BW w2)) (λ_ iv _=>n-(intOf iv).toNat)
  case atStart=>exact⟨1,T0,p0,by omega,by omega,rfl,rfl,⟨H0.o.1,H0.o.2.1,take_one H0.o.2.2,l.o.1⟩⟩
  case round=>
   obtain⟨q,T,p,a8,a9,rfl,rfl,x⟩:=hrel;clear cu af ap
   by_cases hq:q<n
   ·obtain⟨pu,Tq,cq,ac,ae,I⟩:=l.o.2.2.1 _ x.o.2.2.2 q hq
    have U:Hid (Gy wr Tq (Zp pu)/\0<A2 Tq/\M[q]? = some Tq):=⟨ac,ae,I⟩;clear ac ae I;go_wp2
    go_roundw
    case rel=>exact⟨q+1,.node 0 0 ⟨9,⟨#[]⟩,0,0,⟨#[]⟩⟩ T Tq,some ⟨wr.heap.size,0,none⟩,by omega,by omega,by go_num,rfl,Ab (rA x.o.1 U.o.1 x.o.2.1 U.o.2.1 x.o.2.2.1 U.o.2.2 (l.o.2.1 _ _ x.o.2.2.2))⟩
    case measure=>simp[intOf];omega
   have HF:Hid (A2 T<=14):=Ab (by have h1:=x.o.2.2.1;have h2:=HD.o;rw[Yd (by have:=HL.o;omega)] at h1;omega)
   go_wp2;go_ret;exact⟨_,T,rfl,x.o.1,HF.o,l.o.2.2.2 _ x.o.2.2.2⟩
theorem V8(c:To)(a:Nat)(w:Tw):
 Zc 10 #[Zs c 0 a] w λe b=>∃v T,e=Zr v/\Gy b T v/\A2 T<=14/\Zb w b:=by
 go_enter func10,ntmps10;go_wp2
 go_loopw [3,4] (λo i wr=>o=Zs none 0 0/\i=Zi 0/\wr=w) (λ_ _ _=>0)
 case atStart=>exact⟨rfl,rfl,rfl⟩
 case round=>obtain⟨rfl,rfl,rfl⟩:=hrel;go_wp2;go_ret;exact⟨_,.nil,rfl,rfl,by simp[A2],XF _ _⟩
theorem AHt:prog.cellsOf 75=5:=by kernel_rfl
theorem Db:prog.cellsOf 3=1:=by kernel_rfl
theorem zS:prog.cellsOf 2=1:=by kernel_rfl
theorem Vw:prog.cellsOf 9=1:=by kernel_rfl
theorem gQ:prog.cellsOf 57=3:=by kernel_rfl
theorem ABw{H:Type}{enc:TypeId×Tv->H}{W:Tw}{base:Nat}{s:Nat->Bool}{held:Bool}{n:Nat}{cs:List Tv}{x:DataW H×List MemPlace}(h:DataW.trod enc prog W base s held n 75 cs=some x):
 ∃(c k m:Int)(l t:Tb),cs=[Zi c,Zt l,Zi k,Zi m,Zt t]/\t.size<=maxLen:=by
 obtain⟨u,v,w,n1,_,q,j,o,p⟩:=trod_struct3 underlying75 h;rw[AHt] at q
 match cs,q with
 | [v0,v1,v2,v3,v4],_=>simp only[Db,Vw,gQ,XO,XJ,XK,XP] at j o p;obtain⟨c,e0,_,_⟩:=DataW.trod_int underlying3 j;obtain⟨l,a,_,_⟩:=DataW.trod_string underlying9 o;obtain⟨y,z,D,n2,_,_,f,g,i⟩:=trod_struct3 underlying57 p;simp only[Db,Vw,zS,XO,XJ,XK,XP] at f g i;obtain⟨k,b,_,_⟩:=DataW.trod_int underlying3 f;obtain⟨m,d,_,_⟩:=DataW.trod_int underlying2 g;obtain⟨t,e,_,r⟩:=DataW.trod_string underlying9 i;simp at e0 a b d e;subst e0 a b d e;exact⟨c,k,m,l,t,rfl,r⟩
structure Pt where
 c:Int
 k:Int
 m:Int
 l:ByteArray
 t:ByteArray
end S
namespace F
variable{W w:Tw}{v:Tv}{H:Type}{n:Nat}{d:DataW H}{p:List MemPlace}
theorem kM:prog.cellsOf 38=8:=by kernel_rfl
theorem pR:prog.cellsOf 70=4:=by kernel_rfl
theorem ACj:prog.cellsOf 75=5:=by kernel_rfl
theorem AH4:prog.cellsOf 34=1:=by kernel_rfl
theorem AID:prog.cellsOf 35=1:=by kernel_rfl
theorem AH3:prog.cellsOf 23=1:=by kernel_rfl
theorem AHJ:prog.cellsOf 36=1:=by kernel_rfl
structure DdS where
 x:J4
 ca:Option Addr
 cc:Nat
 ra:Option Addr
 rc:Nat
 pa:Option Addr
 pn:Nat
 pc:Nat
 sa:Option Addr
 sc:Nat
def AGa(q:DdS):List Value:=[Zi q.x.Qk,.slice q.ca q.x.cols.length q.cc,.slice q.ra q.x.rows.length q.rc,.slice q.pa q.pn q.pc,.slice q.sa q.x.A3.length q.sc,Zi q.x.change,.string q.x.name,.string q.x.tw]
structure Nf(w:World)(q:DdS):Prop where
 cols:F7 7 Cc w (.slice q.ca q.x.cols.length q.cc) q.x.cols
 ACl:∀c∈q.x.cols,c.2.1.size<=maxLen/\c.2.2.2.2.2.2.size<=maxLen
 uB:∀c∈q.x.cols,Vp c
 rows:iJ w (.slice q.ra q.x.rows.length q.rc) q.x.rows
 ACg:∀r∈q.x.rows,∀v∈r,Ks v/\v.2.2.size<=maxLen
 A3:F7 4 Wu w (.slice q.sa q.x.A3.length q.sc) q.x.A3
 wX:∀s∈q.x.A3,Ks s.2/\s.2.2.2.size<=maxLen
 cnd:∀W,Zb w W->Zc 10 #[.slice q.pa q.pn q.pc] W λe w'=>∃v T,e=.returned v/\S.Gy w' T v/\q.x.tree T/\Zb W w'
 nm:q.x.name.size<=maxLen
 tw:q.x.tw.size<=maxLen
structure U8(q:DdS):Prop where
 cols:ABP q.x.cols
 rows:RowsFit q.x.rows
 parts:q.pn<=20
 A3:q.x.A3.length<=10
 wX:∀s∈q.x.A3,s.2.2.2.size<=100
theorem ADe{l:List Aj}(h:F7 7 Cc w v l):bH w v l:=by
 obtain⟨a,c,e,k,n⟩:=h
 by_cases hn:l=[]
 ·subst hn;exact .inl ⟨⟨_,_,e⟩,rfl⟩
 obtain⟨b,off,f,g,d⟩:=n hn;subst f;refine .inr ⟨b,off,c,e,k,g,λj m i v o=>?_⟩;exact d j l[j]! (by rw[List.getElem!_eq_getElem?_getD,Y' m];rfl) i v o
theorem Nf.at{q:DdS}(h:Nf w q)(f:U8 q):K8 w q.x q.ca q.cc q.ra q.rc q.pa q.pn q.pc q.sa q.sc :=
 ⟨ADe h.cols,h.ACl,h.rows,λr a v b=>(h.ACg r a v b).2,h.A3,by have:=f.A3;omega,λs hs=>(h.wX s hs).2,h.cnd,h.tw,⟨h.uB,f.cols.1,λr a v b=>(h.ACg r a v b).1,by have:=f.rows.1;omega,λs hs=>(h.wX s hs).1⟩⟩
theorem oC{enc:TypeId×Tv->H}{P:Program}{base:Nat}{spare:Nat->Bool}{held:Bool}{t:TypeId}{b c d e f g i j:Field}{fuel:Nat}{cs:List Tv}{x:DataW H×List MemPlace}(m:P.underlying t=some (.struct #[b,c,d,e,f,g,i,j]))(h:DataW.trod enc P w base spare held fuel t cs=some x):
 ∃(n:Nat),cs.length=P.cellsOf t/\(∃y,DataW.trod enc P w base spare held n b.type ((cs.drop b.offset).take (P.cellsOf b.type))=some y)/\(∃y,DataW.trod enc P w base spare held n c.type ((cs.drop c.offset).take (P.cellsOf c.type))=some y)/\(∃y,DataW.trod enc P w base spare held n d.type ((cs.drop d.offset).take (P.cellsOf d.type))=some y)/\(∃y,DataW.trod enc P w base spare held n e.type ((cs.drop e.offset).take (P.cellsOf e.type))=some y)/\(∃y,DataW.trod enc P w base spare held n f.type ((cs.drop f.offset).take (P.cellsOf f.type))=some y)/\(∃y,DataW.trod enc P w base spare held n g.type ((cs.drop g.offset).take (P.cellsOf g.type))=some y)/\(∃y,DataW.trod enc P w base spare held n i.type ((cs.drop i.offset).take (P.cellsOf i.type))=some y)/\(∃y,DataW.trod enc P w base spare held n j.type ((cs.drop j.offset).take (P.cellsOf j.type))=some y):=by
 obtain⟨xs,n,_,_,l,k,a⟩:=DataW.trod_struct m h
 match xs,k with
 | [y0,y1,y2,y3,y4,y5,y6,y7],_=>exact⟨n,l,⟨y0,a 0 b rfl⟩,⟨y1,a 1 c rfl⟩,⟨y2,a 2 d rfl⟩,⟨y3,a 3 e rfl⟩,⟨y4,a 4 f rfl⟩,⟨y5,a 5 g rfl⟩,⟨y6,a 6 i rfl⟩,⟨y7,a 7 j rfl⟩⟩
section
variable {H : Type} {enc : TypeId × Value → H} {W : World} {sp : Nat → Bool} {held : Bool} {n : Nat} {cs : List Value} {x : DataW H × List MemPlace}
theorem AFs(h:DataW.trod enc prog W 0 sp held n 70 cs=some x):∃s:Vi,cs=Wu s/\Ks s.2/\s.2.2.2.size<=maxLen:=by
 obtain⟨k,l,n1,_,e,b,d⟩:=trod_struct2 underlying70 h;rw[pR] at e
 match cs,e with
 | [v0,v1,v2,v3],_=>simp only[Vw,gQ,XO,XJ,XK,XP] at b d;obtain⟨c,e0,_,_⟩:=DataW.trod_string underlying9 b;obtain⟨v,a,j,i⟩:=qU d;simp at e0 a;obtain⟨a,f,g⟩:=a;subst e0 a f g;exact⟨(c,v),rfl,j,i⟩
theorem zP(h:DataW.trod enc prog W 0 sp held n 35 cs=some x):∃v,cs=[v]/\∃l:List (List V),iJ W v l/\∀r∈l,∀x∈r,Ks x/\x.2.2.size<=maxLen:=by
 obtain⟨v',e,l,z,p⟩:=M0 (α:=Tv×List V) (k:=1) (en:=λq=>[q.1]) (P:=λq=>E.Sl W q.1 q.2/\∀x∈q.2,Ks x/\x.2.2.size<=maxLen) (by decide) (λ_=>rfl) underlying35 AHc (λh=>by obtain⟨u,e,r,f,d⟩:=M0 (k:=3) (en:=AIQ) (P:=λx:V=>Ks x/\x.2.2.size<=maxLen) (by decide) (λ_=>rfl) underlying58 gQ (λh=>qU h) h;exact⟨(u,r),e,mW f,d⟩) h
 refine⟨v',e,?_⟩;obtain⟨a,c,t,y,g⟩:=z;refine⟨l.map (·.2),⟨l.map (·.1),⟨a,c,by rw[XA];exact t,by rw[XA];exact y,λD=>?_⟩,by simp,λj x r m f=>?_⟩,λr f=>?_⟩
 ·obtain⟨b,off,s,w,o⟩:=g (by intro h0;exact D (by rw[h0];rfl))
  refine⟨b,off,s,w,λj x m i u G=>?_⟩;rw[XL] at m;obtain⟨q,d,rfl⟩:=Option.map_eq_some_iff.1 m;exact o j q d i u G
 ·rw[XL] at m f
  obtain⟨q,d,rfl⟩:=Option.map_eq_some_iff.1 m;rw[d] at f;simp at f;subst f;exact(p q (XB d)).1
 obtain⟨q,d,rfl⟩:=List.mem_map.1 f;exact(p q d).2
def AHF(q:S.Pt):List Value:=[Zi q.c,.string q.l,Zi q.k,Zi q.m,.string q.t]
def AEm(W:World)(v:Value):Prop:=∀a,Zb W a->Zc 10 #[v] a λe b=>∃u T,e=.returned u/\S.Gy b T u/\Zb a b
theorem AAi{l:List S.Pt}(h:F7 5 AHF W v l)(I:∀q∈l,q.t.size<=maxLen)(G:∀a n c,v=Zs a n c->c<=maxLen):AEm W v:=by
 intro s y;obtain⟨a,c,rfl,z,D⟩:=h
 by_cases hn:l=[]
 ·subst hn
  refine(S.V8 a c s).mono ?_;rintro e L⟨u,T,rfl,w,_,x⟩;exact⟨u,T,rfl,w,x⟩
 obtain⟨b,off,rfl,r,g⟩:=D hn;have M:∀j,j<l.length->∃q,l[j]? = some q:=λj d=>⟨_,Y' d⟩
 have f:∀(j:Nat)(d:j<l.length)(i:Nat)u,(AHF l[j])[i]? = some u->s.cell? ⟨b,off+j*5+i,none⟩=some u:=λj d i u J=>(y.cell (p:=⟨b,off+j*5+i,none⟩) r).trans (g j _ (Y' d) i u J)
 have o:∀(j:Nat)(d:j<l.length),l.getD j ⟨0,0,0,⟨#[]⟩,⟨#[]⟩⟩=l[j]:=λj d=>by rw[XT,Y' d];rfl
 refine(S.ADb b off l.length c (λj=>(l.getD j ⟨0,0,0,⟨#[]⟩,⟨#[]⟩⟩).c) (λj=>(l.getD j ⟨0,0,0,⟨#[]⟩,⟨#[]⟩⟩).k) (λj=>(l.getD j ⟨0,0,0,⟨#[]⟩,⟨#[]⟩⟩).m) (λj=>(l.getD j ⟨0,0,0,⟨#[]⟩,⟨#[]⟩⟩).l) (λj=>(l.getD j ⟨0,0,0,⟨#[]⟩,⟨#[]⟩⟩).t) s z (G _ _ _ rfl) (λj=>?_) (Ya r y.size) (λj d=>?_) (λj d=>?_) (λj d=>?_) (λj d=>?_) (λj d=>?_)).mono ?_
 ·rcases Yc j l.length with d|d
  ·simp only[o j d];exact I _ (Yh d)
  rw[XT,Yb d];decide
 ·rw[o j d];exact f j d 0 _ rfl
 ·rw[o j d];exact f j d 1 _ rfl
 ·rw[o j d];exact f j d 2 _ rfl
 ·rw[o j d];exact f j d 3 _ rfl
 ·rw[o j d];exact f j d 4 _ rfl
 rintro e L⟨u,T,rfl,w,_,x⟩;exact⟨u,T,rfl,w,x⟩
theorem AAh(h:DataW.trod enc prog W 0 sp held n 75 cs=some x):∃q:S.Pt,cs=AHF q/\q.t.size<=maxLen:=by obtain⟨c,k,m,l,t,e,a⟩:=S.ABw h;exact⟨⟨c,k,m,l,t⟩,e,a⟩
theorem ACw{T E:TypeId}(g:prog.underlying T=some (.slice E))(h:DataW.trod enc prog W 0 sp held n T cs=some x)(e:cs=[v]):∀a l c,v=.slice a l c->c<=maxLen:=by
 intro a l c f;subst f
 rcases open_slice g h with⟨b,_⟩|⟨k,len,d,m,n,D,j,b,o,p,i,_⟩
 ·rw[e] at b
  simp at b;rw[b.2.2];exact XE _
 rw[e] at b;simp at b;rw[b.2.2];exact i
theorem qH(h:DataW.trod enc prog W 0 sp held n 23 cs=some x):∃a l c,cs=[.slice a l c]/\l<=c/\AEm W (.slice a l c):=by
 haveI:Inhabited S.Pt:=⟨⟨0,0,0,⟨#[]⟩,⟨#[]⟩⟩⟩
 obtain⟨v,e,l,f,i⟩:=M0 (k:=5) (en:=AHF) (P:=λq:S.Pt=>q.t.size<=maxLen) (by decide) (λ_=>rfl) underlying23 ACj (λh=>AAh h) h;have g:=ACw underlying23 h e;have b:=f;obtain⟨a,c,rfl,d,_⟩:=b;exact⟨a,l.length,c,e,d,AAi f i g⟩
theorem ADH(h:DataW.trod enc prog W 0 sp held n 38 cs=some x):∃q:DdS,cs=AGa q/\Nf W q/\q.x.tree=λ_=>True:=by
 obtain⟨n1,M,⟨y0,z⟩,⟨y1,g⟩,⟨y2,i⟩,⟨y3,D⟩,⟨y4,G⟩,⟨y5,I⟩,⟨y6,J⟩,⟨y7,L⟩⟩:=oC underlying38 h;rw[kM] at M
 match cs,M with
 | [v0,v1,v2,v3,v4,v5,v6,v7],_=>simp only[Db,Vw,AH4,AID,AH3,AHJ,XO,XJ,XK,XP] at z g i D G I J L;obtain⟨wh,e0,_,_⟩:=DataW.trod_int underlying3 z;obtain⟨cv,p,cols,a,b⟩:=M0 (k:=7) (en:=Cc) (P:=λc:Aj=>(c.2.1.size<=maxLen/\c.2.2.2.2.2.2.size<=maxLen)/\Vp c) (by decide) (λ_=>rfl) underlying34 AGR (λh=>Go.Proofs.YtneakjbkbmfleaaGreatDoor.AEc h) g;obtain⟨rv,r,rows,d,l⟩:=zP i;obtain⟨pa,X,V,t,_,U⟩:=qH D;obtain⟨sv,v,A3,f,m⟩:=M0 (k:=4) (en:=Wu) (P:=λs:Vi=>Ks s.2/\s.2.2.2.size<=maxLen) (by decide) (λ_=>rfl) underlying36 pR (λh=>AFs h) G;obtain⟨R,w,_,_⟩:=DataW.trod_int underlying3 I;obtain⟨nm,y,_,j⟩:=DataW.trod_string underlying9 J;obtain⟨tw,e7,_,o⟩:=DataW.trod_string underlying9 L;simp at e0 p r t v w y e7;subst e0 p r t v w y e7;obtain⟨N,O,rfl,_⟩:=a.slice;obtain⟨Y,rc,rfl,_⟩:=d.slice;obtain⟨sa,sc,rfl,_⟩:=f.slice;refine⟨⟨⟨wh,cols,rows,A3,R,nm,tw,λ_=>True⟩,N,O,Y,rc,pa,X,V,sa,sc⟩,rfl,⟨a,λc hc=>(b c hc).1,λc hc=>(b c hc).2,d,l,f,m,λW' hb=>?_,j,o⟩,rfl⟩;refine(U W' hb).mono ?_;rintro e w'⟨u,T,rfl,g,i⟩;exact⟨u,T,rfl,g,trivial,i⟩
end
theorem yI{enc:TypeId×Tv->H}(m:Value.okWide prog W .any n 22 v)(h:DataW.Trod enc prog W 0 (λ_=>true) true 22 v d p):
 ∃l:List DdS,F7 8 AGa W v l/\∀q∈l,Nf W q:=by
 haveI:Inhabited DdS:=⟨⟨⟨0,[],[],[],0,⟨#[]⟩,⟨#[]⟩,λ_=>True⟩,none,0,none,0,none,0,0,none,0⟩⟩
 obtain⟨b,len,a,rfl⟩:=okWide_slice underlying22 m;obtain⟨fuel,f⟩:=h;obtain⟨v',e,l,g,i⟩:=M0 (k:=8) (en:=AGa) (P:=λq:DdS=>Nf W q/\q.x.tree=λ_=>True) (by decide) (λ_=>rfl) underlying22 kM (λh=>ADH h) f;have c:v'=Zs b len a:=by simpa[Value.cells] using e.symm
 subst c;exact⟨l,g,λq j=>(i q j).1⟩
theorem AGh{enc:TypeId×Tv->H}(o:Value.okWide prog W .any n 23 v)(h:DataW.Trod enc prog W 0 (λ_=>true) true 23 v d p):∃a l c,v=.slice a l c/\l<=c/\c<=maxLen/\AEm W (.slice a l c):=by
 obtain⟨j,len,b,rfl⟩:=okWide_slice underlying23 o;obtain⟨fuel,i⟩:=h;obtain⟨a,l,c,e,k,g⟩:=qH i;have f:Value.slice a l c=Zs j len b:=by simpa[Value.cells] using e.symm
 have m:=ACw underlying23 i e;rw[f] at g;injection f with q r s;subst q r s;exact⟨a,l,c,rfl,k,m _ _ _ rfl,g⟩
