import Derived.Test.YthpcepcghakimaaGreatDoorZT
import Derived.Sort.KeysCollected
set_option maxHeartbeats 40000000
set_option maxRecDepth 100000
open List renaming getElem?_eq_getElem->Y',mem_cons_self->XA,length_map->XC,mem_of_getElem?->XE,length_cons->XG,filter_cons_of_pos->XH,map_map->XJ,length_append->XK,getElem?_map->XM,mem_of_mem_drop->XO,all_eq_true->XP
open Nat renaming le_refl->XB,le_trans->XD,zero_le->XF
open Bool renaming and_eq_true->XI
open Go.RowKit.Below renaming refl->XL
open Option renaming getD_some->XN
namespace Go.Proofs.YthpcepcghakimaaGreatDoor
open Tryz RowKit Shelf Joins
namespace F
variable{W w:Tw}{T:S.CT}{v:Tv}{D M:Td}{i j k n:Nat}{s:Ah}{l:List Aj}{a:List Tb}{A:List A5}{H:List (Dn×Ah)}{e:Ending}{x:J4}{p:Tb}
def VB(w:World)(base i:Nat):Prop:=base<=i/\∃cs,w.1[i]? = some (.cells cs 55 (0,0))
theorem AFV{base:Nat}{a b c:Tw}(h:B.A0 (VB a base) a b)(k:B.A0 (VB b base) b c):B.A0 (VB a base) a c :=
 h.trans k λi g e=>by
  by_cases hs:VB a base i
  ·exact hs
  obtain⟨d,cs,f⟩:=e;exact⟨d,cs,(h.block i g hs).symm.trans f⟩
theorem Mf{base b z m:Nat}{T:TypeId}{xs:List Tv}(h:w.ownsRow b T z v m xs)(l:B.A0 (VB w base) w W)(k:T≠55):W.ownsRow b T z v m xs:=by
 refine⟨h.1,?_⟩
 rcases h.2 with j|⟨g,c,a,n,d,f,i⟩
 ·exact .inl j
 refine .inr ⟨g,c,a,n,d,(l.block g (Ac f) ?_).trans f,i⟩;rintro⟨_,cs,e⟩;rw[f] at e;injection e with e;injection e with _ e;exact k e
theorem uH{base:Nat}(d:B.A0 (VB w base) w W){w0:Tw}(b:Below base w0 w)(a:base<=w.1.size):Below base w0 W:=d.below b a λ_ c=>c.1
theorem AHn{w0 w W:Tw}{k base bb n:Nat}{fs:List Int}{mv v:Tv}(h:Ey w0 w k bb n D fs mv v)(R:k<=base)(O:w0.1.size<=base)(o:B.A0 (VB w base) w W):Ey w0 W k bb n D fs mv v:=by
 obtain⟨p,c,J⟩:=h.bu
 have r:¬VB w base bb:=by rintro⟨_,cs,b⟩;have q:w.1[bb]? = _:=p;rw[q] at b;injection b with b;injection b with _ b;exact absurd b (by decide)
 refine⟨⟨p.keep (o.block bb p.lt r),c.keep λm e=>o.block m (c.lt e) ?_,?_⟩,o.below h.low h.low.size (λi hi=>XD O hi.1),h.hb,h.hm,h.er,h.nc,h.tb,h.hf⟩
 ·rintro⟨_,cs,b⟩
  rcases c with⟨I,_⟩|⟨T,z,es,clock,s,_⟩
  ·rw[I] at e;cases e
  rw[z] at e;cases e;rw[s] at b;cases b
 obtain⟨a,j,e,L,M⟩:=J;refine⟨a,j,e,L,λu=>?_⟩;obtain⟨g,off,t,d⟩:=M u;refine⟨g,off,t,λi x P=>?_⟩
 have N:g<k:=by
  cases hfs:fs with
  | nil=>exact absurd hfs u
  | cons y l=>refine h.hf g off l.length j ?_;rw[e,t,hfs];rfl
 have f:=d i x P;have G:=o.block g (Fv f) (λe=>by have:=e.1;omega);simp only[World.cell?,G] at f ⊢;exact f
theorem AH1{base b:Nat}{v:Int}{d:To}{n1 c1:Nat}{y:Int}{f:To}{n2 k:Nat}{t:Tb}{l:Bool}{g:To}{L:List Gx}{qj:Int}(h:Dv base w n s v d n1 c1 y f n2 k t l g i L qj)(a:B.A0 (VB w b) w W):Dv base W n s v d n1 c1 y f n2 k t l g i L qj:=by
 refine⟨(a.block n (Ac h.box) ?_).trans h.box,?_,Mf h.row a (by decide),λq j=>⟨Mf (h.own q j).1 a (by decide),Mf (h.own q j).2 a (by decide)⟩,h.Vv,h.low⟩
 ·rintro⟨_,cs,e⟩
  rw[h.box] at e;injection e with e;injection e with _ e;exact absurd e (by decide)
 obtain⟨o,r,p,u,m,e,c⟩:=h.snap;exact⟨o,r,p,u,m,e,Mf c.qz a (by decide),c.qx,Mf c.row a (by decide),λx z=>Mf (c.Cl x z) a (by decide)⟩
theorem AJc{B0 b:Nat}{rs:List Px}(h:jE B0 w v rs)(e:B.A0 (VB w b) w W):jE B0 W v rs:=by obtain⟨zs,a,c,d⟩:=h;exact⟨zs,a,Mf c e (by decide),d⟩
theorem AIy{B0 base bb n:Nat}{fs:List Int}{mv u f:Tv}{rs:List Px}(h:jE B0 w v rs)(e:Mv base bb mv f w W)(d:B.Bu w bb n D fs mv u):jE B0 W v rs:=by obtain⟨zs,a,b,c⟩:=h;exact⟨zs,a,e.row d b (by decide) (by decide) (by decide),c⟩
theorem ABg{f:Nat->Option V}{r:List V}{v:V}(h:v∈tU f r):v∈r\/∃t,f t=some v:=by
 unfold tU at h;rw[List.mem_mapIdx] at h;obtain⟨i,a,e⟩:=h;cases hf:f i with
 | none=>rw[hf] at e;simp at e;left;rw[<-e];exact Yg _
 | some x=>rw[hf] at e;simp at e;exact .inr ⟨i,by rw[hf,e]⟩
def AIS(D:DataW Unit)(s:Ah)(xs:List A6)(b:ByteArray)(T:S.CT)(A3:List Vi)(a:DataW Unit)(c:Bool)(A:List A5)(qj:Int):Prop :=
 s.qz≠[]/\Ex s.qz T=0/\c=true/\qj=(Bo s.qz T xs).1.length/\∃ts,Tgt s.qz A3 ts /\
  (((Bo s.qz T xs).1=[]/\a=D/\A=[]) \/
   ((Bo s.qz T xs).1≠[]/\∃R,R=(Bo s.qz T xs).1.map (λz=>tU (Ly ts (A3.map (·.2))) z.2.2)/\De s.qz R=true/\a=D.put (B.lit (Eh (Bw b 0))) (Pa s.qz R)/\A=(1,Bw b 0,(R.length:Int),[],[],0) :: xs.flatMap (Vm s.qz T)))
theorem xQ(w0:Tw)(NF bb n:Nat)(D:Td)(fs:List Int)(mv fv:Tv)(H:List (Dn×Ah))(U:List Tb)(tx:Tb)(cv:Tv)(T:S.CT)(xs:List A6)(sa:To)(sc:Nat)(A3:List Vi)(w:Tw)(h:iK w0 w NF bb n D fs mv fv H U tx)(hT:C7 D (Ae H H.length) xs)(hi:S.Gy w T cv)(hS:F7 4 Wu w (Zs sa A3.length sc) A3)(c7:A3.length<=100)(b4:∀s∈A3,s.2.2.2.size<=maxLen/\Lu s.2.2.1):
 Zc 42 #[Zp (some (Zd bb 0)),Zt tx,cv,Zs sa A3.length sc] w (Kd w0 w NF bb n D mv H tx AnyE (AIS D (Ae H H.length) xs tx T A3)):=by
 have m:=Aa h;have bh:=Aa hT;have dd:=Aa hi;have aa:=Aa (Wo bb n D mv H tx xs T cv w h.base.ground (h.et.below h.base.low) (h.Pw.below h.base.low) h.inv.Lm h.inv.past h.O5 h.name h.short hT.Lz hi);have h8:=M9 h.Of;have bf:=Aa (λg cp W(hW:Zb w W)(hs:I1 W g 0 (Ae H H.length).qz)=>uA g cp (Ae H H.length).qz sa sc A3 W hs h8 (hS.up hW) c7);have cj:=Aa b4;have ci:=Aa hS;have a7:=Aa (L0 (Ae H H.length).qz T xs hT.Lz.each);have di:=hT.Lz.Iz;have av:=Aa (λ(l:Ex (Ae H H.length).qz T=0)=>(all_filter _ T (uI h.Of) hi.ok l xs hT.Lz.each).1);have a6:=Aa h.Of;have cb:=Aa (No hT h.Of (Mq h.inv.past (XB _)));clear h hT hi hS b4;unfold tK at aa;go_enter func42,ntmps42;go_wp2_with fail;apply aa.o.mono;rintro e w1⟨L,⟨l,rfl⟩|⟨l,bz,rfl⟩|⟨l,hz,pb,v1,a1,n1,c1,x2,a2,n2,c2,rfl,hP,hF⟩⟩
 ·have M:=Aa L
  clear l L aa;go_wp2_with fail;go_ret2;exact⟨n,D,fs,mv,fv,m.o.base.up M.o,by omega,B.A0.Ba M.o,λ_ e=>.inl e,.refl,.inr ⟨_,_,trivial,rfl⟩⟩
 ·have M:=Aa L
  rw[Et bz];clear l L bz aa;go_wp2_with fail;go_ret2;exact⟨n,D,fs,mv,fv,m.o.base.up M.o,by omega,B.A0.Ba M.o,λ_ e=>.inl e,.refl,.inr ⟨_,_,trivial,rfl⟩⟩
 have a4:=Aa L;have M:=Aa (And.intro l hz);have HP:=Aa hP;have HF:=Aa hF
 obtain⟨fa,fc,rfl,_⟩:∃a c,v1=Zs a (Bo (Ae H H.length).qz T xs).1.length c/\(Bo (Ae H H.length).qz T xs).1.length<=c:=by obtain⟨zs,_,e2,_⟩:=hF;exact Au e2
 obtain⟨g,ga,am⟩:∃g,a1=some (Zd g 0)/\n1=(Ae H H.length).qz.length/\I1 w1 g 0 (Ae H H.length).qz:=by
  obtain⟨b1,d1,b2,d2,Ls,ev,hV⟩:=hP.snap;unfold K4 at ev;simp only[Value.agg.injEq,Array.mk.injEq,List.cons.injEq,Value.int.injEq,Value.slice.injEq] at ev;obtain⟨-,⟨e1,e2,e3⟩,-⟩:=ev
  rcases hV.qz.2 with⟨_,h0⟩|⟨g,ak,al,ev,_⟩
  ·exact absurd (Yah.1 h0) l
  injection ev with ac _ dg;subst ac;exact⟨g,e1,e2,I1.Fz hV.qz rfl⟩
 obtain⟨ct,am⟩:=am;subst ga ct;have ab:=Aa (bf.o g c1 w1 L am);obtain⟨y0,y1,y2,y3,y4,y5,y6,y7,yf⟩:=F2 hP.box;clear L l hz hP hF aa bf am;generalize b3:Ae H H.length=d at *;have ax:=Aa b3;clear b3;go_wp2_with fail;apply ab.o.mono;rintro e w2⟨X,⟨ta,tc,ts,rfl,b7,b5⟩|⟨ta,tn,tc,T',y,rfl⟩⟩
 rotate_left
 ·have O:=Aa (Ap a4.o X)
  clear X ab y0 y1 y2 y3 y4 y5 y6 y7 yf;go_wp2_with fail;go_ret2;exact⟨n,D,fs,mv,fv,m.o.base.up O.o,by omega,B.A0.Ba O.o,λ_ e=>.inl e,.refl,.inr ⟨_,_,trivial,rfl⟩⟩
 have O:=Aa (Ap a4.o X);have an:=Aa b7;have f:=Aa b5;have aw:=Aa (HP.o.up X);have au:=Aa (HF.o.up X);clear X b7 b5 ab y0 y1 y2 y3 y4 y5 y6 y7 yf HP HF
 by_cases hem:(Bo d.qz T xs).1.length=0
 ·have ar:Hid ((Bo d.qz T xs).1=[]):=Aa (Yah.1 hem)
  have cy:(((Bo d.qz T xs).1.length:Nat):Int)=0:=by omega
  clear hem;go_wp2_with fail;go_ret2;exact⟨n,D,fs,mv,fv,m.o.base.up O.o,by omega,B.A0.Ba O.o,λ_ e=>.inl e,.refl,.inl ⟨pb,[],true,_,_,_,c1,x2,a2,n2,c2,none,0,rfl,by rw[ax.o];exact aw.o,M.o.1,M.o.2,rfl,rfl,ts,f.o,.inl ⟨ar.o,rfl,rfl⟩⟩⟩
 have ar:Hid ((Bo d.qz T xs).1≠[]):=Aa (λe=>hem (by rw[e];rfl));have cy:¬(((Bo d.qz T xs).1.length:Nat):Int)=0:=by omega
 have bm:=Aa (X7 _ _ _ _ w2 au.o (by have:=a7.o.2;omega));clear hem;go_wp2_with fail;apply bm.o.mono;rintro e w3⟨v3,rfl,cx,af⟩;obtain⟨us,u1,u2,u3⟩:=cx;obtain⟨ra,rc,rfl,_⟩:=Au u2;have Y:=Aa (Ap O.o af);have bj:=Aa u1;have bk:=Aa u2;have cm:=Aa u3;have cf:=Aa (aw.o.up af);have b9:=Aa (au.o.up af);have ck:=Aa (Bc an.o af);clear af u1 u2 u3 bm aw au an
 have aq:Hid (∀r∈(Bo d.qz T xs).1.map (·.2.2),r.length=d.qz.length):=Aa (λr p=>by obtain⟨z,hz,rfl⟩:=List.mem_map.1 p;rw[av.o M.o.2,H9] at hz;obtain⟨x,_,hz⟩:=List.mem_flatMap.1 (List.mem_filter.1 hz).1;exact ADa hz)
 have G:Hid (((Bo d.qz T xs).1.map (·.2.2)).length=(Bo d.qz T xs).1.length):=Aa (XC ..);have df:Hid ((A3.map (·.2)).length=A3.length):=Aa (XC ..);have a9:Hid (vK w.1.size w3 us ((Bo d.qz T xs).1.map (·.2.2)) (Ly ts (A3.map (·.2))) d.qz.length 0 (λ_=>True)):=Aa λj x r hx p=>⟨r,by rw[<-aq.o r (XE p)];exact cm.o j x r hx p,aq.o r (XE p),aq.o r (XE p),oI.refl _ _,(λh=>absurd h (Yp _)),λ_=>trivial⟩
 have c4:(Bo d.qz T xs).1.length<=100000:=by have:=a7.o.2;omega
 go_wp2_with fail
 go_loopw [53] (λvi wr=>∃k:Nat,k<=(Bo d.qz T xs).1.length/\vi=Zi (k:Int)/\Hid (vK w.1.size wr us ((Bo d.qz T xs).1.map (·.2.2)) (Ly ts (A3.map (·.2))) d.qz.length k (λ_=>True))/\Hid (B.A0 (VB w3 w.1.size) w3 wr)) (λvi _=>(Bo d.qz T xs).1.length-Ev vi)
 case atStart=>exact⟨0,XF _,rfl,a9,Aa (B.A0.refl _ _)⟩
 case round=>
  clear a9;obtain⟨k,hk,rfl,HR,P⟩:=hrel
  rcases Yc k (Bo d.qz T xs).1.length with bv|dl
  ·obtain⟨u,hu⟩:∃u,us[k]? = some u:=⟨_,Y' (by have:=bj.o;rw[G.o] at this;omega)⟩
   obtain⟨r,p⟩:∃r,((Bo d.qz T xs).1.map (·.2.2))[k]? = some r:=⟨_,Y' (by rw[G.o];exact bv)⟩;obtain⟨c0,q1,q2,_⟩:=HR.o k u r hu p;have dk:0<d.qz.length:=List.length_pos_iff.2 M.o.1
   obtain⟨g,ak,eu,bq⟩:∃g ak,u=Zs (some (Zd g 0)) d.qz.length ak/\w.1.size<=g:=by
    rcases Di q1 with⟨_,e⟩|⟨g,c,e,hb,_⟩
    ·omega
    exact⟨g,c,e,hb⟩
   subst eu;have N:=Mf bk.o P.o (by decide);rw[G.o] at N
   obtain⟨rb,cu,dp,c6⟩:∃rb,ra=some (Zd rb 0)/\rb<wr.1.size/\wr.cell? (Zd rb k)=some (Zs (some (Zd g 0)) d.qz.length ak):=by
    rcases N.2 with⟨_,h0⟩|⟨rb,cp,al,ev,_,hh,_,_,_⟩
    ·omega
    injection ev with ac _ _;subst ac;have l:=N.cells (g:=rb) rfl;simp only[E.addr_add] at l;have:=l k _ hu;exact⟨rb,rfl,E.Ac hh,by simpa using this⟩
   subst cu;have c3:(k:Int)<((Bo d.qz T xs).1.length:Int):=by omega
   have bl:=Aa hu;have cd:=Aa bq;have c8:d.qz.length<=8:=h8;clear N q1 q2 p hu bq;have ba:Hid (vK w.1.size wr us ((Bo d.qz T xs).1.map (·.2.2)) (Ly ts (A3.map (·.2))) d.qz.length k (λc=>∀(i t:Nat)v,i<0->ts[i]? = some t->(A3.map (·.2))[i]? = some v->c[t]? = some v)):=Aa (HR.o.imp λc _ i t v h=>absurd h (Yp _));go_wp2_with fail
   go_loopw [59] (λvi wi=>∃i:Nat,i<=A3.length/\vi=Zi (i:Int)/\Hid (vK w.1.size wi us ((Bo d.qz T xs).1.map (·.2.2)) (Ly ts (A3.map (·.2))) d.qz.length k (λc=>∀(j t:Nat)v,j<i->ts[j]? = some t->(A3.map (·.2))[j]? = some v->c[t]? = some v))/\Hid (B.A0 (VB w3 w.1.size) w3 wi)) (λvi _=>A3.length-Ev vi)
   case atStart=>exact⟨0,XF _,rfl,ba,P⟩
   case round=>
    clear ba HR P c6;rename_i wr0;obtain⟨i,dm,rfl,HR,P⟩:=hrel
    rcases Yc i A3.length with ao|c9
    ·obtain⟨x,hx⟩:∃x,A3[i]? = some x:=⟨_,Y' ao⟩
     obtain⟨t,ht⟩:∃t,ts[i]? = some t:=⟨_,Y' (by rw[f.o.len];exact ao)⟩;obtain⟨_,b6⟩:=f.o.find i t x ht hx;have ad:=uH P.o Y.o Y.o.size;obtain⟨b,off,cc,ev,_,dj,o⟩:=(ci.o.up ad).cons (by omega);injection ev with e1 _ e3;subst e1 e3;obtain⟨nm,vk,vn,vt⟩:=x;have s1:=o i _ hx 1 _ rfl;have s2:=o i _ hx 2 _ rfl;have s3:=o i _ hx 3 _ rfl;have a0:=Mf ck.o P.o (by decide)
     obtain⟨tb,cw,dq,dr⟩:∃tb,ta=some (Zd tb 0)/\tb<wr.1.size/\wr.cell? (Zd tb i)=some (Zi (t:Int)):=by
      rcases a0.2 with⟨_,h0⟩|⟨tb,cp,al,ev,_,hh,_,_,_⟩
      ·omega
      injection ev with ac _ _;subst ac;have l:=a0.cells (g:=tb) rfl;simp only[E.addr_add] at l;have:=l i (Zi (t:Int)) (by simp[ints,ht]);exact⟨tb,rfl,E.Ac hh,by simpa using this⟩
     subst cw;obtain⟨r,p⟩:∃r,((Bo d.qz T xs).1.map (·.2.2))[k]? = some r:=⟨_,Y' (by rw[G.o];exact bv)⟩;obtain⟨c0,q1,q2,_⟩:=HR.o k _ r bl.o p;have cz:(E.AHk c0).length=d.qz.length*3:=by rw[E.K3,q2]
     obtain⟨z0,dt⟩:∃z,wr.cell? (Zd g (t*3))=some z:=by rw[q1.cellAt (t*3) (by omega)];exact⟨_,Y' (by omega)⟩
     obtain⟨z1,du⟩:∃z,wr.cell? (Zd g (t*3+1))=some z:=by rw[q1.cellAt (t*3+1) (by omega)];exact⟨_,Y' (by omega)⟩
     obtain⟨z2,dv⟩:∃z,wr.cell? (Zd g (t*3+2))=some z:=by rw[q1.cellAt (t*3+2) (by omega)];exact⟨_,Y' (by omega)⟩
     have f0:=q1.frozenAt (t*3);have f1:=q1.frozenAt (t*3+1);have f2:=q1.frozenAt (t*3+2)
     have ay:Hid (VB wr w.1.size g):=Aa (by obtain⟨al,l⟩:=Go.Proofs.YthpcepcghakimaaGreatDoor.Ho q1 (k:=g) rfl;exact⟨cd.o,al,l⟩)
     have bi:Hid (Ly ts (A3.map (·.2)) t=some (vk,vn,vt)):=Aa (AD5 f.o.once ht (by simp[hx]));have cl:=Aa ht;have bt:(i:Int)<(A3.length:Int):=by omega
     have ds:(t:Int)<(d.qz.length:Int):=by omega
     have dc:(0:Int)<=(t:Int):=by omega
     have db:(0:Int)<=(i:Int):=by omega
     have bg:=Aa b6;clear o a0 hx ht b6 p q1 q2 cz ad;go_wp2;refine⟨⟨i+1,by omega,by simp,Aa (HR.o.store bl.o bg.o bi.o λc l hP j t' v' hj h1 h2=>?_),Aa (AFV P.o ((((B.A0.refl _ _).setCell (λ_=>ay.o) _).setCell (λ_=>ay.o) _).setCell (λ_=>ay.o) _))⟩,by simp only[Ev];omega⟩;have b8:=AD5 f.o.once h1 h2
     by_cases e:t=t'
     ·subst e
      rw[bi.o] at b8;rw[Yi (by rw[l];exact bg.o)];exact b8
     rw[Yo e];refine hP j t' v' ?_ h1 h2
     rcases Yc j i with bw|da
     ·exact bw
     have:j=i:=by omega
     subst this;rw[cl.o] at h1;injection h1 with h1;exact absurd h1 e
    have bt:¬(i:Int)<(A3.length:Int):=by omega
    have br:i=A3.length:=by omega
    have bc:=Aa ((HR.o.imp (P':=λc=>∀(j t:Nat)v,ts[j]? = some t->(A3.map (·.2))[j]? = some v->c[t]? = some v) λc l j t v h1 h2=>l j t v (by rw[br,<-f.o.len];exact Ax h1) h1 h2).next (P':=λ_=>True) λ_=>trivial);clear br;go_wp2
    go_roundw
    case rel=>exact⟨k+1,by omega,by simp,bc,P⟩
    case measure=>simp only[Ev];omega
  have c3:¬(k:Int)<((Bo d.qz T xs).1.length:Int):=by omega
  have bs:k=(Bo d.qz T xs).1.length:=by omega
  have bd:Hid (Sc w2.1.size wr (Zs ra ((Bo d.qz T xs).1.map (·.2.2)).length rc) (((Bo d.qz T xs).1.map (·.2.2)).map (tU (Ly ts (A3.map (·.2)))))):=Aa (vK.qj (by rw[G.o,<-bs];exact HR.o) bj.o (Mf bk.o P.o (by decide)));have ad:=uH P.o Y.o Y.o.size;have ah:=Aa ad;have a5:=Aa (AHn (m.o.base.up Y.o) m.o.nf m.o.base.low.size P.o);have cg:=Aa (AH1 cf.o P.o);have ca:=Aa (AJc b9.o.AJP P.o);obtain⟨R,ae⟩:∃R,((Bo d.qz T xs).1.map (·.2.2)).map (tU (Ly ts (A3.map (·.2))))=R:=⟨_,rfl⟩;rw[ae,G.o] at bd;have ch:=Aa ae;have J:R.length=(Bo d.qz T xs).1.length:=by rw[<-ae,XC,G.o]
  have bc:=Aa J
  have ag:∀r∈R,∀v∈r,Ks v/\v.2.2.size<=maxLen:=λr p v hv=>by
   rw[<-ae] at p;obtain⟨q,hq,rfl⟩:=List.mem_map.1 p;obtain⟨z,hz,rfl⟩:=List.mem_map.1 hq
   rcases ABg hv with h|⟨t,h⟩
   ·rw[av.o M.o.2] at hz
    have:=cb.o z (List.mem_filter.1 hz).1 v h;exact⟨this.1,by have:=this.2;unfold maxLen;omega⟩
   obtain⟨i,_,h2⟩:=bI h;rw[XM] at h2;cases hs:A3[i]? with
   | none=>rw[hs] at h2;cases h2
   | some x=>rw[hs] at h2;simp at h2;have:=cj.o x (XE hs);rw[h2] at this;exact⟨this.2,this.1⟩
  have aj:=Aa (bK w0 NF w.1.size bb n D fs mv fv pb d (H.length:Int) _ _ c1 x2 a2 n2 c2 tx true none 0 [] _ _ R wr a5.o m.o.nf m.o.base.low.size (by have:=m.o.Iz;omega) m.o.inv.Lm.1 cg.o ah.o.size a6.o m.o.et bd.o.slr (by rw[J];exact c4) (λr p v hv=>(ag r p v hv).2) (λr p v hv=>(ag r p v hv).1) m.o.short (XF _) (m.o.free 0));unfold AIr at aj;clear bs ad ag ae J;go_wp2_with fail;apply aj.o.mono;rintro e w5⟨n5,D5,dh,a3,bn,I,dn,V,⟨rfl,hm,hf,rfl,rfl,co,cr,az⟩|⟨T5,x5,rfl,rfl,c5⟩⟩
  ·have ai:=Aa ((Mv.below (base:=w.1.size) ah.o).trans V)
   have ap:=Aa I;have de:=Aa az;have ce:=Aa hm;have cn:=Aa (XD ah.o.size V.only.size);have a8:=Aa (mL w.1.size bb n5 _ a3 pb d (H.length:Int) _ _ c1 x2 a2 n2 c2 tx true co cr _ _ _ _ T xs w5 I.ground (m.o.et.below I.low) (m.o.Pw.below I.low) az cn.o (by rw[<-ax.o] at bh ⊢;exact bh.o.Lz.put (m.o.free 0) _) a6.o (AIy ca.o V a5.o.bu) (av.o M.o.2) (by simp));clear I V hm hf az aj;go_wp2_with fail;apply a8.o.mono;rintro e w6⟨rfl,⟨cq,cs,Lq,bp,bo⟩,b0⟩;have H6:=Aa (And.intro bp (And.intro bo b0));clear bp bo b0 a8;go_wp2_with fail;go_ret2;have bx:=ai.o.trans (Mv.ACV H6.o.2.2);refine⟨n5,_,_,a3,bn,Kv ap.o m.o.nf m.o.base.low.size H6.o.2.2,by omega,bx.o (XB _),bx.link,.put 0 _ .refl (m.o.free 0),.inl ⟨pb,_,true,_,_,_,c1,x2,a2,n2,c2,cq,cs,rfl,by rw[ax.o];exact H6.o.1,M.o.1,M.o.2,rfl,rfl,ts,f.o,.inr ⟨ar.o,R,?_,ce.o,rfl,?_⟩⟩⟩
   ·rw[<-ch.o,XJ];rfl
   rw[List.map_append,H6.o.2.1];rfl
  have ai:=Aa ((Mv.below (base:=w.1.size) ah.o).trans V);have ap:=Aa I;clear I V c5 aj;go_wp2_with fail;go_ret2;exact⟨n5,_,_,a3,bn,ap.o,by omega,ai.o.o (XB _),ai.o.link,.refl,.inr ⟨_,_,trivial,rfl⟩⟩
theorem ALu{next next':Int}(h:Go.Proofs.YthpcepcghakimaaGreatDoor.Wc Go.Proofs.YthpcepcghakimaaGreatDoor.Bv Go.Proofs.YthpcepcghakimaaGreatDoor.Cm l next)(o:next<=next'):M7 l next':=by
 obtain⟨b,c,d,f⟩:=h;refine⟨b,c,λi a=>?_,λi j hij hj=>?_⟩
 ·rw[Y' a,XN]
  obtain⟨⟨g,k,m,n⟩,p⟩:=d _ (Yg a);refine⟨?_,by omega⟩;simp only[Ko,XI,Bool.or_eq_true,beq_iff_eq,decide_eq_true_eq];exact⟨g,k,m,n⟩
 have a:i<l.length:=by omega
 rw[Y' a,Y' hj,XN,XN];have:=(List.pairwise_iff_getElem.mp f) i j a hj hij;unfold Ez;rw[Bool.or_eq_false_iff];refine⟨by simpa using this.1,?_⟩;rw[beq_eq_false_iff_ne];exact λe=>this.2 (toList_inj e)
def n60(n:Nat):Nat:=(n+59) / 60
def Gg(qj:List (List V))(k:Nat):List (List V):=(qj.drop (60*k)).take 60
def Gd(qj:List (List V)):List (List (List V)):=(List.range (n60 qj.length)).map (Gg qj)
theorem Oz(qj:List (List V)):(Gd qj).length=n60 qj.length:=by simp[Gd]
theorem bU{qj:List (List V)}(h:k<n60 qj.length):1<=(Gg qj k).length/\(Gg qj k).length<=60:=by unfold n60 at h;simp only[Gg,List.length_take,List.length_drop];omega
theorem Xj{qj p:List (List V)}(h:p∈Gd qj):1<=p.length/\p.length<=60/\∀r∈p,r∈qj:=by simp only[Gd,List.mem_map,List.mem_range] at h;obtain⟨k,a,rfl⟩:=h;have:=bU a;exact⟨this.1,this.2,λr b=>XO (Yk b)⟩
theorem ALD{qj p:List (List V)}(e:M7 l Lf)(f:∀r∈qj,Hu l r=0)(h:p∈Gd qj):De l p=true:=by obtain⟨b,c,d⟩:=Xj h;exact B4.mpr ⟨e,b,c,λr a=>f r (d r a)⟩
structure AJH(A:List A5):Prop where
 Iz:A.length<=100
 ints:∀a∈A,Ints a
 kind:A.length<=12\/∀a∈A,a.1=1\/a.1=2\/a.1=3
theorem AAX{a:A5}(h:Fh a)(f:a.1=1\/a.1=2\/a.1=3):(F3 a).size<=3000:=by
 have j:=h.qk;have k:=Dw h.qj;unfold F3
 rcases f with e|e|e
 ·rw[A2 e]
  simp only[Ea];have:(⟨#[97,100,100,32]⟩:Tb).size=4:=rfl;have:(⟨#[32]⟩:Tb).size=1:=rfl;omega
 ·rw[A1 (by omega),A2 e]
  simp only[Ea];have:(⟨#[114,101,109,111,118,101,32]⟩:Tb).size=7:=rfl;omega
 rw[A1 (by omega),A1 (by omega),A2 e];simp only[Ea]
 have d:=Jh (b:=21) (xs:=a.2.2.2.1.map Bm) (sep:=⟨#[44]⟩) (λx g=>by obtain⟨y,i,rfl⟩:=List.mem_map.1 g;exact Dw (h.qv y i))
 have:(⟨#[109,97,115,107,32]⟩:Tb).size=5:=rfl;have:(⟨#[32]⟩:Tb).size=1:=rfl;have c:(⟨#[44]⟩:Tb).size=1:=rfl;have l:=h.Iz;rw[XC,c] at d;omega
theorem X9:∀{l:List A5},(∀a∈l,Fh a/\(a.1=1\/a.1=2\/a.1=3))->(Ed l).length<=l.length*3001
 | [],_=>by simp[Ed]
 | a :: l,h=>by
   have f:=AAX (h a (XA ..)).1 (h a (XA ..)).2;have g:=X9 (l:=l) (λb d=>h b (Yf _ d))
   have e:(Ed (a :: l)).length=(F3 a).1.toList.length+1+(Ed l).length:=by simp only[Ed,List.flatMap_cons,XK,XG,List.length_nil]
   have c:(F3 a).1.toList.length=(F3 a).size:=by simp
   rw[e,c,XG,Y5];omega
theorem lV{s:Tb}{b:Bool}(d:AJH A)(h:Cv (s,b,A)=true):0<(C6 (s,b,A)).size/\(C6 (s,b,A)).size<=1000000:=by
 have g:∀a∈A,Fh a:=λa c=>by simp only[Cv,XI,XP] at h;exact Qb (h.2 a c) (d.ints a c)
 rcases d.kind with f|f
 ·exact ACx h g f
 have e:(C6 (s,b,A)).size=(I4 s b).size+(Ed A).length:=by show (Nn (s,b,A)).toArray.size=_;rw[List.size_toArray,Nn,XK,Gm]
 simp only[Cv,XI] at h;have i:=Ri b (XD (Hh h.1) (by decide));have j:=X9 (l:=A) (λa c=>⟨g a c,f a c⟩);have m:=d.Iz
 have k:0<(I4 s b).size:=by unfold I4;have e9:(⟨#[10]⟩:Tb).size=1:=rfl;rw[Ea,e9];omega
 omega
theorem AG0{w0 w:Tw}{k bb n:Nat}{fs:List Int}{mv:Tv}{C:Dn}(h:Jy w0 w k bb n D fs mv C H j e W):∃v a,e=Zr (Zu #[v,a])/\Hid (Jy w0 w k bb n D fs mv C H j (Zr (Zu #[v,a])) W):=by
 have b:=h;obtain⟨n',g,c,f,d,_,_,_,_,⟨t,rfl,_⟩|⟨i,x,rfl,_⟩⟩:=h
 ·exact⟨_,_,rfl,Aa b⟩
 exact⟨_,_,rfl,Aa b⟩
def DoP(w0 w:World)(b bb n:Nat)(D:DataW Unit)(fs:List Int)(mv:Value)(C:Dn)(H:List (Dn×Ah))(j:Nat)(e:Ending)(a:World):Prop :=
 (C.2.2=[]/\e=.returned (.tuple #[Zi (j:Int),.nilIface])/\Zb w a)\/(C.2.2≠[]/\∃W,Zb w W/\Jy w0 W b bb n D fs mv C H j e a)
theorem AHB(w0:Tw)(i base bb n:Nat)(D:Td)(fs:List Int)(mv G:Tv)(H:List (Dn×Ah))(j:Nat)(N:Nat)(r:To)(n1 c1:Nat)(z:Int)(s:To)(n2 t:Nat)(g:Tb)(p:Bool)(k:To)(l:Nat)(L:List Gx)(qj:Int)(w:Tw)(h:Ey w0 w i bb n D fs mv G)(x:i<=w.1.size)(P:n<=90000)(J:U6 D H)(M:La H)(O5:H.length<=40)(O:j<=H.length)(d:Dv base w N (Ae H j) (j:Int) r n1 c1 z s n2 t g p k l L qj)(o:AJH (L.map (·.1)))(y:g.size<=60):
 Zc 19 #[Zp (some (Zd bb 0)),Zp (some (Zd N 0))] w (DoP w0 w i bb n D fs mv (g,p,L.map (·.1)) H j):=by
 have I:Dt w (Zs k L.length l) (L.map (·.1)):=sP (base:=0) (E.Ai d.row (XF _)) d.own d.Vv;have c:=Aa (λW(m:Zb w W)=>AHx w0 i bb n D fs mv G g p (L.map (·.1)) k L.length l H j r n1 c1 z s n2 t W (h.up m) (XD x m.size) P J M O5 O (d.snap.up m) (I.below m) o.Iz (lV o) y (λa ha hr=>Qb hr (o.ints a ha)));obtain⟨R,T,U,V,X,Y,y6,y7,yf⟩:=F2 d.box;clear h J M d o I
 by_cases hL:L.length=0
 ·have q:Hid (L=[]):=Aa (Yah.1 hL)
  have u:((L.length:Nat):Int)=0:=by omega
  clear hL c;go_enter func19,ntmps19;go_wp2_with fail;go_ret2;exact .inl ⟨by rw[q.o];rfl,rfl,XL _ _⟩
 have q:Hid (L.map (·.1)≠[]):=Aa (λe=>hL (by have:=congrArg List.length e;simpa using this));have u:¬((L.length:Nat):Int)=0:=by omega
 have f:Hid (∀args w,(callFunc 44 args).run prog w=.ok (.enter 44 args) w):=Aa (enters_of func44 (by kernel_rfl) rfl);have b:=Aa ((c.o w.drew ((XL _ _).drew)).mono λe w'=>AG0);unfold K4 at b;clear hL c;go_enter func19,ntmps19;go_wp2_with fail
 go_region_law
  (first
    | (refine Nh (by rfl) 44 (.tmp 23) (.tmp 27) (.tmp 31) 25 71 110 (by rfl) (Zp (some (Zd bb 0))) (Zg #[Zi (j:Int),Zs r n1 c1,Zi z,Zs s n2 t]) (Zg #[Zt g,Zo p,Zs k L.length l]) (by rfl) (by rfl) (by rfl) f.o _ b.o ?_
       rintro e w2⟨v,er,rfl,H2⟩;refine⟨_,rfl,?_⟩)
    | fail)
 all_goals
  clear b f R T U V X Y y6 y7 yf;go_wp2;go_ret2;exact .inr ⟨q.o,w.drew,(XL _ _).drew,H2.o⟩
def Km(a:ByteArray)(l:List Aj):Nat->List (List (List V))->DataW Unit->DataW Unit
 | _,[],D=>D
 | k,p :: ps,D=>Km a l (k+1) ps (D.put (B.lit (Eh (Bw a k))) (Pa l p))
def N5(b:ByteArray)(k:Nat)(a:List (List (List V))):List A5:=(a.zipIdx k).map λq=>(1,Bw b q.2,(q.1.length:Int),[],[],0)
def Tog(s:Ah)(n:Nat):Prop:=(∀e∈s.qx,e.2.2=[])/\s.qx.length<=n60 n
def AEz(D:DataW Unit)(s:Ah)(xs:List A6)(b:ByteArray)(a:DataW Unit)(c:Bool)(A:List A5)(qj:Int):Prop :=
 s.qz≠[]/\c=true/\qj=(Bo s.qz .nil xs).1.length /\
  ((Tog s (Bo s.qz .nil xs).1.length/\a=D/\A=[]) \/
   (¬Tog s (Bo s.qz .nil xs).1.length/\(∀p∈Gd (Fc s.qz xs),De s.qz p=true)/\a=Km b s.qz 0 (Gd (Fc s.qz xs)) D/\A=(s.qx.map λe=>((2,e.1,0,[],[],0):A5))++N5 b 0 (Gd (Fc s.qz xs))))
def AMN(s:Ah)(a:Nat)(b:Value):Prop:=(s.qz=[]/\b=.iface 107 (Zi 6))\/a≠0
def Mw:Prop:=∀(w0:World)(b bb n:Nat)(D:DataW Unit)(fs:List Int)(mv c:Value)(H:List (Dn×Ah))(U:List ByteArray)(a:ByteArray)(xs:List A6)(w:World),iK w0 w b bb n D fs mv c H U a->C7 D (Ae H H.length) xs ->
 Zc 43 #[.pointer (some ⟨bb,0,none⟩),.string a] w (Kd w0 w b bb n D mv H a (AMN (Ae H H.length) b) (AEz D (Ae H H.length) xs a))
def nK:Aj:=(0,⟨#[]⟩,0,false,0,0,⟨#[]⟩)
def V7(D:DataW Unit)(s:Ah)(xs:List A6)(c:ByteArray)(x:J4)(a:DataW Unit)(b:Bool)(A:List A5)(qj:Int):Prop :=
 (x.Qk=0/\AIP D s x.qz a b A qj)\/(x.Qk=1/\AId D s x.change (x.qz.headD nK) x.name x.tw a b A qj)\/(x.Qk=2/\AIO D s c x.qj a b A qj) \/
 (x.Qk=3/\∃T,x.tree T/\AIX D s xs T a b A qj)\/(x.Qk=4/\∃T,x.tree T/\AIS D s xs c T x.A3 a b A qj)\/((x.Qk<0\/4<x.Qk)/\AEz D s xs c a b A qj)
def AB0(s:Ah)(a:Nat)(fs:List Int)(x:J4)(b:Value):Prop:=(x.Qk=0->AIU s x.qz)/\(x.Qk=2->AGF s fs x.qj)/\(x.Qk=3->∃T,x.tree T/\AIV s T)/\(x.Qk<0\/4<x.Qk->AMN s a b)
structure AA5(x:J4):Prop where
 qz:∀c∈x.qz,Vp c
 Iz:x.qz.length<=20
 qj:K9 x.qj
 ADp:x.qj.length<=100
 A3:∀s∈x.A3,Ks s.2
theorem mB:∀(k:Nat)(l:List Aj),(∀c∈l,Vp c)->k+l.length<=1000->∀c∈Nl k l,Vp c
 | _,[],_,_,c,a=>by cases a
 | k,d :: l,h,hk,c,a=>by
   simp at hk
   rcases List.mem_cons.1 a with rfl|a
   ·exact⟨⟨by show -9223372036854775808<=(k:Int);omega,by show (k:Int)<=9223372036854775807;omega⟩,(h d (XA ..)).2⟩
   exact mB (k+1) l (λe b=>h e (Yf _ b)) (by omega) c a
theorem Jg{n:Int}(a : -1000000<=n)(b:n<=1000000):Lu n:=⟨by omega,by omega⟩
theorem AAl{xs:List A6}(d:C7 D s xs)(f:Good Bv Cm s)(T:S.CT):(∀a∈xs.flatMap (Vm s.qz T),Ints a/\(a.1=1\/a.1=2\/a.1=3))/\(xs.flatMap (Vm s.qz T)).length<=40:=by
 refine⟨λa b=>?_,?_⟩
 ·obtain⟨x,g,b⟩:=List.mem_flatMap.1 b
  have e:x.1∈s.qx:=by rw[<-d.Lz.qx];exact List.mem_map.2 ⟨x,g,rfl⟩
  have j:=(O6 s.qz T x (d.qj x g)).1;have i:=f.qj _ e;unfold Vm at b;split at b
  ·cases b
  split at b
  ·simp at b;subst b
   exact⟨⟨Im,(λy c=>by cases c),(λy c=>by cases c),Im⟩,.inr (.inl rfl)⟩
  simp at b;subst b;refine⟨⟨Im,λy c=>?_,(λy c=>by cases c),Im⟩,.inr (.inr rfl)⟩;have:=j.2 y c;exact Jg (by omega) (by omega)
 have k:=rV s.qz T xs;have h:=congrArg List.length d.Lz.qx;rw[XC] at h;have:=f.Iz;omega
theorem AH5{α:Type}{l:List α}{q:α×Nat}(h:q∈l.zipIdx k):q.1∈l:=by have:=Y4 (f:=Prod.fst) h;rwa[List.zipIdx_map_fst] at this
theorem nH{m:Nat}(h:n<=60*m):n60 n<=m:=by unfold n60;omega
theorem aN{xs:List A6}(a:C7 D s xs)(c:Good Bv Cm s)(T:S.CT):(Bo s.qz T xs).1.length<=60*40:=by have d:=(L0 s.qz T xs a.Lz.each).2;have b:=congrArg List.length a.Lz.qx;rw[XC] at b;have:=c.Iz;have:60*xs.length<=60*40:=Nat.mul_le_mul_left _ (by omega);omega
theorem AEj{w:Td}{xs:List A6}{t:Tb}{L:Bool}{qj:Int}(o:C7 D s xs)(n:Good Bv Cm s)(p:∀c∈s.qz,Ib c)(N:0<=s.next/\s.next<=1000)(r:AA5 x)(h:V7 D s xs t x w L A qj):AJH A:=by
 have uB:∀c∈s.qz,Vp c:=λc h=>⟨(p c h).id,(p c h).kind,(p c h).num⟩
 rcases h with⟨_,_,_,_,_,rfl,_⟩|⟨_,_,⟨l',v,j,rfl⟩,_⟩|⟨_,_,g,_,_,rfl,_⟩|⟨_,T,_,_,_,_,_,rfl,_⟩|⟨_,T,_,_,_,_,_,ts,_,⟨_,_,rfl⟩|⟨_,R,rfl,g,_,rfl⟩⟩|⟨_,_,_,_,⟨_,_,rfl⟩|⟨_,_,_,rfl⟩⟩
 ·have:=r.Iz
  exact⟨by simp,λa b=>by simp at b;subst b;exact⟨Im,(λy f=>by cases f),mB 1 x.qz r.qz (by omega),Jg (by show (-1000000:Int)<=((x.qz.length+1:Nat):Int);omega) (by show ((x.qz.length+1:Nat):Int)<=1000000;omega)⟩,.inl (by simp)⟩
 ·refine⟨by simp,λa b=>?_,.inl (by simp)⟩
  simp at b;subst b;have i:=rQ j;refine⟨Im,(λy f=>by cases f),λc d=>?_,Jg (by show (-1000000:Int)<=v;omega) (by show v<=1000000;omega)⟩
  rcases j with⟨_,_,rfl,_⟩|⟨_,k,_,_,_,rfl,_⟩|⟨_,k,_,u,_,_,rfl,_⟩
  ·rcases List.mem_append.1 d with d|d
   ·exact uB c d
   rw[List.mem_singleton.1 d]
   have I:Vp (x.qz.headD nK):=by
    cases hxc:x.qz with
    | nil=>exact⟨⟨by decide,by decide⟩,⟨by decide,by decide⟩,⟨by decide,by decide⟩⟩
    | cons y l=>exact r.qz y (by rw[hxc];exact XA ..)
   exact⟨Jg (by show (-1000000:Int)<=s.next;omega) (by show s.next<=1000000;omega),I.2⟩
  ·rcases List.mem_append.1 d with d|d
   ·exact uB c (Yk d)
   exact uB c (XO d)
  rcases Ys d with d|rfl
  ·exact uB c d
  exact(show Vp (rR s.qz[k]! _) from⟨(uB s.qz[k]! (Jj u)).1,(uB s.qz[k]! (Jj u)).2⟩)
 ·have:=(B4.mp g).2.2.1
  exact⟨by simp,λa b=>by simp at b;subst b;exact⟨Jg (by show (-1000000:Int)<=((x.qj.length:Nat):Int);omega) (by show ((x.qj.length:Nat):Int)<=1000000;omega),(λy f=>by cases f),(λy f=>by cases f),Im⟩,.inl (by simp)⟩
 ·obtain⟨i,z⟩:=AAl o n T
  exact⟨by omega,λa b=>(i a b).1,.inr λa b=>(i a b).2⟩
 ·exact⟨by simp,(λa b=>by cases b),.inl (by simp)⟩
 ·obtain⟨i,z⟩:=AAl o n T
  have G:=(B4.mp g).2.2.1;refine⟨by rw[XG];omega,λa b=>?_,.inr λa b=>?_⟩
  ·rcases List.mem_cons.1 b with rfl|b
   ·exact⟨Jg (Yac (by decide) (Int.natCast_nonneg _)) (Yac (Int.ofNat_le.2 G) (by decide)),(λy f=>by cases f),(λy f=>by cases f),Im⟩
   exact(i a b).1
  rcases List.mem_cons.1 b with rfl|b
  ·exact .inl rfl
  exact(i a b).2
 ·exact⟨by simp,(λa b=>by cases b),.inl (by simp)⟩
 have M:n60 (Fc s.qz xs).length<=40:=nH (by unfold Fc;rw[XC];exact aN o n .nil)
 have m:∀a∈(s.qx.map λe=>((2,e.1,0,[],[],0):A5))++N5 t 0 (Gd (Fc s.qz xs)),Ints a/\(a.1=1\/a.1=2\/a.1=3):=λa b=>by
  rcases List.mem_append.1 b with b|b
  ·obtain⟨e,_,rfl⟩:=List.mem_map.1 b
   exact⟨⟨Im,(λy f=>by cases f),(λy f=>by cases f),Im⟩,.inr (.inl rfl)⟩
  obtain⟨q,J,rfl⟩:=List.mem_map.1 b;have O:=Xj (AH5 J);exact⟨⟨Jg (by show (-1000000:Int)<=((q.1.length:Nat):Int);omega) (by show ((q.1.length:Nat):Int)<=1000000;omega),(λy f=>by cases f),(λy f=>by cases f),Im⟩,.inl rfl⟩
 refine⟨?_,λa b=>(m a b).1,.inr λa b=>(m a b).2⟩;have:=n.Iz;simp[N5,Oz];omega
theorem uX(b:Tb)(l:List Aj):∀(a:List (List (List V)))(k:Nat)(D:Td),Maps.IsMap D->Maps.IsMap (Km b l k a D)
 | [],_,_,h=>h
 | _ :: a,k,_,h=>uX b l a (k+1) _ (h.put _ _)
theorem lU(b:Tb)(c:Plain b)(l:List Aj):∀(a:List (List (List V)))(k:Nat)(D:Td)(x:A6),(∀j,k<=j->j<=1000000->x.1.1≠Bw b j)->k+a.length<=1000000->Gt D x->Gt (Km b l k a D) x
 | [],_,_,_,_,_,h=>h
 | p :: a,k,D,x,hne,hk,h=>by simp at hk;exact lU b c l a (k+1) _ x (λj d=>hne j (by omega)) (by omega) (h.AFx (λe=>hne k (XB _) (by omega) e.symm) _)
theorem ABh(a:Tb)(d:Plain a)(i:a.size<=12)(l:List Aj):∀(b:List (List (List V)))(k:Nat)(D:Td),Maps.IsMap D->k+b.length<=1000->(∀p∈b,De l p=true/\K9 p)->∀q∈b.zipIdx k,Gt (Km a l k b D) (((Bw a q.2,(q.1.length:Int),[]),l,q.1):A6)
 | [],_,_,_,_,_,q,c=>by cases c
 | p :: b,k,D,hD,hk,h,q,c=>by
   simp at hk;rw[List.zipIdx_cons] at c
   rcases List.mem_cons.1 c with rfl|c
   ·refine lU a d l b (k+1) _ _ (λj m f e=>?_) (by omega) (bD hD (h p (XA ..)).1 (h p (XA ..)).2 ?_)
    ·have:=(S5 d d e).2 (by omega) f
     omega
    have:=Vu a k (by omega);show (Bw a k).size<=1000;omega
   exact ABh a d i l b (k+1) _ (hD.put _ _) (by omega) (λy g=>h y (Yf _ g)) q c
theorem AHC(b:Tb)(k:Nat)(a:List (List (List V))):N5 b k a=((a.zipIdx k).map λq=>(Bw b q.2,(q.1.length:Int))).map λe=>((1,e.1,e.2,[],[],0):A5):=by unfold N5;rw[XJ];rfl
theorem mS(qk:Tb)(qv:List Int)(l:List Aj)(T:S.CT)(c:List Aj):∀(b:List (List (List V)))(f:Int),∀z∈(Oe qk qv l T c f b).1,∃p∈b,∃q∈p,z.2.2=l.map (pick c q)
 | [],_,z,a=>by cases a
 | p :: b,f,z,a=>by
   simp only[Oe] at a;split at a
   ·rcases List.mem_append.1 a with a|a
    ·obtain⟨q,i,e⟩:=List.mem_map.1 (iD _ _ _ _ _ _ z a)
     exact⟨p,XA ..,q,i,e.symm⟩
    obtain⟨g,d,h⟩:=mS qk qv l T c b _ z a;exact⟨g,Yf _ d,h⟩
   obtain⟨g,d,h⟩:=mS qk qv l T c b _ z a;exact⟨g,Yf _ d,h⟩
theorem uQ(l:List Aj)(T:S.CT):∀(xs:List A6),∀z∈(Bo l T xs).1,∃x∈xs,∃q∈x.2.2,z.2.2=l.map (pick (By x.2.1) q)
 | [],z,a=>by cases a
 | x :: xs,z,a=>by
   simp only[Bo] at a
   rcases List.mem_append.1 a with a|a
   ·unfold N9 at a
    obtain⟨p,b,q,c,e⟩:=mS _ _ _ _ _ _ _ z a;exact⟨x,XA ..,q,(Ij b).2.2 q c,e⟩
   obtain⟨y,d,h⟩:=uQ l T xs z a;exact⟨y,Yf _ d,h⟩
theorem ADx{xs:List A6}(g:C7 D s xs)(h:∀c∈s.qz,Ib c):∀z∈(Bo s.qz T xs).1,∀v∈z.2.2,Ks v:=λz j v f=>by
 obtain⟨x,i,q,d,e⟩:=uQ s.qz T xs z j;have b:=g.Lz.each x i;rw[e] at f;exact AIe (b.i64 q d) (O7.mp ((B4.mp b.ok).2.2.2 q d)).1 (λc a=>(h c a).num) v f
theorem AOG{xs:List A6}{t:Tb}{ts:List Nat}{A3:List Vi}{R:List (List V)}(n:Maps.IsMap D)(e:C7 D s xs)(g:Good Bv Cm s)(p:∀c∈s.qz,Ib c)(I:t.size<=12)(f:Maps.has D (B.lit (Eh (Bw t 0)))=false)(w:∀q∈A3,Ks q.2)(o:R=(Bo s.qz T xs).1.map (λz=>tU (Ly ts (A3.map (·.2))) z.2.2))(h:De s.qz R=true)(Eb:Int):
 C7 (D.put (B.lit (Eh (Bw t 0))) (Pa s.qz R)) ⟨Eb,s.qz,s.next,(xs.filterMap (pO s.qz T)).map (·.1)++[(Bw t 0,(R.length:Int),[])]⟩ (xs.filterMap (pO s.qz T)++[((Bw t 0,(R.length:Int),[]),s.qz,R)]):=by
 have b:K9 R:=λr l v j=>by
  rw[o] at l;obtain⟨z,k,rfl⟩:=List.mem_map.1 l
  rcases ABg j with j|⟨u,x⟩
  ·exact ADx e p z k v j
  obtain⟨i,_,a⟩:=bI x;rw[XM] at a;cases hq:A3[i]? with
  | none=>rw[hq] at a;cases a
  | some y=>rw[hq] at a;simp at a;rw[<-a];exact w y (XE hq)
 have m:=(e.put f (Pa s.qz R)).go g T 0;refine m.add (bD n h b (by have:=Vu t 0 (by omega);omega)) (show ∀d∈s.qz,d.1<s.next from We g) ?_ Eb;have:=congrArg List.length e.Lz.qx;rw[XC] at this;have G:=List.length_filterMap_le (pO s.qz T) xs;have:=g.Iz;omega
theorem AI2{W:Td}{s t:Ah}{xs:List A6}{n:Tb}{rd:Bool}{qj:Int}(J:Maps.IsMap D)(a:C7 D s xs)(b:Good Bv Cm s)(Y:∀c∈s.qz,Ib c)(hp:Plain n)(hz:n.size<=12)(m:∀k,Maps.has D (B.lit (Eh (Bw n k)))=false)(hx:AA5 x)(h:V7 D s xs n x W rd A qj)(l:Bi s (n,rd,A) t)(X:A≠[]):∃ys,C7 W t ys/\t.next<=max (s.next+1) 9:=by
 have P:∀k,k<=1000->(Bw n k).size<=1000:=λk hk=>by have:=Vu n k hk;omega
 have O:∀k,¬Bw n k∈s.qx.map (·.1):=λk w=>by rw[<-a.Lz.qx,XJ] at w;obtain⟨y,j,e⟩:=List.mem_map.1 w;have G:=(a.Lz.each y j).has;simp only[Function.comp] at e;rw[e,m k] at G;cases G
 rcases h with⟨_,L,_,rfl,_,rfl,_⟩|⟨_,_,⟨l',nx,u,rfl⟩,rfl,_⟩|⟨_,f,d,rfl,_,rfl,_⟩|⟨_,T,_,f,_,rfl,_,rfl,_⟩|⟨_,T,_,f,_,_,_,ts,aa,⟨_,_,rfl⟩|⟨_,R,hR,d,rfl,rfl⟩⟩|⟨_,f,_,_,⟨_,_,rfl⟩|⟨_,d,rfl,rfl⟩⟩
 ·obtain⟨rfl,i,N⟩:=Ry l
  have U:xs=[]:=by have:=a.Lz.qx;rw[a.Lz.bare L] at this;simpa using this
  subst U;have h8:=i.2.1;rw[dK] at h8;refine⟨[],a.qz i.2.1 (λe=>by have:=i.1;rw[e] at this;simp at this) (λy j=>by cases j) N _,?_⟩;show ((x.qz.length+1:Nat):Int)<=_;omega
 ·obtain⟨rfl,i,N⟩:=Ry l
  have G:=rQ u;refine⟨xs,a.qz i.2.1 (λe=>by have:=i.1;rw[e] at this;simp at this) (λy j=>AJb u (a.link y j) (a.below y j)) N _,?_⟩;show nx<=_;omega
 ·have o:=eH l
  subst o;exact⟨_,(a.put (m 0) _).add (bD J d hx.qj (P 0 (by omega))) (We b) (by have:=congrArg List.length a.Lz.qx;rw[XC] at this;have:=b.Iz;omega) _,by show s.next<=_;omega⟩
 ·have o:=zU a.Lz.qx b.once a.qj l
  subst o;exact⟨_,a.go b T _,by show s.next<=_;omega⟩
 ·exact absurd rfl X
 ·have o:=AAO a.Lz.qx a.qj (O 0) b.once l
  subst o;exact⟨_,AOG J a b Y hz (m 0) hx.A3 hR d _,by show s.next<=_;omega⟩
 ·exact absurd rfl X
 rw[AHC] at l;have o:=tW b.once l;subst o;have hl:n60 (Fc s.qz xs).length<=40:=nH (by unfold Fc;rw[XC];exact aN a b .nil)
 have I:∀p∈Gd (Fc s.qz xs),K9 p:=λp g r i v hv=>by have w:=(Xj g).2.2 r i;unfold Fc at w;obtain⟨z,V,rfl⟩:=List.mem_map.1 w;exact(No a b Y z V v hv).1
 have M:=ABh n hp hz s.qz (Gd (Fc s.qz xs)) 0 D J (by rw[Oz];omega) (λp g=>⟨d p g,I p g⟩);refine⟨((Gd (Fc s.qz xs)).zipIdx 0).map λq=>(((Bw n q.2,(q.1.length:Int),[]),s.qz,q.1):A6),?_,by show s.next<=_;omega⟩
 have:=AHL (D:=Km n s.qz 0 (Gd (Fc s.qz xs)) D) (M9 b) (We b) (s.Eb+1) (((Gd (Fc s.qz xs)).zipIdx 0).map λq=>(((Bw n q.2,(q.1.length:Int),[]),s.qz,q.1):A6)) (λy j=>by obtain⟨q,hq,rfl⟩:=List.mem_map.1 j;exact⟨M q hq,rfl,rfl⟩) (by simp[Oz];omega) f (ADC b)
 rw[XJ] at this ⊢;exact this
theorem iK.up{w0 w W:Tw}{k bb n:Nat}{D:Td}{fs:List Int}{mv v:Tv}{H:List (Dn×Ah)}{U:List Tb}{s:Tb}(h:iK w0 w k bb n D fs mv v H U s)(a:Zb w W):iK w0 W k bb n D fs mv v H U s :=
 ⟨h.base.up a,h.inv,h.et,h.Pw,XD h.nf a.size,h.Iz,h.O5,h.name,h.short,h.plain,h.new⟩
theorem Kd.low{w0 w W r:Tw}{i bb n:Nat}{D:Td}{mv:Tv}{H:List (Dn×Ah)}{s:Tb}{p b:Tv->Prop}{Ok c:Td->Bool->List A5->Int->Prop}{e:Ending}(h:Kd w0 W i bb n D mv H s p Ok e r)(f:Zb w W)(P:∀t,p t->b t)(R:∀d g A qj,Ok d g A qj->c d g A qj):Kd w0 w i bb n D mv H s b c e r:=by
 obtain⟨n',d,j,o,l,I,J,M,N,O,m⟩:=h;refine⟨n',d,j,o,l,I,J,(B.A0.Ba f).trans M (λ_ _ e=>e),λk hk=>(N k hk).imp id (λq=>XD f.size q),O,?_⟩
 rcases m with⟨V,L,g,qj,u,n1,c1,X,v,n2,G,y,z,rfl,a,U⟩|m
 ·exact .inl ⟨V,L,g,qj,u,n1,c1,X,v,n2,G,y,z,rfl,⟨a.box,a.snap,E.Ai a.row f.size,a.own,a.Vv,XD f.size a.low⟩,R _ _ _ _ U⟩
 obtain⟨T,x,q,e⟩:=m;exact .inr ⟨T,x,P _ q,e⟩
theorem AAG{g:Array Oper}{o:Oper}{a:Act}{K:Act->Tw->Prop}{Q:Exit->Act->Tw->Prop}{E:Prop}(c:o.guard=none)(f:Nat)(x y z q:Operand)(t s r p:TypeId)(l:o.op=.call { callee:=.value (.func f),args:=#[x,y,z,q],argTypes:=#[t,s,r,p] })(u v b d:Tv)(n:a.eval x=u)(D:a.eval y=v)(G:a.eval z=b)(m:a.eval q=d)(j:∀args w,(callFunc f args).run prog w=.ok (.enter f args) w)(R:Ending->Tw->Prop)(k:Zc f #[u,v,b,d] W R)(h:∀e i,R e i->∃v,e=Zr v/\K (a.put o.dst v) i):
 if Region.wanted o (yielded g a.tmps)=true then Oper.wp prog o a W K Q else E :=
 Ih c f #[x,y,z,q] #[t,s,r,p] l #[u,v,b,d] (by simp[n,D,G,m]) j R k h
structure K8(w:World)(x:J4)(ca:Option Addr)(cc:Nat)(ra:Option Addr)(rc:Nat)(pa:Option Addr)(pn pc:Nat)(sa:Option Addr)(sc:Nat):Prop where
 qz:bH w (.slice ca x.qz.length cc) x.qz
 ACl:∀c∈x.qz,c.2.1.size<=maxLen/\c.2.2.2.2.2.2.size<=maxLen
 qj:iJ w (.slice ra x.qj.length rc) x.qj
 ACg:∀r∈x.qj,∀v∈r,v.2.2.size<=maxLen
 A3:F7 4 Wu w (.slice sa x.A3.length sc) x.A3
 AKL:x.A3.length<=100
 wX:∀s∈x.A3,s.2.2.2.size<=maxLen
 cnd:∀W,Zb w W->Zc 41 #[.slice pa pn pc] W λe w'=>∃v T,e=.returned v/\S.Gy w' T v/\x.tree T/\Zb W w'
 tw:x.tw.size<=maxLen
 ints:AA5 x
theorem K8.up{w W:Tw}{x:J4}{b:To}{n:Nat}{c:To}{k:Nat}{pa:To}{i j:Nat}{d:To}{m:Nat}(h:K8 w x b n c k pa i j d m)(a:Zb w W):K8 W x b n c k pa i j d m :=
 ⟨h.qz.below a,h.ACl,h.qj.up a,h.ACg,h.A3.up a,h.AKL,h.wX,λV e=>h.cnd V (Ap a e),h.tw,h.ints⟩
theorem Lc{w0 w W:Tw}{k bb n:Nat}{mv:Tv}{s:Tb}{a:Tv->Prop}{Ok:Td->Bool->List A5->Int->Prop}(h:Kd w0 w k bb n D mv H s a Ok e W):∃p b,e=Zr (Zu #[Zp p,b])/\Hid (Kd w0 w k bb n D mv H s a Ok (Zr (Zu #[Zp p,b])) W):=by
 have c:=h;obtain⟨n',i,d,g,f,_,_,_,_,_,⟨r,L,t,qj,j,n1,c1,u,l,n2,q,m,o,rfl,_⟩|⟨T,x,_,rfl⟩⟩:=h
 ·exact⟨_,_,rfl,Aa c⟩
 exact⟨_,_,rfl,Aa c⟩
theorem ACy(w0:Tw)(s bb n:Nat)(D:Td)(fs:List Int)(mv Y:Tv)(H:List (Dn×Ah))(U:List Tb)(m:Tb)(xs:List A6)(qz:List Aj)(qj:List (List V))(A3:List Vi)(a:Int)(nm b:Tb)(tr:S.CT->Prop)(O:To)(y:Nat)(I:To)(J:Nat)(pa:To)(G z:Nat)(L:To)(M:Nat)(w:Tw)(h:iK w0 w s bb n D fs mv Y H U m)(f:K8 w ⟨1,qz,qj,A3,a,nm,b,tr⟩ O y I J pa G z L M):
 Zc 18 #[Zp (some (Zd bb 0)),Zg #[Zi 1,Zs O qz.length y,Zs I qj.length J,Zs pa G z,Zs L A3.length M,Zi a,Zt nm,Zt b],Zt m] w (Kd w0 w s bb n D mv H m (AB0 (Ae H H.length) s fs ⟨1,qz,qj,A3,a,nm,b,tr⟩) (V7 D (Ae H H.length) xs m ⟨1,qz,qj,A3,a,nm,b,tr⟩)):=by
 cases hcl:qz with
 | nil=>subst hcl;obtain⟨t0,t1,t2,l⟩:=C1 w (Zk #[Zi 1,Zs O 0 y,Zs I qj.length J,Zs pa G z,Zs L A3.length M,Zi a,Zt nm,Zt b] 39) (Zk #[Zi 0,Zt ⟨#[]⟩,Zi 0,Zo false,Zi 0,Zi 0,Zt ⟨#[]⟩] 59);have HB:=Aa l;have r:=Aa (kP w0 s bb n D fs mv Y H U m a 0 ⟨#[]⟩ 0 false 0 0 ⟨#[]⟩ nm b _ (h.up l) ⟨XF _,XF _,f.tw⟩);clear h f t0 t1 t2 l;go_enter func18,ntmps18;go_wp2_with fail;refine(r.o.mono λe w'=>Lc).mono ?_;rintro e w1⟨p1,er,rfl,H1⟩;clear r;go_wp2_with fail;go_ret2;exact H1.o.low HB.o (λ_ _=>⟨λe=>absurd e (by simp),λe=>absurd e (by simp),λe=>absurd e (by simp),λe=>absurd e (by simp)⟩) λ_ _ _ _ q=>.inr (.inl ⟨rfl,q⟩)
 | cons c0 l0=>
   rw[<-hcl];have d:0<qz.length:=by rw[hcl];simp
   have t:qz[0]! = c0:=by rw[hcl];rfl
   have x:qz.headD nK=c0:=by rw[hcl];rfl
   have u:c0∈qz:=by rw[hcl];exact XA ..
   obtain⟨i,P,k,mu,R,T,X⟩:=c0
   rcases f.qz with⟨_,e0⟩|⟨g,o,c',e,hc,hs⟩
   ·simp only at e0;rw[e0] at d;simp at d
   injection e with e1 _ e2;subst e1 e2;obtain⟨t0,t1,t2,l⟩:=C1 w (Zk #[Zi 1,Zs (some (Zd g o)) qz.length y,Zs I qj.length J,Zs pa G z,Zs L A3.length M,Zi a,Zt nm,Zt b] 39) (Zk #[Zi i,Zt P,Zi k,Zo mu,Zi R,Zi T,Zt X] 59);have aa:g<w.1.size:=hs.1
   have cell:∀(j:Nat)(v:Tv),(Cc (i,P,k,mu,R,T,X))[j]? = some v->w.cell? (Zd g (o+j))=some v:=λj v hv=>by have:=hs.2 0 d j v (by show (Cc qz[0]!)[j]? = some v;rw[t];exact hv);simpa using this
   have q0:=cell 0 _ rfl;have q1:=cell 1 _ rfl;have q2:=cell 2 _ rfl;have q3:=cell 3 _ rfl;have q4:=cell 4 _ rfl;have q5:=cell 5 _ rfl;have q6:=cell 6 _ rfl;simp only[Nat.add_zero] at q0;have ab:(0:Int)<(qz.length:Int):=by omega
   have p:=Aa l;have N:=Aa x;have c:=f.ACl _ u;have r:=Aa (λW(hW:Zb w W)=>kP w0 s bb n D fs mv Y H U m a i P k mu R T X nm b W (h.up hW) ⟨c.1,c.2,f.tw⟩);clear h f hs hcl t u c cell t0 t1 t2 l x;go_enter func18,ntmps18;go_wp2_with fail;refine((r.o _ p.o).mono λe w'=>Lc).mono ?_;rintro e w1⟨p1,er,rfl,H1⟩;clear r;go_wp2_with fail;go_ret2;exact H1.o.low p.o (λ_ _=>⟨λe=>absurd e (by simp),λe=>absurd e (by simp),λe=>absurd e (by simp),λe=>absurd e (by simp)⟩) λ_ _ _ _ q=>.inr (.inl ⟨rfl,by rw[N.o];exact q⟩)
theorem ACD(af:Mw)(w0:Tw)(y bb n:Nat)(D:Td)(fs:List Int)(mv L:Tv)(H:List (Dn×Ah))(U:List Tb)(f:Tb)(xs:List A6)(x:J4)(i:To)(j:Nat)(l:To)(m:Nat)(pa:To)(d c:Nat)(a:To)(b:Nat)(w:Tw)(h:iK w0 w y bb n D fs mv L H U f)(hT:C7 D (Ae H H.length) xs)(hx:K8 w x i j l m pa d c a b):
 Zc 18 #[Zp (some (Zd bb 0)),Zg #[Zi x.Qk,Zs i x.qz.length j,Zs l x.qj.length m,Zs pa d c,Zs a x.A3.length b,Zi x.change,Zt x.name,Zt x.tw],Zt f] w (Kd w0 w y bb n D mv H f (AB0 (Ae H H.length) y fs x) (V7 D (Ae H H.length) xs f x)):=by
 obtain⟨J,qz,qj,A3,k,nm,o,tr⟩:=x;simp only;have G:Zb w (w.alloc (Zk #[Zi J,Zs i qz.length j,Zs l qj.length m,Zs pa d c,Zs a A3.length b,Zi k,Zt nm,Zt o] 39)):=Zal;have r:=Aa G;have V:=Aa (h.up G);have g:=Aa (hx.up G);have HT:=Aa hT;have R:=Aa (Yad w (Zk #[Zi J,Zs i qz.length j,Zs l qj.length m,Zs pa d c,Zs a A3.length b,Zi k,Zt nm,Zt o] 39));have ad:=Aa h;have ae:=Aa hx;clear h hx hT G
 by_cases k0:J=0
 ·subst k0
  have t:=Aa (zI w0 y bb n D fs mv L H U f i j qz _ V.o g.o.qz (by have:=g.o.ints.Iz;simp only at this;omega) g.o.ACl);go_enter func18,ntmps18;go_wp2_with fail;refine(t.o.mono λe z=>Lc).mono ?_;rintro e w1⟨p1,N,rfl,H1⟩;clear t;go_wp2_with fail;go_ret2;exact H1.o.low r.o (λ_ q=>⟨λ_=>q,λe=>absurd e (by simp),λe=>absurd e (by simp),λe=>absurd e (by simp)⟩) λ_ _ _ _ q=>.inl ⟨rfl,q⟩
 by_cases k2:J=2
 ·subst k2
  have t:=Aa (wV w0 y bb n D fs mv L H U f _ qj _ V.o g.o.qj (by have:=g.o.ints.ADp;simp only at this;omega) g.o.ACg g.o.ints.qj);clear k0;go_enter func18,ntmps18;go_wp2_with fail;refine(t.o.mono λe z=>Lc).mono ?_;rintro e w1⟨p1,N,rfl,H1⟩;clear t;go_wp2_with fail;go_ret2;exact H1.o.low r.o (λ_ q=>⟨λe=>absurd e (by simp),λ_=>q,λe=>absurd e (by simp),λe=>absurd e (by simp)⟩) λ_ _ _ _ q=>.inr (.inr (.inl ⟨rfl,q⟩))
 by_cases k3:J=3
 ·subst k3
  have u:=Aa (g.o.cnd _ (XL _ _));clear k0 k2;go_enter func18,ntmps18;go_wp2_with fail;apply u.o.mono;rintro e w2⟨cv,T,rfl,aa,ab,M⟩;have X:=Aa ab;clear ab;have t:=Aa (Lo w0 y bb n D fs mv L H U f cv T xs w2 (V.o.up M) HT.o aa);have ac:=Aa (Ap r.o M);clear aa M u;go_wp2_with fail;refine(t.o.mono λe z=>Lc).mono ?_;rintro e w1⟨p1,N,rfl,H1⟩;clear t;go_wp2_with fail;go_ret2;exact H1.o.low ac.o (λ_ q=>⟨λe=>absurd e (by simp),λe=>absurd e (by simp),λ_=>⟨T,X.o,q⟩,λe=>absurd e (by simp)⟩) λ_ _ _ _ q=>.inr (.inr (.inr (.inl ⟨rfl,T,X.o,q⟩)))
 by_cases k4:J=4
 ·subst k4
  have I:=(XL (w.alloc (Zk #[Zi 4,Zs i qz.length j,Zs l qj.length m,Zs pa d c,Zs a A3.length b,Zi k,Zt nm,Zt o] 39)).1.size (w.alloc (Zk #[Zi 4,Zs i qz.length j,Zs l qj.length m,Zs pa d c,Zs a A3.length b,Zi k,Zt nm,Zt o] 39))).drew
  have u:Hid (Zc 41 #[Zs pa d c] (w.alloc (Zk #[Zi 4,Zs i qz.length j,Zs l qj.length m,Zs pa d c,Zs a A3.length b,Zi k,Zt nm,Zt o] 39)).drew λe z=>∃v,e=Zr v/\Hid (∃T,S.Gy z T v/\tr T/\Zb w z/\Below (w.alloc (Zk #[Zi 4,Zs i qz.length j,Zs l qj.length m,Zs pa d c,Zs a A3.length b,Zi k,Zt nm,Zt o] 39)).1.size (w.alloc (Zk #[Zi 4,Zs i qz.length j,Zs l qj.length m,Zs pa d c,Zs a A3.length b,Zi k,Zt nm,Zt o] 39)) z)):=Aa ((g.o.cnd _ I).mono (by rintro e z⟨v,T,rfl,h1,ht,h2⟩;exact⟨v,rfl,Aa ⟨T,h1,ht,Ap r.o (Ap I h2),Ap I h2⟩⟩))
  have Y:Hid (∀(v:Tv)(W:Tw),Hid (∃T,S.Gy W T v/\tr T/\Zb w W/\Below (w.alloc (Zk #[Zi 4,Zs i qz.length j,Zs l qj.length m,Zs pa d c,Zs a A3.length b,Zi k,Zt nm,Zt o] 39)).1.size (w.alloc (Zk #[Zi 4,Zs i qz.length j,Zs l qj.length m,Zs pa d c,Zs a A3.length b,Zi k,Zt nm,Zt o] 39)) W)->Zc 42 #[Zp (some (Zd bb 0)),Zt f,v,Zs a A3.length b] W λe z=>∃p N,e=Zr (Zu #[Zp p,N])/\Hid (Kd w0 w y bb n D mv H f (AB0 (Ae H H.length) y fs ⟨4,qz,qj,A3,k,nm,o,tr⟩) (V7 D (Ae H H.length) xs f ⟨4,qz,qj,A3,k,nm,o,tr⟩) (Zr (Zu #[Zp p,N])) z)):=Aa λv W hW=>by
   obtain⟨T,h1,ht,h2,h3⟩:=hW.o;refine(xQ w0 y bb n D fs mv L H U f v T xs a b A3 W (V.o.up h3) HT.o h1 (g.o.A3.up h3) g.o.AKL (λs hs=>⟨g.o.wX s hs,g.o.ints.A3 s hs⟩)).mono λe z hP=>?_
   exact Lc (hP.low h2 (λ_ q=>⟨λe=>absurd e (by simp),λe=>absurd e (by simp),λe=>absurd e (by simp),λe=>absurd e (by simp)⟩) λ_ _ _ _ q=>.inr (.inr (.inr (.inr (.inl ⟨rfl,T,ht,q⟩)))))
  have O:Hid (∀args w,(callFunc 41 args).run prog w=.ok (.enter 41 args) w):=Aa (enters_of func41 (by kernel_rfl) rfl);have P:Hid (∀args w,(callFunc 42 args).run prog w=.ok (.enter 42 args) w):=Aa (enters_of func42 (by kernel_rfl) rfl);clear k0 k2 k3 I;go_enter func18,ntmps18;go_wp2_with fail
  go_region_law
   (first
     | (refine I6 (by rfl) 41 (.tmp 67) 36 (by rfl) (Zs pa d c) (by rfl) O.o _ u.o ?_
        rintro e w2⟨cv,rfl,H2⟩;refine⟨_,rfl,?_⟩;have z4:w2.cell? (Zd w.1.size 4)=some (Zs a A3.length b):=(F2 ((H2.o.choose_spec.2.2.2.block _ (Ac R.o)).trans R.o)).2.2.2.2.1)
     | (refine AAG (by rfl) 42 (.tmp 64) (.tmp 65) (.tmp 68) (.tmp 70) 25 9 103 37 (by rfl) (Zp (some (Zd bb 0))) (Zt f) cv (Zs a A3.length b) (by rfl) (by rfl) (by rfl) (by rfl) P.o _ (Y.o cv w2 H2) ?_
        rintro e w3⟨p3,ag,rfl,H3⟩;refine⟨_,rfl,?_⟩)
     | fail)
  all_goals
   clear Y u O P z4;go_wp2;go_ret2;exact H3.o
 by_cases k1:J=1
 ·subst k1
  exact ACy w0 y bb n D fs mv L H U f xs qz qj A3 k nm o tr i j l m pa d c a b w ad.o ae.o
 have t:=Aa (af w0 y bb n D fs mv L H U f xs _ V.o HT.o);have HK:Hid (J<0\/4<J):=Aa (by omega);go_enter func18,ntmps18;go_wp2_with fail;refine(t.o.mono λe z=>Lc).mono ?_;rintro e w1⟨p1,N,rfl,H1⟩;clear t;go_wp2_with fail;go_ret2;exact H1.o.low r.o (λ_ q=>⟨λe=>absurd e (by have:=HK.o;simp only;omega),λe=>absurd e (by have:=HK.o;simp only;omega),λe=>absurd e (by have:=HK.o;simp only;omega),λ_=>q⟩) λ_ _ _ _ q=>.inr (.inr (.inr (.inr (.inr ⟨HK.o,q⟩))))
theorem Xh.grown{a:Td}{xs:List A6}{t:Tb}(h:Xh D s xs)(b:Grown t D a):Xh a s xs:=by
 induction b with
 | refl=>exact h
 | put k v _ hf ih=>exact ih.put hf v
def Xt(w0 w:World)(i bb n:Nat)(D:DataW Unit)(fs:List Int)(mv:Value)(H:List (Dn×Ah))(U:List ByteArray)(a:ByteArray)(xs:List A6)(x:J4)(e:Ending)(p:World):Prop :=
 ∃n' d j g l h,Ey w0 p i bb n' d j g l/\n'<=n+100/\B.A0 (B.Own bb mv) w p/\(∀k,g=.map (some k)->mv=.map (some k)\/w.1.size<=k)/\Inv d h (a :: U) /\
  ((e=.returned .nilIface/\∃b c A qj,V7 D (Ae H H.length) xs a x b c A qj/\((A=[]/\h=H/\d=b)\/(A≠[]/\Inv b H (a :: U)/\∃t,Bi (Ae H H.length) (a,c,A) t/\h=H++[((a,c,A),t)]/\d=b.put (B.lit (Ek (H.length+1))) (B.Gw (C6 (a,c,A)))))) \/
   (∃T y,e=.returned (.iface T y)/\h=H/\(∀s zs,Xh D s zs->Xh d s zs)/\(AB0 (Ae H H.length) i fs x (.iface T y)\/∃b c A qj f q n1 o m,V7 D (Ae H H.length) xs a x b c A qj/\A≠[]/\Ey w0 q i bb n1 b f o m/\AD8 (a,c,A) H f H.length (.iface T y))))
theorem dD{bb:Nat}{mv v u:Tv}{r:Tw}(a:B.A0 (B.Own bb mv) w W)(b:∀k,v=.map (some k)->mv=.map (some k)\/w.1.size<=k)(d:B.A0 (B.Own bb v) W r)(f:∀k,u=.map (some k)->v=.map (some k)\/W.1.size<=k):B.A0 (B.Own bb mv) w r/\∀k,u=.map (some k)->mv=.map (some k)\/w.1.size<=k:=by
 refine⟨a.trans d λi g e=>?_,λk c=>?_⟩
 ·rcases e with e|e
  ·exact .inl e
  rcases b i e with e|e
  ·exact .inr e
  omega
 rcases f k c with e|e
 ·exact b k e
 exact .inr (XD a.size e)
theorem jN:∀{l:List A5}{s t:Ah},Il Bx Bv Cm s l t->0<=s.next->0<=t.next
 | [],_,_,h,hs=>by simp only[Il] at h;subst h;exact hs
 | a :: l,s,t,⟨u,b,h2⟩,hs=>by
   refine jN h2 ?_
   rcases b with⟨_,_,rfl⟩|⟨_,_,rfl⟩|⟨_,_,rfl⟩|⟨_,c,rfl⟩
   ·exact hs
   ·exact hs
   ·exact hs
   have:=c.2;show 0<=a.2.2.2.2.2;omega
theorem eD:∀{s:Ah}{H:List (Dn×Ah)},Xv s H->0<=s.next->∀k,k<=H.length->0<=(Ic s (H.take k)).next
 | _,_,_,hs,0,_=>by simpa[Ic] using hs
 | _,x :: l,h,hs,k+1,hk=>by have:=eD (s:=x.2) (H:=l) h.2.2 (jN h.1.2 hs) k (by simpa using hk);simpa[Ic] using this
theorem vC(h:La H)(b:Good Bv Cm (Ae H H.length)):0<=(Ae H H.length).next:=by
 rcases b.qz with e|e
 ·exact eD h (by show (0:Int)<=0;omega) H.length (XB _)
 have a:=e.1;have:=e.2.2.1 (Ae H H.length).qz[0] (Yg a);have:=this.1.2.1;omega
theorem AGp{w0 w r s:Tw}{i bb n n1:Nat}{l:Td}{fs z:List Int}{mv u f:Tv}{U:List Tb}{xs:List A6}{m:Bool}{qj:Int}(h:iK w0 w i bb n D fs mv u H U p)(aa:H.length<40)(hT:C7 D (Ae H H.length) xs)(hx:AA5 x)(hG:Grown p D l)(hn:n1<=n+50)(V:B.A0 (B.Own bb mv) w r)(P:∀k,f=.map (some k)->mv=.map (some k)\/w.1.size<=k)(b:V7 D (Ae H H.length) xs p x l m A qj)(g:∃d,Ey w0 r i bb n1 l z f d)(hd:DoP w0 r i bb n1 l z f (p,m,A) H H.length e s):
 ∃v X,e=Zr (Zu #[v,X])/\Xt w0 w i bb n D fs mv H U p xs x (Zr X) s:=by
 have j:Inv l H (p :: U):=(h.inv.user h.plain).grown (XA ..) hG;obtain⟨d,g⟩:=g
 rcases hd with⟨I,rfl,hb⟩|⟨I,W,L,n',D',o,J,G,Y,h2,h3,h4,⟨t,rfl,N,M,_,rfl⟩|⟨ty,y,rfl,rfl,T⟩⟩
 ·have c:=dD V P (B.A0.Ba hb) (λk b=>.inl b)
  exact⟨_,_,rfl,n1,l,z,f,d,H,g.up hb,by omega,c.1,c.2,j,.inl ⟨rfl,l,m,A,qj,b,.inl ⟨I,rfl,rfl⟩⟩⟩
 ·have c:=dD V P ((B.A0.Ba L).trans h3 (λ_ _ e=>e)) (λk b=>(h4 k b).imp id λq=>XD L.size q)
  have hc:=Mq h.inv.past (XB _);have ab:=h.inv.next H.length (XB _);have R:0<=(Ae H H.length).next:=vC h.inv.past h.Of;have O:=AEj hT h.Of hc ⟨R,by omega⟩ hx b;obtain⟨ys,hy,ac⟩:=AI2 h.inv.Lm.1 hT h.Of hc h.plain h.short h.free hx b N I;refine⟨_,_,rfl,n',_,o,J,G,H++[((p,m,A),t)],Y,by omega,c.1,c.2,j.AJO (by omega) N ⟨M,λa c=>?_,O.Iz,lV O M⟩ hy (by omega),.inl ⟨rfl,l,m,A,qj,b,.inr ⟨I,j,t,N,rfl,rfl⟩⟩⟩;simp only[Cv,XI,XP] at M;exact Qb (M.2 a c) (O.ints a c)
 have c:=dD V P ((B.A0.Ba L).trans h3 (λ_ _ e=>e)) (λk b=>(h4 k b).imp id λq=>XD L.size q);exact⟨_,_,rfl,n',_,o,J,G,H,Y,by omega,c.1,c.2,j,.inr ⟨_,_,rfl,rfl,λ_ _ q=>q.grown hG,.inr ⟨_,m,A,qj,z,r,n1,f,d,b,I,g,T⟩⟩⟩
theorem V1(ae:Mw)(w0:Tw)(g bb n:Nat)(D:Td)(fs:List Int)(mv fv:Tv)(H:List (Dn×Ah))(U:List Tb)(c:Tb)(xs:List A6)(x:J4)(O:To)(P:Nat)(X:To)(Y:Nat)(pa:To)(W V:Nat)(sa:To)(sc:Nat)(w:Tw)(h:iK w0 w g bb n D fs mv fv H U c)(ad:H.length<40)(hT:C7 D (Ae H H.length) xs)(hx:K8 w x O P X Y pa W V sa sc):
 Zc 6 #[Zp (some (Zd bb 0)),Zg #[Zi x.Qk,Zs O x.qz.length P,Zs X x.qj.length Y,Zs pa W V,Zs sa x.A3.length sc,Zi x.change,Zt x.name,Zt x.tw],Zt c] w (Xt w0 w g bb n D fs mv H U c xs x):=by
 have i:Zb w (w.alloc (Zk #[Zi x.Qk,Zs O x.qz.length P,Zs X x.qj.length Y,Zs pa W V,Zs sa x.A3.length sc,Zi x.change,Zt x.name,Zt x.tw] 39)):=Zal;have m:=Aa (ACD ae w0 g bb n D fs mv fv H U c xs x O P X Y pa W V sa sc _ (h.up i) hT (hx.up i));have l:Hid (∀e w',Kd w0 (w.alloc (Zk #[Zi x.Qk,Zs O x.qz.length P,Zs X x.qj.length Y,Zs pa W V,Zs sa x.A3.length sc,Zi x.change,Zt x.name,Zt x.tw] 39)) g bb n D mv H c (AB0 (Ae H H.length) g fs x) (V7 D (Ae H H.length) xs c x) e w'->Kd w0 w g bb n D mv H c (AB0 (Ae H H.length) g fs x) (V7 D (Ae H H.length) xs c x) e w'):=Aa λe w' hp=>hp.low i (λ_ q=>q) λ_ _ _ _ q=>q
 have a:=Aa h;have M:=Aa hT;have N:=Aa hx.ints;clear h hT hx i;go_enter func6,ntmps6;go_wp2_with fail;apply m.o.mono;intro e w1 u;obtain⟨n1,D1,o,z,p,d,af,f,j,b,⟨pb,L,rd,qj,a1,ah,c1,x2,a2,n2,c2,aa,ac,rfl,hP,t⟩|⟨T,y,R,rfl⟩⟩:=l.o _ _ u
 ·have ag:=a.o.inv.next H.length (XB _)
  have k:=AEj M.o a.o.Of (Mq a.o.inv.past (XB _)) ⟨vC a.o.inv.past a.o.Of,by have:=a.o.O5;omega⟩ N.o t;have r:Inv D1 H (c :: U):=(a.o.inv.user a.o.plain).grown (XA ..) b;have J:=Aa (AHB w0 g _ bb n1 D1 o z p H H.length pb a1 ah c1 x2 a2 n2 c2 c rd aa ac L qj w1 d (XD a.o.nf f.size) (by have:=a.o.Iz;omega) r.Lm r.past a.o.O5 (XB _) hP k (by have:=a.o.short;omega));have I:Hid (∀e G,DoP w0 w1 g bb n1 D1 o z (c,rd,L.map (·.1)) H H.length e G->∃v er,e=Zr (Zu #[v,er])/\Hid (Xt w0 w g bb n D fs mv H U c xs x (Zr er) G)):=Aa λe G hd=>AGp a.o ad M.o N.o b af f j t ⟨p,d⟩ hd
  clear u d f j b hP t k r ag m l;go_wp2_with fail;refine(J.o.mono λe G=>I.o e G).mono ?_;rintro e G⟨v,er,rfl,H2⟩;clear J I;go_wp2_with fail;go_ret;exact H2.o
 have H1:=Aa (And.intro d (And.intro f (And.intro j (And.intro ((a.o.inv.user a.o.plain).grown (XA ..) b) (λ(s:Ah)(zs:List A6)(q:Xh D s zs)=>q.grown b)))));have ab:=Aa R;clear R u d f j b m l;go_wp2_with fail;go_ret;exact⟨n1,D1,o,z,p,H,H1.o.1,by omega,H1.o.2.1,H1.o.2.2.1,H1.o.2.2.2.1,.inr ⟨_,_,rfl,rfl,H1.o.2.2.2.2,.inl ab.o⟩⟩
theorem AIz:(List.range 31).all (λi=>Bx (wK i))=true:=by kernel_rfl
theorem AGv(h:i<=30):Bx (wK i)=true:=List.all_eq_true.1 AIz i (List.mem_range.2 (by omega))
def nms:Nat->List ByteArray
 | 0=>[]
 | i+1=>wK i :: nms i
theorem AD3:∀(i k:Nat),i<=k->k<=600->¬wK k∈nms i
 | 0,_,_,_,h=>by cases h
 | i+1,k,h1,h2,h=>by
   rcases List.mem_cons.1 h with e|e
   ·have:=AHh (by omega) (by omega) e
    omega
   exact AD3 i k (by omega) h2 e
structure LwT(w0 w:World)(bb i m:Nat)(D:DataW Unit)(fs:List Int)(mv fv:Value)(H:List (Dn×Ah)):Prop where
 base:Ey w0 w 0 bb m D fs mv fv
 inv:Inv D H (nms i)
 Iz:H.length<=i
 AFx:m<=i*100
theorem LwT.sit{w0 w:Tw}{bb i m:Nat}{fs:List Int}{mv v:Tv}(h:LwT w0 w bb i m D fs mv v H)(b:i<=30)(a:B.Ob w0)(c:S.Lp w0):iK w0 w 0 bb m D fs mv v H (nms i) (wK i) :=
 ⟨h.base,h.inv,a,c,XF _,by have:=h.AFx;omega,by have:=h.Iz;omega,AGv b,by show 3<=12;decide,AFl i,AD3 i i (XB _) (by omega)⟩
theorem LwT.up{w0 w W:Tw}{bb i m:Nat}{D:Td}{fs:List Int}{mv v:Tv}{H:List (Dn×Ah)}(h:LwT w0 w bb i m D fs mv v H)(a:Zb w W):LwT w0 W bb i m D fs mv v H:=⟨h.base.up a,h.inv,h.Iz,h.AFx⟩
theorem uF(w:Tw)(a:Ik w)(g:Lw w)(f:Jp w):Ey w (w.alloc (Zk #[.map none,Zs none 0 0] 29)) 0 w.1.size 0 (.map []) [] (.map none) (Zs none 0 0) :=
 ⟨B.AJj w,Zal,XB _,λk d=>(by cases d),a,g,f,λb off l c e=>(by cases e)⟩
theorem LwT.start(w:Tw)(a:Ik w)(c:Lw w)(b:Jp w):LwT w (w.alloc (Zk #[.map none,Zs none 0 0] 29)) w.1.size 0 0 (.map []) [] (.map none) (Zs none 0 0) [] :=
 ⟨uF w a c b,Inv.nil,XB _,XB _⟩
def cA:Aj:=(1,⟨#[97]⟩,1,false,0,0,⟨#[]⟩)
def iL:ByteArray:=⟨#[116]⟩
def Pz:ByteArray:=⟨#[117]⟩
def txV:ByteArray:=⟨#[118]⟩
def aT:List A5:=[(4,⟨#[]⟩,0,[],[cA],2)]
def sT:Ah:=⟨1,[cA],2,[]⟩
def R2:List (List V):=[[(1,1,⟨#[]⟩)],[(1,2,⟨#[]⟩)]]
def aU:List A5:=[(1,Bw Pz 0,2,[],[],0)]
def sU:Ah:=⟨2,[cA],2,[(Bw Pz 0,2,[])]⟩
def xU:List A6:=[((Bw Pz 0,2,[]),[cA],R2)]
def tV:S.CT:=.node 0 0 ⟨1,⟨#[97]⟩,1,1,⟨#[]⟩⟩ .nil .nil
def aV:List A5:=[(3,Bw Pz 0,0,[0],[],0)]
def sV:Ah:=⟨3,[cA],2,[(Bw Pz 0,2,[0])]⟩
def xV:List A6:=[((Bw Pz 0,2,[0]),[cA],R2)]
def H1:List (Dn×Ah):=[((iL,false,aT),sT)]
def H2:List (Dn×Ah):=[((iL,false,aT),sT),((Pz,false,aU),sU)]
def H3:List (Dn×Ah):=[((iL,false,aT),sT),((Pz,false,aU),sU),((txV,true,aV),sV)]
theorem AJd:Go.Proofs.YthpcepcghakimaaGreatDoor.Be [cA] 2=true:=by kernel_rfl
theorem AIh:De [cA] R2=true:=by kernel_rfl
theorem AJ4:Ex [cA] tV=0:=by kernel_rfl
theorem ABN:Ct [cA] tV ((Bw Pz 0,2,[]),[cA],R2)=[0]:=by kernel_rfl
theorem AFC:(E4 [cA] ((Bw Pz 0,2,[]),[cA],R2)).length=2:=by kernel_rfl
theorem goV:xU.flatMap (Vm [cA] tV)=aV:=by show Vm [cA] tV ((Bw Pz 0,2,[]),[cA],R2)++[]=aV;unfold Vm;rw[ABN,AFC];rfl
theorem AKR:xU.filterMap (pO [cA] tV)=xV:=by
 have h:pO [cA] tV ((Bw Pz 0,2,[]),[cA],R2)=some ((Bw Pz 0,2,[0]),[cA],R2):=by unfold pO;rw[ABN,AFC];simp[N6,Go.Proofs.YthpcepcghakimaaGreatDoor.Ir]
 unfold xU xV;rw[YP,h];rfl
theorem AKF:Fc [cA] xV=[[(1,2,⟨#[]⟩)]]:=by kernel_rfl
theorem okT:Cv (iL,false,aT)=true:=by kernel_rfl
theorem okU:Cv (Pz,false,aU)=true:=by kernel_rfl
theorem okV:Cv (txV,true,aV)=true:=by kernel_rfl
theorem apT:Bi F6 (iL,false,aT) sT:=⟨by kernel_rfl,sT,.inr (.inr (.inr ⟨rfl,⟨(I9 _ _).1 (by kernel_rfl),by decide⟩,rfl⟩)),rfl⟩
theorem nX{s:Tb}{a:Bool}{fs:List Int}{t:Ah}(g:Cv (s,a,A)=true)(e:Bi (Ae H H.length) (s,a,A) t)(f:fs=[])(h:AD8 (s,a,A) H fs H.length v):False:=by
 rcases h with h|⟨i,b,j,_,h⟩|⟨i,c,b,d,_⟩|⟨_,h⟩
 ·rw[g] at h;cases h
 ·have:i=H.length:=by omega
  subst this;exact h t e
 ·rw[Yb b] at d;cases d
 subst f;cases h
theorem apU:Bi sT (Pz,false,aU) sU:=⟨by kernel_rfl,sU,.inl ⟨rfl,⟨by kernel_rfl,by decide,by decide,by decide +kernel,(λe=>by cases e),by decide⟩,rfl⟩,rfl⟩
theorem AJN:Bt (bump sU).qx (Bw Pz 0)=0:=by kernel_rfl
theorem AKq:sV=gJ (bump sU) (3,Bw Pz 0,0,[0],[],0):=by unfold gJ;simp only[AJN];simp[N6,Go.Proofs.YthpcepcghakimaaGreatDoor.Ir,sV,bump,sU]
theorem apV:Bi sU (txV,true,aV) sV:=⟨by kernel_rfl,sV,.inr (.inr (.inl ⟨rfl,⟨by decide +kernel,by kernel_rfl,by kernel_rfl⟩,AKq⟩)),rfl⟩
def dT:J4:=⟨0,[(0,⟨#[97]⟩,1,false,0,0,⟨#[]⟩)],[],[],0,⟨#[]⟩,⟨#[]⟩,λ_=>True⟩
def dU:J4:=⟨2,[],R2,[],0,⟨#[]⟩,⟨#[]⟩,λ_=>True⟩
def dV:J4:=⟨3,[],[],[],0,⟨#[]⟩,⟨#[]⟩,λT=>T=tV⟩
theorem mkT{D b:Td}{xs:List A6}{t:Tb}{a:Bool}{qj:Int}(h:V7 D s xs t dT b a A qj):a=false/\A=aT:=by
 rcases h with⟨_,_,_,_,rfl,rfl,_⟩|⟨e,_⟩|⟨e,_⟩|⟨e,_⟩|⟨e,_⟩|⟨e,_⟩
 ·exact⟨rfl,rfl⟩
 all_goals exact absurd e (by decide)
theorem mkU{a:Td}{xs:List A6}{b:Bool}{qj:Int}(c:s.qz=[cA])(h:V7 D s xs Pz dU a b A qj):b=false/\A=aU/\a=D.put (B.lit (Eh (Bw Pz 0))) (Pa [cA] R2):=by
 rcases h with⟨e,_⟩|⟨e,_⟩|⟨_,_,_,rfl,rfl,rfl,_⟩|⟨e,_⟩|⟨e,_⟩|⟨e,_⟩
 rotate_left 2
 ·exact⟨rfl,rfl,by rw[c];rfl⟩
 all_goals exact absurd e (by decide)
theorem mkV{D b:Td}{t:Tb}{c:Bool}{qj:Int}(f:s.qz=[cA])(h:V7 D s xU t dV b c A qj):c=true/\A=aV/\b=D:=by
 rcases h with⟨e,_⟩|⟨e,_⟩|⟨e,_⟩|⟨_,T,d,_,_,rfl,rfl,rfl,_⟩|⟨e,_⟩|⟨e,_⟩
 rotate_left 3
 ·have a:T=tV:=d
  subst a;exact⟨rfl,by rw[f,goV],rfl⟩
 all_goals exact absurd e (by decide)
theorem AJW{w0 w W:Tw}{bb n:Nat}{fs:List Int}{mv:Tv}(h:Xt w0 w 0 bb n (.map []) fs mv [] [] iL [] dT e W):e=Zr Zn/\∃n' d b a c,Ey w0 W 0 bb n' d b a c/\n'<=n+100/\B.A0 (B.Own bb mv) w W/\(∀k,a=.map (some k)->mv=.map (some k)\/w.1.size<=k)/\Inv d H1 [iL]:=by
 obtain⟨n',d,b,a,c,z,o,s,u,r,p,⟨rfl,j,x,A,qj,g,h⟩|⟨T,y,rfl,rfl,_,h⟩⟩:=h
 ·obtain⟨rfl,rfl⟩:=mkT g
  rcases h with⟨e,_⟩|⟨_,_,t,q,rfl,rfl⟩
  ·cases e
  obtain⟨rfl,_⟩:=Ry q;exact⟨rfl,n',_,b,a,c,o,s,u,r,p⟩
 exfalso
 rcases h with h|⟨j,x,A,qj,l,G,n1,v,m,g,D,f,i⟩
 ·rcases h.1 rfl with h|h
  ·have:=AJd
   rw[show Go.Proofs.YthpcepcghakimaaGreatDoor.Be [cA] 2=false from h] at this;cases this
  exact h rfl
 obtain⟨rfl,rfl⟩:=mkT g;exact nX (H:=[]) okT apT (bJ f) i
theorem AKO(D:Td):C7 D sT []:=⟨⟨rfl,(λx a=>by cases a),XF _,by decide,λe=>by cases e⟩,(λx a=>by cases a),(λx a=>by cases a),(λx a=>by cases a)⟩
theorem AEL:K9 R2:=λr a v b=>by
 simp only[R2,List.mem_cons,List.not_mem_nil,or_false] at a
 rcases a with rfl|rfl <;> (simp at b;subst b;exact⟨by decide,by decide⟩)
theorem AI4{w0 w W:Tw}{bb n:Nat}{fs:List Int}{mv:Tv}(G:fs=[])(j:Inv D H1 [iL])(f:Maps.has D (B.lit (Eh (Bw Pz 0)))=false)(h:Xt w0 w 0 bb n D fs mv H1 [iL] Pz [] dU e W):e=.returned .nilIface/\∃n' g b a c,Ey w0 W 0 bb n' g b a c/\n'<=n+100/\B.A0 (B.Own bb mv) w W/\(∀k,a=.map (some k)->mv=.map (some k)\/w.1.size<=k)/\Inv g H2 [Pz,iL]/\C7 g sU xU:=by
 obtain⟨n',g,b,a,c,P,u,J,L,I,v,⟨rfl,q,O,A,qj,o,h⟩|⟨T,y,rfl,rfl,_,h⟩⟩:=h
 ·obtain⟨rfl,rfl,rfl⟩:=mkU rfl o
  rcases h with⟨e,_⟩|⟨_,l,t,x,rfl,rfl⟩
  ·cases e
  have M:=eH x;subst M
  have m:C7 (D.put (B.lit (Eh (Bw Pz 0))) (Pa [cA] R2)) sU xU:=((AKO D).put f _).add (bD j.Lm.1 AIh AEL (by decide +kernel)) (λd z=>by
   have:d=cA:=by simpa[sT] using z
   subst this;decide) (by decide) 2
  exact⟨rfl,n',_,b,a,c,u,J,L,I,v,m.put ((l.Lm.2 1 (by decide)).2 (XB _)) _⟩
 exfalso
 rcases h with h|⟨q,O,A,qj,r,U,n1,N,s,o,R,i,p⟩
 ·rcases h.2.1 rfl with h|h|h
  ·cases h
  ·have:=AIh
   rw[show De [cA] R2=false from h] at this;cases this
  subst G;cases h
 obtain⟨rfl,rfl,_⟩:=mkU rfl o;exact nX (H:=H1) okU apU (bJ i) p
theorem AI9{w0 w W:Tw}{bb n:Nat}{fs:List Int}{mv:Tv}(g:Inv D H2 [Pz,iL])(x:C7 D sU xU)(h:Xt w0 w 0 bb n D fs mv H2 [Pz,iL] txV xU dV e W):e=Zr Zn/\∃n' d b a c,Ey w0 W 0 bb n' d b a c/\n'<=n+100/\B.A0 (B.Own bb mv) w W/\(∀k,a=.map (some k)->mv=.map (some k)\/w.1.size<=k)/\Inv d H3 [txV,Pz,iL]/\C7 d sV xV:=by
 obtain⟨n',d,b,a,c,P,u,J,L,I,v,⟨rfl,q,O,A,qj,o,h⟩|⟨T,y,rfl,rfl,_,h⟩⟩:=h
 ·obtain⟨rfl,rfl,rfl⟩:=mkV rfl o
  rcases h with⟨e,_⟩|⟨_,j,t,z,rfl,rfl⟩
  ·cases e
  have M:=K6 z.2 apV.2;subst M;have G:Good Bv Cm sU:=(Jb g.past (i:=2) (XB _)).1
  have m:C7 q sV xV:=by have:=x.go G tV 3;rw[show sU.qz=[cA] from rfl,AKR] at this;exact this
  exact⟨rfl,n',_,b,a,c,u,J,L,I,v,m.put ((j.Lm.2 2 (by decide)).2 (XB _)) _⟩
 exfalso
 rcases h with h|⟨q,O,A,qj,r,U,n1,N,s,o,R,f,p⟩
 ·obtain⟨T,l,h⟩:=h.2.2.1 rfl
  have e:T=tV:=l;subst e
  rcases h with h|h
  ·cases h
  exact h AJ4
 obtain⟨rfl,rfl,_⟩:=mkV rfl o;exact nX (H:=H2) okV apV (bJ f) p
def paths(s:Ah):List ByteArray:=s.qx.map (·.1)
def ALM(D:DataW Unit)(a:List ByteArray):DataW Unit:=a.foldl (λD p=>D.del (B.lit (Eh p))) D
theorem AMg(D:Td)(a:List Tb)(p:Tb):ALM D (a++[p])=(ALM D a).del (B.lit (Eh p)):=by unfold ALM;rw[YV];rfl
theorem AMJ:∀(a:List Tb){D:Td},Maps.IsMap D->Maps.IsMap (ALM D a)
 | [],_,h=>h
 | p :: a,D,h=>AMJ a (D:=D.del (B.lit (Eh p))) (h.del _)
theorem AL1{k:Lit}:∀(b:List Tb)(D:Td),(∀p∈b,k≠B.lit (Eh p))->Maps.has (ALM D b) k=Maps.has D k/\∀z,(ALM D b).atKey k z=D.atKey k z
 | [],_,_=>⟨rfl,λ_=>rfl⟩
 | p :: b,D,h=>by have c:=AL1 b (D.del (B.lit (Eh p))) (λq d=>h q (Yf _ d));have a:=h p (XA ..);exact⟨c.1.trans (Maps.has_del_other a),λz=>(c.2 z).trans (Maps.atKey_del_other a z)⟩
theorem AMI(h:¬p∈a):Maps.has (ALM D a) (B.lit (Eh p))=Maps.has D (B.lit (Eh p))/\∀z,(ALM D a).atKey (B.lit (Eh p)) z=D.atKey (B.lit (Eh p)) z :=
 AL1 a D λq b e=>h (by rw[Uw (B.Jr e)];exact b)
theorem AMf:∀(a:List Tb)(D:Td){p:Tb},p∈a->Maps.has (ALM D a) (B.lit (Eh p))=false
 | q :: a,D,p,h=>by
   by_cases hp:p∈a
   ·exact AMf a (D.del (B.lit (Eh q))) hp
   have e:p=q:=by simpa[hp] using h
   subst e;show Maps.has (ALM (D.del (B.lit (Eh p))) a) (B.lit (Eh p))=false;rw[(AMI hp).1];exact Maps.has_del_same
theorem ANN(h:U6 D H)(b:List Tb):U6 (ALM D b) H:=by
 refine⟨AMJ b h.1,λi j=>?_⟩;have a:=AL1 (k:=B.lit (Ek (i+1))) b D λp _ e=>tG p (i+1) (B.Jr e).symm
 obtain⟨d,g⟩:=h.2 i j;exact⟨λc f=>⟨by rw[a.1];exact(d c f).1,by rw[a.2];exact(d c f).2⟩,λhl=>by rw[a.1];exact g hl⟩
theorem ANw{xs:List A6}(h:Xh D s xs){b:List Tb}(e:∀p∈b,¬p∈paths s):Xh (ALM D b) s xs:=by
 refine⟨h.qx,λx d=>?_,h.Iz,h.eight,h.bare⟩;have a:=h.each x d;have f:¬x.1.1∈b:=λg=>e _ g (by unfold paths;rw[<-h.qx,XJ];exact List.mem_map.2 ⟨x,d,rfl⟩)
 have c:=AMI (D:=D) f;exact⟨by rw[c.1];exact a.has,by rw[c.2];exact a.Gw,a.ok,a.i64,a.name,a.qv⟩
def iH(D:DataW Unit)(p:ByteArray):Nat:=((Go.strKeys D).filter λx=>Lib.hasPrefix x p.1.toList).length
theorem ANh(es:List (Lit×Td))(p:Tb):iH (.map es) p=(es.filter λq=>Lib.hasPrefix (Go.strOf q.1) p.1.toList).length:=by unfold iH Go.strKeys;rw[List.filter_map,XC];rfl
theorem ANH(f:Lit×Td->Bool)(k:Lit):∀es:List (Lit×Td),es.Pairwise (λp q=>p.1≠q.1)->es.any (λq=>q.1.sameKey k)=true->(∀q∈es,q.1.sameKey k=true->f q=true)->((es.filter λq=>!q.1.sameKey k).filter f).length+1=(es.filter f).length
 | [],_,h,_=>by simp at h
 | q :: es,hp,h,hf=>by
   rw[List.pairwise_cons] at hp
   by_cases e:q.1.sameKey k=true
   ·have g:=WideAt.sameKey_eq e
    have a:es.filter (λq=>!q.1.sameKey k)=es:=List.filter_eq_self.2 λr b=>by
     cases hs:r.1.sameKey k with
     | false=>rfl
     | true=>exact absurd (g.trans (WideAt.sameKey_eq hs).symm) (hp.1 r b)
    rw[YB (by simp[e]),a,XH (hf q (XA ..) e),XG]
   have d:es.any (λq=>q.1.sameKey k)=true:=by simpa[e] using h
   have c:=ANH f k es hp.2 d (λr b=>hf r (Yf _ b));rw[XH (by simp[e])]
   by_cases hfq:f q=true
   ·rw[XH hfq,XH hfq,XG,XG,c]
   rw[YB hfq,YB hfq,c]
theorem AN8(h:Maps.Tidy D){k:Tb}(b:Maps.has D (B.lit k)=true)(c:Lib.hasPrefix k.1.toList p.1.toList=true):iH (D.del (B.lit k)) p+1=iH D p:=by
 obtain⟨es,rfl,a⟩:=h;show iH (.map (es.filter λq=>!q.1.sameKey (B.lit k))) p+1=_;rw[ANh,ANh];refine ANH _ _ es a b λq _ d=>?_
 rw[WideAt.sameKey_eq d];exact c
theorem ANo(p:Tb):Lib.hasPrefix (Eh p).1.toList (Eh ⟨#[]⟩).1.toList=true:=by simp[Lib.hasPrefix,Eh]
theorem AMo:∀(a:List Tb){D:Td},Maps.Tidy D->a.Nodup->(∀p∈a,Maps.has D (B.lit (Eh p))=true)->iH (ALM D a) (Eh ⟨#[]⟩)+a.length=iH D (Eh ⟨#[]⟩)
 | [],_,_,_,_=>rfl
 | p :: a,D,h,hn,hh=>by
   rw[List.nodup_cons] at hn;have c:=AN8 h (hh p (XA ..)) (ANo p)
   have d:=AMo a (D:=D.del (B.lit (Eh p))) (h.del _) hn.2 (λq b=>by rw[Maps.has_del_other (λe=>hn.1 (by rw[<-Uw (B.Jr e)];exact b))];exact hh q (Yf _ b))
   show iH (ALM (D.del (B.lit (Eh p))) a) (Eh ⟨#[]⟩)+(a.length+1)=_;omega
def ALj(D:DataW Unit)(a:List ByteArray):Nat:=(a.filter λp=>Maps.has D (B.lit (Eh p))).length
theorem ANy(h:∀p∈a,Maps.has D (B.lit (Eh p))=true):ALj D a=a.length:=by unfold ALj;rw[List.filter_eq_self.2 h]
theorem ANV(h:∀p∈a,Maps.has D (B.lit (Eh p))=false):ALj D a=0:=by unfold ALj;rw[List.filter_eq_nil_iff.2 λp b=>by rw[h p b];decide];rfl
theorem ANW(D:Td)(a:List Tb)(p:Tb)(b:¬p∈a):ALj D (a++[p])=ALj D a+(if Maps.has (ALM D a) (B.lit (Eh p))=true then 1 else 0):=by unfold ALj;rw[List.filter_append,XK,(AMI b).1];cases h:Maps.has D (B.lit (Eh p)) <;> simp[h]
def ALv(n:Nat):DataW Unit:=.lit (.int .i64 n)
def ALx(M:DataW Unit)(a:List ByteArray)(n:Nat):DataW Unit:=a.foldl (λM p=>M.put (B.lit p) (ALv n)) M
theorem AM9(M:Td)(a:List Tb)(p:Tb)(n:Nat):ALx M (a++[p]) n=(ALx M a n).put (B.lit p) (ALv n):=by unfold ALx;rw[YV];rfl
theorem AL5(n:Nat):∀(a:List Tb){M:Td},Maps.IsMap M->Maps.IsMap (ALx M a n)
 | [],_,h=>h
 | p :: a,M,h=>AL5 n a (M:=M.put (B.lit p) (ALv n)) (h.put _ _)
theorem ALK(n:Nat):∀(b:List Tb)(M:Td){p:Tb},¬p∈b->Maps.has (ALx M b n) (B.lit p)=Maps.has M (B.lit p)/\∀z,(ALx M b n).atKey (B.lit p) z=M.atKey (B.lit p) z
 | [],_,_,_=>⟨rfl,λ_=>rfl⟩
 | q :: b,M,p,h=>by
   have a:B.lit p≠B.lit q:=λe=>h (by rw[B.Jr e];exact XA ..)
   have c:=ALK n b (M.put (B.lit q) (ALv n)) (p:=p) (λd=>h (Yf _ d));exact⟨c.1.trans (Maps.has_put_other a _),λz=>(c.2 z).trans (Maps.atKey_put_other a _ z)⟩
theorem AMQ(n:Nat):∀(a:List Tb){M:Td},Maps.IsMap M->∀{p:Tb},p∈a->Maps.has (ALx M a n) (B.lit p)=true/\∀z,(ALx M a n).atKey (B.lit p) z=ALv n
 | q :: a,M,hM,p,h=>by
   by_cases hp:p∈a
   ·exact AMQ n a (M:=M.put (B.lit q) (ALv n)) (hM.put _ _) hp
   have e:p=q:=by simpa[hp] using h
   subst e;have b:=ALK n a (M.put (B.lit p) (ALv n)) hp;exact⟨b.1.trans (Maps.has_put_same hM L4 _),λz=>(b.2 z).trans (Maps.atKey_put_same hM L4 _ z)⟩
structure ALg(H:List (Dn×Ah))(v:Nat)(M:DataW Unit):Prop where
 map:Maps.IsMap M
 has:∀p i,1<=i->i<=v->p∈paths (Ae H i)->Maps.has M (B.lit p)=true
 last:∀p,Maps.has M (B.lit p)=true->∃j,1<=j/\j<=v/\(∀z,M.atKey (B.lit p) z=ALv j)/\p∈paths (Ae H j)/\∀i,j<i->i<=v->¬p∈paths (Ae H i)
theorem ALg.nil(H:List (Dn×Ah)):ALg H 0 (.map []):=⟨Maps.isMap_empty,λp i a b=>absurd a (by omega),λp h=>by simp[Maps.has] at h⟩
theorem ALg.next{v:Nat}(h:ALg H v M):ALg H (v+1) (ALx M (paths (Ae H (v+1))) (v+1)):=by
 refine⟨AL5 _ _ h.map,λp i c e b=>?_,λp b=>?_⟩
 ·by_cases hq:p∈paths (Ae H (v+1))
  ·exact(AMQ _ _ h.map hq).1
  rw[(ALK _ _ M hq).1];refine h.has p i c ?_ b
  rcases Yc v i with d|a
  ·have:i=v+1:=by omega
   subst this;exact absurd b hq
  exact a
 by_cases hq:p∈paths (Ae H (v+1))
 ·exact⟨v+1,by omega,XB _,(AMQ _ _ h.map hq).2,hq,λi c e=>by omega⟩
 rw[(ALK _ _ M hq).1] at b;obtain⟨j,f,m,g,k,l⟩:=h.last p b;refine⟨j,f,by omega,λz=>((ALK _ _ M hq).2 z).trans (g z),k,λi c e hi=>?_⟩
 rcases Yc v i with d|a
 ·have:i=v+1:=by omega
  subst this;exact hq hi
 exact l i c a hi
def ANK(H:List (Dn×Ah))(f:Nat)(p:ByteArray):Prop:=(∃i,1<=i/\i<=H.length/\p∈paths (Ae H i))/\∀i,f<=i->i<=H.length->¬p∈paths (Ae H i)
theorem ALg.old(h:ALg H H.length M){f:Nat}(m:Maps.has M (B.lit p)=true)(l:M.atKey (B.lit p) (ALv 0)=ALv j):ANK H f p↔j<f:=by
 obtain⟨k,n,d,o,g,q⟩:=h.last p m
 have e:k=j:=by have:=(o (ALv 0)).symm.trans l;simp only[ALv,DataW.lit.injEq,Lit.int.injEq,true_and] at this;omega
 subst e;constructor
 ·rintro⟨_,b⟩
  rcases Yc k f with a|c
  ·exact a
  exact absurd g (b k c d)
 intro a;exact⟨⟨k,n,d,g⟩,λi r b=>q i (by omega) b⟩
theorem ALg.AO3(h:ALg H H.length M){f:Nat}(d:ANK H f p):Maps.has M (B.lit p)=true:=by obtain⟨⟨i,a,b,c⟩,_⟩:=d;exact h.has p i a b c
def ALP(W:World)(b n:Nat)(M:DataW Unit):Prop:=W.ownsMap prog 9 (plainElem prog 3) b n M
theorem ALP.lt{W:Tw}{b n:Nat}{M:Td}(h:ALP W b n M):b<W.1.size:=World.ownsMap.lt h
theorem ALP.up{b n:Nat}(h:ALP w b n M)(d:Zb w W):ALP W b n M:=by obtain⟨es,clock,a,c⟩:=h;exact⟨es,clock,(d.block b (Ac a)).trans a,c⟩
theorem ALP.far{w W:Tw}{b c n:Nat}{M:Td}(h:ALP w b n M)(g:w.grownBy W (some c))(a:b≠c):ALP W b n M:=by obtain⟨es,clock,d,f⟩:=h;exact⟨es,clock,(g.block b (Ac d) (λe=>a (Yq e))).trans d,f⟩
theorem ALc:∀{L:List Ef}{q:Nat}{x:Ef},L[q]? = some x->(A8 L)[q*3]? = some (Zt x.1.1)/\(A8 L)[q*3+1]? = some (Zi x.1.2.1)/\(A8 L)[q*3+2]? = some (sv x.2)
 | [],_,_,h=>by simp at h
 | y :: L,0,x,h=>by
   have e:y=x:=by simpa using h
   subst e;exact⟨rfl,rfl,rfl⟩
 | y :: L,q+1,x,h=>by
   have a:=ALc (L:=L) (q:=q) (x:=x) (by simpa using h)
   have e:∀i,(A8 (y :: L))[q*3+3+i]? = (A8 L)[q*3+i]? := λi=>by show (Lv y++A8 L)[q*3+3+i]? = _;rw[List.getElem?_append_right (by rw[Kf];omega),Kf];congr 1;omega
   have b:=e 0;have c:=e 1;have d:=e 2;rw[show (q+1)*3=q*3+3 by omega];exact⟨b.trans a.1,c.trans a.2.1,d.trans a.2.2⟩
theorem AMm{base z n b k:Nat}{e:TypeId}{xs:List Tv}(h:w.ownsRow base e z v n xs)(i:ALP w b k M)(f:w.grownBy W (some b)):W.ownsRow base e z v n xs :=
 Az h f λj g a=>by obtain⟨c,q⟩:=Go.Proofs.YthpcepcghakimaaGreatDoor.Ho h g;injection a with a;subst a;obtain⟨es,clock,d,_⟩:=i;rw[q] at d;cases d
theorem ANS{u:Tv}{L:List Ef}{b k:Nat}(h:X8 w s v u L)(c:ALP w b k M)(a:w.grownBy W (some b)):X8 W s v u L :=
 ⟨AMm h.qz c a,h.qx,AMm h.row c a,λx d=>AMm (h.Cl x d) c a⟩
def AOe(H:List (Dn×Ah))(w:World)(e:Ending)(b:World):Prop:=∃m a M,e=.returned (.map (some m))/\w.1.size<=m/\a<=40000/\ALP b m a M/\ALg H H.length M/\Zb w b
theorem ANO(bb n:Nat)(D:Td)(mv:Tv)(H:List (Dn×Ah))(w:Tw)(h:Ground w bb n D mv)(hl:U6 D H)(hp:La H)(O5:H.length<=40)(hf:∀k,k<=H.length->(Ae H k).qx.length<=1000):
 Zc 32 #[Zp (some (Zd bb 0)),Zi H.length] w (AOe H w):=by
 have HG:=Aa h;have HL:=Aa hl;have HP:=Aa hp;have HF:=Aa hf;clear h hl hp hf;have bm:=@run_makeMap prog;have am:Hid (ALP (w.alloc (.map #[] 0)) w.1.size 0 (.map [])):=Aa (Y7 w _ _ _);have ag:Hid (Below w.1.size w (w.alloc (.map #[] 0))):=Aa (Zal);have ar:Hid ((w.alloc (.map #[] 0)).1.size=w.1.size+1):=Aa (by simp);go_enter func32,ntmps32;go_wp2_with fail;clear bm;generalize w.alloc (.map #[] 0)=wa at *;have X:=Aa (Yad wa (Zk #[Zi 0,Zs none 0 0,Zi 0,Zs none 0 0] 71));rw[ar.o] at X;have O:Hid (Below wa.1.size wa (wa.alloc (Zk #[Zi 0,Zs none 0 0,Zi 0,Zs none 0 0] 71))):=Aa (Zal);have an:=Aa (am.o.up O.o);have o:=Aa (Ap ag.o O.o);clear am ag O ar;generalize wa.alloc (Zk #[Zi 0,Zs none 0 0,Zi 0,Zs none 0 0] 71)=wb at *
 go_loopw [7] (λvi wr=>∃(v:Nat)(a1:To)(n1 c1:Nat)(x2:Int)(a2:To)(n2 c2 nn:Nat)(M:Td),v<=H.length/\vi=Zi ((v:Int)+1)/\nn<=v*1000/\Hid (wr.1[w.1.size+1]? = some (Zk #[Zi (v:Int),Zs a1 n1 c1,Zi x2,Zs a2 n2 c2] 71 (0,0)))/\Hid (Dl wr (Ae H v) (Zg #[Zi (v:Int),Zs a1 n1 c1,Zi x2,Zs a2 n2 c2]))/\Hid (ALP wr w.1.size nn M)/\Hid (ALg H v M)/\Hid (Below w.1.size w wr)) (λvi _=>H.length+1-(intOf vi).toNat)
 case atStart=>exact⟨0,none,0,0,0,none,0,0,0,.map [],XF _,rfl,XF _,X,Aa (AAK _),an,Aa (ALg.nil H),o⟩
 case round=>
  clear an o X;obtain⟨v,a1,n1,c1,x2,a2,n2,c2,nn,M,hv,rfl,b4,z,HS,T,al,b⟩:=hrel
  by_cases hlt:v<H.length
  ·have bs:(v:Int)+1<=(H.length:Int):=by omega
   obtain⟨c,hc,aa,a⟩:=AA8 HP.o hlt;obtain⟨hh,a3⟩:=(HL.o.2 v (by omega)).1 c hc;obtain⟨gg,_,vv⟩:=Jb HP.o (i:=v) (by omega);have e1:((v+1:Nat):Int)=(v:Int)+1:=by omega
   have R:=uV (i:=v+1) (by omega) (HG.o.up b.o).tb;rw[e1] at R;have aj:=qR (HG.o.up b.o) (v+1) (C6 c) Zn (.inl ⟨hh,a3,rfl⟩);have U:=ABr a (HG.o.up b.o).er (HG.o.up b.o).nc (HG.o.up b.o).tb;obtain⟨tx,rd,A⟩:=c;have hA:A.length<=1000:=XD a.Iz (by decide)
   have a7:tx.size<=maxLen:=by have h:=a.ok;simp only[Cv,XI] at h;have:=Hh h.1;unfold maxLen;omega
   have af:Hid (∀W Y bn bc,Below wr.1.size wr W->Dt W (Zs Y bn bc) A->Zc 59 #[Zg #[Zi (v:Int),Zs a1 n1 c1,Zi x2,Zs a2 n2 c2],Zg #[Zt tx,Zo rd,Zs Y bn bc]] W λe w'=>∃f m1 l y2 d m2 m,e=Zr (Zu #[Zg #[Zi ((v:Int)+1),Zs f m1 l,Zi y2,Zs d m2 m],Zn])/\Dl w' (Ae H (v+1)) (Zg #[Zi ((v:Int)+1),Zs f m1 l,Zi y2,Zs d m2 m])/\Below wr.1.size wr w'):=Aa (λW Y bn bc hb ha=>
    (kJ (Ae H v) _ tx rd A Y bn bc W (HS.o.up hb) gg (by omega) (by omega) ha hA a7 ((HG.o.up b.o).nc.below hb)).mono (by
      rintro e w'⟨x0,f,m1,l,y2,d,m2,m,er,rfl,bl,⟨rfl,t',h1,h2⟩|⟨_,_,_,bo⟩⟩
      ·have:=qX h1 aa
       subst this
       have bt:x0=(v:Int)+1:=by obtain⟨_,_,_,_,_,_,_,I⟩:=Nv h2;have:=(Jb HP.o (i:=v+1) (by omega)).2.2;unfold K4 at I;injection I with I;simp only[Array.mk.injEq,List.cons.injEq,Value.int.injEq,true_and] at I;omega
       subst bt;exact⟨f,m1,l,y2,d,m2,m,rfl,h2,Ap hb bl⟩
      exact absurd aa (bo _)))
   simp only at U;generalize C6 (tx,rd,A)=pb at *;clear hc aa a hh a3 gg vv hA a7 e1;generalize Ek (v+1)=b6 at *;go_wp2_with fail;refine(R.o _ (XL _ _)).mono ?_;rintro e w1⟨rfl,a4⟩;have o:=Aa a4;clear a4 R;go_wp2_with fail;refine(aj.o _ o.o).mono ?_;rintro e w2⟨rfl,a5⟩;have p:=Aa a5;clear a5 aj o;go_wp2_with fail;refine(U.o _ p.o).mono ?_;rintro e w3⟨Y,bn,bc,rfl,ay,ab⟩;have N:Below w3.1.size w3 (w3.alloc (Zk #[Zt tx,Zo rd,Zs Y bn bc] 110)):=Zal;have av:=Aa (((Ap ab N).block _ (Ac z.o)).trans z.o);have ah:=Aa (Ap ab N);have ae:=Aa (ay.below N);clear ab ay U p N;obtain⟨y0,y1,y3,y4,t⟩:=Go.Proofs.YthpcepcghakimaaGreatDoor.B3 av.o;have f0:=t 0;have f1:=t 1;have f2:=t 2;have f3:=t 3;go_wp2_with fail;refine(af.o _ Y bn bc ah.o ae.o).mono ?_;rintro e w5⟨f,m1,l,z2,d,m2,m,rfl,a0,ac⟩;have G:=Aa ((ac.block _ (Ac z.o)).trans z.o);have u:=Aa ac;have ap:=Aa a0;clear ac a0 af ah ae av y0 y1 y3 y4 f0 f1 f2 f3 t;obtain⟨y0,y1,y3,y4,t⟩:=Go.Proofs.YthpcepcghakimaaGreatDoor.B3 G.o;have f0:=t 0;have f1:=t 1;have f2:=t 2;have f3:=t 3;clear t;go_wp2_with fail;obtain⟨az,J⟩:=sF w5 (w.1.size+1) _ _ _ _ (Zi ((v:Int)+1)) (Zs f m1 l) (Zi z2) (Zs d m2 m) _ G.o;have aw:=Aa az;have aq:=Aa (ap.o.put G.o J);have ao:=Aa ((T.o.up u.o).far J (by omega));have ai:=Aa ((Ap b.o u.o).grown J (Ap b.o u.o).size (λj hj=>by cases hj;omega));clear az J G ap u z HS T b y0 y1 y3 y4 f0 f1 f2 f3;generalize (((w5.setCell (Zd (w.1.size+1) 0) (Zi ((v:Int)+1))).setCell (Zd (w.1.size+1) 1) (Zs f m1 l)).setCell (Zd (w.1.size+1) 2) (Zi z2)).setCell (Zd (w.1.size+1) 3) (Zs d m2 m)=wc at *;obtain⟨bv,bx,bw,bz,L,I,hV⟩:=aq.o;simp only[Value.agg.injEq,Array.mk.injEq,List.cons.injEq,Value.int.injEq,Value.slice.injEq,true_and,and_true] at I;obtain⟨ax,⟨rfl,rfl,rfl⟩,rfl,rfl,rfl,rfl⟩:=I;have V:=Aa hV;have bd:Hid (paths (Ae H (v+1))=L.map (·.1.1)):=Aa (by unfold paths;rw[hV.qx,XJ];rfl);have hL:L.length<=1000:=by have:=HF.o (v+1) hlt;rw[hV.qx,XC] at this;exact this
   have a8:Hid (∀x∈L,x.1.1.size<=maxLen):=Aa (λx hx=>by have:=(Jb HP.o (i:=v+1) hlt).2.1 x.1 (by rw[hV.qx];exact List.mem_map.2 ⟨x,hx,rfl⟩);unfold maxLen;omega)
   have bi:Hid ((Ae H (v+1)).Eb=(v:Int)+1):=Aa ax.symm;clear aq hV ax
   go_loopw [41] (λvi wi=>∃q:Nat,q<=L.length/\vi=Zi (q:Int)/\Hid (wi.1[w.1.size+1]? = some (Zk #[Zi ((v:Int)+1),Zs f (Ae H (v+1)).qz.length l,Zi (Ae H (v+1)).next,Zs d L.length m] 71 (0,0)))/\Hid (X8 wi (Ae H (v+1)) (Zs f (Ae H (v+1)).qz.length l) (Zs d L.length m) L)/\Hid (ALP wi w.1.size (nn+q) (ALx M ((L.map (·.1.1)).take q) (v+1)))/\Hid (Below w.1.size w wi)) (λvi _=>L.length-(intOf vi).toNat)
   case atStart=>exact⟨0,XF _,rfl,aw,V,ao,ai⟩
   case round=>
    clear aw V ao ai;obtain⟨q,hq,rfl,z,V,T,b⟩:=hrel
    by_cases hql:q<L.length
    ·obtain⟨x,hx⟩:∃x,L[q]? = some x:=⟨_,Y' hql⟩
     obtain⟨k0,k1,k2⟩:=ALc hx
     obtain⟨fb,bj,g0,g1,g2⟩:∃fb,d=some (Zd fb 0)/\wr.cell? (Zd fb (q*3))=some (Zt x.1.1)/\wr.cell? (Zd fb (q*3+1))=some (Zi x.1.2.1)/\wr.cell? (Zd fb (q*3+2))=some (sv x.2):=by
      rcases V.o.row.2 with⟨_,h0⟩|⟨fb,b0,b3,I,_,hh,_,_,_⟩
      ·omega
      injection I with bk _ _;subst bk;have hc:=V.o.row.cells (g:=fb) rfl;simp only[E.addr_add] at hc;exact⟨fb,rfl,by simpa using hc _ _ k0,by simpa using hc _ _ k1,by simpa using hc _ _ k2⟩
     subst bj;obtain⟨⟨pt,bu,mk⟩,sl⟩:=x;simp only at g0 g1 g2;have bp:pt.size<=maxLen:=a8.o _ (XE hx);have bg:Hid ((L.map (·.1.1)).take (q+1)=(L.map (·.1.1)).take q++[pt]):=Aa (S.Cs (by rw[XM,hx];rfl));have bq:(q:Int)<(L.length:Int):=by omega
     have b5:(0:Int)<=(q:Int):=by omega
     obtain⟨ma,mn,mc⟩:=sl;have r:Below wr.1.size wr (wr.alloc (Zk #[Zt pt,Zi bu,sv (ma,mn,mc)] 122)):=Zal;have y:=Aa (T.o.up r);have bh:=Aa (V.o.up r);have au:=Aa ((r.block _ (Ac z.o)).trans z.o);have p:=Aa (Ap b.o r);clear hx k0 k1 k2 r;unfold sv at *
     go_wp2_with (first
      | (at_mapUpdate;refine wpList_mapUpdate_own _ rfl _ _ _ 93 rfl 9 3 B.Wl underlying93 _ w.1.size _ _ rfl y.o (by unfold maxLen;omega) _ _ _ rfl rfl (B.Mh bp) _ [] (plainElem_int underlying3 (AEk (by omega) (by omega))) ?_
         intro w8 s a6;have a9:=Aa s;have P:=Aa a6;clear s a6))
     go_roundw
     case rel=>refine⟨q+1,by omega,by go_num,Aa ((P.o.block _ (Ac au.o) (by simp)).trans au.o),Aa (ANS bh.o y.o P.o),Aa ?_,Aa (p.o.grown P.o p.o.size (λj hj=>by cases hj;exact XB _))⟩;have h:=a9.o;rw[bg.o,AM9];exact h
     case measure=>simp[intOf];omega
    have bq:¬(q:Int)<(L.length:Int):=by omega
    have ad:q=L.length:=by omega
    have ak:=Aa (al.o.next);rw[bd.o] at ak
    have y:Hid (ALP wr w.1.size (nn+q) (ALx M (L.map (·.1.1)) (v+1))):=Aa (by have h:=T.o;rw[ad,Yd (Nat.le_of_eq (XC _)),<-ad] at h;exact h)
    have bf:Hid (Dl wr (Ae H (v+1)) (Zg #[Zi ((v:Int)+1),Zs f (Ae H (v+1)).qz.length l,Zi (Ae H (v+1)).next,Zs d L.length m])):=Aa ⟨f,l,d,m,L,by rw[bi.o],V.o⟩;clear ad T;go_wp2
    go_roundw
    case rel=>exact⟨v+1,f,_,l,_,d,_,m,nn+q,_,hlt,by go_num,by omega,by simpa using z,by simpa using bf,y,ak,b⟩
    case measure=>simp[intOf];omega
  have bs:¬(v:Int)+1<=(H.length:Int):=by omega
  have br:v=H.length:=by omega
  subst br;go_wp2;go_ret;exact⟨_,nn,M,rfl,XB _,by omega,T.o,al.o,b.o⟩
