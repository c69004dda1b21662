import Derived.Test.YtbhhpheailbebaaGreatDoorZY
import Derived.Deep.RegionLawGrows
set_option maxHeartbeats 40000000
set_option maxRecDepth 100000
open List renaming getElem?_eq_getElem->Y8,getElem?_append_right->XA,getElem?_append_left->XB,mem_of_getElem?->XG,map_append->XH,sum_append->XI,map_cons->XJ,sum_cons->XK,map_nil->XN,sum_nil->XO
open Nat renaming le_refl->Y9,le_trans->XC,zero_le->XF,le_succ->XR
open Go.World renaming news_of_block->Y',cell?_alloc_past->XL,cells?_some->XM,new_ne->XP
open Go.RowKit.Below renaming refl->XD,heap_alloc->XQ
open Array renaming getElem?_eq_none->XE
namespace Go.Proofs.YtbhhpheailbebaaGreatDoor
open Tryz RowKit Shelf Joins ChangeShapes WideShapes ChangeAt Deep
namespace F
variable{D:Td}{H:List (Dn×Ah)}{U:List Tb}{x:J4}{e:Ending}{k:Nat}
theorem ACD(af:Mw)(w0:Tw)(z bb n:Nat)(D:Td)(fs:List Int)(mv L:Tv)(H:List (Dn×Ah))(U:List Tb)(f:Tb)(xs:List A6)(x:J4)(i:To)(j:Nat)(l:To)(m:Nat)(pa:To)(d c:Nat)(a:To)(b:Nat)(w:Tw)(h:iK w0 w z bb n D fs mv L H U f)(hT:C7 D (Ae H H.length) xs)(hx:K8 w x i j l m pa d c a b):
 Zc 23 #[Zp (some ⟨bb,0,none⟩),Zg #[Zi x.Qk,Zs i x.cols.length j,Zs l x.rows.length m,Zs pa d c,Zs a x.A3.length b,Zi x.change,Zt x.name,Zt x.tw],Zt f] w (Kd w0 w z bb n D mv H f (AB0 (Ae H H.length) fs x) (V7 D (Ae H H.length) xs f x)):=by
 obtain⟨J,cols,rows,A3,k,nm,o,tr⟩:=x;simp only;have G:Zb w (w.alloc (Zk #[Zi J,Zs i cols.length j,Zs l rows.length m,Zs pa d c,Zs a A3.length b,Zi k,Zt nm,Zt o] 38)):=Zal;have r:=Aa G;have V:=Aa (h.up G);have g:=Aa (hx.up G);have HT:=Aa hT;have R:=Aa (heap_alloc_new w (Zk #[Zi J,Zs i cols.length j,Zs l rows.length m,Zs pa d c,Zs a A3.length b,Zi k,Zt nm,Zt o] 38));have ad:=Aa h;have ae:=Aa hx;clear h hx hT G
 by_cases k0:J=0
 ·subst k0
  have t:=Aa (zI w0 z bb n D fs mv L H U f i j cols _ V.out g.out.cols (by have:=g.out.ints.Iz;simp only at this;omega) g.out.ACl);go_enter func23,ntmps23;go_wp2_with fail;refine(t.out.mono λe y=>Lc).mono ?_;rintro e w1⟨p1,N,rfl,H1⟩;clear t;go_wp2_with fail;go_ret2;exact H1.out.low r.out (λq=>⟨λ_=>q,λe=>absurd e (by simp),λe=>absurd e (by simp)⟩) λ_ _ _ _ q=>.inl ⟨rfl,q⟩
 by_cases k2:J=2
 ·subst k2
  have t:=Aa (wV w0 z bb n D fs mv L H U f _ rows _ V.out g.out.rows (by have:=g.out.ints.ADp;simp only at this;omega) g.out.ACg g.out.ints.rows);clear k0;go_enter func23,ntmps23;go_wp2_with fail;refine(t.out.mono λe y=>Lc).mono ?_;rintro e w1⟨p1,N,rfl,H1⟩;clear t;go_wp2_with fail;go_ret2;exact H1.out.low r.out (λq=>⟨λe=>absurd e (by simp),λ_=>q,λe=>absurd e (by simp)⟩) λ_ _ _ _ q=>.inr (.inr (.inl ⟨rfl,q⟩))
 by_cases k3:J=3
 ·subst k3
  have u:=Aa (g.out.cnd _ (XD _ _));clear k0 k2;go_enter func23,ntmps23;go_wp2_with fail;refine u.out.mono ?_;rintro e w2⟨cv,T,rfl,aa,ab,M⟩;have X:=Aa ab;clear ab;have t:=Aa (Lo w0 z bb n D fs mv L H U f cv T xs w2 (V.out.up M) HT.out aa);have ac:=Aa (Ap r.out M);clear aa M u;go_wp2_with fail;refine(t.out.mono λe y=>Lc).mono ?_;rintro e w1⟨p1,N,rfl,H1⟩;clear t;go_wp2_with fail;go_ret2;exact H1.out.low ac.out (λq=>⟨λe=>absurd e (by simp),λe=>absurd e (by simp),λ_=>⟨T,X.out,q⟩⟩) λ_ _ _ _ q=>.inr (.inr (.inr (.inl ⟨rfl,T,X.out,q⟩)))
 by_cases k4:J=4
 ·subst k4
  have I:=(XD (w.alloc (Zk #[Zi 4,Zs i cols.length j,Zs l rows.length m,Zs pa d c,Zs a A3.length b,Zi k,Zt nm,Zt o] 38)).heap.size (w.alloc (Zk #[Zi 4,Zs i cols.length j,Zs l rows.length m,Zs pa d c,Zs a A3.length b,Zi k,Zt nm,Zt o] 38))).drew
  have u:Hid (Zc 10 #[Zs pa d c] (w.alloc (Zk #[Zi 4,Zs i cols.length j,Zs l rows.length m,Zs pa d c,Zs a A3.length b,Zi k,Zt nm,Zt o] 38)).drew λe y=>∃v,e=Zr v/\Hid (∃T,S.Gy y T v/\tr T/\Zb w y/\Below (w.alloc (Zk #[Zi 4,Zs i cols.length j,Zs l rows.length m,Zs pa d c,Zs a A3.length b,Zi k,Zt nm,Zt o] 38)).heap.size (w.alloc (Zk #[Zi 4,Zs i cols.length j,Zs l rows.length m,Zs pa d c,Zs a A3.length b,Zi k,Zt nm,Zt o] 38)) y)):=Aa ((g.out.cnd _ I).mono (by rintro e y⟨v,T,rfl,h1,ht,h2⟩;exact⟨v,rfl,Aa ⟨T,h1,ht,Ap r.out (Ap I h2),Ap I h2⟩⟩))
  have Y:Hid (∀(v:Tv)(W:Tw),Hid (∃T,S.Gy W T v/\tr T/\Zb w W/\Below (w.alloc (Zk #[Zi 4,Zs i cols.length j,Zs l rows.length m,Zs pa d c,Zs a A3.length b,Zi k,Zt nm,Zt o] 38)).heap.size (w.alloc (Zk #[Zi 4,Zs i cols.length j,Zs l rows.length m,Zs pa d c,Zs a A3.length b,Zi k,Zt nm,Zt o] 38)) W)->Zc 40 #[Zp (some ⟨bb,0,none⟩),Zt f,v,Zs a A3.length b] W λe y=>∃p N,e=Zr (Zu #[Zp p,N])/\Hid (Kd w0 w z bb n D mv H f (AB0 (Ae H H.length) fs ⟨4,cols,rows,A3,k,nm,o,tr⟩) (V7 D (Ae H H.length) xs f ⟨4,cols,rows,A3,k,nm,o,tr⟩) (Zr (Zu #[Zp p,N])) y)):=Aa λv W hW=>by
   obtain⟨T,h1,ht,h2,h3⟩:=hW.out;refine(xQ w0 z bb n D fs mv L H U f v T xs a b A3 W (V.out.up h3) HT.out h1 (g.out.A3.up h3) g.out.AKL (λs hs=>⟨g.out.wX s hs,g.out.ints.A3 s hs⟩)).mono λe y hP=>?_
   exact Lc (hP.low h2 (λq=>⟨λe=>absurd e (by simp),λe=>absurd e (by simp),λe=>absurd e (by simp)⟩) λ_ _ _ _ q=>.inr (.inr (.inr (.inr (.inl ⟨rfl,T,ht,q⟩)))))
  have O:Hid (∀args w,(callFunc 10 args).run prog w=.ok (.enter 10 args) w):=Aa (enters_of func10 (by kernel_rfl) rfl);have P:Hid (∀args w,(callFunc 40 args).run prog w=.ok (.enter 40 args) w):=Aa (enters_of func40 (by kernel_rfl) rfl);clear k0 k2 k3 I;go_enter func23,ntmps23;go_wp2_with fail
  go_region_law
   (first
     | (refine I6 (by rfl) 10 (.tmp 67) 23 (by rfl) (Zs pa d c) (by rfl) O.out _ u.out ?_
        rintro e w2⟨cv,rfl,H2⟩;refine⟨_,rfl,?_⟩;have z4:w2.cell? ⟨w.heap.size,4,none⟩=some (Zs a A3.length b):=(F2 ((H2.out.choose_spec.2.2.2.block _ (Ac R.out)).trans R.out)).2.2.2.2.1)
     | (refine AAG (by rfl) 40 (.tmp 64) (.tmp 65) (.tmp 68) (.tmp 70) 26 9 45 36 (by rfl) (Zp (some ⟨bb,0,none⟩)) (Zt f) cv (Zs a A3.length b) (by rfl) (by rfl) (by rfl) (by rfl) P.out _ (Y.out cv w2 H2) ?_
        rintro e w3⟨p3,ag,rfl,H3⟩;refine⟨_,rfl,?_⟩)
     | fail)
  all_goals
   clear Y u O P z4;go_wp2;go_ret2;exact H3.out
 by_cases k1:J=1
 ·subst k1
  exact ACy w0 z bb n D fs mv L H U f xs cols rows A3 k nm o tr i j l m pa d c a b w ad.out ae.out
 have t:=Aa (af w0 z bb n D fs mv L H U f xs _ V.out HT.out);have HK:Hid (J<0\/4<J):=Aa (by omega);go_enter func23,ntmps23;go_wp2_with fail;refine(t.out.mono λe y=>Lc).mono ?_;rintro e w1⟨p1,N,rfl,H1⟩;clear t;go_wp2_with fail;go_ret2;exact H1.out.low r.out (λq=>⟨λe=>absurd e (by have:=HK.out;simp only;omega),λe=>absurd e (by have:=HK.out;simp only;omega),λe=>absurd e (by have:=HK.out;simp only;omega)⟩) λ_ _ _ _ q=>.inr (.inr (.inr (.inr (.inr ⟨HK.out,q⟩))))
def Xt(w0 w:World)(o bb n:Nat)(D:DataW Unit)(fs:List Int)(mv:Value)(H:List (Dn×Ah))(U:List ByteArray)(a:ByteArray)(xs:List A6)(x:J4)(e:Ending)(p:World):Prop :=
 ∃n' g i f j h,Ey w0 p o bb n' g i f j/\n'<=n+100/\B.A0 (B.Own bb mv) w p/\(∀k,f=.map (some k)->mv=.map (some k)\/w.heap.size<=k)/\Inv g h (a :: U) /\
  ((e=.returned .nilIface/\∃b c A rows,V7 D (Ae H H.length) xs a x b c A rows/\((A=[]/\h=H/\g=b)\/(A≠[]/\Inv b H (a :: U)/\∃t,Bi (Ae H H.length) (a,c,A) t/\h=H++[((a,c,A),t)]/\g=b.put (B.lit (Ek (H.length+1))) (B.Gw (C6 (a,c,A)))))) \/
   (∃T y,e=.returned (.iface T y)/\h=H/\(AB0 (Ae H H.length) fs x\/∃b c A rows d q n1 m l,V7 D (Ae H H.length) xs a x b c A rows/\A≠[]/\Ey w0 q o bb n1 b d m l/\AD8 (a,c,A) H d H.length (.iface T y))))
theorem Xt.wU{w0 w W:Tw}{i bb n:Nat}{fs:List Int}{mv:Tv}{s:Tb}{xs:List A6}(h:Xt w0 w i bb n D fs mv H U s xs x e W):∃q,e=Zr q/\∃n' f b a d g,Ey w0 W i bb n' f b a d/\n'<=n+100/\B.A0 (B.Own bb mv) w W/\(∀k,a=.map (some k)->mv=.map (some k)\/w.heap.size<=k)/\Inv f g (s :: U)/\(g=H\/∃c,g=H++[c])/\g.length<=H.length+1:=by
 obtain⟨n',f,b,a,d,g,j,l,m,o,p,⟨rfl,r,u,A,rows,_,⟨_,rfl,_⟩|⟨_,_,t,_,rfl,_⟩⟩|⟨T,y,rfl,rfl,_⟩⟩:=h
 ·exact⟨_,rfl,n',f,b,a,d,_,j,l,m,o,p,.inl rfl,XR _⟩
 ·exact⟨_,rfl,n',f,b,a,d,_,j,l,m,o,p,.inr ⟨_,rfl⟩,by simp⟩
 exact⟨_,rfl,n',f,b,a,d,_,j,l,m,o,p,.inl rfl,XR _⟩
theorem dD{bb:Nat}{mv v u:Tv}{w W r:Tw}(a:B.A0 (B.Own bb mv) w W)(b:∀k,v=.map (some k)->mv=.map (some k)\/w.heap.size<=k)(d:B.A0 (B.Own bb v) W r)(f:∀k,u=.map (some k)->v=.map (some k)\/W.heap.size<=k):B.A0 (B.Own bb mv) w r/\∀k,u=.map (some k)->mv=.map (some k)\/w.heap.size<=k:=by
 refine⟨a.trans d λi g e=>?_,λk c=>?_⟩
 ·rcases e with e|e
  ·exact .inl e
  rcases b i e with e|e
  ·exact .inr e
  omega
 rcases f k c with e|e
 ·exact b k e
 exact .inr (XC a.size e)
theorem jN:∀{l:List A5}{s t:Ah},Il Bx Bv Cm s l t->0<=s.next->0<=t.next
 | [],_,_,h,hs=>by simp only[Il] at h;subst h;exact hs
 | a :: l,s,t,⟨u,b,h2⟩,hs=>by
   refine jN h2 ?_
   rcases b with⟨_,_,rfl⟩|⟨_,_,rfl⟩|⟨_,_,rfl⟩|⟨_,c,rfl⟩
   ·exact hs
   ·exact hs
   ·exact hs
   have:=c.2;show 0<=a.2.2.2.2.2;omega
theorem eD:∀{s:Ah}{H:List (Dn×Ah)},Xv s H->0<=s.next->∀k,k<=H.length->0<=(Ic s (H.take k)).next
 | _,_,_,hs,0,_=>by simpa[Ic] using hs
 | _,x :: l,h,hs,k+1,hk=>by have:=eD (s:=x.2) (H:=l) h.2.2 (jN h.1.2 hs) k (by simpa using hk);simpa[Ic] using this
theorem vC(h:La H)(b:Good Bv Cm (Ae H H.length)):0<=(Ae H H.length).next:=by
 rcases b.cols with e|e
 ·exact eD h (by show (0:Int)<=0;omega) H.length (Y9 _)
 have a:=e.1;have:=e.2.2.1 (Ae H H.length).cols[0] (Yh a);have:=this.1.2.1;omega
theorem AGp{w0 w r s:Tw}{i bb n n1:Nat}{l:Td}{fs z:List Int}{mv u f:Tv}{p:Tb}{xs:List A6}{m:Bool}{A:List A5}{rows:Int}(h:iK w0 w i bb n D fs mv u H U p)(aa:H.length<40)(hT:C7 D (Ae H H.length) xs)(hx:AA5 x)(hG:Grown p D l)(hn:n1<=n+50)(V:B.A0 (B.Own bb mv) w r)(P:∀k,f=.map (some k)->mv=.map (some k)\/w.heap.size<=k)(b:V7 D (Ae H H.length) xs p x l m A rows)(g:∃d,Ey w0 r i bb n1 l z f d)(hd:DoP w0 r i bb n1 l z f (p,m,A) H H.length e s):
 ∃v X,e=Zr (Zu #[v,X])/\Xt w0 w i bb n D fs mv H U p xs x (Zr X) s:=by
 have j:Inv l H (p :: U):=(h.inv.user h.plain).grown (Yf ..) hG;obtain⟨d,g⟩:=g
 rcases hd with⟨I,rfl,hb⟩|⟨I,W,L,n',D',o,J,G,Y,h2,h3,h4,⟨t,rfl,N,M,_,rfl⟩|⟨ty,y,rfl,rfl,T⟩⟩
 ·have c:=dD V P (B.A0.Ba hb) (λk b=>.inl b)
  exact⟨_,_,rfl,n1,l,z,f,d,H,g.up hb,by omega,c.1,c.2,j,.inl ⟨rfl,l,m,A,rows,b,.inl ⟨I,rfl,rfl⟩⟩⟩
 ·have c:=dD V P ((B.A0.Ba L).trans h3 (λ_ _ e=>e)) (λk b=>(h4 k b).imp id λq=>XC L.size q)
  have hc:=Mq h.inv.past (Y9 _);have ab:=h.inv.next H.length (Y9 _);have R:0<=(Ae H H.length).next:=vC h.inv.past h.Of;have O:=AEj hT h.Of hc ⟨R,by omega⟩ hx b;obtain⟨ys,hy,ac⟩:=AI2 h.inv.Lm.1 hT h.Of hc h.plain h.short h.free hx b N I;refine⟨_,_,rfl,n',_,o,J,G,H++[((p,m,A),t)],Y,by omega,c.1,c.2,j.AJO (by omega) N ⟨M,λa c=>?_,O.Iz,lV O M⟩ hy (by omega),.inl ⟨rfl,l,m,A,rows,b,.inr ⟨I,j,t,N,rfl,rfl⟩⟩⟩;simp only[Cv,Bool.and_eq_true,List.all_eq_true] at M;exact Qb (M.2 a c) (O.ints a c)
 have c:=dD V P ((B.A0.Ba L).trans h3 (λ_ _ e=>e)) (λk b=>(h4 k b).imp id λq=>XC L.size q);exact⟨_,_,rfl,n',_,o,J,G,H,Y,by omega,c.1,c.2,j,.inr ⟨_,_,rfl,rfl,.inr ⟨_,m,A,rows,z,r,n1,f,d,b,I,g,T⟩⟩⟩
theorem V1(ae:Mw)(w0:Tw)(j bb n:Nat)(D:Td)(fs:List Int)(mv fv:Tv)(H:List (Dn×Ah))(U:List Tb)(b:Tb)(xs:List A6)(x:J4)(N:To)(O:Nat)(W:To)(X:Nat)(pa:To)(V R:Nat)(Y:To)(sc:Nat)(w:Tw)(h:iK w0 w j bb n D fs mv fv H U b)(ad:H.length<40)(hT:C7 D (Ae H H.length) xs)(hx:K8 w x N O W X pa V R Y sc):
 Zc 7 #[Zp (some ⟨bb,0,none⟩),Zg #[Zi x.Qk,Zs N x.cols.length O,Zs W x.rows.length X,Zs pa V R,Zs Y x.A3.length sc,Zi x.change,Zt x.name,Zt x.tw],Zt b] w (Xt w0 w j bb n D fs mv H U b xs x):=by
 have g:Zb w (w.alloc (Zk #[Zi x.Qk,Zs N x.cols.length O,Zs W x.rows.length X,Zs pa V R,Zs Y x.A3.length sc,Zi x.change,Zt x.name,Zt x.tw] 38)):=Zal;have m:=Aa (ACD ae w0 j bb n D fs mv fv H U b xs x N O W X pa V R Y sc _ (h.up g) hT (hx.up g));have l:Hid (∀e w',Kd w0 (w.alloc (Zk #[Zi x.Qk,Zs N x.cols.length O,Zs W x.rows.length X,Zs pa V R,Zs Y x.A3.length sc,Zi x.change,Zt x.name,Zt x.tw] 38)) j bb n D mv H b (AB0 (Ae H H.length) fs x) (V7 D (Ae H H.length) xs b x) e w'->Kd w0 w j bb n D mv H b (AB0 (Ae H H.length) fs x) (V7 D (Ae H H.length) xs b x) e w'):=Aa λe w' hp=>hp.low g (λq=>q) λ_ _ _ _ q=>q
 have a:=Aa h;have J:=Aa hT;have M:=Aa hx.ints;clear h hT hx g;go_enter func7,ntmps7;go_wp2_with fail;refine m.out.mono ?_;intro e w1 t;obtain⟨n1,D1,o,u,p,c,af,f,i,d,⟨pb,L,rd,rows,a1,ah,c1,x2,a2,n2,c2,aa,ac,rfl,hP,s⟩|⟨P,T,y,rfl⟩⟩:=l.out _ _ t
 ·have ag:=a.out.inv.next H.length (Y9 _)
  have k:=AEj J.out a.out.Of (Mq a.out.inv.past (Y9 _)) ⟨vC a.out.inv.past a.out.Of,by have:=a.out.O5;omega⟩ M.out s;have r:Inv D1 H (b :: U):=(a.out.inv.user a.out.plain).grown (Yf ..) d;have I:=Aa (AHB w0 j _ bb n1 D1 o u p H H.length pb a1 ah c1 x2 a2 n2 c2 b rd aa ac L rows w1 c (XC a.out.nf f.size) (by have:=a.out.Iz;omega) r.Lm r.past a.out.O5 (Y9 _) hP k (by have:=a.out.short;omega));have G:Hid (∀e z,DoP w0 w1 j bb n1 D1 o u (b,rd,L.map (·.1)) H H.length e z->∃v er,e=Zr (Zu #[v,er])/\Hid (Xt w0 w j bb n D fs mv H U b xs x (Zr er) z)):=Aa λe z hd=>AGp a.out ad J.out M.out d af f i s ⟨p,c⟩ hd
  clear t c f i d hP s k r ag m l;go_wp2_with fail;refine(I.out.mono λe z=>G.out e z).mono ?_;rintro e z⟨v,er,rfl,H2⟩;clear I G;go_wp2_with fail;go_ret;exact H2.out
 have H1:=Aa (And.intro c (And.intro f (And.intro i ((a.out.inv.user a.out.plain).grown (Yf ..) d))));have ab:=Aa P;clear P t c f i d m l;go_wp2_with fail;go_ret;exact⟨n1,D1,o,u,p,H,H1.out.1,by omega,H1.out.2.1,H1.out.2.2.1,H1.out.2.2.2,.inr ⟨_,_,rfl,rfl,.inl ab.out⟩⟩
theorem bJ{w0 w:Tw}{bb n:Nat}{fs:List Int}{mv v:Tv}(h:Ey w0 w 0 bb n D fs mv v):fs=[]:=by
 obtain⟨a,c,e,g,f⟩:=h.bu.2.2;cases fs with
 | nil=>rfl
 | cons x l=>obtain⟨b,off,d,_⟩:=f (by simp);exact absurd (h.hf b off l.length c (by rw[e,d];rfl)) (Ym _)
theorem AIz:(List.range 31).all (λi=>Bx (wK i))=true:=by kernel_rfl
theorem AGv{i:Nat}(h:i<=30):Bx (wK i)=true:=List.all_eq_true.1 AIz i (List.mem_range.2 (by omega))
def nms:Nat->List ByteArray
 | 0=>[]
 | i+1=>wK i :: nms i
theorem AD3:∀(i k:Nat),i<=k->k<=600->¬wK k∈nms i
 | 0,_,_,_,h=>by cases h
 | i+1,k,h1,h2,h=>by
   rcases List.mem_cons.1 h with e|e
   ·have:=AHh (by omega) (by omega) e
    omega
   exact AD3 i k (by omega) h2 e
structure LwT(w0 w:World)(bb i m:Nat)(D:DataW Unit)(fs:List Int)(mv fv:Value)(H:List (Dn×Ah)):Prop where
 base:Ey w0 w 0 bb m D fs mv fv
 inv:Inv D H (nms i)
 Iz:H.length<=i
 AFx:m<=i*100
theorem LwT.sit{w0 w:Tw}{bb i m:Nat}{fs:List Int}{mv v:Tv}(h:LwT w0 w bb i m D fs mv v H)(b:i<=30)(a:B.Ob w0)(c:S.Lp w0):iK w0 w 0 bb m D fs mv v H (nms i) (wK i) :=
 ⟨h.base,h.inv,a,c,XF _,by have:=h.AFx;omega,by have:=h.Iz;omega,AGv b,by show 3<=12;decide,AFl i,AD3 i i (Y9 _) (by omega)⟩
theorem LwT.up{w0 w W:Tw}{bb i m:Nat}{D:Td}{fs:List Int}{mv v:Tv}{H:List (Dn×Ah)}(h:LwT w0 w bb i m D fs mv v H)(a:Zb w W):LwT w0 W bb i m D fs mv v H:=⟨h.base.up a,h.inv,h.Iz,h.AFx⟩
theorem uF(w:Tw)(a:Ik w)(g:Lw w)(f:Jp w):Ey w (w.alloc (Zk #[.map none,Zs none 0 0] 30)) 0 w.heap.size 0 (.map []) [] (.map none) (Zs none 0 0) :=
 ⟨B.AJj w,Zal,Y9 _,λk d=>(by cases d),a,g,f,λb off l c e=>(by cases e)⟩
theorem LwT.start(w:Tw)(a:Ik w)(c:Lw w)(b:Jp w):LwT w (w.alloc (Zk #[.map none,Zs none 0 0] 30)) w.heap.size 0 0 (.map []) [] (.map none) (Zs none 0 0) [] :=
 ⟨uF w a c b,Inv.nil,Y9 _,Y9 _⟩
theorem AHq(l:Mw)(w0:Tw)(bb i m:Nat)(D:Td)(fs:List Int)(mv t:Tv)(H:List (Dn×Ah))(x:J4)(g:To)(j:Nat)(p:To)(q:Nat)(pa:To)(o n:Nat)(r:To)(s:Nat)(w:Tw)(h:LwT w0 w bb i m D fs mv t H)(P:i<30)(I:B.Ob w0)(J:S.Lp w0)(L:K8 w x g j p q pa o n r s):
 Zc 7 #[Zp (some ⟨bb,0,none⟩),Zg #[Zi x.Qk,Zs g x.cols.length j,Zs p x.rows.length q,Zs pa o n,Zs r x.A3.length s,Zi x.change,Zt x.name,Zt x.tw],Zt (wK i)] w λe u=>∃k,e=Zr k/\∃M d a c b f,LwT w0 u bb (i+1) M d a c b f:=by
 obtain⟨xs,z⟩:=h.inv.wU H.length (Y9 _);refine(V1 l w0 0 bb m D fs mv t H (nms i) (wK i) xs x g j p q pa o n r s w (h.sit (by omega) I J) (by have:=h.Iz;omega) z L).mono ?_;intro e u G;obtain⟨k,rfl,n',d,a,c,b,f,v,N,_,_,y,_,O⟩:=G.wU;exact⟨k,rfl,n',d,a,c,b,f,v,y,by have:=h.Iz;omega,by have:=h.AFx;omega⟩
def Pb(P:Prop)(w:World)(e:Ending)(a:World):Prop:=∃b,e=.returned (.bool b)/\(b=true->P)/\Zb w a
def ABP(l:List Aj):Prop:=l.length<=20/\∀c∈l,c.2.1.size<=60/\c.2.2.2.2.2.2.size<=100
def RowsFit(l:List (List V)):Prop:=l.length<=70/\∀r∈l,r.length<=20/\∀v∈r,v.2.2.size<=100
theorem O1{α:Type}{P:α->Prop}{l:List α}(h:∀x∈l.take k,P x)(a:l.length<=k):∀x∈l,P x:=by rwa[Yd a] at h
theorem My{α:Type}{P:α->Prop}{l:List α}{x:α}(h:∀x∈l.take k,P x)(c:l[k]? = some x)(b:P x):∀x∈l.take (k+1),P x:=by
 rw[E.Br c];intro y a
 rcases List.mem_append.1 a with a|a
 ·exact h y a
 simp at a;subst a;exact b
theorem pS(u:Tv)(l:List Aj)(w:Tw)(s:F7 7 Cc w u l)(e:∀c∈l,c.2.1.size<=maxLen/\c.2.2.2.2.2.2.size<=maxLen):
 Zc 20 #[u] w (Pb (ABP l) w):=by
 have x:=Aa s;obtain⟨R,T,rfl,_⟩:=s.slice;have h:=Aa e;clear s e
 by_cases h20:l.length<=20
 ·have d:¬(20:Int)<(l.length:Int):=by omega
  go_enter func20,ntmps20;go_wp2
  go_loopw [3] (λt wr=>∃k:Nat,k<=l.length/\t=Zi k/\Hid (∀c∈l.take k,c.2.1.size<=60/\c.2.2.2.2.2.2.size<=100)/\Hid (Zb w wr)) (λt _=>l.length-(intOf t).toNat)
  case atStart=>exact⟨0,XF _,rfl,Aa (by simp),Aa (XD _ _)⟩
  case round=>
   obtain⟨k,P,rfl,f,b⟩:=hrel
   by_cases hlt:k<l.length
   ·obtain⟨⟨c1,n,L,M,N,O,o⟩,g⟩:∃c,l[k]? = some c:=⟨_,Y8 hlt⟩
    obtain⟨lb,U,G,z,_,D,a⟩:=(x.out.up b.out).cons (by omega);injection z with p _ q;subst p q;obtain⟨V,W,X,Y,q4,q5,q6⟩:=F8 a g;obtain⟨I,J⟩:=h.out _ (XG g);dsimp only at I J;have r:(k:Int)<(l.length:Int):=by omega
    have v:=Aa g;clear a g
    by_cases a1:n.size<=60
    ·have j:¬(60:Int)<(n.size:Int):=by omega
     by_cases a2:o.size<=100
     ·have m:¬(100:Int)<(o.size:Int):=by omega
      have i:=Aa (My f.out v.out ⟨a1,a2⟩);go_wp2;exact⟨⟨k+1,by omega,by go_num,i,b⟩,by simp[intOf];omega⟩
     have m:(100:Int)<(o.size:Int):=by omega
     go_wp2;go_ret;exact⟨_,rfl,by simp,b.out⟩
    have j:(60:Int)<(n.size:Int):=by omega
    go_wp2;go_ret;exact⟨_,rfl,by simp,b.out⟩
   have r:¬(k:Int)<(l.length:Int):=by omega
   have y:=Aa (O1 f.out (by omega));go_wp2;go_ret;exact⟨_,rfl,λ_=>⟨h20,y.out⟩,b.out⟩
 have d:(20:Int)<(l.length:Int):=by omega
 go_enter func20,ntmps20;go_wp2;go_ret;exact⟨_,rfl,by simp,XD _ _⟩
theorem oH(W:Tv)(l:List (List V))(w:Tw)(T:iJ w W l)(m:∀r∈l,∀v∈r,v.2.2.size<=maxLen):
 Zc 21 #[W] w (Pb (RowsFit l) w):=by
 have HL:=Aa T;obtain⟨la,lc,rfl,_⟩:=T.slice;have y:=Aa m;clear T m
 by_cases h70:l.length<=70
 ·have h:¬(70:Int)<(l.length:Int):=by omega
  go_enter func21,ntmps21;go_wp2
  go_loopw [3] (λg wr=>∃k:Nat,k<=l.length/\g=Zi k/\Hid (∀r∈l.take k,r.length<=20/\∀v∈r,v.2.2.size<=100)/\Hid (Zb w wr)) (λg _=>l.length-(intOf g).toNat)
  case atStart=>exact⟨0,XF _,rfl,Aa (by simp),Aa (XD _ _)⟩
  case round=>
   obtain⟨k,hk,rfl,n,c⟩:=hrel
   by_cases hlt:k<l.length
   ·obtain⟨r,s⟩:∃r,l[k]? = some r:=⟨_,Y8 hlt⟩
    obtain⟨rb,ro,ac,xv,er,aa,f,N⟩:=(HL.out.up c.out).at s;injection er with L _ M;subst L M;obtain⟨xa,xc,rfl,_,p⟩:=N;have G:=Aa p;have o:=y.out r (XG s);have D:=Aa o;have z:=Aa s;have R:(k:Int)<(l.length:Int):=by omega
    clear p o s
    by_cases a1:r.length<=20
    ·have I:¬(20:Int)<(r.length:Int):=by omega
     go_wp2;rename Tw=>wo
     go_loopw [4] (λg wi=>∃j:Nat,j<=r.length/\g=Zi j/\Hid (∀v∈r.take j,v.2.2.size<=100)/\Hid (Zb wo wi)) (λg _=>r.length-(intOf g).toNat)
     case atStart=>exact⟨0,XF _,rfl,Aa (by simp),Aa (XD _ _)⟩
     case round=>
      obtain⟨j,hj,rfl,i,a⟩:=hrel;have q:=Ag a.out f
      by_cases hjl:j<r.length
      ·obtain⟨⟨vk,vn,U⟩,t⟩:∃x,r[j]? = some x:=⟨_,Y8 hjl⟩
       obtain⟨xb,xo,rfl,ab,b⟩:=G.out (by intro e;rw[e] at hjl;simp at hjl);obtain⟨X,Y,y2⟩:=b j _ t;replace X:=Ag a.out X;replace Y:=Ag a.out Y;replace y2:=Ag a.out y2;have m1:=D.out _ (XG t);dsimp only at m1;have O:(j:Int)<(r.length:Int):=by omega
       have HV:=Aa t;clear b t
       by_cases a2:U.size<=100
       ·have J:¬(100:Int)<(U.size:Int):=by omega
        have d:=Aa (My (P:=λv:V=>v.2.2.size<=100) i.out HV.out a2);go_wp2;exact⟨⟨j+1,by omega,by go_num,d,a⟩,by simp[intOf];omega⟩
       have J:(100:Int)<(U.size:Int):=by omega
       go_wp2;go_ret;exact⟨_,rfl,by simp,Ap c.out a.out⟩
      have O:¬(j:Int)<(r.length:Int):=by omega
      have d:=Aa (My (P:=λr:List V=>r.length<=20/\∀v∈r,v.2.2.size<=100) n.out z.out ⟨a1,O1 (P:=λv:V=>v.2.2.size<=100) i.out (by omega)⟩);have u:=Aa (Ap c.out a.out);go_wp2;exact⟨⟨k+1,by omega,by go_num,d,u⟩,by simp[intOf];omega⟩
    have I:(20:Int)<(r.length:Int):=by omega
    go_wp2;go_ret;exact⟨_,rfl,by simp,c.out⟩
   have R:¬(k:Int)<(l.length:Int):=by omega
   have z:=Aa (O1 (P:=λr:List V=>r.length<=20/\∀v∈r,v.2.2.size<=100) n.out (by omega));go_wp2;go_ret;exact⟨_,rfl,λ_=>⟨h70,z.out⟩,c.out⟩
 have h:(70:Int)<(l.length:Int):=by omega
 go_enter func21,ntmps21;go_wp2;go_ret;exact⟨_,rfl,by simp,XD _ _⟩
variable{H:Type}{W:Tw}{x:DataW H×List MemPlace}
theorem Db:prog.cellsOf 3=1:=by kernel_rfl
theorem zS:prog.cellsOf 2=1:=by kernel_rfl
theorem Vw:prog.cellsOf 9=1:=by kernel_rfl
theorem gQ:prog.cellsOf 56=3:=by kernel_rfl
theorem AGR:prog.cellsOf 72=7:=by kernel_rfl
theorem AHc:prog.cellsOf 51=1:=by kernel_rfl
theorem bounds{n:Int}(h:(Lit.int .i64 n).wf=true):-9223372036854775808<=n/\n<=9223372036854775807:=by have a:IntKind.i64.min = -9223372036854775808:=rfl;have b:IntKind.i64.max=9223372036854775807:=rfl;simp[Lit.wf,a,b] at h;omega
theorem qU{enc:TypeId×Tv->H}{base:Nat}{j:Nat->Bool}{held:Bool}{n:Nat}{cs:List Tv}(h:DataW.trod enc prog W base j held n 56 cs=some x):
 ∃v:V,cs=[Zi v.1,Zi v.2.1,Zt v.2.2]/\Ks v/\v.2.2.size<=maxLen:=by
 obtain⟨l,o,p,n1,_,f,c,d,e⟩:=trod_struct3 underlying56 h;rw[gQ] at f
 match cs,f with
 | [v0,v1,v2],_=>simp only[Db,Vw,zS,List.drop_zero,List.drop_succ_cons,List.take_succ_cons,List.take_zero] at c d e;obtain⟨k,e0,_,_⟩:=DataW.trod_int underlying3 c;obtain⟨m,a,_,g⟩:=DataW.trod_int underlying2 d;obtain⟨t,b,_,i⟩:=DataW.trod_string underlying9 e;simp at e0 a b;subst e0 a b;exact⟨(k,m,t),rfl,⟨(bounds g).1,(bounds g).2⟩,i⟩
theorem M0{α:Type}[Inhabited α]{enc:TypeId×Tv->H}{O:Nat->Bool}{held:Bool}{fuel k:Nat}{T E:TypeId}{en:α->List Tv}{P:α->Prop}{cs:List Tv}(y:0<k)(hlen:∀x,(en x).length=k)(X:prog.underlying T=some (.slice E))(V:prog.cellsOf E=k)(J:∀{n:Nat}{cs:List Tv}{x:DataW H×List MemPlace},DataW.trod enc prog W 0 O held n E cs=some x->∃q,cs=en q/\P q)(h:DataW.trod enc prog W 0 O held fuel T cs=some x):∃v,cs=[v]/\∃l:List α,F7 k en W v l/\∀q∈l,P q:=by
 rcases open_slice X h with⟨d,_⟩|⟨a,len,G,m,n,D,Pl,d,hb,Y,hm,L,b,r⟩
 ·exact⟨_,d,[],⟨_,_,rfl,XF _,λh=>absurd rfl h⟩,λx b=>by simp at b⟩
 refine⟨_,d,?_⟩
 rcases Yt len with rfl|c
 ·exact⟨[],⟨_,_,rfl,XF _,λh=>absurd rfl h⟩,λx b=>by simp at b⟩
 have aa:len<=m:=by rw[L];split <;> omega
 have p:∀i,i<len->∃q:α,W.cells? 0 (a.add (i*k)) k=some (en q)/\P q:=λi w=>by obtain⟨R,N,U⟩:=r i (by omega);obtain⟨q,rfl,hq⟩:=J U;rw[V] at N;exact⟨q,N,hq⟩
 obtain⟨Q,I⟩:=choose_lt p;obtain⟨z,M,spot⟩:=a
 have g:spot=none:=by have:=(XM (I 0 c).1).2.2 0 y;obtain⟨u,t,o⟩:=YV (l:=en (Q 0)) (by rw[hlen];exact y);rw[o] at this;simpa[Addr.add] using World.cell?_spot this
 subst g
 have cell:∀j,j<len->∀i,i<k->W.cell? ⟨z,M+j*k+i,none⟩=(en (Q j))[i]? := λj e i w=>by have:=(XM (I j e).1).2.2 i w;rwa[add_plain,add_plain] at this
 have f:((List.range len).map Q).length=len:=by simp
 refine⟨(List.range len).map Q,⟨some ⟨z,M,none⟩,G,by rw[f],by rw[f];exact Y,λ_=>⟨z,M,rfl,?_,λj x e i u o=>?_⟩⟩,λx b=>?_⟩
 ·obtain⟨u,t,o⟩:=YV (l:=en (Q 0)) (by rw[hlen];exact y)
  exact block_lt_of_cell ((cell 0 c 0 y).trans (by rw[o];rfl))
 ·have s:j<len:=by have:=Ax e;rwa[f] at this
  have b:x=Q j:=by rw[List.getElem?_map,List.getElem?_range s] at e;exact(Yu e).symm
  subst b;have w:i<k:=by have:=Ax o;rwa[hlen] at this
  rw[cell j s i w,o]
 simp only[List.mem_map,List.mem_range] at b;obtain⟨j,e,rfl⟩:=b;exact(I j e).2
def AIQ(v:V):List Value:=[Zi v.1,Zi v.2.1,.string v.2.2]
theorem mW{w:Tw}{v:Tv}{l:List V}(h:F7 3 AIQ w v l):E.Sl w v l:=by obtain⟨a,c,e,k,m⟩:=h;refine⟨a,c,e,k,λn=>?_⟩;obtain⟨b,off,g,i,d⟩:=m n;exact⟨b,off,g,i,λj x f=>⟨d j x f 0 _ rfl,d j x f 1 _ rfl,d j x f 2 _ rfl⟩⟩
end F
namespace S
variable{W w:Tw}{u v:Tv}{g i k m n q:Nat}{X Y:List Tv}{a c d:List CT}{T:CT}
def A2:CT->Nat
 | .nil=>0
 | .node _ _ _ l r=>1+max (A2 l) (A2 r)
theorem Gy.grown{w W:Tw}{row:Option Nat}(i:w.grownBy W row)(a:∀g,row=some g->∃d,w.heap[g]? = some (Zk d 45)):∀{T:CT}{v:Tv},Gy w T v->Gy W T v
 | .nil,_,h=>h
 | .node _ _ ⟨_,_,_,_,_⟩ _ _,_,⟨b,pl,pr,e,hh,hcd,hl,hr⟩=>⟨b,pl,pr,e,by
    rw[i.block b (by
     rcases Yc b w.heap.size with f|f
     ·exact f
     rw[XE f] at hh;cases hh) (λj=>by
     obtain⟨d,c⟩:=a b j.symm;rw[hh] at c;injection c with c;injection c with _ c;exact absurd c (by decide))]
    exact hh,hcd,Gy.grown i a hl,Gy.grown i a hr⟩
structure Stack(w0 wr:World)(i:Nat)(v:Value)(n:Nat)(vs:List Value)(Ts:List CT):Prop where
 own:wr.ownsRow w0.heap.size 45 1 v n vs
 len:Ts.length=n
 ins:∀(j:Nat)(T:CT)(u:Value),Ts[j]? = some T->vs[j]? = some u->Gy wr T u/\0<A2 T
 dep:(Ts.map A2).sum<=i
 xL:Zb w0 wr
theorem Ad{B e z n:Nat}{xs:List Tv}(h:w.ownsRow B e z v n xs)(k:Zb w W):W.ownsRow B e z v n xs:=by
 refine⟨h.1,?_⟩
 rcases h.2 with a|⟨g,b,c,f,i,d,j⟩
 ·exact .inl a
 refine .inr ⟨g,b,c,f,i,?_,j⟩
 rw[k.block g (by
  rcases Yc g w.heap.size with a|a
  ·exact a
  rw[XE a] at d;cases d)]
 exact d
theorem Ai{B k e z n:Nat}{xs:List Tv}(h:w.ownsRow B e z v n xs)(j:k<=B):w.ownsRow k e z v n xs:=by
 refine⟨h.1,?_⟩
 rcases h.2 with i|⟨g,a,b,c,d,f⟩
 ·exact .inl i
 exact .inr ⟨g,a,b,c,XC j d,f⟩
theorem Ak{B e z n:Nat}{xs:List Tv}(h:w.ownsRow B e z v n xs):∃b a,v=Zs b n a/\n<=a/\a<=maxLen:=by
 rcases h.2 with⟨rfl,rfl⟩|⟨g,c,d,f,k,l,i,j,_⟩
 ·exact⟨none,0,rfl,Y9 _,by unfold maxLen;omega⟩
 exact⟨_,_,f,i,j⟩
theorem below_grown(a:w.grownBy W none):Zb w W :=
 ⟨a.os,a.tape,a.output,a.size,λk b=>a.block k b (by simp)⟩
theorem AFp:∀(a:List CT),(∀T∈a,0<A2 T)->a.length<=(a.map A2).sum
 | [],_=>by simp
 | T :: a,h=>by have d:=h T (by simp);have e:=AFp a (λc b=>h c (by simp[b]));simp only[XJ,XK,List.length_cons];omega
theorem Stack.sS{w0 wr:Tw}(h:Stack w0 wr i v n X a):X.length=n:=by have:=h.own.1;omega
theorem Stack.pos{w0 wr:Tw}(h:Stack w0 wr i v n X a):∀T∈a,0<A2 T:=by
 intro T c;obtain⟨j,b,e⟩:=List.mem_iff_getElem.1 c;have d:j<X.length:=by rw[h.sS,<-h.len];exact b
 exact(h.ins j T X[j] (by rw[Y8 b,e]) (Y8 d)).2
theorem Stack.AK5{w0 wr:Tw}(h:Stack w0 wr i v n X a):n<=i:=by have b:=AFp a h.pos;have c:=h.dep;have d:=h.len;omega
theorem Stack.up{w0 wr W:Tw}{i k:Nat}{v:Tv}{n:Nat}{X:List Tv}{b:List CT}(h:Stack w0 wr i v n X b)(a:Zb wr W)(e:i<=k):Stack w0 W k v n X b :=
 ⟨Ad h.own a,h.len,λj T u c d=>⟨(h.ins j T u c d).1.up a,(h.ins j T u c d).2⟩,XC h.dep e,Below.up h.xL a⟩
theorem AHw{B n:Nat}{xs:List Tv}(h:w.ownsRow B 45 1 v n xs):∀g,v.ownBlock=some g->∃a,w.heap[g]? = some (Zk a 45):=by
 intro g b
 rcases h.2 with⟨rfl,_⟩|⟨i,c,a,rfl,e,d,f⟩
 ·cases b
 cases b;exact⟨a,d⟩
theorem Stack.push{w0 wr w:Tw}{v v':Tv}(h:Stack w0 wr i v n X d)(o:Gy wr T u)(s:A2 T=1)(f:wr.grownBy w v.ownBlock)(r:w.ownsRow w0.heap.size 45 1 v' (n+1) (X++[u])):Stack w0 w (i+1) v' (n+1) (X++[u]) (d++[T]):=by
 have b:=AHw h.own;refine⟨r,by simp[h.len],?_,?_,?_⟩
 ·intro j g m a c
  have q:d.length=X.length:=by rw[h.len,h.sS]
  by_cases hj:j<d.length
  ·rw[XB hj] at a
   rw[XB (by omega)] at c;exact⟨(h.ins j g m a c).1.grown f b,(h.ins j g m a c).2⟩
  rw[XA (by omega)] at a;rw[XA (by omega)] at c
  have e:j-d.length=0:=by
   rcases Yt (j-d.length) with l|l
   ·exact l
   rw[Yb (by simp;omega)] at a;cases a
  rw[e] at a;rw[<-q,e] at c;simp at a c;subst a c;exact⟨o.grown f b,by omega⟩
 ·have:=h.dep;simp;omega
 exact Below.grown h.xL f h.xL.size (λk p=>(h.own.lt k p).1)
theorem Stack.replace{w0 wr w:Tw}{v v':Tv}(h:Stack w0 wr i v n X c)(m:Nat)(x:m<=n)(l:Gy wr T u)(r:0<A2 T)(t:((c.take m).map A2).sum+A2 T<=i+1)(o:wr.grownBy w none)(q:w.ownsRow wr.heap.size 45 1 v' (m+1) (X.take m++[u])):Stack w0 w (i+1) v' (m+1) (X.take m++[u]) (c.take m++[T]):=by
 have d:=below_grown o;have p:(c.take m).length=m:=by simp[h.len];omega
 have s:(X.take m).length=m:=by simp[h.sS];omega
 refine⟨Ai q h.xL.size,by simp[h.len];omega,?_,by rw[XH,XI];simp only[XJ,XN,XK,XO];omega,Below.up h.xL d⟩;intro j f k a b
 by_cases hj:j<m
 ·rw[XB (by omega),Yl hj] at a
  rw[XB (by omega),Yl hj] at b;exact⟨(h.ins j f k a b).1.up d,(h.ins j f k a b).2⟩
 rw[XA (by omega)] at a;rw[XA (by omega)] at b
 have e:j-m=0:=by
  rcases Yt (j-m) with g|g
  ·exact g
  rw[Yb (by simp;omega)] at a;cases a
 rw[p,e] at a;rw[s,e] at b;simp at a b;subst a b;exact⟨l.up d,r⟩
theorem Stack.AK1{w0 wr:Tw}(h:Stack w0 wr i v (m+1) X a):∃u T,X[m]? = some u/\Gy wr T u/\((a.take m).map A2).sum+A2 T<=i:=by
 have c:m<X.length:=by rw[h.sS];omega
 have b:m<a.length:=by rw[h.len];omega
 refine⟨X[m],a[m],Y8 c,(h.ins m _ _ (Y8 b) (Y8 c)).1,?_⟩
 have e:a=a.take m++[a[m]]:=by rw[<-Yr b,Yd (by rw[h.len];omega)]
 have f:=h.dep;have d:=congrArg (λl=>(l.map A2).sum) e;simp only[XH,XI,XJ,XN,XK,XO] at d;omega
theorem Stack.AKv{w0 wr:Tw}(h:Stack w0 wr i v (m+2) X a):∃k n c d,X[m]? = some k/\X[m+1]? = some n/\Gy wr c k/\Gy wr d n/\0<A2 c/\0<A2 d/\((a.take m).map A2).sum+A2 c+A2 d<=i:=by
 have f:m+1<X.length:=by rw[h.sS];omega
 have b:m+1<a.length:=by rw[h.len];omega
 have g:=h.ins m _ _ (Y8 (Y5 b)) (Y8 (Y5 f));have j:=h.ins (m+1) _ _ (Y8 b) (Y8 f);refine⟨X[m],X[m+1],a[m],a[m+1],Y8 _,Y8 f,g.1,j.1,g.2,j.2,?_⟩
 have e:a=a.take m++[a[m]]++[a[m+1]]:=by rw[<-Yr (Y5 b),<-Yr b,Yd (by rw[h.len];omega)]
 have p:=h.dep;have o:=congrArg (λl=>(l.map A2).sum) e;simp only[XH,XI,XJ,XN,XK,XO] at o;omega
theorem Stack.cells{w0 wr:Tw}{i:Nat}{g k:Nat}{n:Nat}{X:List Tv}{b:List CT}(h:Stack w0 wr i (Zs (some ⟨g,0,none⟩) n k) n X b){j:Nat}{u:Tv}(c:X[j]? = some u):wr.cell? ⟨g,j,none⟩=some u:=by
 have:=h.own.cells (g:=g) rfl j u c;have a:(⟨g,0,none⟩:Addr).add j=⟨g,j,none⟩:=by unfold Addr.add;split <;> simp_all
 rwa[a] at this
theorem Stack.Hc{w0 wr:Tw}{c:To}{f:List CT}(h:Stack w0 wr i (Zs c n k) n X f)(p:0<n):∃g,c=some ⟨g,0,none⟩/\w0.heap.size<=g/\g<wr.heap.size:=by
 rcases h.own.2 with⟨e,o⟩|⟨g,j,l,a,m,d,_⟩
 ·omega
 injection a with a _ _;refine⟨g,a,m,?_⟩
 rcases Yc g wr.heap.size with b|b
 ·exact b
 rw[XE b] at d;cases d
theorem Stack.last{w0 wr:Tw}(h:Stack w0 wr i v n X a){j:Nat}(d:j<n):∃u T,X[j]? = some u/\a[j]? = some T/\Gy wr T u/\0<A2 T:=by
 have c:j<X.length:=by rw[h.sS];omega
 have b:j<a.length:=by rw[h.len];omega
 exact⟨X[j],a[j],Y8 c,Y8 b,h.ins j _ _ (Y8 b) (Y8 c)⟩
theorem Ip:(prog.info? 45).map (λi=>(i.zero,i.size,i.bytes))=some (some (Zp none),1,8):=by kernel_rfl
theorem wrap_small(m:Nat)(h:m<=1000):IntKind.i64.wrap (m:Int)=(m:Int):=by rw[IntKind.wrap_i64];omega
theorem Gy.ptr:∀{T:CT}{v:Tv},Gy w T v->∃p,v=Zp p
 | .nil,_,h=>⟨none,h⟩
 | .node _ _ ⟨_,_,_,_,_⟩ _ _,_,⟨b,_,_,e,_⟩=>⟨some ⟨b,0,none⟩,e⟩
theorem L9(w:Tw)(X Y Z:Obj):Zb w (((w.alloc X).alloc Y).alloc Z).drew:=(((Zal).alloc (by simp) _).alloc (by simp;omega) _).drew
theorem AFv(w:Tw)(X Y Z:Obj):(((w.alloc X).alloc Y).alloc Z).drew.heap[w.heap.size+1+1]? = some Z:=by rw[<-show ((w.alloc X).alloc Y).heap.size=w.heap.size+1+1 by simp];exact heap_alloc_new _ _
theorem second(w:Tw)(X Y Z:Obj):(((w.alloc X).alloc Y).alloc Z).drew.heap[w.heap.size+1]? = some Y:=by refine(XQ _ _ _ (by simp)).trans ?_;rw[<-show (w.alloc X).heap.size=w.heap.size+1 by simp];exact heap_alloc_new _ _
theorem Nr(w:Tw)(cs:Array Tv)(Y Z:Obj):(((w.alloc (Zk cs 75)).alloc Y).alloc Z).drew.cell? ⟨w.heap.size,0,none⟩=cs[0]? := by
 show (((w.alloc (Zk cs 75)).alloc Y).alloc Z).cell? ⟨w.heap.size,0,none⟩=cs[0]?;rw[XL _ _ _ (by simp;omega),XL _ _ _ (by simp),World.cell?_alloc_at _ _ _ _ rfl]
theorem take_one{b:List CT}(h:b[0]? = some T):A2 T<=((b.take 1).map A2).sum:=by
 cases b with
 | nil=>simp at h
 | cons a l=>simp at h;subst h;simp
theorem Br(h:a[q]? = some T):((a.take (q+1)).map A2).sum=((a.take q).map A2).sum+A2 T:=by
 have c:q<a.length:=by
  rcases Yc q a.length with b|b
  ·exact b
  rw[Yb b] at h;cases h
 rw[Yr c,XH,XI];rw[Y8 c] at h;injection h with h;simp[h]
theorem jQ{w0 wr:Tw}{f:List CT}(h:Stack w0 wr i (Zs (some ⟨g,0,none⟩) n k) n X f)(m:Nat):
 ∀W,Zb wr W->∀b,(some ⟨g,0,none⟩:To)=some b->∀(j:Nat)(u:Tv),(X.take m)[j]? = some u->W.cell? (b.add j)=some u:=by
 intro W l b e j u c;cases e;have a:(⟨g,0,none⟩:Addr).add j=⟨g,j,none⟩:=by unfold Addr.add;split <;> simp_all
 rw[a]
 have d:X[j]? = some u:=by
  rw[List.getElem?_take] at c;split at c
  ·exact c
  cases c
 have:=(h.up l (Y9 _)).cells d;exact this
theorem fP{w0 wr:Tw}{e:List CT}(h:Stack w0 wr i (Zs (some ⟨g,0,none⟩) n k) n Y e):
 ∃a:Tw->Prop,Hid (a wr/\(∀W X,a W->a (W.alloc X))/\(∀W,a W->∀q,q<n->∃b c,W.cell? ⟨g,q,none⟩=some (Zp b)/\Gy W c (Zp b)/\0<A2 c/\e[q]? = some c)/\(∀W,a W->Zb w0 W)):=by
 refine⟨λW=>Zb wr W,XD _ _,λW X hb=>hb.alloc hb.size _,λW hb q hq=>?_,λW hb=>Below.up h.xL hb⟩;obtain⟨u,T,l,d,f,j⟩:=h.last hq;obtain⟨b,rfl⟩:=f.ptr;exact⟨b,T,(h.up hb (Y9 _)).cells l,f.up hb,j,d⟩
theorem rA{a:CT}{p b:To}{d:Tw->Prop}(f:Gy w T (Zp p))(g:Gy w a (Zp b))(j:0<A2 T)(k:0<A2 a)(l:A2 T<=((c.take q).map A2).sum)(i:c[q]? = some a)(h:d (w.alloc (Zk #[Zi 9,Zt ⟨#[]⟩,Zi 0,Zi 0,Zt ⟨#[]⟩,Zp p,Zp b] 94))):
 Gy (w.alloc (Zk #[Zi 9,Zt ⟨#[]⟩,Zi 0,Zi 0,Zt ⟨#[]⟩,Zp p,Zp b] 94)) (.node 0 0 ⟨9,⟨#[]⟩,0,0,⟨#[]⟩⟩ T a) (Zp (some ⟨w.heap.size,0,none⟩))/\0<A2 (.node 0 0 ⟨9,⟨#[]⟩,0,0,⟨#[]⟩⟩ T a)/\A2 (.node 0 0 ⟨9,⟨#[]⟩,0,0,⟨#[]⟩⟩ T a)<=((c.take (q+1)).map A2).sum/\d (w.alloc (Zk #[Zi 9,Zt ⟨#[]⟩,Zi 0,Zi 0,Zt ⟨#[]⟩,Zp p,Zp b] 94)):=by
 have e:Zb w (w.alloc (Zk #[Zi 9,Zt ⟨#[]⟩,Zi 0,Zi 0,Zt ⟨#[]⟩,Zp p,Zp b] 94)):=Zal;refine⟨?_,by simp only[A2];omega,by rw[Br i];simp only[A2];omega,h⟩;unfold Gy;exact⟨_,Zp p,Zp b,rfl,heap_alloc_new _ _,by omega,f.up e,g.up e⟩
theorem vI(w:Tw):Gy w .nil (Zp none):=rfl
theorem Stack.step{w0 wr w:Tw}{v v':Tv}{a b:CT}{u f:Tv}{c k n':Int}{Bl t:Tb}{X Z:Obj}(h:Stack w0 wr i v n Y d)(o:m<=n)(g:1<=c/\c<=11)(l:Gy wr a u)(q:Gy wr b f)(r:((d.take m).map A2).sum+(1+max (A2 a) (A2 b))<=i+1)(j:(((wr.alloc X).alloc (Zk #[Zi c,Zt Bl,Zi k,Zi n',Zt t,u,f] 94)).alloc Z).drew.grownBy w none)(p:w.ownsRow (((wr.alloc X).alloc (Zk #[Zi c,Zt Bl,Zi k,Zi n',Zt t,u,f] 94)).alloc Z).drew.heap.size 45 1 v' (m+1) (Y.take m++[Zp (some ⟨wr.heap.size+1,0,none⟩)])):
 Stack w0 w (i+1) v' (m+1) (Y.take m++[Zp (some ⟨wr.heap.size+1,0,none⟩)]) (d.take m++[.node 0 0 ⟨c,Bl,k,n',t⟩ a b]):=by
 have e:=L9 wr X (Zk #[Zi c,Zt Bl,Zi k,Zi n',Zt t,u,f] 94) Z;refine(h.up e (Y9 _)).replace m o ?_ (by simp only[A2];omega) (by simp only[A2];omega) j p;unfold Gy;exact⟨_,u,f,rfl,second wr _ _ _,g,l.up e,q.up e⟩
theorem M4(w:Tw)(X Y:Obj):Zb w ((w.alloc X).alloc Y):=(Zal).alloc (by simp) _
theorem AJC(w:Tw)(X Y:Obj)(H:Nat)(a:w.heap.size=H):((w.alloc X).alloc Y).heap[H]? = some X:=by subst a;exact(XQ _ _ _ (by simp)).trans (heap_alloc_new _ _)
theorem bG(w:Tw)(X Y:Obj)(H:Nat)(a:w.heap.size+1=H):((w.alloc X).alloc Y).heap[H]? = some Y:=by subst a;rw[<-show (w.alloc X).heap.size=w.heap.size+1 by simp];exact heap_alloc_new _ _
theorem Stack.leaf{w0 wr w W:Tw}{v v':Tv}{b:List CT}{c k n':Int}{Bl t:Tb}{Z:Obj}{H:Nat}(h:Stack w0 wr i v n X b)(a:1<=c/\c<=11)(e:Zb wr w)(d:w.heap.size=H)(f:((w.alloc (Zk #[Zi c,Zt Bl,Zi k,Zi n',Zt t,Zp none,Zp none] 94)).alloc Z).grownBy W v.ownBlock)(g:W.ownsRow w0.heap.size 45 1 v' (n+1) (X++[Zp (some ⟨H,0,none⟩)])):
 Stack w0 W (i+1) v' (n+1) (X++[Zp (some ⟨H,0,none⟩)]) (b++[.node 0 0 ⟨c,Bl,k,n',t⟩ .nil .nil]):=by
 refine(h.up (Below.up e (M4 w _ _)) (Y9 _)).push ?_ (by simp[A2]) f g;unfold Gy;exact⟨_,Zp none,Zp none,rfl,AJC w _ _ H d,a,vI _,vI _⟩
theorem ADb(z N L ah:Nat)(PC PK PN:Nat->Int)(PL PT:Nat->Tb)(w:Tw)(_hL:L<=ah)(_hcap:ah<=maxLen)(hT:∀j,(PT j).size<=maxLen)(Y:z<w.heap.size)(q0:∀j,j<L->w.cell? ⟨z,N+j*5,none⟩=some (Zi (PC j)))(q1:∀j,j<L->w.cell? ⟨z,N+j*5+1,none⟩=some (Zt (PL j)))(q2:∀j,j<L->w.cell? ⟨z,N+j*5+2,none⟩=some (Zi (PK j)))(q3:∀j,j<L->w.cell? ⟨z,N+j*5+3,none⟩=some (Zi (PN j)))(q4:∀j,j<L->w.cell? ⟨z,N+j*5+4,none⟩=some (Zt (PT j))):
 Zc 10 #[Zs (some ⟨z,N,none⟩) L ah] w λe V=>∃v T,e=Zr v/\Gy V T v/\A2 T<=14/\Zb w V:=by
 obtain⟨i0,ax,a1,a2,a3⟩:=info_parts Ip;have r:Hid (prog.info? 45=some i0/\i0.zero=some (Zp none)/\i0.size=1/\i0.bytes=8):=⟨ax,a1,a2,a3⟩;clear ax a1 a2 a3;have Q0:=Ab q0;have Q1:=Ab q1;have Q2:=Ab q2;have Q3:=Ab q3;have Q4:=Ab q4;have HT:=Ab hT;clear q0 q1 q2 q3 q4 hT;unfold maxLen at _hcap;go_enter func10,ntmps10;go_wp2
 go_loopw [3,4] (λo i wr=>∃(k n:Nat)(y:List Tv)(M:List CT),k<=14/\i=Zi k/\Hid (Stack w wr k o n y M)) (λ_ i _=>14-(intOf i).toNat)
 case atStart=>exact⟨0,0,[],[],by omega,rfl,⟨World.ownsRow_nil _ _ _ _,rfl,λj T u h=>by simp at h,by simp,XD _ _⟩⟩
 case round=>
  obtain⟨k,n,y,M,hk,rfl,d⟩:=hrel;obtain⟨ao,cp,rfl,bc,a4⟩:=Ak d.out.own;have bp:=d.out.AK5;unfold maxLen at a4
  by_cases P:k<L/\k<14
  ·obtain⟨O,ay⟩:=P
   have hb:=d.out.xL;have bb:z<wr.heap.size:=Ya Y hb.size;have c0:wr.cell? ⟨z,N+k*5,none⟩=some (Zi (PC k)):=(hb.cell (p:=⟨z,N+k*5,none⟩) Y).trans (Q0.out k O);have c1:wr.cell? ⟨z,N+k*5+1,none⟩=some (Zt (PL k)):=(hb.cell (p:=⟨z,N+k*5+1,none⟩) Y).trans (Q1.out k O);have c2:wr.cell? ⟨z,N+k*5+2,none⟩=some (Zi (PK k)):=(hb.cell (p:=⟨z,N+k*5+2,none⟩) Y).trans (Q2.out k O);have c3:wr.cell? ⟨z,N+k*5+3,none⟩=some (Zi (PN k)):=(hb.cell (p:=⟨z,N+k*5+3,none⟩) Y).trans (Q3.out k O);have c4:wr.cell? ⟨z,N+k*5+4,none⟩=some (Zt (PT k)):=(hb.cell (p:=⟨z,N+k*5+4,none⟩) Y).trans (Q4.out k O);have ht:=HT.out k;clear hb Q0 Q1 Q2 Q3 Q4 HT;generalize PC k=c at *;generalize PL k=Bl at *;generalize PK k=kk at *;generalize PN k=nn at *;generalize PT k=tt at *;have R:Hid (∀X,Zb wr (wr.alloc X)):=λX=>Zal
   by_cases h11:c=11
   ·subst h11
    by_cases hn0:n=0
    ·subst hn0
     go_wp2
     all_goals
      go_roundw
      case rel=>exact⟨k+1,_,y,M,by omega,by go_num,Ab (d.out.up (R.out _) (by omega))⟩
      case measure=>simp[intOf];omega
    obtain⟨m,rfl⟩:∃m,n=m+1:=⟨n-1,by omega⟩;obtain⟨g,rfl,an,aa⟩:=d.out.Hc (by omega);obtain⟨u,T,hu,am,J⟩:=d.out.AK1;obtain⟨pu,rfl⟩:=am.ptr;have cu:=d.out.cells hu;have U:Hid (Gy wr T (Zp pu)/\y[m]? = some (Zp pu)):=⟨am,hu⟩;have HD:=Ab J;have a5:(0:Int)<=(m:Int):=by omega
    have a6:(m:Int)<(m:Int)+1:=by omega
    clear hu am J;have HC:Hid (∀W,Zb wr W->∀b,(some ⟨g,0,none⟩:To)=some b->∀(j:Nat)(u':Tv),(y.take m)[j]? = some u'->W.cell? (b.add j)=some u'):=jQ d.out m;have HV:Hid ((y.take m).length=m*1):=Ab (by simp[d.out.sS]);have bo:=XP wr ⟨g,m,none⟩ cu;have HK:Hid (∀W,Zb wr W->W.cell? ⟨g,m,none⟩=some (Zp pu)):=λW hb=>(hb.cell (p:=⟨g,m,none⟩) aa).trans cu
    have ba:IntKind.i64.wrap (m:Int)=(m:Int):=wrap_small m (by omega);have a7:(m:Int)<=(cp:Int):=by omega
    go_wp2_with fail
    go_region_held3 (λV=>V.cell? ⟨g,m,none⟩=some (Zp pu))
     (first
       | (go_keep;done)
       | exact HK.out _ (L9 wr _ _ _)
       | exact HK.out _ (Below.up (L9 wr _ _ _) (below_grown a)))
     ((refine step_append_grows (by rfl) (.tmp 38) (.tmp 46) 92 (by rfl) 45 i0 (.pointer none) 1 8 underlying92 r.out.1 r.out.2.1 r.out.2.2.1 r.out.2.2.2 rfl (by omega) (some ⟨g,0,none⟩) m m (y.take m) (by rfl) (by simp) HV.out (HC.out _ (L9 wr _ _ _)) ⟨wr.heap.size+1+1,0,none⟩ 1 1 [.pointer (some ⟨wr.heap.size+1,0,none⟩)] (by rfl) (by rfl) (Y' (cs:=#[.pointer (some ⟨wr.heap.size+1,0,none⟩)]) (t:=45) (fr:=(0,0)) (AFv wr _ _ _)) (by simp[Value.oneCell']) (by omega) (by unfold maxLen;omega) (by omega) ?_;intro v' D f a))
    go_wp2
    go_roundw
    case rel=>exact⟨k+1,m+1,_,_,by omega,by go_num,Ab (d.out.step (by omega) (by omega) U.out.1 (vI wr) (by have:=HD.out;simp only[A2];omega) a f)⟩
    case measure=>simp[intOf];omega
   have bj:(c==11)=false:=by simpa using h11
   by_cases h9:c=9\/c=10
   ·by_cases af:n<=1
    ·rcases h9 with rfl|rfl
     ·go_wp2
      all_goals
       go_roundw
       case rel=>exact⟨k+1,_,y,M,by omega,by go_num,Ab (d.out.up (R.out _) (by omega))⟩
       case measure=>simp[intOf];omega
     go_wp2
     all_goals
      go_roundw
      case rel=>exact⟨k+1,_,y,M,by omega,by go_num,Ab (d.out.up (R.out _) (by omega))⟩
      case measure=>simp[intOf];omega
    obtain⟨m,rfl⟩:∃m,n=m+2:=⟨n-2,by omega⟩;obtain⟨g,rfl,an,aa⟩:=d.out.Hc (by omega);obtain⟨u1,u2,T1,T2,az,a0,ak,al,av,aw,J⟩:=d.out.AKv;have ar:=d.out.cells az;have ai:=d.out.cells a0;obtain⟨p1,rfl⟩:=ak.ptr;obtain⟨p2,rfl⟩:=al.ptr;have U:Hid (Gy wr T1 (Zp p1)/\Gy wr T2 (Zp p2)):=⟨ak,al⟩;have HD:Hid (0<A2 T1/\0<A2 T2/\((M.take m).map A2).sum+A2 T1+A2 T2<=k):=⟨av,aw,J⟩;have a5:(0:Int)<=(m:Int):=by omega
    have a6:(m:Int)<(m:Int)+2:=by omega
    obtain⟨m1,ag⟩:∃m1:Nat,m1=m+1:=⟨_,rfl⟩;have bm:(m1:Int)<(m:Int)+2:=by omega
    have bn:(0:Int)<=(m1:Int):=by omega
    have bh:IntKind.i64.wrap ((m:Int)+2-1)=(m1:Int):=by rw[show ((m:Int)+2-1)=(m1:Int) by omega];exact wrap_small m1 (by omega)
    rw[<-ag] at ai;clear ag;clear az a0 ak al av aw J;have HC:Hid (∀W,Zb wr W->∀b,(some ⟨g,0,none⟩:To)=some b->∀(j:Nat)(u':Tv),(y.take m)[j]? = some u'->W.cell? (b.add j)=some u'):=jQ d.out m;have HV:Hid ((y.take m).length=m*1):=Ab (by simp[d.out.sS]);have bd:=XP wr ⟨g,m,none⟩ ar;have bf:=XP wr ⟨g,m1,none⟩ ai;have HK:Hid (∀W,Zb wr W->∀X,W.cell? ⟨wr.heap.size,0,none⟩=some X->W.cell? ⟨g,m,none⟩=some (Zp p1)/\W.cell? ⟨g,m1,none⟩=some (Zp p2)/\W.cell? ⟨wr.heap.size,0,none⟩=some X):=λW hb X hX=>⟨(hb.cell (p:=⟨g,m,none⟩) aa).trans ar,(hb.cell (p:=⟨g,m1,none⟩) aa).trans ai,hX⟩
    have ba:IntKind.i64.wrap (m:Int)=(m:Int):=wrap_small m (by omega);have a7:(m:Int)<=(cp:Int):=by omega
    rcases h9 with rfl|rfl
    ·go_wp2_with fail
     go_region_held3 (λV=>V.cell? ⟨g,m,none⟩=some (Zp p1)/\V.cell? ⟨g,m1,none⟩=some (Zp p2)/\V.cell? ⟨wr.heap.size,0,none⟩=some (Zi 9))
      (first
        | (go_keep;done)
        | exact HK.out _ (L9 wr _ _ _) _ (Nr wr _ _ _)
        | exact HK.out _ (Below.up (L9 wr _ _ _) (below_grown a)) _ ((a.cell_far _ (by simp;omega) (by simp)).trans (Nr wr _ _ _)))
      ((refine step_append_grows (by rfl) (.tmp 66) (.tmp 81) 92 (by rfl) 45 i0 (.pointer none) 1 8 underlying92 r.out.1 r.out.2.1 r.out.2.2.1 r.out.2.2.2 rfl (by omega) (some ⟨g,0,none⟩) m m (y.take m) (by rfl) (by simp) HV.out (HC.out _ (L9 wr _ _ _)) ⟨wr.heap.size+1+1,0,none⟩ 1 1 [.pointer (some ⟨wr.heap.size+1,0,none⟩)] (by rfl) (by rfl) (Y' (cs:=#[.pointer (some ⟨wr.heap.size+1,0,none⟩)]) (t:=45) (fr:=(0,0)) (AFv wr _ _ _)) (by simp[Value.oneCell']) (by omega) (by unfold maxLen;omega) (by omega) ?_;intro v' D f a))
     go_wp2
     go_roundw
     case rel=>exact⟨k+1,m+1,_,_,by omega,by go_num,Ab (d.out.step (by omega) (by omega) U.out.1 U.out.2 (by have:=HD.out;omega) a f)⟩
     case measure=>simp[intOf];omega
    go_wp2_with fail
    go_region_held3 (λV=>V.cell? ⟨g,m,none⟩=some (Zp p1)/\V.cell? ⟨g,m1,none⟩=some (Zp p2)/\V.cell? ⟨wr.heap.size,0,none⟩=some (Zi 10))
     (first
       | (go_keep;done)
       | exact HK.out _ (L9 wr _ _ _) _ (Nr wr _ _ _)
       | exact HK.out _ (Below.up (L9 wr _ _ _) (below_grown a)) _ ((a.cell_far _ (by simp;omega) (by simp)).trans (Nr wr _ _ _)))
     ((refine step_append_grows (by rfl) (.tmp 66) (.tmp 81) 92 (by rfl) 45 i0 (.pointer none) 1 8 underlying92 r.out.1 r.out.2.1 r.out.2.2.1 r.out.2.2.2 rfl (by omega) (some ⟨g,0,none⟩) m m (y.take m) (by rfl) (by simp) HV.out (HC.out _ (L9 wr _ _ _)) ⟨wr.heap.size+1+1,0,none⟩ 1 1 [.pointer (some ⟨wr.heap.size+1,0,none⟩)] (by rfl) (by rfl) (Y' (cs:=#[.pointer (some ⟨wr.heap.size+1,0,none⟩)]) (t:=45) (fr:=(0,0)) (AFv wr _ _ _)) (by simp[Value.oneCell']) (by omega) (by unfold maxLen;omega) (by omega) ?_;intro v' D f a))
    go_wp2
    go_roundw
    case rel=>exact⟨k+1,m+1,_,_,by omega,by go_num,Ab (d.out.step (by omega) (by omega) U.out.1 U.out.2 (by have:=HD.out;omega) a f)⟩
    case measure=>simp[intOf];omega
   have b9:(c==9)=false:=by simp;omega
   have bi:(c==10)=false:=by simp;omega
   by_cases h16:1<=c/\c<=6
   ·obtain⟨h1,h6⟩:=h16
    have b7:(c==7)=false:=by simp;omega
    have b8:(c==8)=false:=by simp;omega
    by_cases hsz:(tt.size:Int)<=100
    ·have x:Hid (∀W,Zc 27 #[Zg #[Zi kk,Zi nn,Zt tt]] W λe V=>e=Zr (Zo (E.A9 kk nn tt))/\Zb W V):=λW=>E.Ln kk nn tt W ht
     cases hrv:E.A9 kk nn tt
     ·rw[hrv] at x
      clear hrv;go_wp2_with fail;refine(x.out _).mono ?_;rintro e D⟨rfl,s⟩;have x0:D.cell? ⟨wr.heap.size,0,none⟩=some (Zi c):=(s.cell (p:=⟨wr.heap.size,0,none⟩) (by simp)).trans (by go_simp);have HX:=Ab s;clear s;go_wp2
      all_goals
       go_roundw
       case rel=>exact⟨k+1,n,y,M,by omega,by go_num,Ab (d.out.up (Below.up (R.out _) HX.out) (by omega))⟩
       case measure=>simp[intOf];omega
     rw[hrv] at x;clear hrv;go_wp2_with fail;refine(x.out _).mono ?_;rintro e D⟨rfl,s⟩;have x0:D.cell? ⟨wr.heap.size,0,none⟩=some (Zi c):=(s.cell (p:=⟨wr.heap.size,0,none⟩) (by simp)).trans (by go_simp);have x1:D.cell? ⟨wr.heap.size,1,none⟩=some (Zt Bl):=(s.cell (p:=⟨wr.heap.size,1,none⟩) (by simp)).trans (by go_simp);have x2:D.cell? ⟨wr.heap.size,2,none⟩=some (Zi kk):=(s.cell (p:=⟨wr.heap.size,2,none⟩) (by simp)).trans (by go_simp);have x3:D.cell? ⟨wr.heap.size,3,none⟩=some (Zi nn):=(s.cell (p:=⟨wr.heap.size,3,none⟩) (by simp)).trans (by go_simp);have x4:D.cell? ⟨wr.heap.size,4,none⟩=some (Zt tt):=(s.cell (p:=⟨wr.heap.size,4,none⟩) (by simp)).trans (by go_simp);have HX:Hid (Zb wr D):=Below.up (R.out _) s;clear s;go_wp2_with (at_builtin;refine wpList_append_lies _ rfl (.tmp 104) (.tmp 113) 92 rfl w.heap.size 45 i0 (.pointer none) 1 8 underlying92 r.out.1 r.out.2.1 r.out.2.2.1 r.out.2.2.2 rfl (by omega) (.slice ao n cp) n y rfl (Ad d.out.own (Below.up HX.out (M4 D _ _))) ⟨D.heap.size+1,0,none⟩ 1 1 [.pointer (some ⟨D.heap.size,0,none⟩)] rfl rfl (Y' (cs:=#[.pointer (some ⟨D.heap.size,0,none⟩)]) (t:=45) (fr:=(0,0)) (bG D _ _ _ (by simp))) (by simp[Value.oneCell']) (by omega) (by unfold maxLen;omega) (by omega) (XC d.out.xL.size (Below.up HX.out (M4 D _ _)).size) (D.heap.size+1+1) (by simp) ?_;intro gg aq w2 f a au P)
     go_roundw
     case rel=>exact⟨k+1,n+1,_,_,by omega,by go_num,Ab (d.out.leaf (by omega) HX.out (by simp) a f)⟩
     case measure=>simp[intOf];omega
    have bg:(100:Int)<tt.size:=by omega
    clear hsz;go_wp2
    all_goals
     go_roundw
     case rel=>exact⟨k+1,_,y,M,by omega,by go_num,Ab (d.out.up (R.out _) (by omega))⟩
     case measure=>simp[intOf];omega
   by_cases aj:c=7\/c=8
   ·skip
    clear h16 h9 h11
    rcases aj with rfl|rfl
    ·go_wp2_with (at_builtin;refine wpList_append_lies _ rfl (.tmp 124) (.tmp 131) 92 rfl w.heap.size 45 i0 (.pointer none) 1 8 underlying92 r.out.1 r.out.2.1 r.out.2.2.1 r.out.2.2.2 rfl (by omega) (.slice ao n cp) n y rfl (Ad d.out.own (Below.up (R.out _) (M4 _ _ _))) ⟨wr.heap.size+1+1,0,none⟩ 1 1 [.pointer (some ⟨wr.heap.size+1,0,none⟩)] rfl rfl (Y' (cs:=#[.pointer (some ⟨wr.heap.size+1,0,none⟩)]) (t:=45) (fr:=(0,0)) (bG (wr.alloc _) _ _ _ (by simp))) (by simp[Value.oneCell']) (by omega) (by unfold maxLen;omega) (by omega) (XC d.out.xL.size (Below.up (R.out _) (M4 _ _ _)).size) (wr.heap.size+1+1+1) (by simp) ?_;intro gg aq w2 f a au P)
     go_roundw
     case rel=>exact⟨k+1,n+1,_,_,by omega,by go_num,Ab (d.out.leaf (by omega) (R.out _) (by simp) a f)⟩
     case measure=>simp[intOf];omega
    go_wp2_with (at_builtin;refine wpList_append_lies _ rfl (.tmp 124) (.tmp 131) 92 rfl w.heap.size 45 i0 (.pointer none) 1 8 underlying92 r.out.1 r.out.2.1 r.out.2.2.1 r.out.2.2.2 rfl (by omega) (.slice ao n cp) n y rfl (Ad d.out.own (Below.up (R.out _) (M4 _ _ _))) ⟨wr.heap.size+1+1,0,none⟩ 1 1 [.pointer (some ⟨wr.heap.size+1,0,none⟩)] rfl rfl (Y' (cs:=#[.pointer (some ⟨wr.heap.size+1,0,none⟩)]) (t:=45) (fr:=(0,0)) (bG (wr.alloc _) _ _ _ (by simp))) (by simp[Value.oneCell']) (by omega) (by unfold maxLen;omega) (by omega) (XC d.out.xL.size (Below.up (R.out _) (M4 _ _ _)).size) (wr.heap.size+1+1+1) (by simp) ?_;intro gg aq w2 f a au P)
    go_roundw
    case rel=>exact⟨k+1,n+1,_,_,by omega,by go_num,Ab (d.out.leaf (by omega) (R.out _) (by simp) a f)⟩
    case measure=>simp[intOf];omega
   have b7:(c==7)=false:=by simp;omega
   have b8:(c==8)=false:=by simp;omega
   by_cases hc1:1<=c
   ·have bk:¬c<=6:=by omega
    clear h16 aj h9 h11;go_wp2
    all_goals
     go_roundw
     case rel=>exact⟨k+1,_,y,M,by omega,by go_num,Ab (d.out.up (R.out _) (by omega))⟩
     case measure=>simp[intOf];omega
   clear h16 aj h9 h11;go_wp2
   all_goals
    go_roundw
    case rel=>exact⟨k+1,_,y,M,by omega,by go_num,Ab (d.out.up (R.out _) (by omega))⟩
    case measure=>simp[intOf];omega
  by_cases O:k<L
  ·have ay:¬k<14:=λhh=>P ⟨O,hh⟩
   clear P
   by_cases hn0:n=0
   ·subst hn0
    go_wp2;go_ret;exact⟨_,.nil,rfl,vI _,by simp[A2],d.out.xL⟩
   obtain⟨g,rfl,an,aa⟩:=d.out.Hc (by omega);obtain⟨BW,l⟩:=fP d.out;obtain⟨p0,T0,cu,ab,ad,G⟩:=l.out.2.2.1 _ l.out.1 0 (by omega);have H0:Hid (Gy wr T0 (Zp p0)/\0<A2 T0/\M[0]? = some T0):=⟨ab,ad,G⟩;have HD:=Ab d.out.dep;have HL:=Ab d.out.len;clear ab ad G d Q0 Q1 Q2 Q3 Q4 HT;have af:(n==0)=false:=by simpa using hn0
   have ap:(0:Int)<(n:Int):=by omega
   go_wp2
   go_loopw [7,8] (λcv iv w2=>∃(q:Nat)(T:CT)(p:To),1<=q/\q<=n/\iv=Zi q/\cv=Zp p/\Hid (Gy w2 T (Zp p)/\0<A2 T/\A2 T<=((M.take q).map A2).sum/\BW w2)) (λ_ iv _=>n-(intOf iv).toNat)
   case atStart=>exact⟨1,T0,p0,by omega,by omega,rfl,rfl,⟨H0.out.1,H0.out.2.1,take_one H0.out.2.2,l.out.1⟩⟩
   case round=>
    obtain⟨q,T,p,a8,a9,rfl,rfl,x⟩:=hrel;clear cu af ap
    by_cases hq:q<n
    ·obtain⟨pu,Tq,cq,ac,ae,I⟩:=l.out.2.2.1 _ x.out.2.2.2 q hq
     have U:Hid (Gy wr Tq (Zp pu)/\0<A2 Tq/\M[q]? = some Tq):=⟨ac,ae,I⟩;clear ac ae I;go_wp2
     go_roundw
     case rel=>exact⟨q+1,.node 0 0 ⟨9,⟨#[]⟩,0,0,⟨#[]⟩⟩ T Tq,some ⟨wr.heap.size,0,none⟩,by omega,by omega,by go_num,rfl,Ab (rA x.out.1 U.out.1 x.out.2.1 U.out.2.1 x.out.2.2.1 U.out.2.2 (l.out.2.1 _ _ x.out.2.2.2))⟩
     case measure=>simp[intOf];omega
    have HF:Hid (A2 T<=14):=Ab (by have h1:=x.out.2.2.1;have h2:=HD.out;rw[Yd (by have:=HL.out;omega)] at h1;omega)
    go_wp2;go_ret;exact⟨_,T,rfl,x.out.1,HF.out,l.out.2.2.2 _ x.out.2.2.2⟩
  clear P
  by_cases hn0:n=0
  ·subst hn0
   go_wp2;go_ret;exact⟨_,.nil,rfl,vI _,by simp[A2],d.out.xL⟩
  obtain⟨g,rfl,an,aa⟩:=d.out.Hc (by omega);obtain⟨BW,l⟩:=fP d.out;obtain⟨p0,T0,cu,ab,ad,G⟩:=l.out.2.2.1 _ l.out.1 0 (by omega);have H0:Hid (Gy wr T0 (Zp p0)/\0<A2 T0/\M[0]? = some T0):=⟨ab,ad,G⟩;have HD:=Ab d.out.dep;have HL:=Ab d.out.len;clear ab ad G d Q0 Q1 Q2 Q3 Q4 HT;have af:(n==0)=false:=by simpa using hn0
  have ap:(0:Int)<(n:Int):=by omega
  go_wp2
  go_loopw [7,8] (λcv iv w2=>∃(q:Nat)(T:CT)(p:To),1<=q/\q<=n/\iv=Zi q/\cv=Zp p/\Hid (Gy w2 T (Zp p)/\0<A2 T/\A2 T<=((M.take q).map A2).sum/\BW w2)) (λ_ iv _=>n-(intOf iv).toNat)
  case atStart=>exact⟨1,T0,p0,by omega,by omega,rfl,rfl,⟨H0.out.1,H0.out.2.1,take_one H0.out.2.2,l.out.1⟩⟩
  case round=>
   obtain⟨q,T,p,a8,a9,rfl,rfl,x⟩:=hrel;clear cu af ap
   by_cases hq:q<n
   ·obtain⟨pu,Tq,cq,ac,ae,I⟩:=l.out.2.2.1 _ x.out.2.2.2 q hq
    have U:Hid (Gy wr Tq (Zp pu)/\0<A2 Tq/\M[q]? = some Tq):=⟨ac,ae,I⟩;clear ac ae I;go_wp2
    go_roundw
    case rel=>exact⟨q+1,.node 0 0 ⟨9,⟨#[]⟩,0,0,⟨#[]⟩⟩ T Tq,some ⟨wr.heap.size,0,none⟩,by omega,by omega,by go_num,rfl,Ab (rA x.out.1 U.out.1 x.out.2.1 U.out.2.1 x.out.2.2.1 U.out.2.2 (l.out.2.1 _ _ x.out.2.2.2))⟩
    case measure=>simp[intOf];omega
   have HF:Hid (A2 T<=14):=Ab (by have h1:=x.out.2.2.1;have h2:=HD.out;rw[Yd (by have:=HL.out;omega)] at h1;omega)
   go_wp2;go_ret;exact⟨_,T,rfl,x.out.1,HF.out,l.out.2.2.2 _ x.out.2.2.2⟩
