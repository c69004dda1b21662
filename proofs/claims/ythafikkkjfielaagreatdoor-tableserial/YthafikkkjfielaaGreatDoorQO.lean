import Derived.Test.YthafikkkjfielaaGreatDoorZA
import Derived.Maps.OwnRows
set_option maxHeartbeats 40000000
set_option maxRecDepth 100000
open List renaming getElem?_eq_getElem->Y',length_map->XF,length_append->XG,mem_of_getElem?->XH,getElem?_append_right->XJ,getElem?_append_left->XK,map_append->XL,set_cons_succ->XM,append_nil->XP,filter_append->XQ,getElem?_map->XR,length_take->XS,mem_of_mem_drop->XT,flatMap_cons->XV,map_map->XW,append_assoc->XX,length_set->XY,nodup_cons->XZ,map_cons->X4,map_nil->X'
open Nat renaming zero_le->XA,le_refl->XC,le_trans->XE,le_of_lt->X6,le_succ->Wb
open Go.RowKit.Below renaming refl->XB,setCell->X2
open Go.World renaming ownsRow_nil->XD,news_of_block->XI,cell?_alloc_at->XO,grownBy_alloc->XU
open Bool renaming and_eq_true->XN
namespace Go.Proofs.YthafikkkjfielaaGreatDoor
open Tryz RowKit Shelf Joins Lib Maps ChangeMaps MapKept ChangeShapes
open Go.Sort (grow)
open WideElems (Fit rd rg pl rd_val elemAt)
namespace F
theorem AK4{W:Tw}{b:Nat}{u f a e c d i g:Tv}{t:TypeId}(h:W.1[b]? = some (Zk #[u,f,a,e,c,d,i,g] t (0,0)))(v:Tv):(W.setCell (Zd b 6) v).heap[b]? = some (Zk #[u,f,a,e,c,d,v,g] t (0,0)):=by have:=As W b 6 _ _ v h;simpa using this
theorem sN{W:Tw}{base:Nat}{t T:TypeId}{z:Nat}{v:Tv}{n:Nat}{xs:List Tv}{b i:Nat}{u:Tv}{cs:Array Tv}(h:W.ownsRow base t z v n xs)(f:W.1[b]? = some (Zk cs T (0,0)))(c:t≠T):(W.setCell (Zd b i) u).ownsRow base t z v n xs :=
 Az h (Aq W b i u) λk g e=>by injection e with e;subst e;obtain⟨d,a⟩:=Go.Proofs.YthafikkkjfielaaGreatDoor.Ho h g;rw[f] at a;injection a with a;injection a with _ a;exact c a.symm
theorem N3(base O:Nat)(s:Ah)(v:Int)(a1:To)(n1 c1:Nat)(x2:Int)(a2:To)(n2 c2:Nat)(tx:Tb)(rd:Bool)(aa:To)(ac:Nat)(L:List Gx)(qj:Int)(w:Tw)(hP:Dv base w O s v a1 n1 c1 x2 a2 n2 c2 tx rd aa ac L qj)(al:base<=w.1.size)(k:Int)(p:Tb)(r:Int)(M:List Int)(C:List Aj)(d:Int)(t:To)(D y:Nat)(f:To)(n l:Nat)(o:pC 0 w ((k,p,r,M,C,d),(t,D,y),(f,n,l)))(hf:pM (k,p,r,M,C,d))(hL:L.length<=1000):
 Zc 41 #[Zp (some (Zd O 0)),Zg #[Zi k,Zt p,Zi r,Zs t D y,Zs f n l,Zi d]] w λe w'=>e=Zr (Zu #[])/\(∃U V,Dv base w' O s v a1 n1 c1 x2 a2 n2 c2 tx rd U V (L++[((k,p,r,M,C,d),(t,D,y),(f,n,l))]) qj)/\B.A0 (PA w base) w w':=by
 obtain⟨t0,t1,t2,t3⟩:=ALM w (Zk #[Zi k,Zt p,Zi r,Zs t D y,Zs f n l,Zi d] 111) (Zk #[Zi k,Zt p,Zi r,Zs t D y,Zs f n l,Zi d] 111);have HB:=Aa t3;have HX:=Aa t2;have c:=Aa hP;have HP:=Aa (hP.up t3);have HQ:=Aa o;have HF:=Aa hf;obtain⟨iA,ad,X⟩:=Option.map_eq_some_iff.1 gO;simp only[Prod.mk.injEq] at X;have N:=Aa (And.intro ad X);have ao:O<w.1.size:=Ac hP.box;obtain⟨x0,x1,y2,x3,x4,x5,x6,x7,xf⟩:=F2 hP.box;have ak:=Aa t0;clear hP o hf t0 t1 t2 t3 ad X;have ah:=Aa HP.o.row;have ag:=Aa HX.o;have I:=Aa (HP.o.up ((XB _ _).drew));have Y:=Aa HB.o.drew
 have af:Hid (∀(g P:Nat)(w5:Tw),w5.ownsRow base 111 6 (Zs (some (Zd g 0)) (L.length+1) P) (L.length+1) (Ci L++[Zi k,Zt p,Zi r,Zs t D y,Zs f n l,Zi d])->((w.alloc (Zk #[Zi k,Zt p,Zi r,Zs t D y,Zs f n l,Zi d] 111)).alloc (Zk #[Zi k,Zt p,Zi r,Zs t D y,Zs f n l,Zi d] 111)).drew.grownBy w5 (Value.slice aa L.length ac).ownBlock->((∃U V,Dv base (w5.setCell (Zd O 6) (Zs (some (Zd g 0)) (L.length+1) P)) O s v a1 n1 c1 x2 a2 n2 c2 tx rd U V (L++[((k,p,r,M,C,d),(t,D,y),(f,n,l))]) qj)/\B.A0 (PA w base) w (w5.setCell (Zd O 6) (Zs (some (Zd g 0)) (L.length+1) P)))):=Aa (λg P w5 R G=>by
  have HY:=Hq I.o.box I.o.row (by decide) G
  have a:∀{b z m:Nat}{T:TypeId}{u:Tv}{xs:List Tv},w.ownsRow b T z u m xs->T≠111->T≠58->(w5.setCell (Zd O 6) (Zs (some (Zd g 0)) (L.length+1) P)).ownsRow b T z u m xs:=λh h1 h2=>by have h5:=j8 (Bc h Y.o) I.o.row h1 G;exact sN h5 HY h2
  refine⟨⟨some (Zd g 0),P,?_,?_,?_,?_,?_,c.o.low⟩,?_⟩
  ·rw[XG]
   exact AK4 HY _
  ·obtain⟨b1,d1,b2,d2,E,e,hV⟩:=c.o.snap
   exact⟨b1,d1,b2,d2,E,e,a hV.qz (by decide) (by decide),hV.qx,a hV.row (by decide) (by decide),λx hx=>a (hV.Cl x hx) (by decide) (by decide)⟩
  ·have h5:=sN (i:=6) (u:=Zs (some (Zd g 0)) (L.length+1) P) R HY (by decide)
   rw[XG];simpa[Ci,nU,sv] using h5
  ·intro q o
   rcases List.mem_append.1 o with o|o
   ·exact⟨a (c.o.own q o).1 (by decide) (by decide),a (c.o.own q o).2 (by decide) (by decide)⟩
   simp at o;subst o;exact⟨a HQ.o.1 (by decide) (by decide),a HQ.o.2 (by decide) (by decide)⟩
  ·intro q o
   rcases List.mem_append.1 o with o|o
   ·exact c.o.Vv q o
   simp at o;subst o;exact HF.o
  refine((B.A0.Ba Y.o).grown G λm hm am=>?_).setCell (λ_=>⟨c.o.low,_,_,c.o.box,.inl rfl⟩) _;obtain⟨ai,hc⟩:=Go.Proofs.YthafikkkjfielaaGreatDoor.Ho c.o.row hm;exact⟨Fu c.o.row hm,ai,_,hc,.inr rfl⟩)
 have aj:Hid (base<=w.1.size+1+1):=Aa (by omega);have an:O≠w.1.size:=by omega
 go_enter func41,ntmps41;go_wp2_with fail
 go_region_law
  (first
    | (refine step_append_lies _ (by rfl) (.tmp 9) (.tmp 11) 51 (by rfl) base 111 iA Mi 6 88 underlying51 N.o.1 N.o.2.1 N.o.2.2.1 N.o.2.2.2 rfl (by decide) (.slice aa L.length ac) L.length _ (by rfl) ah.o (Zd (w.1.size+1) 0) 1 1 [Zi k,.string p,Zi r,.slice t D y,.slice f n l,Zi d] (by rfl) rfl (λj u hj=>XI ag.o j u hj) (by intro u hu;simp only[List.mem_cons,List.not_mem_nil,or_false] at hu;rcases hu with rfl|rfl|rfl|rfl|rfl|rfl <;> rfl) (by omega) (by unfold maxLen;omega) (by omega) (by simp;omega) _ rfl ?_
       intro a' P w5 J W ab ae;have R:=Aa J;have G:=Aa W;have HY:=Aa (Hq I.o.box I.o.row (by decide) W);obtain⟨z0,z1,z2,z3,z4,z5,z6,z7,zf⟩:=F2 HY.o;clear J W ab ae)
    | fail)
 all_goals exact⟨rfl,Zu #[],by simp[results,results41,go_sem],rfl,af.o _ _ _ R.o G.o⟩
theorem kN(bb n:Nat)(D:Td)(mv:Tv)(H:List (Dn×Ah))(a:Tb)(w:Tw)(h:Ground w bb n D mv)(v:U6 D H)(x:La H)(O5:H.length<=40)(o:Bx a=true)(I:a.size<=12):
 Zc 38 #[Zp (some (Zd bb 0)),Zt a] w λe G=>∃y g n1 c1 p i n2 j,e=Zr (Zu #[Zp (some (Zd y 0)),Zn])/\Dv w.1.size G y (Ae H H.length) (H.length:Int) g n1 c1 p i n2 j a false none 0 [] 0/\Zb w G:=by
 have r:=Aa (Mn a w (by unfold maxLen;omega));rw[o] at r;have d:=Aa (λW(J:Zb w W)=>Ua bb n D mv H (-1) H.length W (h.up J) v x O5 (XC _) (.inl ⟨by decide,rfl⟩));have u:¬(12:Int)<(a.size:Int):=by omega
 clear h v x o;generalize Ae H H.length=O at *;go_enter func38,ntmps38;go_wp2_with fail;apply r.o.mono;rintro e P⟨rfl,l⟩;have b:=Aa l;clear l r;go_wp2_with fail;refine(d.o _ b.o).mono ?_;rintro e N⟨g,n1,c1,p,i,n2,j,rfl,k,m⟩;have f:=Aa k;have c:=Aa (Ap b.o m);clear k m d;unfold K4 at f ⊢;obtain⟨M,t1,t2,z⟩:=ALM N (Zk #[Zi (H.length:Int),Zs g n1 c1,Zi p,Zs i n2 j] 56) (Zk #[Zi (H.length:Int),Zs g n1 c1,Zi p,Zs i n2 j,Zt a,Zo false,Zs none 0 0,Zi 0] 58);have s:=Aa (And.intro t2 z);have L:=c.o.size;clear M t1 t2 z;go_wp2_with fail;go_ret2;refine⟨_,g,n1,c1,p,i,n2,j,rfl,⟨s.o.1,f.o.up s.o.2,XD _ _ _ _,(λq t=>by cases t),(λq t=>by cases t),by omega⟩,Ap c.o s.o.2⟩
theorem fH(bb n:Nat)(D:Td)(mv:Tv)(H:List (Dn×Ah))(i:Tb)(w:Tw)(h:Ground w bb n D mv)(t:U6 D H)(u:La H)(O5:H.length<=40)(g:Bx i=true)(d:i.size<=12):
 Zc 42 #[Zp (some (Zd bb 0)),Zt i] w λe v=>Zb w v/\(((Ae H H.length).qz=[]/\e=Zr (Zu #[Zp none,Zf 91 (Zi 6)]))\/((Ae H H.length).qz≠[]/\∃k m n1 c1 s o n2 p,e=Zr (Zu #[Zp (some (Zd k 0)),Zn])/\Dv w.1.size v k (Ae H H.length) (H.length:Int) m n1 c1 s o n2 p i false none 0 [] 0)):=by
 have c:=Aa (kN bb n D mv H i w h t u O5 g d);clear h t u g d;generalize Ae H H.length=a at *;go_enter func42,ntmps42;go_wp2_with fail;apply c.o.mono;rintro e y⟨k,m,n1,c1,s,o,n2,p,rfl,j,f⟩
 have r:n1=a.qz.length:=by obtain⟨_,_,_,_,_,e,_⟩:=j.snap;unfold K4 at e;simp only[Value.agg.injEq,Array.mk.injEq,List.cons.injEq,Value.int.injEq,Value.slice.injEq] at e;exact e.2.1.2.1
 subst r;have x:=Aa j;have b:=Aa f;obtain⟨z,G,I,J,L,M,N,O,P⟩:=F2 j.box;clear j f c
 by_cases hc:a.qz.length=0
 ·have l:=Aa (Yag.1 hc)
  have q:((a.qz.length:Nat):Int)=0:=by omega
  go_wp2_with fail;go_ret2;exact⟨b.o,.inl ⟨l.o,rfl⟩⟩
 have l:Hid (a.qz≠[]):=Aa (λe=>hc (by rw[e];rfl));have q:¬((a.qz.length:Nat):Int)=0:=by omega
 go_wp2_with fail;go_ret2;exact⟨b.o,.inr ⟨l.o,k,m,_,c1,s,o,n2,p,rfl,x.o⟩⟩
theorem AGy(w:Tw):(binOp .neq 45 Zn (Zf 91 (Zi 14))).run prog w=.ok (Zo true) w:=by kernel_rfl
theorem AEO(w:Tw):(binOp .neq 45 (Zf 91 (Zi 14)) (Zf 91 (Zi 14))).run prog w=.ok (Zo false) w:=by kernel_rfl
theorem Vo{w0 w:Tw}{j bb n:Nat}{D:Td}{fs:List Int}{mv v:Tv}(h:Ey w0 w j bb n D fs mv v)(I:n<100000)(d:Tb)(t:d.size<=1000)(s:Tb)(y:s.size<=maxLen)(r:Int×Td×List Int)(x:B.bM D fs d s=r):
 Zc 57 #[Zp (some (Zd bb 0)),Zt d,Zt s] w λe q=>e=Zr (B.L8 r.1)/\∃a f,Ey w0 q j bb (n+1) r.2.1 r.2.2 a f/\B.A0 (B.Own bb mv) w q/\(∀k,a=.map (some k)->mv=.map (some k)\/w.1.size<=k)/\B.St mv a:=by
 refine(B.ABa bb n D fs mv v d s w h.bu (by unfold maxLen;omega) (by unfold maxLen;omega) y).mono ?_;rw[x];rintro e q⟨rfl,a,f,m,u,g,o,p⟩;refine⟨rfl,a,f,⟨m,u.below h.low h.low.size ?_,h.hb,λk t=>?_,h.er,h.nc,h.tb,λb off l c e=>?_⟩,u,g,p⟩
 ·rintro i (rfl|e)
  ·exact h.hb
  exact h.hm i e
 ·rcases g k t with e|e
  ·exact h.hm k e
  exact XE h.low.size e
 obtain⟨G,z,c0,e0⟩:=o b off l c e;exact h.hf b G z c0 e0
def ABM(w0 w:World)(g bb n:Nat)(D:DataW Unit)(fs:List Int)(mv:Value)(d s:ByteArray)(e:Ending)(f:World):Prop :=
 ∃a c b,Ey w0 f g bb (n+1) b fs.tail a c/\B.A0 (B.Own bb mv) w f/\((∀k,a=.map (some k)->mv=.map (some k)\/w.1.size<=k)/\B.St mv a) /\
  ((fs.headD 0≠1/\e=.returned .nilIface/\b=D.put (B.lit d) (B.Gw s))\/(fs.headD 0=1/\e=.returned (.iface 91 (.int .i64 14))/\b=D))
theorem oD(w0:Tw)(M bb n:Nat)(D:Td)(fs:List Int)(mv T:Tv)(a s:Tb)(w:Tw)(h:Ey w0 w M bb n D fs mv T)(J:n<100000)(N:Maps.IsMap D)(u:B.Wz a=true)(f:Maps.has D (B.lit a)=false)(L:s.size<=maxLen):
 Zc 80 #[Zp (some (Zd bb 0)),Zt a,Zt s] w (ABM w0 w M bb n D fs mv a s):=by
 have O:a.size<=60:=by simp[B.Wz] at u;exact u.2
 have b:B.bM D fs a s=if fs.headD 0=1 then (14,D,fs.tail) else if fs.headD 0=2 then (14,D.put (B.lit a) (B.Gw s),fs.tail) else (0,D.put (B.lit a) (B.Gw s),fs.tail):=by unfold B.bM;rw[u,f];rfl
 have V:=AGy;have W:=AEO
 by_cases h1:fs.headD 0=1
 ·rw[Yae h1] at b
  have c:=Aa (Vo h J a (by omega) s L _ b);rw[show B.L8 ((14:Int),D,fs.tail).1=Value.iface 91 (Zi 14) from rfl] at c;have x:=Aa h1;have I:=Aa f;clear h b f h1 u;go_enter func80,ntmps80;go_wp2_with fail;apply c.o.mono;rintro e z⟨rfl,j,o,d,i,g⟩;have m:=Aa (B.aP bb (n+1) D j a z d.ground.c0 d.ground.th (by unfold maxLen;omega));unfold B.Um at m;rw[Yad (by rw[I.o];decide)] at m;rw[show B.L8 7=Value.iface 91 (Zi 7) from rfl] at m;have k:=Aa (And.intro d (And.intro i g));clear d i g c;go_wp2_with fail;apply m.o.mono;rintro e U⟨t,rfl,_,_,p⟩;have l:=Aa p;clear p m;go_wp2_with fail;go_ret;exact⟨j,o,D,k.o.1.up l.o,k.o.2.1.trans (B.A0.Ba (S:=λ_=>False) l.o) (λ_ _ h=>h.elim),k.o.2.2,.inr ⟨x.o,rfl,rfl⟩⟩
 rw[Yad h1] at b
 by_cases h2:fs.headD 0=2
 ·rw[Yae h2] at b
  have c:=Aa (Vo h J a (by omega) s L _ b);rw[show B.L8 ((14:Int),D.put (B.lit a) (B.Gw s),fs.tail).1=Value.iface 91 (.int .i64 14) from rfl] at c;have x:=Aa h1;have q:Hid (Maps.has (D.put (B.lit a) (B.Gw s)) (B.lit a)=true/\(D.put (B.lit a) (B.Gw s)).atKey (B.lit a) (B.Gw ByteArray.empty)=B.Gw s):=Aa ⟨Maps.has_put_same N L4 _,Maps.atKey_put_same N L4 _ _⟩;clear h b f h1 h2 u;have v:Hid (∃y,D.put (B.lit a) (B.Gw s)=y):=Aa ⟨_,rfl⟩;obtain⟨y,r⟩:=v.o;rw[r] at c q;have G:=Aa r;clear r v;go_enter func80,ntmps80;go_wp2_with fail;apply c.o.mono;rintro e z⟨rfl,j,o,d,i,g⟩;have m:=Aa (B.aP bb (n+1) y j a z d.ground.c0 d.ground.th (by unfold maxLen;omega));unfold B.Um at m;rw[Yae q.o.1] at m;rw[show B.L8 0=Value.nilIface from rfl] at m;have k:=Aa (And.intro d (And.intro i g));clear d i g c;go_wp2_with fail;apply m.o.mono;rintro e U⟨t,rfl,P,_,p⟩;have R:t=s:=B.aS ((P q.o.1).symm.trans q.o.2);subst R;have l:=Aa p;clear p m P;go_wp2_with fail;go_ret;exact⟨j,o,y,k.o.1.up l.o,k.o.2.1.trans (B.A0.Ba (S:=λ_=>False) l.o) (λ_ _ h=>h.elim),k.o.2.2,.inl ⟨x.o,rfl,G.o.symm⟩⟩
 rw[Yad h2] at b;have c:=Aa (Vo h J a (by omega) s L _ b);rw[show B.L8 ((0:Int),D.put (B.lit a) (B.Gw s),fs.tail).1=Value.nilIface from rfl] at c;have x:=Aa h1;clear h b f h1 h2 u;go_enter func80,ntmps80;go_wp2_with fail;apply c.o.mono;rintro e z⟨rfl,j,o,d,i,g⟩;have k:=Aa (And.intro d (And.intro i g));clear d i g c;go_wp2_with fail;go_ret;exact⟨j,o,_,k.o.1,k.o.2.1,k.o.2.2,.inl ⟨x.o,rfl,rfl⟩⟩
end F
variable{W:Tw}{a:Act}
def S7(W:World)(b:Nat)(a c d e f g h:Value):Prop:=W.cell? ⟨b,0,none⟩=some a/\W.cell? ⟨b,1,none⟩=some c/\W.cell? ⟨b,2,none⟩=some d/\W.cell? ⟨b,3,none⟩=some e/\W.cell? ⟨b,4,none⟩=some f/\W.cell? ⟨b,5,none⟩=some g/\W.cell? ⟨b,6,none⟩=some h
theorem s7{b:Nat}{v u f a e c d:Tv}(h:W.1[b]? = some (Zk #[v,u,f,a,e,c,d] 69)):S7 W b v u f a e c d:=by refine⟨?_,?_,?_,?_,?_,?_,?_⟩ <;> simp[World.cell?,h]
theorem heap_alloc_new(w:Tw)(o:Obj):(w.alloc o).heap[w.1.size]? = some o:=by show (w.1.push o)[w.1.size]? = some o;simp
theorem P2{q:Array Oper}{o:Oper}{K:Act->Tw->Prop}{Q:Exit->Act->Tw->Prop}{E:Prop}(i:o.guard=none)(s x:Operand)(y:o.op=.call { callee:=.builtin .append,args:=#[s,x],argTypes:=#[32,32] })(base n:Nat)(v:Tv)(xs:List Tv)(e:W.ownsRow base 69 7 v n xs)(b:Nat)(cs:List Tv)(t:W.1[b]? = some (Zk cs.toArray 69))(z:a.eval s=v)(D:a.eval x=Zs (some (Zd b 0)) 1 1)(I:cs.length=7)(r:∀u∈cs,u.oneCell'=true)(J:n<=1000)(d:base<=W.1.size)(h:∀g c f,Hid (f.ownsRow base 69 7 (Zs (some (Zd g 0)) (n+1) c) (n+1) (xs++cs)/\W.grownBy f v.ownBlock)->K (a.put o.dst (Zs (some (Zd g 0)) (n+1) c)) f):
 if Region.wanted o (yielded q a.tmps)=true then Oper.wp prog o a W K Q else E:=by
 obtain⟨G,k,l,m,p⟩:=info_parts Kh;exact step_append_lies W i s x 32 y base 69 G L6 7 72 underlying32 k l m p rfl (by omega) v n xs z e (Zd b 0) 1 1 cs D (by omega) (λj u w=>XI t j u (by simpa using w)) r (by omega) (by unfold maxLen;omega) (by omega) d _ rfl (λg c f h2 h3 _ _=>h g c f ⟨h2,h3⟩)
theorem AFQ(g o T:Nat)(l:List Aj)(next i:Int)(nm:Tb)(k:Int)(mu:Bool)(r u:Int)(v:Tb)(w:Tw)(h:I1 w g o l)(h8:l.length<8)(hf:Ce l nm = -1)(J:Ko (next,nm,k,mu,r,u,v)=true)(aa:(mu && r==0)=false)(ad:1<=next)(ae:next<=1000000000000000)(hw:Lw w):
 Zc 74 #[Zs (some (Zd g o)) l.length T,Zi next,Zg #[Zi i,Zt nm,Zi k,Zo mu,Zi r,Zi u,Zt v]] w λe c=>∃s t,e=Zr (Zu #[Zs (some (Zd s 0)) (l.length+1) t,Zi (next+1),Zn])/\c.ownsRow w.1.size 69 7 (Zs (some (Zd s 0)) (l.length+1) t) (l.length+1) (Av (l++[(next,nm,k,mu,r,u,v)]))/\Zb w c:=by
 have hm:=(Ou _).1 J;have ac:¬(8:Int)<=(l.length:Int):=by omega
 have HW:Hid (IntKind.i64.wrap (next+1)=next+1):=by rw[show IntKind.i64.wrap (next+1)=next+1 by rw[IntKind.wrap_i64];omega];exact rfl
 have HF:Hid (∀W,Zb w W->Zc 84 #[Zs (some (Zd g o)) l.length T,Zt nm] W λe c=>e=Zr (Zi (-1))/\Zb W c):=λW n=>by have:=E8 g o T l nm W (h.below n) (by omega);rwa[hf] at this
 have HM:Hid (∀W,Zb w W->Zc 72 #[Zg #[Zi next,Zt nm,Zi k,Zo mu,Zi r,Zi u,Zt v]] W λe c=>e=Zr (Zo true)/\Zb W c):=λW n=>by have:=I8 next nm k mu r u v W (jU hm.2.2.1) (kU hm.2.2.2) (hw.below n);rwa[J] at this
 have HC:=Aa (λ(W:Tw)(n:Zb w W)=>Rb g o T l W (h.below n) (by omega))
 have B1:Hid (∀X:Obj,Zb w (w.alloc X)):=λX=>Zal
 clear h hf J hm hw;cases mu with
 | false=>
   go_enter func74,ntmps74
   go_wp2_with (first
    | (go_at_call 84;refine(HF.o _ (B1.o _)).mono ?_;rintro e w1⟨rfl,b⟩;have z:∀o,w1.cell? (Zd w.1.size o)=_:=λo=>b.cell (p:=Zd w.1.size o) (by simp))
    | (go_at_call 72;refine(HM.o _ (Below.Ap (B1.o _) b)).mono ?_;rintro e m⟨rfl,f⟩;have D:∀o,m.cell? (Zd w.1.size o)=_:=λo=>f.cell (p:=Zd w.1.size o) (Ya (by simp) b.size)))
   have Y:Hid (m.1[w.1.size]? = some (Zk #[Zi next,Zt nm,Zi k,Zo false,Zi r,Zi u,Zt v] 69)):=by have e1:=b.block w.1.size (by simp);have e2:=f.block w.1.size (Ya (by simp) b.size);exact e2.trans (e1.trans (Yac _ _))
   have x:=Aa (Below.Ap (Below.Ap (B1.o _) b) f);have I:w.1.size<m.1.size:=Ya (Ya (by simp) b.size) f.size;clear z D b f;have HX:Hid (∀W,Zb m W->Zc 71 #[Zs (some (Zd g o)) l.length T] W λe c=>∃s t,e=Zr (Zs (some (Zd s 0)) l.length t)/\c.ownsRow w.1.size 69 7 (Zs (some (Zd s 0)) l.length t) l.length (Av l)/\m.1.size<=s/\Zb W c/\Zb m c):=λW n=>(HC.o W (Below.Ap x.o n)).mono λe c⟨s,t,he,ho,hb'⟩=>⟨s,t,he,ownsRow_le ho (XE (X6 I) n.size),XE n.size (ho.lt _ rfl).1,hb',Below.Ap n hb'⟩
   have P:=Aa (λ(W:Tw)(n:Zb m W)=>s7 ((n.block _ I).trans Y.o))
   obtain⟨i0,G,M,N,O⟩:=info_parts Kh;have HI:=Zy G M N O;clear G M N O;obtain⟨q0,q1,q2,q3,q4,q5,q6⟩:=P.o m (XB _ _)
   go_region_held3 (λc=>c.cell? (Zd w.1.size 0)=some (Zi next)/\c.cell? (Zd w.1.size 1)=some (Zt nm)/\c.cell? (Zd w.1.size 2)=some (Zi k)/\c.cell? (Zd w.1.size 3)=some (Zo false)/\c.cell? (Zd w.1.size 4)=some (Zi r)/\c.cell? (Zd w.1.size 5)=some (Zi u)/\c.cell? (Zd w.1.size 6)=some (Zt v))
    (first
      | (go_keep;done)
      | exact P.o _ a
      | exact P.o _ ((a.alloc a.size _).grown d.o.2 (by have:=a.size;simp;omega) (λj y=>by cases y;exact q))
      | exact P.o _ (a.grown d.o.2 a.size (λj y=>by cases y;exact q))
      | fail)
    (first
      | (go_at_call 71;refine(HX.o _ ?_).mono ?_;(first|exact(XB _ _).drew|exact(XB _ _).drew.alloc (by simp) _|exact(Zal).drew);rintro e w3⟨g3,c3,rfl,L,q,V,a⟩)
      | (refine P2 (by rfl) (.tmp 37) (.tmp 39) (by rfl) w.1.size l.length (Zs (some (Zd g3 0)) l.length c3) (Av l) (L.alloc _) w3.1.size [Zi next,Zt nm,Zi k,Zo false,Zi r,Zi u,Zt v] (Yac _ _) (by rfl) (by rfl) rfl (by simp[Value.oneCell']) (by omega) (by have:=a.size;simp;omega) ?_;intro U R w4 d)
      | (refine P2 (by rfl) (.tmp 37) (.tmp 39) (by rfl) w.1.size l.length (Zs (some (Zd g3 0)) l.length c3) (Av l) L m.1.size [Zi next,Zt nm,Zi k,Zo false,Zi r,Zi u,Zt v] ((V.block _ (by simp)).trans (Yac _ _)) (by rfl) (by rfl) rfl (by simp[Value.oneCell']) (by omega) (by have:=a.size;simp;omega) ?_;intro U R w4 d)
      | fail)
   ·go_wp2
    go_ret3;refine⟨U,R,by simp[HW.o],?_,Below.Ap x.o ((a.alloc a.size _).grown d.o.2 (by have:=a.size;simp;omega) (λj y=>by cases y;exact q))⟩;rw[Hs];exact d.o.1
   go_wp2;go_ret3;refine⟨U,R,by simp[HW.o],?_,Below.Ap x.o (a.grown d.o.2 a.size (λj y=>by cases y;exact q))⟩;rw[Hs];exact d.o.1
 | true=>
   have ab:(r==0)=false:=by simpa using aa
   go_enter func74,ntmps74
   go_wp2_with (first
    | (go_at_call 84;refine(HF.o _ (B1.o _)).mono ?_;rintro e w1⟨rfl,b⟩;have z:∀o,w1.cell? (Zd w.1.size o)=_:=λo=>b.cell (p:=Zd w.1.size o) (by simp))
    | (go_at_call 72;refine(HM.o _ (Below.Ap (B1.o _) b)).mono ?_;rintro e m⟨rfl,f⟩;have D:∀o,m.cell? (Zd w.1.size o)=_:=λo=>f.cell (p:=Zd w.1.size o) (Ya (by simp) b.size)))
   have Y:Hid (m.1[w.1.size]? = some (Zk #[Zi next,Zt nm,Zi k,Zo true,Zi r,Zi u,Zt v] 69)):=by have e1:=b.block w.1.size (by simp);have e2:=f.block w.1.size (Ya (by simp) b.size);exact e2.trans (e1.trans (Yac _ _))
   have x:=Aa (Below.Ap (Below.Ap (B1.o _) b) f);have I:w.1.size<m.1.size:=Ya (Ya (by simp) b.size) f.size;clear z D b f;have HX:Hid (∀W,Zb m W->Zc 71 #[Zs (some (Zd g o)) l.length T] W λe c=>∃s t,e=Zr (Zs (some (Zd s 0)) l.length t)/\c.ownsRow w.1.size 69 7 (Zs (some (Zd s 0)) l.length t) l.length (Av l)/\m.1.size<=s/\Zb W c/\Zb m c):=λW n=>(HC.o W (Below.Ap x.o n)).mono λe c⟨s,t,he,ho,hb'⟩=>⟨s,t,he,ownsRow_le ho (XE (X6 I) n.size),XE n.size (ho.lt _ rfl).1,hb',Below.Ap n hb'⟩
   have P:=Aa (λ(W:Tw)(n:Zb m W)=>s7 ((n.block _ I).trans Y.o))
   obtain⟨i0,G,M,N,O⟩:=info_parts Kh;have HI:=Zy G M N O;clear G M N O;obtain⟨q0,q1,q2,q3,q4,q5,q6⟩:=P.o m (XB _ _)
   go_region_held3 (λc=>c.cell? (Zd w.1.size 0)=some (Zi next)/\c.cell? (Zd w.1.size 1)=some (Zt nm)/\c.cell? (Zd w.1.size 2)=some (Zi k)/\c.cell? (Zd w.1.size 3)=some (Zo true)/\c.cell? (Zd w.1.size 4)=some (Zi r)/\c.cell? (Zd w.1.size 5)=some (Zi u)/\c.cell? (Zd w.1.size 6)=some (Zt v))
    (first
      | (go_keep;done)
      | exact P.o _ a
      | exact P.o _ ((a.alloc a.size _).grown d.o.2 (by have:=a.size;simp;omega) (λj y=>by cases y;exact q))
      | exact P.o _ (a.grown d.o.2 a.size (λj y=>by cases y;exact q))
      | fail)
    (first
      | (go_at_call 71;refine(HX.o _ ?_).mono ?_;(first|exact(XB _ _).drew|exact(XB _ _).drew.alloc (by simp) _|exact(Zal).drew);rintro e w3⟨g3,c3,rfl,L,q,V,a⟩)
      | (refine P2 (by rfl) (.tmp 37) (.tmp 39) (by rfl) w.1.size l.length (Zs (some (Zd g3 0)) l.length c3) (Av l) (L.alloc _) w3.1.size [Zi next,Zt nm,Zi k,Zo true,Zi r,Zi u,Zt v] (Yac _ _) (by rfl) (by rfl) rfl (by simp[Value.oneCell']) (by omega) (by have:=a.size;simp;omega) ?_;intro U R w4 d)
      | (refine P2 (by rfl) (.tmp 37) (.tmp 39) (by rfl) w.1.size l.length (Zs (some (Zd g3 0)) l.length c3) (Av l) L m.1.size [Zi next,Zt nm,Zi k,Zo true,Zi r,Zi u,Zt v] ((V.block _ (by simp)).trans (Yac _ _)) (by rfl) (by rfl) rfl (by simp[Value.oneCell']) (by omega) (by have:=a.size;simp;omega) ?_;intro U R w4 d)
      | fail)
   ·go_wp2
    go_ret3;refine⟨U,R,by simp[HW.o],?_,Below.Ap x.o ((a.alloc a.size _).grown d.o.2 (by have:=a.size;simp;omega) (λj y=>by cases y;exact q))⟩;rw[Hs];exact d.o.1
   go_wp2;go_ret3;refine⟨U,R,by simp[HW.o],?_,Below.Ap x.o (a.grown d.o.2 a.size (λj y=>by cases y;exact q))⟩;rw[Hs];exact d.o.1
def AAg(l:List Aj)(c:Aj):Prop:=Ce l c.2.1 = -1/\l.length<8/\Ko c=true/\(c.2.2.2.1 && c.2.2.2.2.1==0)=false
theorem AHP(g o L:Nat)(l:List Aj)(next i:Int)(nm:Tb)(k:Int)(mu:Bool)(q u:Int)(r:Tb)(w:Tw)(h:I1 w g o l)(T:l.length<=8)(D:nm.size<=maxLen)(z:r.size<=maxLen)(m:¬AAg l (next,nm,k,mu,q,u,r))(O:Lw w):
 Zc 74 #[Zs (some (Zd g o)) l.length L,Zi next,Zg #[Zi i,Zt nm,Zi k,Zo mu,Zi q,Zi u,Zt r]] w λe G=>∃x,e=Zr (Zu #[Zs none 0 0,Zi 0,Zf 91 (Zi x)])/\Zb w G:=by
 have s:=Aa (λ(W:Tw)(hb:Zb w W)=>E8 g o L l nm W (h.below hb) T)
 have t:=Aa (λ(W:Tw)(hb:Zb w W)=>I8 next nm k mu q u r W D z (O.below hb))
 have n:Hid (∀X:Obj,Zb w (w.alloc X)):=λX=>Zal
 clear h O D z
 by_cases J:0<=Ce l nm
 ·generalize Ce l nm=f at s J
  clear t m;go_enter func74,ntmps74
  go_wp2_with (first
   | (go_at_call 84;refine(s.o _ (n.o _)).mono ?_;rintro e I⟨rfl,a⟩))
  go_ret3;exact⟨_,rfl,Below.Ap (n.o _) a⟩
 have c:Ce l nm = -1:=by
  rcases Gz l nm with⟨e,_⟩|⟨j,_,e,_⟩
  ·exact e
  omega
 rw[c] at s
 by_cases h7:l.length<8
 ·have M:¬(8:Int)<=(l.length:Int):=by omega
  cases hm:Ko (next,nm,k,mu,q,u,r) with
  | false=>
    rw[hm] at t;clear m J c hm;go_enter func74,ntmps74
    go_wp2_with (first
     | (go_at_call 84;refine(s.o _ (n.o _)).mono ?_;rintro e I⟨rfl,a⟩;have v:∀o,I.cell? (Zd w.1.size o)=_:=λo=>a.cell (p:=Zd w.1.size o) (by simp))
     | (go_at_call 72;refine(t.o _ (Below.Ap (n.o _) a)).mono ?_;rintro e N⟨rfl,b⟩;have y:∀o,N.cell? (Zd w.1.size o)=_:=λo=>b.cell (p:=Zd w.1.size o) (Ya (by simp) a.size)))
    go_ret3;exact⟨_,rfl,Below.Ap (Below.Ap (n.o _) a) b⟩
  | true=>
    rw[hm] at t
    have d:(mu && q==0)=true:=by
     cases hq:(mu && q==0) with
     | true=>rfl
     | false=>exact(m ⟨c,h7,hm,hq⟩).elim
    have P:mu=true:=by simp at d;exact d.1
    have R:q=0:=by simp at d;exact d.2
    subst P R;clear m J c hm d;go_enter func74,ntmps74
    go_wp2_with (first
     | (go_at_call 84;refine(s.o _ (n.o _)).mono ?_;rintro e I⟨rfl,a⟩;have v:∀o,I.cell? (Zd w.1.size o)=_:=λo=>a.cell (p:=Zd w.1.size o) (by simp))
     | (go_at_call 72;refine(t.o _ (Below.Ap (n.o _) a)).mono ?_;rintro e N⟨rfl,b⟩;have y:∀o,N.cell? (Zd w.1.size o)=_:=λo=>b.cell (p:=Zd w.1.size o) (Ya (by simp) a.size)))
    go_ret3;exact⟨_,rfl,Below.Ap (Below.Ap (n.o _) a) b⟩
 have M:(8:Int)<=(l.length:Int):=by omega
 clear t m J c;go_enter func74,ntmps74
 go_wp2_with (first
  | (go_at_call 84;refine(s.o _ (n.o _)).mono ?_;rintro e I⟨rfl,a⟩))
 go_ret3;exact⟨_,rfl,Below.Ap (n.o _) a⟩
theorem tR(w:Tw)(o:Obj):w.1.size<(w.alloc o).heap.size:=by simp
theorem fX(n:Nat):(Builtin.zeroCells L6.cells n).size=n*7:=by simp[Builtin.zeroCells,show L6.cells.size=7 from rfl]
theorem AFw(n:Nat)(w:Tw)(m:1<=n)(o:n<=8):
 Zc 184 #[Zs none 0 0,Zi n] w λe h=>∃j i,e=Zr (Zs (some (Zd j 0)) 0 i)/\h.ownsRow w.1.size 69 7 (Zs (some (Zd j 0)) 0 i) 0 (Av [])/\Zb w h:=by
 obtain⟨l,d,f,k,g⟩:=info_parts Kh;refine(Any8.slices_Grow_grow layGro l L6 d f (by omega) none 0 0 n [] w (XC _) (by omega) (by rw[g];omega) (by omega) (by simp) (λ_=>rfl) (λa ha=>by cases ha)).mono ?_;rintro e h⟨rfl,rfl⟩;have c:0+n<=grownCap w (0+n) 0 69:=grownCap_ge w _ _ _;have b:grownCap w (0+n) 0 69<=maxLen:=grownCap_le_maxLen w (0+n) 0 69 (by unfold maxLen;omega);refine⟨_,_,rfl,?_,((XB _ _).drew).alloc (XC _) _⟩
 change (w.drew.alloc (Zk (#[]++Builtin.zeroCells L6.cells (0+n-0)++Builtin.zeroCells L6.cells (grownCap w (0+n) 0 69-(0+n))) 69)).ownsRow w.1.size 69 7 (Zs (some (Zd w.1.size 0)) 0 (grownCap w (0+n) 0 69)) 0 []
 generalize grownCap w (0+n) 0 69=G at c b;exact YM (w:=w.drew) _ G (XC _) b (by simp only[Array.size_append,fX,Array.size_empty];omega)
theorem Oc{f:Array Oper}{rest:List Oper}{o:Oper}{Q:Exit->Act->Tw->Prop}(q:o.guard=none)(s x:Operand)(N:o.op=.call { callee:=.builtin .append,args:=#[s,x],argTypes:=#[32,32] })(base g c:Nat)(l:List Aj)(O:a.eval s=Zs (some (Zd g 0)) l.length c)(e:W.ownsRow base 69 7 (Zs (some (Zd g 0)) l.length c) l.length (Av l))(p y z:Nat)(m:List Aj)(P:a.eval x=Zs (some (Zd p y)) m.length z)(M:I1 W p y m)(T:l.length+m.length<=1000)(b:base<=W.1.size)(h:∀k d i,Hid (i.ownsRow base 69 7 (Zs (some (Zd k 0)) (l.length+m.length) d) (l.length+m.length) (Av (l++m))/\W.grownBy i (some g))->wpList prog f Q rest (a.put o.dst (Zs (some (Zd k 0)) (l.length+m.length) d)) i):wpList prog f Q (o :: rest) a W:=by
 obtain⟨R,r,t,v,w⟩:=info_parts Kh;refine wpList_append_own W q s x 32 N base 69 R L6 7 72 underlying32 r t v w rfl (by omega) _ _ _ O e (Zd p y) m.length z (Av m) P (Hy m) (λj u L=>by rw[Addr.add_lit];exact M.flat j u L) (Ni m) (by unfold maxLen;omega) (by omega) b ?_;intro v' i D I J
 rcases ownsRow_forms D with⟨n,_⟩|⟨k,G,n⟩
 ·exact absurd (J.1 n).1 (by simp)
 subst n;exact h k G i ⟨by rw[Hs];exact D,I⟩
theorem vO(p g o c m r t:Nat)(a b:List Aj)(w:Tw)(v:w.cell? (Zd p 0)=some (Zs (some (Zd g o)) a.length c))(x:w.cell? (Zd p 1)=some (Zs (some (Zd m r)) b.length t))(L:p<w.1.size)(I:I1 w g o a)(J:I1 w m r b)(X:1<=a.length+b.length)(Y:a.length+b.length<=8):
 Zc 133 #[Zs (some (Zd p 0)) 2 2] w λe s=>∃l k,e=Zr (Zs (some (Zd l 0)) (a.length+b.length) k)/\s.ownsRow w.1.size 69 7 (Zs (some (Zd l 0)) (a.length+b.length) k) (a.length+b.length) (Av (a++b))/\Zb w s:=by
 have P:Hid (Zc 184 #[Zs none 0 0,Zi ((a.length:Int)+(b.length:Int))] w λe s=>∃l k,e=Zr (Zs (some (Zd l 0)) 0 k)/\s.ownsRow w.1.size 69 7 (Zs (some (Zd l 0)) 0 k) 0 (Av [])/\Zb w s):=by have:=AFw (a.length+b.length) w X Y;rwa[show ((a.length+b.length:Nat):Int)=(a.length:Int)+(b.length:Int) by omega] at this
 have N:=Aa I;have O:=Aa J;have y:Hid (∀W,Zb w W->W.cell? (Zd p 0)=some (Zs (some (Zd g o)) a.length c)/\W.cell? (Zd p 1)=some (Zs (some (Zd m r)) b.length t)):=λW G=>⟨(G.cell (p:=Zd p 0) L).trans v,(G.cell (p:=Zd p 1) L).trans x⟩
 clear I J;have n1:¬(a.length:Int)<0:=by omega
 have n2:¬(a.length:Int)+(b.length:Int)<0:=by omega
 have n3:IntKind.i64.wrap ((a.length:Int)+(b.length:Int))=(a.length:Int)+(b.length:Int):=by rw[IntKind.wrap_i64];omega
 have n4:IntKind.i64.wrap (a.length:Int)=(a.length:Int):=by rw[IntKind.wrap_i64];omega
 go_enter func133,ntmps133;go_wp2;refine wp_loop_rounds 3 ?_;rw[rounds_succ];go_wp2;rw[rounds_succ];go_wp2;rw[rounds_succ]
 go_wp2_with (first
  | (go_at_call 184;apply P.o.mono;rintro e w1⟨U,R,rfl,n,d⟩;obtain⟨r0,r1⟩:=y.o _ d))
 refine wp_loop_rounds 3 ?_;rw[rounds_succ];go_wp2_with (at_builtin;refine Oc rfl _ _ rfl w.1.size U R [] rfl n g o c a rfl (N.o.below d) (by simp;omega) d.size ?_;intro D z M h;have f:Zb w M:=d.grown h.o.2 d.size (λj hj=>by cases hj;exact(n.lt _ rfl).1);obtain⟨s0,s1⟩:=y.o _ f;have i:Hid (M.ownsRow w.1.size 69 7 (Zs (some (Zd D 0)) a.length z) a.length (Av a)):=Aa (by have:=h.o.1;simpa using this);clear h);rw[rounds_succ];go_wp2_with (at_builtin;refine Oc rfl _ _ rfl w.1.size D z a rfl i.o m r t b rfl (O.o.below f) (by omega) f.size ?_;intro V T w5 q;have u:Zb w w5:=f.grown q.o.2 f.size (λj hj=>by cases hj;exact(i.o.lt _ rfl).1));rw[rounds_succ];go_wp2;go_ret;exact⟨V,T,rfl,q.o.1,u⟩
theorem AFn(g o b:Nat)(l:List Aj)(nm:Tb)(k:Nat)(w:Tw)(h:I1 w g o l)(T:Ce l nm=k)(hk:k<l.length)(h1:l.length≠1)(h8:l.length<=8)(P:l.length<=b):
 Zc 75 #[Zs (some (Zd g o)) l.length b,Zt nm] w λe d=>∃q n,e=Zr (Zu #[Zs (some (Zd q 0)) (l.take k++l.drop (k+1)).length n,Zn])/\d.ownsRow w.1.size 69 7 (Zs (some (Zd q 0)) (l.take k++l.drop (k+1)).length n) (l.take k++l.drop (k+1)).length (Av (l.take k++l.drop (k+1)))/\Zb w d:=by
 have N:Hid (∀W,Zb w W->Zc 84 #[Zs (some (Zd g o)) l.length b,Zt nm] W λe d=>e=Zr (Zi k)/\Zb W d):=λW r=>by have:=E8 g o b l nm W (h.below r) h8;rwa[T] at this
 have V:(l.take k).length=k:=by simp;omega
 have lb:(l.drop (k+1)).length=l.length-(k+1):=by simp
 obtain⟨m,I⟩:∃m,m=k+1:=⟨_,rfl⟩;rw[<-I] at lb ⊢
 have L:Hid (∀W p u y nb,Zb w W->p<W.1.size->nb=(l.drop m).length->W.1[p]? = some (Zk #[Zs (some (Zd g o)) k b,Zs (some (Zd g u)) nb y] 32)->I1 W g u (l.drop m)->Zc 133 #[Zs (some (Zd p 0)) 2 2] W λe d=>∃q n,e=Zr (Zs (some (Zd q 0)) (l.take k++l.drop m).length n)/\d.ownsRow W.1.size 69 7 (Zs (some (Zd q 0)) (l.take k++l.drop m).length n) (l.take k++l.drop m).length (Av (l.take k++l.drop m))/\Zb W d):=λW p u y nb r hp hnb hh hs=>by rw[XG];exact vO p g o b g u y (l.take k) (l.drop m) W (by rw[V];simp[World.cell?,hh]) (by rw[<-hnb];simp[World.cell?,hh]) hp ((h.below r).take k) hs (by omega) (by omega)
 have t:=Aa h;have Y:∃x,l[0]! = x:=⟨_,rfl⟩;obtain⟨⟨J,x2,x3,x4,x5,x6,x7⟩,U⟩:=Y;have s:Hid (∀W,Zb w W->W.cell? (Zd g o)=some (Zi J)):=λW r=>by have:=((h.below r).cells (k:=0) (by omega) U).1;simpa using this
 clear U;generalize hM:l.take k++l.drop m=M at *
 have ad:((l.length:Int)==1)=false:=by
  have:¬(l.length:Int)=1:=by omega
  simpa using this
 have aa:(0:Int)<=(k:Int):=by omega
 have ab:IntKind.i64.wrap ((k:Int)+1)=(m:Int):=by rw[IntKind.wrap_i64];omega
 have ac:(k:Int)<=(b:Int):=by omega
 have af:(0:Int)<=(m:Int):=by omega
 have ah:(m:Int)<=(l.length:Int):=by omega
 have ag:(m:Int)<=(b:Int):=by omega
 have ae:(l.length:Int)<=(b:Int):=by omega
 have X:Hid (l.length-m=(l.drop m).length):=by rw[lb,I];exact rfl
 have v:=Aa (λ(e:b=m)=>Yw (by omega))
 clear h T V lb I
 by_cases hcc:b=m
 ·have O:=Aa (v.o hcc)
  subst hcc;clear v;go_enter func75,ntmps75
  go_wp2_with (first
   | (go_at_call 84;refine(N.o _ (XB _ _)).mono ?_;rintro e f⟨rfl,a⟩))
  have q0:=s.o f a;have G:g<f.1.size:=Ya t.o.1 a.size
  go_region_held3 (λd=>d.cell? (Zd g o)=some (Zi J)) (first|(go_keep;done)|exact s.o _ (Below.Ap (a.alloc a.size _).drew c))
   (first
     | (go_at_call 133;refine(L.o _ f.1.size o 0 0 ?_ ?_ ?_ ?_ ?_).mono ?_;exact(a.alloc a.size _).drew;exact tR f _;(rw[O.o];rfl);exact Yac f _;(rw[O.o];exact⟨Ya t.o.1 (a.alloc a.size _).size,λj hj=>by simp at hj⟩);rintro e w3⟨D,z,rfl,i,c⟩)
     | fail)
  go_wp2;go_ret2;exact⟨D,z,rfl,ownsRow_le i (a.alloc a.size _).size,Below.Ap (a.alloc a.size _).drew c⟩
 clear v;have R:¬(b:Int)=(m:Int):=by omega
 go_enter func75,ntmps75
 go_wp2_with (first
  | (go_at_call 84;refine(N.o _ (XB _ _)).mono ?_;rintro e f⟨rfl,a⟩))
 have q0:=s.o f a;have G:g<f.1.size:=Ya t.o.1 a.size
 go_region_held3 (λd=>d.cell? (Zd g o)=some (Zi J)) (first|(go_keep;done)|exact s.o _ (Below.Ap (a.alloc a.size _).drew c))
  (first
    | (go_at_call 133;refine(L.o _ f.1.size (o+m*7) (b-m) (l.length-m) ?_ ?_ ?_ ?_ ?_).mono ?_;exact(a.alloc a.size _).drew;exact tR f _;exact X.o;exact Yac f _;(have:=(t.o.below (a.alloc a.size (Zk #[Zs (some (Zd g o)) k b,Zs (some (Zd g (o+m*7))) (l.length-m) (b-m)] 32)).drew).drop m;exact this);rintro e w3⟨D,z,rfl,i,c⟩)
    | fail)
 go_wp2;go_ret2;exact⟨D,z,rfl,ownsRow_le i (a.alloc a.size _).size,Below.Ap (a.alloc a.size _).drew c⟩
theorem AG7(g o c:Nat)(l:List Aj)(nm:Tb)(w:Tw)(h:I1 w g o l)(b:Ce l nm = -1\/l.length=1)(d:l.length<=8):
 Zc 75 #[Zs (some (Zd g o)) l.length c,Zt nm] w λe i=>(∃x,e=Zr (Zu #[Zs none 0 0,Zf 91 (Zi x)])/\(0<=Ce l nm->x=6))/\Zb w i:=by
 have j:=Aa (λ(W:Tw)(hb:Zb w W)=>E8 g o c l nm W (h.below hb) d)
 clear h
 by_cases hf:Ce l nm<0
 ·generalize Ce l nm=f at *
  clear b d;go_enter func75,ntmps75
  go_wp2_with (first
   | (go_at_call 84;refine(j.o _ (XB _ _)).mono ?_;rintro e p⟨rfl,a⟩))
  go_ret2;exact⟨⟨_,rfl,λh=>by omega⟩,a⟩
 have k:l.length=1:=by rcases b with h|h <;> omega
 have m:((l.length:Int)==1)=true:=by rw[k];rfl
 generalize Ce l nm=f at *;generalize l.length=n at *;clear b d k;go_enter func75,ntmps75
 go_wp2_with (first
  | (go_at_call 84;refine(j.o _ (XB _ _)).mono ?_;rintro e p⟨rfl,a⟩))
 go_ret2;exact⟨⟨_,rfl,λ_=>rfl⟩,a⟩
theorem eF(a:Tb):∀(l:List Aj)(k:Nat),k<l.length->(Av l).set (k*7+1) (Zt a)=Av (l.set k (rR l[k]! a))
 | [],k,h=>absurd h (Yr _)
 | c :: l,0,_=>rfl
 | c :: l,k+1,h=>by
   have d:=eF a l k (by simpa using h);have e:Av (c :: l)=Cc c++Av l:=rfl;have b:(c :: l)[k+1]! = l[k]! := by simp
   rw[e,b,XM,show Av (c :: l.set k (rR l[k]! a))=Cc c++Av (l.set k (rR l[k]! a)) from rfl,<-d];rw[YA _ _ (by rw[Gl];omega),Gl,show (k+1)*7+1-7=k*7+1 by omega]
theorem yL(g o d:Nat)(l:List Aj)(nm c:ByteArray)(k:Nat)(w:World)(h:I1 w g o l)(z:Ce l nm=k)(P:k<l.length)(j:Bv c=true)(q:Ce l c = -1)(t:l.length<=8)(D:Lw w):
 Zc 76 #[.slice (some ⟨g,o,none⟩) l.length d,.string nm,.string c] w λe a=>∃b i,e=.returned (.tuple #[.slice (some ⟨b,0,none⟩) l.length i,.nilIface])/\a.ownsRow w.1.size 69 7 (.slice (some ⟨b,0,none⟩) l.length i) l.length (Av (l.set k (rR l[k]! c)))/\Zb w a:=by
 have I:Hid (∀W,Zb w W->Zc 84 #[.slice (some ⟨g,o,none⟩) l.length d,.string nm] W λe a=>e=.returned (.int .i64 k)/\Zb W a):=λW hb=>by have:=E8 g o d l nm W (h.below hb) t;rwa[z] at this
 have M:Hid (∀W,Zb w W->Zc 84 #[.slice (some ⟨g,o,none⟩) l.length d,.string c] W λe a=>e=.returned (.int .i64 (-1))/\Zb W a):=λW hb=>by have:=E8 g o d l c W (h.below hb) t;rwa[q] at this
 have J:Hid (∀W,Zb w W->Zc 129 #[.string c] W λe a=>e=.returned (.bool true)/\Zb W a):=λW hb=>by have:=Li c W (jU j) (D.below hb);rwa[j] at this
 have G:Hid (∀W,Zb w W->Zc 71 #[.slice (some ⟨g,o,none⟩) l.length d] W λe a=>∃b i,e=.returned (.slice (some ⟨b,0,none⟩) l.length i)/\a.ownsRow w.1.size 69 7 (.slice (some ⟨b,0,none⟩) l.length i) l.length (Av l)/\(∃u,a.cell? ⟨b,k*7+1,none⟩=some u)/\a.frozen? ⟨b,k*7+1,none⟩=false/\Zb w a):=λW hb=>(Rb g o d l W (h.below hb) t).mono λe a⟨b,i,he,ho,hb'⟩=>⟨b,i,he,ownsRow_le ho hb.size,by rw[ho.cellAt (k*7+1) (by omega)];exact⟨_,Y' (by rw[Hy];omega)⟩,ho.frozenAt _,Below.Ap hb hb'⟩
 have L:=Aa (eF c l k P);have R:¬(k:Int)<0:=by omega
 have T:(k:Int)<(l.length:Int):=by omega
 have U:(0:Int)<=(k:Int):=by omega
 clear h z j q D;go_enter func76,ntmps76
 go_wp2_with (first
  | (go_at_call_of 84 (#[.slice (some ⟨g,o,none⟩) l.length d,.string nm]:Array Value);refine(I.o _ (XB _ _)).mono ?_;rintro e Y⟨rfl,m⟩)
  | (go_at_call 129;refine(J.o _ m).mono ?_;rintro e w2⟨rfl,v⟩;have f:=Below.Ap m v)
  | (go_at_call 84;refine(M.o _ f).mono ?_;rintro e w3⟨rfl,x⟩;have n:=Below.Ap f x)
  | (go_at_call 71;refine(G.o _ n).mono ?_;rintro e w4⟨s,N,rfl,r,⟨X,V⟩,O,y⟩))
 go_ret2;refine⟨s,N,rfl,?_,X2 (p:=⟨s,k*7+1,none⟩) y (r.lt s rfl).1 _⟩;rw[<-L.o];exact(r.stored _ _).1
theorem ACv(g o q:Nat)(l:List Aj)(nm c:ByteArray)(w:World)(h:I1 w g o l)(j:Ce l nm = -1\/Bv c=false\/0<=Ce l c)(s:c.size<=maxLen)(u:l.length<=8)(y:Lw w):
 Zc 76 #[.slice (some ⟨g,o,none⟩) l.length q,.string nm,.string c] w λe n=>∃x,e=.returned (.tuple #[.slice none 0 0,.iface 91 (.int .i64 x)])/\Zb w n:=by
 have t:=Aa (λ(W:Tw)(hb:Zb w W)=>E8 g o q l nm W (h.below hb) u)
 have r:=Aa (λ(W:Tw)(hb:Zb w W)=>E8 g o q l c W (h.below hb) u)
 have p:=Aa (λ(W:Tw)(hb:Zb w W)=>Li c W s (y.below hb))
 clear h y s u
 by_cases hf:Ce l nm<0
 ·generalize Ce l nm=f at *
  clear j r p;go_enter func76,ntmps76
  go_wp2_with (first
   | (go_at_call 84;refine(t.o _ (XB _ _)).mono ?_;rintro e v⟨rfl,b⟩))
  go_ret2;exact⟨_,rfl,b⟩
 have m:¬Ce l nm = -1:=by omega
 cases hc:Bv c with
 | false=>
   rw[hc] at p;generalize Ce l nm=f at *;clear j r m;go_enter func76,ntmps76
   go_wp2_with (first
    | (go_at_call 84;refine(t.o _ (XB _ _)).mono ?_;rintro e v⟨rfl,b⟩)
    | (go_at_call 129;refine(p.o _ b).mono ?_;rintro e z⟨rfl,d⟩;have a:=Below.Ap b d))
   go_ret2;exact⟨_,rfl,a⟩
 | true=>
   rw[hc] at p
   have I:0<=Ce l c:=by
    rcases j with h|h|h
    ·exact(m h).elim
    ·rw[hc] at h;cases h
    exact h
   clear j m
   by_cases hnt:nm=c
   ·subst hnt
    generalize Ce l nm=f at *;clear t;go_enter func76,ntmps76;go_wp2_with fail;refine(r.o _ (XB _ _)).mono ?_;rintro e v⟨rfl,b⟩
    go_wp2_with (first
     | (go_at_call 129;refine(p.o _ b).mono ?_;rintro e z⟨rfl,d⟩;have a:=Below.Ap b d)
     | (go_at_call 84;refine(r.o _ a).mono ?_;rintro e D⟨rfl,k⟩;have i:=Below.Ap a k))
    go_ret2;exact⟨_,rfl,i⟩
   generalize Ce l nm=f at *;generalize Ce l c=G at *;clear hnt;go_enter func76,ntmps76
   go_wp2_with (first
    | (go_at_call_of 84 (#[.slice (some ⟨g,o,none⟩) l.length q,.string nm]:Array Value);refine(t.o _ (XB _ _)).mono ?_;rintro e v⟨rfl,b⟩)
    | (go_at_call 129;refine(p.o _ b).mono ?_;rintro e z⟨rfl,d⟩;have a:=Below.Ap b d)
    | (go_at_call 84;refine(r.o _ a).mono ?_;rintro e D⟨rfl,k⟩;have i:=Below.Ap a k))
   go_ret2;exact⟨_,rfl,i⟩
namespace F
variable{D:Td}{H:List (Dn×Ah)}{U:List Tb}{s:Ah}{l:List Aj}{x:A6}{c:Aj}{W:Tw}{n:Int}{p:Tb}{T:S.CT}
structure Inv(D:DataW Unit)(H:List (Dn×Ah))(U:List ByteArray):Prop where
 Lm:U6 D H
 past:La H
 wU:R6 D H
 used:Used D U
 plain:∀u∈U,Plain u
 next:∀k,k<=H.length->(Ae H k).next<=10+k
theorem vA(D:Td):C7 D F6 [] :=
 ⟨⟨rfl,(λx a=>by cases a),XA _,XA _,λ_=>rfl⟩,(λx a=>by cases a),(λx a=>by cases a),(λx a=>by cases a)⟩
theorem Inv.nil:Inv (.map []) [] []:=by
 refine⟨AGO,trivial,λk a=>⟨[],?_⟩,Used.nil,(λu hu=>by cases hu),λk a=>?_⟩
 ·have:k=0:=by simpa using a
  subst this;exact vA _
 have:k=0:=by simpa using a
 subst this;show (0:Int)<=_;omega
theorem Inv.user(h:Inv D H U){s:Tb}(b:Plain s):Inv D H (s :: U) :=
 ⟨h.Lm,h.past,h.wU,h.used.more λu a=>Yd _ a,λu a=>by
  rcases List.mem_cons.1 a with rfl|a
  ·exact b
  exact h.plain u a,h.next⟩
theorem Inv.put{D:Td}{H:List (Dn×Ah)}{U:List Tb}(h:Inv D H U){s:Tb}(b:s∈U)(k:Nat)(v:Td)(a:Maps.has D (B.lit (Eh (Bw s k)))=false):Inv (D.put (B.lit (Eh (Bw s k))) v) H U :=
 ⟨ACQ h.Lm _ _,h.past,h.wU.put a v,h.used.put b k v,h.plain,h.next⟩
theorem Inv.AJO(h:Inv D H U)(O5:H.length<90){C:Dn}{t:Ah}(b:Bi (Ae H H.length) C t)(f:Lay C){i:List A6}(g:C7 D t i)(j:t.next<=11+H.length):Inv (D.put (B.lit (Ek (H.length+1))) (B.Gw (C6 C))) (H++[(C,t)]) U:=by
 have c:=(h.Lm.2 H.length (by omega)).2 (XC _);refine⟨AFI h.Lm O5 C t,ADc h.past b f,(h.wU.snoc g).put c _,h.used.log _ _,h.plain,λk d=>?_⟩
 rcases Yc H.length k with a|a
 ·have e:k=H.length+1:=by simp at d;omega
  subst e;rw[rJ];show t.next<=_;omega
 rw[qV a];exact h.next k a
structure J4 where
 Qk:Int
 qz:List Aj
 qj:List (List V)
 A3:List (ByteArray×V)
 change:Int
 name:ByteArray
 tw:ByteArray
 tree:S.CT->Prop
def Nl:Nat->List Aj->List Aj
 | _,[]=>[]
 | k,c :: l=>((k:Int),c.2) :: Nl (k+1) l
theorem dK:∀(k:Nat)(l:List Aj),(Nl k l).length=l.length
 | _,[]=>rfl
 | k,c :: l=>by simp[Nl,dK (k+1) l]
def cI(l:List Aj)(next:Int)(a:Int)(c:Aj)(nm b:ByteArray)(l':List Aj)(next':Int):Prop :=
 (a=1/\AAg l (next,c.2)/\l'=l++[(next,c.2)]/\next'=next+1) \/
 (a=2/\∃k:Nat,Ce l nm=k/\k<l.length/\l.length≠1/\l'=l.take k++l.drop (k+1)/\next'=next) \/
 (a=3/\∃k:Nat,Ce l nm=k/\k<l.length/\Bv b=true/\Ce l b = -1/\l'=l.set k (rR l[k]! b)/\next'=next)
def Pa(l:List Aj)(qj:List (List V)):DataW Unit:=B.Gw (E.str (Cq (l,Ay l qj)))
theorem bD(b:Maps.IsMap D){qk:Tb}{qj:List (List V)}(c:De l qj=true)(a:K9 qj)(d:qk.size<=1000):Gt (D.put (B.lit (Eh qk)) (Pa l qj)) ((qk,(qj.length:Int),[]),l,qj) :=
 ⟨Maps.has_put_same b L4 _,Maps.atKey_put_same b L4 _ _,c,a,d,XA _⟩
theorem Gt.AFx(h:Gt D x){qk:Tb}(b:qk≠x.1.1)(v:Td):Gt (D.put (B.lit (Eh qk)) v) x:=by
 have a:B.lit (Eh x.1.1)≠B.lit (Eh qk):=λe=>b (Uw (B.Jr e)).symm
 exact⟨by rw[Maps.has_put_other a];exact h.has,by rw[Maps.atKey_put_other a];exact h.Gw,h.ok,h.i64,h.name,h.qv⟩
theorem AJb{L l l':List Aj}{next next' y:Int}{nm s:Tb}(h:cI l next y c nm s l' next')(f:Lk L l)(i:∀d∈L,d.1<next):Lk L l':=by
 rcases h with⟨_,g,rfl,_⟩|⟨_,k,_,b,_,rfl,_⟩|⟨_,k,_,b,_,_,rfl,_⟩
 ·refine f.more (λd j e=>?_) (λhm e=>?_)
  ·have:=i d j
   simp at e;omega
  have:=g.2.2.2;simp only[mst,bP] at hm e;simp[hm,e] at this
 ·refine f.sub λx a=>?_
  rcases List.mem_append.1 a with a|a
  ·exact Ym a
  exact XT a
 refine f.named λx a=>?_
 rcases Yu a with a|rfl
 ·exact⟨x,a,rfl,rfl⟩
 exact⟨l[k]!,Jj b,rfl,rfl⟩
theorem rQ{l l':List Aj}{next next' x:Int}{nm s:Tb}(h:cI l next x c nm s l' next'):next<=next'/\next'<=next+1:=by rcases h with⟨_,_,_,rfl⟩|⟨_,k,_,_,_,_,rfl⟩|⟨_,k,_,_,_,_,_,rfl⟩ <;> omega
theorem AA6(a:Tb)(k:Nat):a++⟨#[95]⟩++Bm (k:Int)=Bw a k:=by apply ByteArray.ext;apply Array.toList_inj.mp;simp[Bw,Bm]
theorem Vu(a:Tb)(k:Nat)(b:k<=1000):(Bw a k).size<=a.size+22:=by have h:=Dw (n:=(k:Int)) ⟨by omega,by omega⟩;rw[<-AA6,ByteArray.size_append,ByteArray.size_append];have e:(⟨#[95]⟩:Tb).size=1:=rfl;omega
theorem fB(h:Good Bv Cm s):∀x∈s.qz,x.2.1.size<=maxLen/\x.2.2.2.2.2.2.size<=maxLen:=λx a=>by
 rcases h.qz with e|e
 ·rw[e] at a;cases a
 have d:=(e.2.2.1 x a).1;have b:=d.2.2.1;have c:=d.2.2.2;simp only[Bv,XN] at b;simp only[Cm,XN] at c;have:=Hh b.2;have:=gA c.1;unfold maxLen;omega
def noA(qk:ByteArray)(n:Int):Gx:=((1,qk,n,[],[],0),(none,0,0),(none,0,0))
def AIr(w0 w:World)(h base bb n:Nat)(D:DataW Unit)(fs:List Int)(mv:Value)(o:Nat)(s:Ah)(v:Int)(i:Option Addr)(n1 c1:Nat)(q:Int)(j:Option Addr)(n2 m:Nat)(f:ByteArray)(p:Bool)(L:List Gx)(qj:Int)(R:List (List V))(e:Ending)(g:World):Prop :=
 ∃n' c a b d,Ey w0 g h bb n' c a b d/\n'<=n+1/\Mv base bb mv b w g /\
  ((e=.returned .nilIface/\De s.qz R=true/\fs.headD 0≠1/\a=fs.tail/\c=D.put (B.lit (Eh (Bw f L.length))) (Pa s.qz R)/\∃k l,Dv base g o s v i n1 c1 q j n2 m f p k l (L++[noA (Bw f L.length) R.length]) qj) \/
   (∃T x,e=.returned (.iface T x)/\c=D/\((De s.qz R=false/\a=fs)\/(De s.qz R=true/\fs.headD 0=1/\a=fs.tail))))
theorem bK(w0:Tw)(NF base bb n:Nat)(D:Td)(fs:List Int)(mv fv:Tv)(P:Nat)(s:Ah)(v:Int)(a1:To)(n1 c1:Nat)(x2:Int)(a2:To)(n2 c2:Nat)(o:Tb)(rd:Bool)(aa:To)(ac:Nat)(L:List Gx)(qj:Int)(rv:Tv)(R:List (List V))(w:Tw)(h:Ey w0 w NF bb n D fs mv fv)(hN:NF<=base)(a8:w0.1.size<=base)(hn:n<100000)(hD:Maps.IsMap D)(hP:Dv base w P s v a1 n1 c1 x2 a2 n2 c2 o rd aa ac L qj)(az:base<=w.1.size)(hg:Good Bv Cm s)(he:B.Ob w0)(hR:iJ w rv R)(ay:R.length<=100000)(Y:∀r∈R,∀v∈r,v.2.2.size<=maxLen)(l:K9 R)(ba:o.size<=12)(hL:L.length<=100)(f:Maps.has D (B.lit (Eh (Bw o L.length)))=false):
 Zc 44 #[Zp (some (Zd bb 0)),Zp (some (Zd P 0)),rv] w (AIr w0 w NF base bb n D fs mv P s v a1 n1 c1 x2 a2 n2 c2 o rd L qj R):=by
 have a0:s.qz.length<=8:=by
  rcases hg.qz with e|e
  ·rw[e];exact XA _
  exact e.2.1
 obtain⟨b1,d1,b2,d2,Ls,ev,hV⟩:=hP.snap;unfold K4 at ev;simp only[Value.agg.injEq,Array.mk.injEq,List.cons.injEq,Value.int.injEq,Value.slice.injEq] at ev;obtain⟨⟨_,_⟩,⟨e1,e2,e3⟩,_⟩:=ev;subst e1 e2 e3;have d:F7 7 Cc w (Zs a1 s.qz.length c1) s.qz:=F7.Fz (k:=7) (enc:=Cc) (λ_=>rfl) (show w.ownsRow 0 69 7 (Zs a1 s.qz.length c1) s.qz.length (s.qz.flatMap Cc) from hV.qz) rfl;have c:=Aa (rW (Zs a1 s.qz.length c1) rv s.qz R w d hR (by omega) ay (fB hg) Y l (AHr h.ground.nc) (AJI (he.below h.low)));obtain⟨ra,rc,rfl,_⟩:=hR.slice;obtain⟨x0,x1,y2,x3,x4,x5,x6,x7,xf⟩:=F2 hP.box;have HP:=Aa hP;have ae:=Aa h;have a6:=Vu o L.length (by omega);have a5:(0:Int)<=(L.length:Int):=by omega
 cases hm:De s.qz R with
 | false=>rw[Ss hm] at c;have HM:=Aa hm;clear hm d hV hP h hg f hR Y l;unfold gK at c;go_enter func44,ntmps44;go_wp2_with fail;apply c.o.mono;rintro e w1⟨T,u,rfl,t⟩;have i:Hid (Zb w (w1.alloc (Zk #[Zs none 0 0,Zs none 0 0] 146))):=Aa (Ap t (Zal));clear t c;go_wp2_with fail;go_ret;exact⟨n,D,fs,mv,fv,ae.o.up i.o,by omega,Mv.below i.o,.inr ⟨_,_,rfl,rfl,.inl ⟨HM.o,rfl⟩⟩⟩
 | true=>
   rw[lG hm] at c;have HM:=Aa hm;have hG:=opened hm l
   have X:=Aa (λcv gv W(N:Zb w W)(hF:Hm W cv gv (s.qz,Ay s.qz R))=>lH cv gv s.qz (Ay s.qz R) W hF a0 (by rw[hG.2];intro g hg b hb;obtain⟨p,hp,rfl⟩:=List.mem_map.1 hg;exact hG.1.bytes p hp b hb) (by rw[hG.2,XF];have:=hG.1.p10;omega) (AHr (h.ground.nc.below N)) (AJI ((he.below h.low).below N)))
   rw[show Jn (s.qz,Ay s.qz R)=some (Cq (s.qz,Ay s.qz R)) by unfold Jn;rw[Yae (o8 hm ⟨rfl,rfl⟩ l)]] at X;have M:Hid (∀(cv gv:Tv)(W:Tw),Zb w W->Hm W cv gv (s.qz,Ay s.qz R)->Zc 78 #[Zg #[cv,gv]] W λe w'=>e=Zr (Zu #[Zt (E.str (Cq (s.qz,Ay s.qz R))),Zn])/\Zb W w'):=Aa X.o;clear X;have a9:=Vn hm l;have ag:=Aa (λW(N:Zb w W)=>Mx (L.length:Int) W ⟨by omega,by omega⟩ (h.ground.tb.below N));have a4:=Dw (n:=(L.length:Int)) ⟨by omega,by omega⟩;have ai:=Aa (AA6 o L.length);have ah:=Aa (λW=>tC (Bw o L.length) W (by omega));have q:=Aa (λW(N:Zb w W)=>oD w0 NF bb n D fs mv fv (Eh (Bw o L.length)) (E.str (Cq (s.qz,Ay s.qz R))) W (h.up N) hn hD (by simp[B.Wz,lS];omega) f (by rw[E.Ds];unfold maxLen;omega));unfold ABM at q;have ap:(⟨#[95]⟩:Tb).size=1:=rfl;have a7:(o++⟨#[95]⟩:Tb).size<=13:=by rw[ByteArray.size_append,ap];omega
   have au:Hid (B.Gw (E.str (Cq (s.qz,Ay s.qz R)))=Pa s.qz R):=Aa rfl;have ak:=Aa (And.intro hN a8);clear hm d hV hP h hg f hR Y l hG;unfold gK at c;generalize a3:Ay s.qz R=gs at *;generalize E.str (Cq (s.qz,gs))=tt at *;obtain⟨ar,y⟩:∃p,Bw o L.length=p:=⟨_,rfl⟩;rw[y] at ai ah q a6;have aj:=Aa y;clear y;generalize Bm (L.length:Int)=it at *;clear a3;go_enter func44,ntmps44;go_wp2_with fail;apply c.o.mono;rintro e w1⟨cv,gv,rfl,I,t⟩;obtain⟨ca,cc,ec,_⟩:=I.1.slice;obtain⟨ga,gc,eg,_⟩:=I.2.slice;simp only at ec eg;subst ec eg;have af:=Aa I;have i:=Aa t;have z:Hid (Zb w1 (w1.alloc (Zk #[Zs ca s.qz.length cc,Zs ga gs.length gc] 146))):=Aa (Zal);clear I t c x0 x1 y2 x3 x4 x5 x6 x7 xf;go_wp2_with fail;refine(M.o _ _ _ (Ap i.o z.o) (af.o.up z.o)).mono ?_;rintro e w2⟨rfl,an⟩;have U:=Aa (Ap (Ap i.o z.o) an);clear an M af z i
   have HK:Hid (∀W,Zb w W->W.cell? (Zd P 4)=some (Zt o)/\W.cell? (Zd P 6)=some (Zs aa L.length ac)):=Aa λW N=>by obtain⟨_,_,_,_,x4,_,x6,_⟩:=F2 (HP.o.up N).box;exact⟨x4,x6⟩
   obtain⟨x4,x6⟩:=HK.o _ U.o;go_wp2_with fail
   go_region_held (λw'=>w'.cell? (Zd P 4)=some (Zt o)/\w'.cell? (Zd P 6)=some (Zs aa L.length ac))
    (first
      | (go_keep;done)
      | exact HK.o _ ab
      | fail)
    (first
      | (go_at_call 79;refine(ag.o _ U.o.drew).mono ?_;rintro e w3⟨rfl,O⟩
         have ab:=Ap U.o.drew O;clear O)
      | fail)
   all_goals
    have j:=Aa ab;clear ab ag x4 x6 ap a7 a9 a4;go_wp2_with fail;rw[ai.o];refine(ah.o _).mono ?_;rintro e w4⟨rfl,rfl⟩;go_wp2_with fail;refine(q.o _ j.o).mono ?_;rintro e w5⟨aq,al,D5,G,m,J,⟨hh,rfl,rfl⟩|⟨hh,rfl,rfl⟩⟩
    ·have a:=Zy G m J hh
     have av:=Aa ((HP.o.up j.o).put (ae.o.up j.o).bu m);have ad:=Aa (N3 base P s v a1 _ c1 x2 a2 n2 c2 o rd aa ac L qj w5 av.o (XE (XE az j.o.size) m.size) 1 ar (R.length:Int) [] [] 0 none 0 0 none 0 0 ⟨XD _ _ _ _,XD _ _ _ _⟩ ⟨by unfold maxLen;show ar.size<=_;omega,XA _,(λx hx=>by cases hx)⟩ (by omega));clear G m J hh q;go_wp2_with fail;apply ad.o.mono;rintro e w6⟨rfl,⟨aw,ax,am⟩,ao⟩;have H6:=Aa (And.intro am ao);clear am ao ad;go_wp2_with fail;go_ret;refine⟨n+1,_,_,aq,al,Kv a.o.1 ak.o.1 ak.o.2 H6.o.2,by omega,((Mv.below j.o).trans (Mv.put a.o.2.1 a.o.2.2.1)).trans (Mv.ACV H6.o.2),.inl ⟨rfl,HM.o,a.o.2.2.2,rfl,by rw[au.o,aj.o],aw,ax,by rw[aj.o];exact H6.o.1⟩⟩
    have a:=Zy G m J hh;clear G m J hh q;go_wp2_with fail;go_ret;exact⟨n+1,_,_,aq,al,a.o.1,by omega,(Mv.below j.o).trans (Mv.put a.o.2.1 a.o.2.2.1),.inr ⟨_,_,rfl,rfl,.inr ⟨HM.o,a.o.2.2.2,rfl⟩⟩⟩
inductive Grown (tx:ByteArray) (D:DataW Unit):DataW Unit->Prop
 | refl:Grown tx D D
 | put {D':DataW Unit} (k:Nat) (v:DataW Unit):Grown tx D D'->Maps.has D' (B.lit (Eh (Bw tx k)))=false->Grown tx D (D'.put (B.lit (Eh (Bw tx k))) v)
theorem Inv.grown{a:Td}{s:Tb}(h:Inv D H U)(c:s∈U)(b:Grown s D a):Inv a H U:=by
 induction b with
 | refl=>exact h
 | put k v _ hf ih=>exact ih.put c k v hf
def AnyE(_:Value):Prop:=True
def Kd(w0 w:World)(l bb n:Nat)(D:DataW Unit)(mv:Value)(H:List (Dn×Ah))(i:ByteArray)(j:Value->Prop)(Ok:DataW Unit->Bool->List ADV->Int->Prop)(e:Ending)(f:World):Prop :=
 ∃n' b c a d,Ey w0 f l bb n' b c a d/\n'<=n+50/\B.A0 (B.Own bb mv) w f/\(∀k,a=.map (some k)->mv=.map (some k)\/w.1.size<=k)/\Grown i D b /\
  ((∃g L h qj m n1 c1 s o n2 r p q,e=.returned (.tuple #[.pointer (some ⟨g,0,none⟩),.nilIface])/\Dv w.1.size f g (Ae H H.length) (H.length:Int) m n1 c1 s o n2 r i h p q L qj/\Ok b h (L.map (·.1)) qj) \/
   (∃T x,j (.iface T x)/\e=.returned (.tuple #[.pointer none,.iface T x])))
structure iK(w0 w:World)(NF bb n:Nat)(D:DataW Unit)(fs:List Int)(mv fv:Value)(H:List (Dn×Ah))(U:List ByteArray)(tx:ByteArray):Prop where
 base:Ey w0 w NF bb n D fs mv fv
 inv:Inv D H U
 et:B.Ob w0
 Pw:S.Lp w0
 nf:NF<=w.1.size
 Iz:n<=80000
 O5:H.length<=40
 name:Bx tx=true
 short:tx.size<=12
 plain:Plain tx
 new:¬tx∈U
theorem iK.free{w0 w:Tw}{i bb n:Nat}{fs:List Int}{mv v:Tv}{s:Tb}(h:iK w0 w i bb n D fs mv v H U s)(k:Nat):Maps.has D (B.lit (Eh (Bw s k)))=false:=h.inv.used.fresh h.new h.plain h.inv.plain k
theorem iK.Of{w0 w:Tw}{k bb n:Nat}{fs:List Int}{mv v:Tv}{s:Tb}(h:iK w0 w k bb n D fs mv v H U s):Good Bv Cm (Ae H H.length):=(Jb h.inv.past (XC _)).1
def AIO(D:DataW Unit)(s:Ah)(a:ByteArray)(R:List (List V))(b:DataW Unit)(c:Bool)(A:List ADV)(qj:Int):Prop :=
 s.qz≠[]/\De s.qz R=true/\b=D.put (B.lit (Eh (Bw a 0))) (Pa s.qz R)/\c=false/\A=[(1,Bw a 0,(R.length:Int),[],[],0)]/\qj=R.length
def AGF(s:Ah)(fs:List Int)(R:List (List V)):Prop:=s.qz=[]\/De s.qz R=false\/fs.headD 0=1
theorem AK7{b:Nat}{u f a e c d g j:Tv}{t:TypeId}(h:W.1[b]? = some (Zk #[u,f,a,e,c,d,g,j] t (0,0)))(v:Tv):(W.setCell (Zd b 7) v).heap[b]? = some (Zk #[u,f,a,e,c,d,g,v] t (0,0)):=by have i:=As W b 7 _ _ v h;simpa using i
theorem Dv.set{base:Nat}{w:Tw}{n:Nat}{v:Int}{g:To}{n1 c1:Nat}{y:Int}{j:To}{n2 k:Nat}{t:Tb}{R d:Bool}{l:To}{i:Nat}{L:List Gx}{qj a:Int}(h:Dv base w n s v g n1 c1 y j n2 k t R l i L qj)(N:w.grownBy W (some n))(M:W.1[n]? = some (Zk #[Zi v,Zs g n1 c1,Zi y,Zs j n2 k,Zt t,Zo d,Zs l L.length i,Zi a] 58 (0,0))):Dv base W n s v g n1 c1 y j n2 k t d l i L a:=by
 have c:∀{b z m:Nat}{T:TypeId}{u:Tv}{xs:List Tv},w.ownsRow b T z u m xs->T≠58->W.ownsRow b T z u m xs:=λO J=>Mk O h.box (λe=>J e.symm) N
 refine⟨M,?_,c h.row (by decide),λq o=>⟨c (h.own q o).1 (by decide),c (h.own q o).2 (by decide)⟩,h.Vv,h.low⟩;obtain⟨r,G,D,I,p,e,f⟩:=h.snap;exact⟨r,G,D,I,p,e,c f.qz (by decide),f.qx,c f.row (by decide),λx P=>c (f.Cl x P) (by decide)⟩
theorem wV(w0:Tw)(Y bb n:Nat)(D:Td)(fs:List Int)(mv fv:Tv)(H:List (Dn×Ah))(U:List Tb)(i:Tb)(rv:Tv)(R:List (List V))(w:Tw)(h:iK w0 w Y bb n D fs mv fv H U i)(hR:iJ w rv R)(ab:R.length<=100000)(u:∀r∈R,∀v∈r,v.2.2.size<=maxLen)(q:K9 R):
 Zc 22 #[Zp (some (Zd bb 0)),Zt i,rv] w (Kd w0 w Y bb n D mv H i (λ_=>AGF (Ae H H.length) fs R) (AIO D (Ae H H.length) i R)):=by
 have HS:=Aa h;have g:=Aa (fH bb n D mv H i w h.base.ground h.inv.Lm h.inv.past h.O5 h.name h.short)
 have P:=Aa (λ(f:Nat)(k:To)(n1 c1:Nat)(J:Int)(l:To)(n2 m:Nat)W(hW:Zb w W)(s:Dv w.1.size W f (Ae H H.length) (H.length:Int) k n1 c1 J l n2 m i false none 0 [] (R.length:Int))=>bK w0 Y w.1.size bb n D fs mv fv f (Ae H H.length) (H.length:Int) k n1 c1 J l n2 m i false none 0 [] (R.length:Int) rv R W (h.base.up hW) h.nf h.base.low.size (by have:=h.Iz;omega) h.inv.Lm.1 s hW.size h.Of h.et (hR.up hW) ab u q h.short (XA _) (h.free 0))
 obtain⟨ra,rc,rfl,_⟩:=hR.slice;clear h hR u q;generalize G:Ae H H.length=sn at *;have X:=Aa G;clear G;go_enter func22,ntmps22;go_wp2_with fail;apply g.o.mono;rintro e w1⟨d,⟨y,rfl⟩|⟨y,f,k,n1,c1,J,l,n2,m,rfl,s⟩⟩
 ·have j:=Aa (And.intro y d)
  clear y d g;go_wp2_with fail;go_ret2;exact⟨n,D,fs,mv,fv,HS.o.base.up j.o.2,by omega,B.A0.Ba j.o.2,λ_ e=>.inl e,.refl,.inr ⟨_,_,.inl j.o.1,rfl⟩⟩
 have L:=Aa d;have j:=Aa y;have N:=Aa s;obtain⟨y0,y1,y2,y3,y4,y5,y6,y7,yf⟩:=F2 s.box;clear d y s g;have HG:Hid (w1.grownBy (w1.setCell (Zd f 7) (Zi (R.length:Int))) (some f)):=Aa (Aq _ _ _ _);have O:=Aa (N.o.set HG.o (AK7 N.o.box _));have a:Hid (Zb w (w1.setCell (Zd f 7) (Zi (R.length:Int)))):=Aa (L.o.setCell (p:=Zd f 7) N.o.low _);go_wp2_with fail;refine(P.o f k n1 c1 J l n2 m _ a.o O.o).mono ?_;rintro e w3⟨n3,D3,ad,I,o,b,ae,c,⟨rfl,hm,hf,rfl,rfl,aa,ac,t⟩|⟨T,x,rfl,rfl,z⟩⟩
 ·have H3:=Zy b c hm t
  clear b c hm t hf;go_wp2_with fail;go_ret2;refine⟨n3,_,_,I,o,H3.o.1,by omega,((Mv.below a.o).trans H3.o.2.1).o (XC _),((Mv.below (base:=w.1.size) a.o).trans H3.o.2.1).link,.put 0 _ .refl (HS.o.free 0),.inl ⟨f,_,false,_,k,n1,c1,J,l,n2,m,aa,ac,rfl,by rw[X.o];exact H3.o.2.2.2,j.o,H3.o.2.2.1,rfl,rfl,rfl,rfl⟩⟩
 have H3:=Aa (And.intro b c);have M:Hid (AGF sn fs R):=Aa (z.elim (λh=>.inr (.inl h.1)) (λh=>.inr (.inr h.2.1)));clear b c z;go_wp2_with fail;go_ret2;exact⟨n3,_,_,I,o,H3.o.1,by omega,((Mv.below a.o).trans H3.o.2).o (XC _),((Mv.below (base:=w.1.size) a.o).trans H3.o.2).link,.refl,.inr ⟨_,_,M.o,rfl⟩⟩
theorem k9(x:Int):∀(l:List Aj)(k:Nat),k<l.length->(Av l).set (k*7) (Zi x)=Av (l.set k (x,l[k]!.2))
 | [],k,h=>absurd h (Yr _)
 | c :: l,0,_=>rfl
 | c :: l,k+1,h=>by
   have b:=k9 x l k (by simpa using h);have e:Av (c :: l)=Cc c++Av l:=rfl;have a:(c :: l)[k+1]! = l[k]! := by simp
   rw[e,a,XM,show Av (c :: l.set k (x,l[k]!.2))=Cc c++Av (l.set k (x,l[k]!.2)) from rfl,<-b];rw[YA _ _ (by rw[Gl];omega),Gl,show (k+1)*7-7=k*7 by omega]
def Qj:Nat->Nat->List Aj->List Aj
 | _,0,l=>l
 | _,_+1,[]=>[]
 | i,k+1,c :: l=>((i:Int),c.2) :: Qj (i+1) k l
theorem gN:∀(i k:Nat)(l:List Aj),(Qj i k l).length=l.length
 | _,0,l=>rfl
 | _,_+1,[]=>rfl
 | i,k+1,c :: l=>by simp[Qj,gN (i+1) k l]
theorem tM:∀(i:Nat)(l:List Aj),Qj i l.length l=Nl i l
 | _,[]=>rfl
 | i,c :: l=>by simp[Qj,Nl,tM (i+1) l]
theorem jO:∀(i k:Nat)(l:List Aj),k<l.length->Qj i (k+1) l=(Qj i k l).set k (((i+k:Nat):Int),(Qj i k l)[k]!.2)
 | i,0,c :: l,_=>by simp[Qj]
 | i,k+1,c :: l,h=>by
   have a:=jO (i+1) k l (by simpa using h);rw[show Qj i (k+1+1) (c :: l)=((i:Int),c.2) :: Qj (i+1) (k+1) l from rfl,a,show Qj i (k+1) (c :: l)=((i:Int),c.2) :: Qj (i+1) k l from rfl,XM];have e:i+1+k=i+(k+1):=by omega
   rw[e];simp
 | _,_,[],h=>absurd h (Yr _)
theorem Rh:∀(i:Nat)(l:List Aj),(∀x∈l,x.2.1.size<=maxLen/\x.2.2.2.2.2.2.size<=maxLen)->∀x∈Nl i l,x.2.1.size<=maxLen/\x.2.2.2.2.2.2.size<=maxLen
 | _,[],_,x,a=>by cases a
 | i,c :: l,h,x,a=>by
   rcases List.mem_cons.1 a with rfl|a
   ·exact h c (Ye ..)
   exact Rh (i+1) l (λy b=>h y (Yd _ b)) x a
theorem qK(o:To)(d:Nat)(w:Tw):
 Zc 71 #[Zs o 0 d] w λe x=>∃a c,e=Zr (Zs a 0 c)/\Zb w x:=by
 have v:∀(w:Tw)(a:To)(n c n' h:Nat),(binOp .eql 32 (.slice a n c) (.slice none n' h)).run prog w=.ok (.bool a.isNone) w:=λw a n c n' h=>Lib.run_eql_slice_nil w _ _ a n c n' h underlying32
 obtain⟨u,r,j,l,m⟩:=info_parts Kh;cases o with
 | none=>go_enter func71,ntmps71;go_wp2;go_ret;exact⟨_,_,rfl,XB _ _⟩
 | some a=>
   go_enter func71,ntmps71;go_wp2_with (at_builtin;refine wpList_append_own _ rfl _ _ 32 rfl w.1.size 69 u L6 7 72 underlying32 r j l m rfl (by decide) _ _ _ rfl (YM w #[] 0 (XC _) (XA _) (by simp)) a 0 d [] rfl (by simp) (by simp) (by simp) (by decide) (by decide) (by simp) ?_);intro v' y f b p
   have t:∃g c,v'=Zs g 0 c:=by
    obtain⟨_,⟨i,_⟩|⟨g,c,q,i,_⟩⟩:=f
    ·exact⟨_,_,i⟩
    exact⟨_,_,i⟩
   obtain⟨g,c,rfl⟩:=t;go_wp2;go_ret;exact⟨_,_,rfl,((XB _ w).alloc (XC _) _).grown b (by simp) (by intro k s;simp[Value.ownBlock] at s;omega)⟩
theorem pD(a:To)(c:Nat)(l:List Aj)(w:Tw)(h:bH w (Zs a l.length c) l)(Y:l.length<=100):
 Zc 39 #[Zs a l.length c] w λe N=>∃J z,e=Zr (Zu #[Zs J l.length z,Zi (l.length+1:Nat)])/\Zb w N/\(l=[]\/N.ownsRow w.1.size 69 7 (Zs J l.length z) l.length (Av (Nl 1 l))):=by
 cases b:l with
 | nil=>
   have j:=Aa (qK a c w);go_enter func39,ntmps39;go_wp2_with fail;apply j.o.mono;rintro e O⟨P,c1,rfl,d⟩;have f:=Aa d;clear d j h b;go_wp2_with fail
   go_loopw [10] (λv wr=>v=Zi 0/\wr=O) (λ_ _=>0)
   case atStart=>exact⟨rfl,rfl⟩
   case round=>obtain⟨rfl,rfl⟩:=hrel;go_wp2;go_ret2;exact⟨P,c1,by simp,f.o,by simp⟩
 | cons c0 l0=>
   rw[<-b];have L:0<l.length:=by rw[b];simp
   rcases h with⟨_,e0⟩|⟨g,o,z,e,U,M⟩
   ·rw[e0] at L;simp at L
   injection e with R _ T;subst R T;have j:=Aa (P9 g o c l w M Y);clear b M U;go_enter func39,ntmps39;go_wp2_with fail;apply j.o.mono;rintro e O⟨x,c1,rfl,t,d⟩;have f:=Aa d;have r:=Aa t;clear d t j;go_wp2_with fail
   go_loopw [10] (λv wr=>∃k:Nat,k<=l.length/\v=Zi (k:Int)/\Hid (wr.ownsRow w.1.size 69 7 (Zs (some (Zd x 0)) l.length c1) l.length (Av (Qj 1 k l)))/\Hid (Zb w wr)) (λv _=>l.length-Ev v)
   case atStart=>exact⟨0,XA _,rfl,r,f⟩
   case round=>
    clear r f;obtain⟨k,hk,rfl,q,I⟩:=hrel
    rcases Yc k l.length with s|W
    ·have G:(k:Int)<(l.length:Int):=by omega
     have X:(0:Int)<=(k:Int):=by omega
     have hlen:(Av (Qj 1 k l)).length=l.length*7:=by rw[Hy,gN]
     obtain⟨u,hu⟩:∃u,wr.cell? (Zd x (k*7))=some u:=by rw[q.o.cellAt (k*7) (by omega)];exact⟨_,Y' (by omega)⟩
     have V:=q.o.frozenAt (k*7);have n:=Aa (jO 1 k l s);have m:=Aa (k9 ((1+k:Nat):Int) (Qj 1 k l) k (by rw[gN];exact s));have b:((1+k:Nat):Int)=(k:Int)+1:=by omega
     rw[b] at n m;clear hlen b;go_wp2;refine⟨⟨k+1,by omega,by simp,Aa ?_,Aa (X2 (p:=Zd x (k*7)) I.o (q.o.lt x rfl).1 _)⟩,by simp only[Ev];omega⟩;rw[n.o,<-m.o];exact(q.o.stored _ _).1
    have G:¬(k:Int)<(l.length:Int):=by omega
    have D:k=l.length:=by omega
    subst D;have i:=q.o;rw[tM] at i;have y:=Aa i;clear i;have aa:IntKind.i64.wrap ((l.length:Int)+1)=(l.length:Int)+1:=by rw[IntKind.wrap_i64];omega
    go_wp2;go_ret2;exact⟨_,_,rfl,I.o,.inr y.o⟩
def AIP(D:DataW Unit)(s:Ah)(l:List Aj)(a:DataW Unit)(b:Bool)(A:List ADV)(qj:Int):Prop :=
 s.qz=[]/\Go.Proofs.YthafikkkjfielaaGreatDoor.Be (Nl 1 l) (l.length+1:Nat)=true/\a=D/\b=false/\A=([(4,⟨#[]⟩,0,[],Nl 1 l,((l.length+1:Nat):Int))]:List ADV)/\qj=0
def AIU(s:Ah)(l:List Aj):Prop:=Go.Proofs.YthafikkkjfielaaGreatDoor.Be (Nl 1 l) (l.length+1:Nat)=false\/s.qz≠[]
theorem AHG{b c:Nat}{a:To}(h:l=[]\/W.ownsRow b 69 7 (Zs a l.length c) l.length (Av l)):bH W (Zs a l.length c) l:=by
 rcases h with h|h
 ·subst h;exact .inl ⟨⟨a,c,rfl⟩,rfl⟩
 exact p8 (gL (k:=7) (en:=Cc) (λ_=>rfl) h)
theorem zI(w0:Tw)(NF bb n:Nat)(D:Td)(fs:List Int)(mv Y:Tv)(H:List (Dn×Ah))(U:List Tb)(X:Tb)(la:To)(lc:Nat)(l:List Aj)(w:Tw)(h:iK w0 w NF bb n D fs mv Y H U X)(hl:bH w (Zs la l.length lc) l)(ah:l.length<=100)(m:∀x∈l,x.2.1.size<=maxLen/\x.2.2.2.2.2.2.size<=maxLen):
 Zc 20 #[Zp (some (Zd bb 0)),Zt X,Zs la l.length lc] w (Kd w0 w NF bb n D mv H X (λ_=>AIU (Ae H H.length) l) (AIP D (Ae H H.length) l)):=by
 have J:=Aa h;have t:=Aa (kN bb n D mv H X w h.base.ground h.inv.Lm h.inv.past h.O5 h.name h.short);have v:=Aa (λW(hW:Zb w W)=>pD la lc l W (hl.below hW) ah);have I:=Aa (λ(a:To)(c:Nat)W(hW:Zb w W)(hL:bH W (Zs a l.length c) (Nl 1 l))=>Vs a l.length c (Nl 1 l) (l.length+1:Nat) W hL (h.base.ground.nc.below hW) (Rh 1 l m));have i:=Aa (dK 1 l);have af:=Aa (Rh 1 l m);clear h hl m;generalize V:Ae H H.length=sn at *;have ae:=Aa V;clear V;go_enter func20,ntmps20;go_wp2_with fail;apply t.o.mono;rintro e w1⟨pb,a1,n1,c1,x2,a2,n2,c2,rfl,hP,O⟩
 have ai:n1=sn.qz.length:=by obtain⟨_,_,_,_,_,e,_⟩:=hP.snap;unfold K4 at e;simp only[Value.agg.injEq,Array.mk.injEq,List.cons.injEq,Value.int.injEq,Value.slice.injEq] at e;exact e.2.1.2.1
 subst ai;have HP:=Aa hP;have r:=Aa O;clear hP O t;go_wp2_with fail;refine(v.o _ r.o).mono ?_;rintro e w2⟨L,M,rfl,k,p⟩;have s:=Aa (Ap r.o k);have z:=Aa (HP.o.up k)
 have u:Hid (bH w2 (Zs L l.length M) (Nl 1 l)):=Aa (by
  have:=AHG (W:=w2) (b:=w1.1.size) (a:=L) (c:=M) (l:=Nl 1 l) (by
   rw[i.o]
   rcases p with e|e
   ·left;rw[e];rfl
   exact .inr e)
  rw[i.o] at this;exact this)
 have y:=Aa p;clear k p v HP;generalize R:((l.length+1:Nat):Int)=nx at *;have j:=Aa R;clear R;go_wp2_with fail;refine(I.o L M _ s.o u.o).mono ?_;rintro e w3⟨rfl,f⟩;have d:=Aa (Ap s.o f);have G:=Aa (z.o.up f);have ab:=Aa (y.o.imp id λo=>Bc o f);clear f I z y u;cases hrb:Go.Proofs.YthafikkkjfielaaGreatDoor.Be (Nl 1 l) nx with
 | false=>have HN:=Aa hrb;clear hrb;go_wp2_with fail;go_ret2;exact⟨n,D,fs,mv,Y,J.o.base.up d.o,by omega,B.A0.Ba d.o,λ_ e=>.inl e,.refl,.inr ⟨_,_,.inl (by rw[j.o];exact HN.o),rfl⟩⟩
 | true=>
   have ad:=Aa hrb
   have P:l≠[]:=by intro e;rw[e] at hrb;have:=((Go.Proofs.YthafikkkjfielaaGreatDoor.I9 _ _).1 hrb).1;simp[Nl] at this
   clear hrb;obtain⟨y0,y1,y2,y3,y4,y5,y6,y7,yf⟩:=F2 G.o.box
   by_cases hcc:sn.qz.length=0
   ·have HC:=Aa (Yag.1 hcc)
    have ag:¬(0:Int)<((sn.qz.length:Nat):Int):=by omega
    have g:=ab.o.resolve_left P;have q:=Aa (N3 w.1.size pb sn (H.length:Int) a1 _ c1 x2 a2 n2 c2 X false none 0 [] 0 w3 G.o d.o.size 4 ⟨#[]⟩ 0 [] (Nl 1 l) nx none 0 0 L l.length M ⟨XD _ _ _ _,by rw[i.o];exact E.Ai g (XA _)⟩ ⟨XA _,XA _,af.o⟩ (XA _));clear hcc g P;go_wp2_with fail;apply q.o.mono;rintro e w4⟨rfl,⟨aa,ac,N⟩,T⟩;have H4:=Aa (And.intro N T);clear N T q y0 y1 y2 y3 y4 y5 y6 y7 yf;go_wp2_with fail;go_ret2;have hm:=(Mv.below (base:=w.1.size) (bb:=bb) (mv:=mv) d.o).trans (Mv.ACV H4.o.2);exact⟨n,D,fs,mv,Y,Kv (J.o.base.up d.o) J.o.nf J.o.base.low.size H4.o.2,by omega,hm.o (XC _),hm.link,.refl,.inl ⟨pb,_,false,_,a1,_,c1,x2,a2,n2,c2,aa,ac,rfl,by rw[ae.o];exact H4.o.1,HC.o,by rw[j.o];exact ad.o,rfl,rfl,by rw[j.o];rfl,rfl⟩⟩
   have ag:(0:Int)<((sn.qz.length:Nat):Int):=by omega
   have HN:Hid (sn.qz≠[]):=Aa (λe=>hcc (by rw[e];rfl));clear hcc;go_wp2_with fail;go_ret2;exact⟨n,D,fs,mv,Y,J.o.base.up d.o,by omega,B.A0.Ba d.o,λ_ e=>.inl e,.refl,.inr ⟨_,_,.inr HN.o,rfl⟩⟩
theorem Ry{s t:Ah}{n:Tb}{f:Bool}{r:Int}{m:List Int}{next:Int}(h:Bi s (n,f,[(4,p,r,m,l,next)]) t):t=⟨s.Eb+1,l,next,s.qx⟩/\Wc Bv Cm l next/\s.next<=next:=by
 obtain⟨_,u,d,e⟩:=h;simp only[Il] at e;subst e
 rcases d with⟨a,_⟩|⟨a,_⟩|⟨a,_⟩|⟨_,b,c⟩
 ·exact absurd a (by simp)
 ·exact absurd a (by simp)
 ·exact absurd a (by simp)
 exact⟨c,b.1,b.2⟩
theorem pH{nb:Tb->Bool}{cb:Tb->Bool}{fb:Int->Int->Int->Tb->Bool}:∀{es:List (Tb×Int)}{s t:Ah},Il nb cb fb s (es.map λe=>(1,e.1,e.2,[],[],0)) t->t=⟨s.Eb,s.qz,s.next,s.qx++es.map λe=>(e.1,e.2,[])⟩
 | [],s,t,h=>by simp only[X',Il] at h;subst h;simp
 | e :: es,s,t,h=>by
   obtain⟨u,b,c⟩:=h
   rcases b with⟨_,_,rfl⟩|⟨a,_⟩|⟨a,_⟩|⟨a,_⟩
   ·rw[pH c]
    simp[oE]
   ·exact absurd a (by simp)
   ·exact absurd a (by simp)
   exact absurd a (by simp)
theorem eH{s t:Ah}{b:Tb}{a:Bool}(h:Bi s (b,a,[(1,p,n,[],[],0)]) t):t=⟨s.Eb+1,s.qz,s.next,s.qx++[(p,n,[])]⟩:=by have:=pH (es:=[(p,n)]) h.2;simpa[bump] using this
theorem zU{s t:Ah}{f:Bool}{xs:List A6}(c:xs.map (·.1)=s.qx)(d:(s.qx.map (·.1)).Nodup)(e:∀x∈xs,x.1.2.1=x.2.2.length)(h:Bi s (p,f,xs.flatMap (Vm s.qz T)) t):t=⟨s.Eb+1,s.qz,s.next,(xs.filterMap (pO s.qz T)).map (·.1)⟩:=by have a:=h.2;have b:=Sp (nb:=Bx) (cb:=Bv) (fb:=Cm) s.qz T xs [] [] (bump s) (by simp[bump,c]) d e;have:=K6 a b;rw[this];simp[bump]
theorem AAO{s t:Ah}{v:Tb}{r:Bool}{xs:List A6}(k:xs.map (·.1)=s.qx)(o:∀x∈xs,x.1.2.1=x.2.2.length)(m:¬p∈s.qx.map (·.1))(l:(s.qx.map (·.1)).Nodup)(h:Bi s (v,r,(1,p,n,[],[],0) :: xs.flatMap (Vm s.qz T)) t):t=⟨s.Eb+1,s.qz,s.next,(xs.filterMap (pO s.qz T)).map (·.1)++[(p,n,[])]⟩:=by
 obtain⟨_,u,j,d⟩:=h
 have q:u=⟨s.Eb+1,s.qz,s.next,s.qx++[(p,n,[])]⟩:=by
  rcases j with⟨_,_,rfl⟩|⟨c,_⟩|⟨c,_⟩|⟨c,_⟩
  ·rfl
  ·exact absurd c (by simp)
  ·exact absurd c (by simp)
  exact absurd c (by simp)
 subst q
 have g:=Sp (nb:=Bx) (cb:=Bv) (fb:=Cm) s.qz T xs [] [(p,n,[])] ⟨s.Eb+1,s.qz,s.next,s.qx++[(p,n,[])]⟩ (by simp[k]) (by simp only[XL,X4,X'];rw[YR];refine⟨l,by simp,λa i b f e=>?_⟩;simp at f;subst e f;exact m i) o
 have:=K6 d g;rw[this];simp
theorem tW{s t:Ah}{f:Bool}{es:List (Tb×Int)}(d:(s.qx.map (·.1)).Nodup)(h:Bi s (p,f,(s.qx.map λe=>(2,e.1,0,[],[],0))++es.map λe=>(1,e.1,e.2,[],[],0)) t):t=⟨s.Eb+1,s.qz,s.next,es.map λe=>(e.1,e.2,[])⟩:=by obtain⟨u,a,b⟩:=Go.Proofs.YthafikkkjfielaaGreatDoor.cE h.2;have c:=qO (nb:=Bx) (cb:=Bv) (fb:=Cm) s.qx [] (bump s) (by simp[bump]) d;have:=K6 a c;subst this;have:=pH b;rw[this];simp[bump]
theorem AHL{qz:List Aj}{next:Int}(g:qz.length<=8)(i:∀d∈qz,d.1<next)(Eb:Int):∀(f:List A6),(∀y∈f,Gt D y/\y.2.1=qz/\y.1.2=((y.2.2.length:Int),[]))->f.length<=1000->qz≠[]->qz.Pairwise (λa b=>a.1≠b.1)->C7 D ⟨Eb,qz,next,f.map (·.1)⟩ f:=λf h hl hc hp=>
 ⟨⟨rfl,λy c=>(h y c).1,hl,g,λe=>absurd e hc⟩,λy c=>by rw[(h y c).2.1];exact Lk.self hp,λy c=>by rw[(h y c).2.1];exact i,λy c=>by rw[(h y c).2.2]⟩
theorem ADC(h:Good Bv Cm s):s.qz.Pairwise (λa b=>a.1≠b.1):=by
 rcases h.qz with e|e
 ·rw[e];exact List.Pairwise.nil
 exact e.2.2.2.imp λx=>x.1
theorem We(h:Good Bv Cm s):∀d∈s.qz,d.1<s.next:=λd a=>by
 rcases h.qz with e|e
 ·rw[e] at a;cases a
 exact(e.2.2.1 d a).2
theorem M9(h:Good Bv Cm s):s.qz.length<=8:=by
 rcases h.qz with e|e
 ·rw[e];exact XA _
 exact e.2.1
theorem sM(h:Good Bv Cm s):∀c∈s.qz,Lx c (bP c)=true:=λc a=>by
 rcases h.qz with e|e
 ·rw[e] at a;cases a
 exact(e.2.2.1 c a).1.2.2.2
theorem rB{nm:Tb}(h:¬Ce l nm = -1):∃k:Nat,Ce l nm=k/\k<l.length:=by
 rcases Gz l nm with⟨e,_⟩|⟨k,a,e,_⟩
 ·exact absurd e h
 exact⟨k,e,a⟩
def ChP(w:World)(s:Ah)(d:Int)(c:Aj)(nm f:ByteArray)(e:Ending)(g:World):Prop :=
 Zb w g/\((∃l' next' a b,cI s.qz s.next d c nm f l' next'/\e=.returned (.tuple #[.slice a l'.length b,Zi next',.nilIface])/\g.ownsRow w.1.size 69 7 (.slice a l'.length b) l'.length (Av l'))\/((∀l' h,¬cI s.qz s.next d c nm f l' h)/\∃a n' b x T y,e=.returned (.tuple #[.slice a n' b,Zi x,.iface T y])))
theorem qB(s:Ah)(v:Int)(a1:To)(n1 c1:Nat)(x2:Int)(a2:To)(n2 c2:Nat)(O i:Int)(t:Tb)(k:Int)(mu:Bool)(D G:Int)(u:Tb)(nm l:Tb)(w:Tw)(hS:Dl w s (K4 v a1 n1 c1 x2 a2 n2 c2))(hg:Good Bv Cm s)(aa:s.qz≠[])(af:s.next<=1000000000000000)(hz:t.size<=maxLen/\u.size<=maxLen/\l.size<=maxLen)(hw:Lw w):
 Zc 43 #[Zg #[Zi v,Zs a1 n1 c1,Zi x2,Zs a2 n2 c2],Zg #[Zi O,Zi i,Zt t,Zi k,Zo mu,Zi D,Zi G,Zt u,Zt nm,Zt l]] w (ChP w s O (i,t,k,mu,D,G,u) nm l):=by
 obtain⟨b1,d1,b2,d2,Ls,W,hV⟩:=hS;unfold K4 at W;simp only[Value.agg.injEq,Array.mk.injEq,List.cons.injEq,Value.int.injEq,Value.slice.injEq] at W;obtain⟨⟨-,-⟩,⟨e1,e2,e3⟩,⟨-,e4⟩,-⟩:=W;subst e1 e2 e3 e4;have X:=M9 hg;have h1:0<s.qz.length:=List.length_pos_iff.2 aa
 obtain⟨g,ad⟩:∃g,a1=some (Zd g 0):=by
  rcases hV.qz.2 with⟨_,h0⟩|⟨g,ag,ah,W,_⟩
  ·omega
  injection W with ac _ _;exact⟨g,ac⟩
 subst ad
 have Y:s.qz.length<=c1:=by obtain⟨a,c,e,L⟩:=Au hV.qz;injection e with _ _ e;omega
 have ae:1<=s.next:=by
  rcases hg.qz with e|e
  ·exact absurd e aa
  have:=e.2.2.1 s.qz[0] (Yh h1);have:=this.1.2.1;omega
 have hs:I1 w g 0 s.qz:=I1.Fz hV.qz rfl;obtain⟨t0,t1,t2,t3⟩:=ALM w (Zk #[Zi v,Zs (some (Zd g 0)) s.qz.length c1,Zi s.next,Zs a2 n2 c2] 56) (Zk #[Zi O,Zi i,Zt t,Zi k,Zo mu,Zi D,Zi G,Zt u,Zt nm,Zt l] 83);have d:=Aa t3;have n:=Aa t1;have r:=hs.below t3;have I:Lw _:=AHr (hw.below t3);unfold ChP;clear t0 t1 t2 t3 hV hg hs hw
 by_cases c1':O=1
 ·subst c1'
  by_cases hok:AAg s.qz (s.next,t,k,mu,D,G,u)
  ·have m:=Aa (AFQ g 0 c1 s.qz s.next i t k mu D G u _ r hok.2.1 hok.1 hok.2.2.1 hok.2.2.2 ae af I)
   have ab:=Aa hok;clear hok;go_enter func43,ntmps43;go_wp2_with fail;apply m.o.mono;rintro e w1⟨g',c',rfl,M,f⟩;have H1:=Aa (And.intro M f);clear M f m;go_wp2_with fail;go_ret3;exact⟨Ap d.o H1.o.2,.inl ⟨_,_,some (Zd g' 0),c',.inl ⟨rfl,ab.o,rfl,rfl⟩,by rw[XG];rfl,by rw[XG];exact E.Ai H1.o.1 d.o.size⟩⟩
  have m:=Aa (AHP g 0 c1 s.qz s.next i t k mu D G u _ r X hz.1 hz.2.1 hok I)
  have o:Hid (∀l' z,¬cI s.qz s.next 1 (i,t,k,mu,D,G,u) nm l l' z):=Aa (λl' z L=>by
   rcases L with⟨_,h,_⟩|⟨e,_⟩|⟨e,_⟩
   ·exact hok h
   ·exact absurd e (by decide)
   exact absurd e (by decide))
  clear hok;go_enter func43,ntmps43;go_wp2_with fail;apply m.o.mono;rintro e w1⟨x,rfl,f⟩;have H1:=Aa f;clear f m;go_wp2_with fail;go_ret3;exact⟨Ap d.o H1.o,.inr ⟨o.o,_,_,_,_,_,_,rfl⟩⟩
 by_cases c2':O=2
 ·subst c2'
  by_cases b:Ce s.qz nm = -1\/s.qz.length=1
  ·have m:=Aa (AG7 g 0 c1 s.qz nm _ r b X)
   have o:Hid (∀l' z,¬cI s.qz s.next 2 (i,t,k,mu,D,G,u) nm l l' z):=Aa (λl' z L=>by
    rcases L with⟨e,_⟩|⟨_,j,h1,h2,h3,_⟩|⟨e,_⟩
    ·exact absurd e (by decide)
    ·rcases b with b|b
     ·omega
     exact h3 b
    exact absurd e (by decide))
   clear b c1';go_enter func43,ntmps43;go_wp2_with fail;apply m.o.mono;rintro e w1⟨⟨x,rfl,_⟩,f⟩;have H1:=Aa f;obtain⟨_,_,z2,_,_⟩:=Go.Proofs.YthafikkkjfielaaGreatDoor.B3 ((f.block _ (Ac n.o)).trans n.o);clear f m;go_wp2_with fail
   go_region
   go_wp2;go_ret3;exact⟨Ap d.o H1.o.drew,.inr ⟨o.o,_,_,_,_,_,_,rfl⟩⟩
  obtain⟨j,T,p⟩:=rB (λe=>b (.inl e));have U:s.qz.length≠1:=λe=>b (.inr e)
  have m:=Aa (AFn g 0 c1 s.qz nm j _ r T p U X Y);have J:=Aa (And.intro T (And.intro p U));clear b T p U c1';generalize y:s.qz.take j++s.qz.drop (j+1)=l' at *;have N:=Aa y;clear y;go_enter func43,ntmps43;go_wp2_with fail;apply m.o.mono;rintro e w1⟨g',c',rfl,M,f⟩;have H1:=Aa (And.intro M f);obtain⟨_,_,z2,_,_⟩:=Go.Proofs.YthafikkkjfielaaGreatDoor.B3 ((f.block _ (Ac n.o)).trans n.o);clear M f m;go_wp2_with fail
  go_region
  go_wp2;go_ret3;exact⟨Ap d.o H1.o.2.drew,.inl ⟨l',_,_,_,.inr (.inl ⟨rfl,j,J.o.1,J.o.2.1,J.o.2.2,N.o.symm,rfl⟩),rfl,E.Ai (Bc H1.o.1 ((XB _ _).drew)) d.o.size⟩⟩
 by_cases c3':O=3
 ·subst c3'
  by_cases b:Ce s.qz nm = -1\/Bv l=false\/0<=Ce s.qz l
  ·have m:=Aa (ACv g 0 c1 s.qz nm l _ r b hz.2.2 X I)
   have o:Hid (∀l' z,¬cI s.qz s.next 3 (i,t,k,mu,D,G,u) nm l l' z):=Aa (λl' z L=>by
    rcases L with⟨e,_⟩|⟨e,_⟩|⟨_,j,h1,h2,h3,h4,_⟩
    ·exact absurd e (by decide)
    ·exact absurd e (by decide)
    rcases b with b|b|b
    ·omega
    ·rw[show Bv l=Go.Proofs.YthafikkkjfielaaGreatDoor.Bv l from rfl,h3] at b
     cases b
    omega)
   clear b c1' c2';go_enter func43,ntmps43;go_wp2_with fail;apply m.o.mono;rintro e w1⟨x,rfl,f⟩;have H1:=Aa f;obtain⟨_,_,z2,_,_⟩:=Go.Proofs.YthafikkkjfielaaGreatDoor.B3 ((f.block _ (Ac n.o)).trans n.o);clear f m;go_wp2_with fail
   go_region
   go_wp2;go_ret3;exact⟨Ap d.o H1.o.drew,.inr ⟨o.o,_,_,_,_,_,_,rfl⟩⟩
  obtain⟨j,T,p⟩:=rB (λe=>b (.inl e))
  have P:Bv l=true:=by
   cases e:Bv l with
   | true=>rfl
   | false=>exact absurd (.inr (.inl e)) b
  have R:Ce s.qz l = -1:=by
   rcases Gz s.qz l with⟨e,_⟩|⟨q,_,e,_⟩
   ·exact e
   exact absurd (.inr (.inr (by omega))) b
  have m:=Aa (yL g 0 c1 s.qz nm l j _ r T p P R X I);have J:=Zy T p P R;clear b T p P R c1' c2';have V:Hid ((s.qz.set j (rR s.qz[j]! l)).length=s.qz.length):=Aa (XY ..);generalize y:s.qz.set j (rR s.qz[j]! l)=l' at *;have N:=Aa y;clear y;go_enter func43,ntmps43;go_wp2_with fail;apply m.o.mono;rintro e w1⟨g',c',rfl,M,f⟩;have H1:=Aa (And.intro M f);obtain⟨_,_,z2,_,_⟩:=Go.Proofs.YthafikkkjfielaaGreatDoor.B3 ((f.block _ (Ac n.o)).trans n.o);clear M f m;go_wp2_with fail
  go_region
  go_wp2;go_ret3;exact⟨Ap d.o H1.o.2.drew,.inl ⟨l',_,_,_,.inr (.inr ⟨rfl,j,J.o.1,J.o.2.1,J.o.2.2.1,J.o.2.2.2,N.o.symm,rfl⟩),by rw[V.o];rfl,by rw[V.o];exact E.Ai (Bc H1.o.1 ((XB _ _).drew)) d.o.size⟩⟩
 have o:Hid (∀l' z,¬cI s.qz s.next O (i,t,k,mu,D,G,u) nm l l' z):=Aa (λl' z L=>by
  rcases L with⟨e,_⟩|⟨e,_⟩|⟨e,_⟩
  ·exact c1' e
  ·exact c2' e
  exact c3' e)
 go_enter func43,ntmps43;go_wp2_with fail;go_ret3;exact⟨d.o,.inr ⟨o.o,_,_,_,_,_,_,rfl⟩⟩
theorem AHI{b:Nat}{v u f a e c d g i j:Tv}{t:TypeId}(h:W.1[b]? = some (Zk #[v,u,f,a,e,c,d,g,i,j] t (0,0))):
 W.cell? (Zd b 0)=some v/\W.cell? (Zd b 1)=some u/\W.cell? (Zd b 2)=some f/\W.cell? (Zd b 3)=some a/\W.cell? (Zd b 4)=some e/\W.cell? (Zd b 5)=some c/\W.cell? (Zd b 6)=some d/\W.cell? (Zd b 7)=some g/\W.cell? (Zd b 8)=some i/\W.cell? (Zd b 9)=some j:=by
 simp[World.cell?,h]
theorem ADB{l l':List Aj}{next next' y i:Int}{s:Tb}{k:Int}{mu:Bool}{z t:Int}{p nm n:Tb}(b:∀x∈l,x.2.1.size<=maxLen/\x.2.2.2.2.2.2.size<=maxLen)(c:s.size<=maxLen/\p.size<=maxLen/\n.size<=maxLen)(h:cI l next y (i,s,k,mu,z,t,p) nm n l' next'):∀x∈l',x.2.1.size<=maxLen/\x.2.2.2.2.2.2.size<=maxLen:=λx a=>by
 rcases h with⟨_,_,rfl,_⟩|⟨_,j,_,_,_,rfl,_⟩|⟨_,j,_,d,_,_,rfl,_⟩
 ·rcases List.mem_append.1 a with a|a
  ·exact b x a
  simp at a;subst a;exact⟨c.1,c.2.1⟩
 ·rcases List.mem_append.1 a with a|a
  ·exact b x (Ym a)
  exact b x (XT a)
 rcases Yu a with a|rfl
 ·exact b x a
 exact⟨c.2.2,(b _ (Jj d)).2⟩
def AOa(s:Ah)(a:Int)(c:Aj)(nm d:ByteArray):Prop:=s.qz=[]\/∀l' b,¬cI s.qz s.next a c nm d l' b
def AId(D:DataW Unit)(s:Ah)(b:Int)(c:Aj)(nm e:ByteArray)(a:DataW Unit)(d:Bool)(A:List ADV)(qj:Int):Prop :=
 s.qz≠[]/\(∃l' next',cI s.qz s.next b c nm e l' next'/\A=([(4,⟨#[]⟩,0,[],l',next')]:List ADV))/\a=D/\d=false/\qj=0
theorem kP(w0:Tw)(NF bb n:Nat)(D:Td)(fs:List Int)(mv fv:Tv)(H:List (Dn×Ah))(U:List Tb)(tx:Tb)(m i:Int)(f:Tb)(k:Int)(mu:Bool)(o p:Int)(g nm j:Tb)(w:Tw)(h:iK w0 w NF bb n D fs mv fv H U tx)(hz:f.size<=maxLen/\g.size<=maxLen/\j.size<=maxLen):
 Zc 21 #[Zp (some (Zd bb 0)),Zt tx,Zg #[Zi m,Zi i,Zt f,Zi k,Zo mu,Zi o,Zi p,Zt g,Zt nm,Zt j]] w (Kd w0 w NF bb n D mv H tx (λ_=>AOa (Ae H H.length) m (i,f,k,mu,o,p,g) nm j) (AId D (Ae H H.length) m (i,f,k,mu,o,p,g) nm j)):=by
 have HS:=Aa h;have O:Zb w (w.alloc (Zk #[Zi m,Zi i,Zt f,Zi k,Zo mu,Zi o,Zi p,Zt g,Zt nm,Zt j] 83)):=Zal;have N:=Aa (Yac w (Zk #[Zi m,Zi i,Zt f,Zi k,Zo mu,Zi o,Zi p,Zt g,Zt nm,Zt j] 83));have J:=Aa O;have M:=Aa (fH bb n D mv H tx _ (h.base.ground.up O) h.inv.Lm h.inv.past h.O5 h.name h.short);have ad:(Ae H H.length).next<=1000000000000000:=by have:=h.inv.next H.length (XC _);have:=h.O5;omega
 have X:=Aa (λ(b:To)(n1 c1:Nat)(l:Int)(c:To)(n2 d:Nat)W(hW:Zb w W)(s:(Ae H H.length).qz≠[])(hS:Dl W (Ae H H.length) (K4 (H.length:Int) b n1 c1 l c n2 d))=>qB (Ae H H.length) (H.length:Int) b n1 c1 l c n2 d m i f k mu o p g nm j W hS h.Of s ad hz (h.base.ground.nc.below hW))
 have am:=Aa (λl' next'(s:cI (Ae H H.length).qz (Ae H H.length).next m (i,f,k,mu,o,p,g) nm j l' next')=>ADB (fB h.Of) hz s);clear h O ad hz
 have v:Hid (∀(b:To)(n1 c1:Nat)(l:Int)(c:To)(n2 d:Nat)W,Zb w W->(Ae H H.length).qz≠[]->Dl W (Ae H H.length) (K4 (H.length:Int) b n1 c1 l c n2 d)->Zc 43 #[Zg #[Zi (H.length:Int),Zs b n1 c1,Zi l,Zs c n2 d],Zg #[Zi m,Zi i,Zt f,Zi k,Zo mu,Zi o,Zi p,Zt g,Zt nm,Zt j]] W λe w'=>∃G n' I x er,e=Zr (Zu #[Zs G n' I,Zi x,er])/\Hid (Zb W w'/\((er=Zn/\∃l',n'=l'.length/\cI (Ae H H.length).qz (Ae H H.length).next m (i,f,k,mu,o,p,g) nm j l' x/\w'.ownsRow W.1.size 69 7 (Zs G n' I) l'.length (Av l'))\/((∀l' nx,¬cI (Ae H H.length).qz (Ae H H.length).next m (i,f,k,mu,o,p,g) nm j l' nx)/\∃T y,er=Zf T y)))):=Aa λb n1 c1 l c n2 d W hW s hS=>(X.o b n1 c1 l c n2 d W hW s hS).mono (by
  rintro e w'⟨hb,⟨l',an,G,I,h1,rfl,h2⟩|⟨u,G,n',I,x,T,y,rfl⟩⟩
  ·exact⟨G,l'.length,I,an,_,rfl,Aa ⟨hb,.inl ⟨rfl,l',rfl,h1,h2⟩⟩⟩
  exact⟨G,n',I,x,_,rfl,Aa ⟨hb,.inr ⟨u,T,y,rfl⟩⟩⟩)
 clear X;generalize af:Ae H H.length=sn at *;have al:=Aa af;clear af;go_enter func21,ntmps21;go_wp2_with fail;apply M.o.mono;rintro e w1⟨q,⟨s,rfl⟩|⟨s,pb,b,n1,c1,l,c,n2,d,rfl,hP⟩⟩
 ·have V:=Aa (Ap J.o q)
  have ah:=Aa s;clear s q M;go_wp2_with fail;go_ret2;exact⟨n,D,fs,mv,fv,HS.o.base.up V.o,by omega,B.A0.Ba V.o,λ_ e=>.inl e,.refl,.inr ⟨_,_,.inl ah.o,rfl⟩⟩
 have L:=Aa (Ap J.o q);have V:=Aa s;have HP:=Aa hP;have aj:=Aa ((q.block _ (Ac N.o)).trans N.o);obtain⟨y0,y1,y2,y3,y4,y5,y6,y7,yf⟩:=F2 hP.box;obtain⟨z0,z1,z2,z3,z4,z5,z6,z7,z8,z9⟩:=AHI aj.o;clear q s hP M N;have Y:=Aa (enters_of func43 (by kernel_rfl) rfl);have z:=Aa (v.o b n1 c1 l c n2 d w1.drew L.o.drew V.o (HP.o.snap.up ((XB _ _).drew)));clear v;go_wp2_with fail
 go_region_law
  (first
    | (refine Gc (by rfl) 43 (.tmp 25) (.tmp 26) 56 83 (by rfl) (Zg #[Zi (H.length:Int),Zs b n1 c1,Zi l,Zs c n2 d]) (Zg #[Zi m,Zi i,Zt f,Zi k,Zo mu,Zi o,Zi p,Zt g,Zt nm,Zt j]) (by rfl) (by rfl) Y.o _ z.o ?_
       rintro e w2⟨G,n',I,x,er,rfl,H2⟩;refine⟨_,rfl,?_⟩)
    | fail)
 all_goals
  clear z Y y0 y1 y2 y3 y4 y5 y6 y7 yf z0 z1 z2 z3 z4 z5 z6 z7 z8 z9;obtain⟨r,⟨rfl,l',rfl,P,ho⟩|⟨u,T,y,rfl⟩⟩:=H2.o
  ·have ai:=Aa P
   have a:=Aa (Ap L.o.drew r);have t:=Aa ((HP.o.up ((XB _ _).drew)).up r);have ag:=XE J.o.size HP.o.low;have R:=Aa (N3 w.1.size pb sn (H.length:Int) b n1 c1 l c n2 d tx false none 0 [] 0 w2 ⟨t.o.box,t.o.snap,XD _ _ _ _,t.o.own,t.o.Vv,ag⟩ a.o.size 4 ⟨#[]⟩ 0 [] l' x none 0 0 G l'.length I ⟨XD _ _ _ _,E.Ai ho (XA _)⟩ ⟨XA _,XA _,am.o l' x P⟩ (XA _));clear P r ho ag H2;go_wp2_with fail;apply R.o.mono;rintro e w4⟨rfl,⟨aa,ac,ab⟩,ae⟩;have H4:=Aa (And.intro ab ae);clear ab ae R;go_wp2_with fail;go_ret2;have hm:=(Mv.below (base:=w.1.size) (bb:=bb) (mv:=mv) a.o).trans (Mv.ACV H4.o.2);exact⟨n,D,fs,mv,fv,Kv (HS.o.base.up a.o) HS.o.nf HS.o.base.low.size H4.o.2,by omega,hm.o (XC _),hm.link,.refl,.inl ⟨pb,_,false,_,b,n1,c1,l,c,n2,d,aa,ac,rfl,by rw[al.o];exact H4.o.1,V.o,⟨l',x,ai.o,rfl⟩,rfl,rfl,rfl⟩⟩
  have a:=Aa (Ap L.o.drew r);have ak:=Aa u;clear r H2 u;go_wp2_with fail;go_ret2;exact⟨n,D,fs,mv,fv,HS.o.base.up a.o,by omega,B.A0.Ba a.o,λ_ e=>.inl e,.refl,.inr ⟨_,_,.inr ak.o,rfl⟩⟩
def aJ(rs:List Px)(p:ByteArray):List Int:=(rs.filter λz=>decide (z.1=p)).map (·.2.1)
theorem AEw(rs:List Px)(z:Px)(p:Tb):aJ (rs++[z]) p=aJ rs p++if z.1=p then [z.2.1] else []:=by
 unfold aJ;rw[XQ,XL];congr 1
 by_cases h:z.1=p
 ·simp[h]
 simp[h]
theorem yW(a b:List Px)(p:Tb):aJ (a++b) p=aJ a p++aJ b p:=by unfold aJ;rw[XQ,XL]
theorem uP{rs:List Px}(h:∀z∈rs,z.1≠p):aJ rs p=[]:=by unfold aJ;rw[List.filter_eq_nil_iff.2 (λz a=>by simpa using h z a)];rfl
theorem AHm{rs:List Px}(h:∀z∈rs,z.1=p):aJ rs p=rs.map (·.2.1):=by unfold aJ;rw[List.filter_eq_self.2 (λz a=>by simpa using h z a)]
theorem N2:∀z∈E4 l x,z.1=x.1.1:=λz a=>((Pv x.1.1 x.1.2.2 l .nil (Cw (By x.2.1) l x.2.2) 0).1 z a).1
theorem Wm(l:List Aj)(q:Px->Bool):∀(xs:List A6),(xs.map (·.1.1)).Nodup->∀x∈xs,aJ ((xs.flatMap (E4 l)).filter q) x.1.1=((E4 l x).filter q).map (·.2.1)
 | [],_,x,a=>by cases a
 | y :: xs,hn,x,a=>by
   rw[X4,XZ] at hn;rw[XV,XQ,yW]
   rcases List.mem_cons.1 a with rfl|a
   ·rw[AHm (λz b=>N2 z (List.mem_filter.1 b).1),uP (λz b e=>?_),XP]
    obtain⟨u,d,c⟩:=List.mem_flatMap.1 (List.mem_filter.1 b).1;have:=N2 z c;exact hn.1 (List.mem_map.2 ⟨u,d,by rw[<-this,e]⟩)
   rw[uP (rs:=(E4 l y).filter q) (λz b e=>?_),Wm l q xs hn.2 x a,List.nil_append];have:=N2 z (List.mem_filter.1 b).1;exact hn.1 (List.mem_map.2 ⟨x,a,by rw[<-e,this]⟩)
theorem ADn(l:List Aj){xs:List A6}(a:(xs.map (·.1.1)).Nodup)(b:x∈xs):aJ (Bo l .nil xs).1 x.1.1=(E4 l x).map (·.2.1):=by have:=Wm l (λ_=>true) xs a x b;rw[List.filter_eq_self.2 (λ_ _=>rfl),List.filter_eq_self.2 (λ_ _=>rfl)] at this;rw[H9];exact this
variable{P:Program}{e k:TypeId}{W w:Tw}{q:IntKind}{D:Td}{v:Tv}
theorem Xe{base:Nat}{b n:Nat}(h:w.ownsGroups P k base e q b n D)(r:W.1[b]? = w.1[b]?)(o:∀v zs,w.ownsInts base e q v zs->W.ownsInts base e q v zs):W.ownsGroups P k base e q b n D:=by
 obtain⟨es,clock,s,F,t,rfl,f,hlen,d⟩:=h
 have i:∀x∈es.toList,∀z,rowElem (H:=Unit) w base e q x.val=some z->rowElem W base e q x.val=some z:=λx j z l=>by obtain⟨zs,g,rfl⟩:=rowElem_inv l;exact rowElem_mk (o _ _ g)
 obtain⟨p,a,_⟩:=F.stay i;refine⟨es,clock,r.trans s,p,t,by rw[a],f,λx j zs g=>?_,d⟩;obtain⟨y,u⟩:=F.reads x j;obtain⟨z,l,_⟩:=rd_val u;obtain⟨m,c,_⟩:=rowElem_inv l;rw[g.unique (o _ _ c)];exact hlen x j m c
theorem V9{base:Nat}{b n:Nat}(h:w.ownsGroups P k base e q b n D):b<w.1.size:=by obtain⟨es,clock,a,_⟩:=h;exact Ac a
theorem Vx{base:Nat}{b n:Nat}(h:w.ownsGroups P k base e q b n D)(a:Zb w W):W.ownsGroups P k base e q b n D :=
 Xe h (a.block b (V9 h)) λ_ _ c=>⟨Bc c.1 a,c.2⟩
def jE(B:Nat)(w:World)(v:Value)(rs:List Px):Prop:=∃xs:List (ByteArray×Int×Value),xs.length=rs.length/\w.ownsRow B 99 3 v rs.length (xs.flatMap Og)/\∀(j:Nat)x r,xs[j]? = some x->rs[j]? = some r->x.1=r.1/\x.2.1=r.2.1/\∃a n c,x.2.2=.slice a n c
theorem Fp.AJP{I B:Nat}{rs:List Px}(h:Fp I B w v rs):jE B w v rs:=by obtain⟨zs,b,d,f⟩:=h;refine⟨zs,b,d,λj x r i g=>?_⟩;obtain⟨k,l,m⟩:=f j x r i g;obtain⟨a,c,e,_⟩:=Au m;exact⟨k,l,a,_,c,e⟩
theorem jE.up{B:Nat}{rs:List Px}(h:jE B w v rs)(d:Zb w W):jE B W v rs:=by obtain⟨zs,a,b,c⟩:=h;exact⟨zs,a,Bc b d,c⟩
structure Told(W:World)(m n:Nat)(rs:List Px):Prop where
 ex:∃D:DataW Unit,W.ownsGroups prog 9 (m+1) 3 .i64 m n D/\IsMap D/\∀p,(D.atKey (lit p) .nil=.nil/\aJ rs p=[])\/D.atKey (lit p) .nil=DataW.slice (lits .i64 (aJ rs p)) []
theorem Told.up{m n:Nat}{rs:List Px}(h:Told w m n rs)(d:Zb w W):Told W m n rs:=by obtain⟨D,a,b,c⟩:=h.ex;exact⟨D,Vx a d,b,c⟩
theorem AGX{a b:List Int}(h:(lits .i64 a:List (Td))=lits .i64 b):a=b:=by simp only[lits] at h;have:=List.map_inj_right (f:=λn:Int=>(DataW.lit (Lit.int IntKind.i64 n):Td)) (λx y e=>by simpa using e) (l:=a) (l':=b);exact this.mp h
theorem Sd{rs:List Px}{p:Tb}{base:Nat}{zs:List Int}(h:(D.atKey (lit p) .nil=.nil/\aJ rs p=[])\/D.atKey (lit p) .nil=DataW.slice (lits .i64 (aJ rs p)) [])(a:D.atKey (lit p) .nil=rowDatum .i64 v zs)(b:w.ownsInts base 3 .i64 v zs):zs=aJ rs p:=by
 rcases b.datum (H:=Unit) with⟨e1,e2⟩|e1
 ·rw[a,e1] at h
  rcases h with⟨_,h⟩|h
  ·rw[e2,h]
  cases h
 rw[a,e1] at h
 rcases h with⟨h,_⟩|h
 ·cases h
 injection h with h;exact AGX h
section
variable {P : Program} {w : World} {o : Oper} {a : Act} {K : Act → World → Prop} {Q : Exit → Act → World → Prop}
theorem Ke{t k E e:TypeId}(p:Keyed P k)(s:P.underlying t=some (.map k E))(x:(zeroValue E).run P w=.ok (.slice none 0 0) w){base b n:Nat}(f:w.ownsGroups P k base e q b n D)(r:n<maxLen){u:Tv}{m:Lit}(d:_root_.Go.keyOf P k u=some m)(h:∀v zs,D.atKey m .nil=rowDatum q v zs->w.ownsInts base e q v zs->zs.length<=n->w.groupBack P t k base e q b n D u m v->K (a.put o.dst v) w):
 Oper.upon P o a K Q (((Instr.lookup t (.map (some b)) u false).run P w).andThen λa y=>Result.ok (Next.value a) y):=by
 obtain⟨v,zs,g,i,j,l,c⟩:=f.at p s x r d;rw[g];exact h v zs i j l c
theorem Xs{t:TypeId}{w0:Tw}{base:Nat}{b n:Nat}{p:Lit}{u v':Tv}{z:List Int}(c:w0.groupBack P t k base e q b n D v p u)(l:w0.grownBy w u.ownBlock)(d:w.ownsInts base e q v' z)(m:z.length<=n+1)(f:v'.ownBlock=u.ownBlock\/∃g,v'.ownBlock=some g/\w0.1.size<=g)(h:∀j,j.ownsGroups P k base e q b (n+1) (D.put p (rowDatum q v' z))->w.grownBy j (some b)->K (a.put o.dst undef) j):
 Oper.upon P o a K Q (((Instr.mapUpdate t (.map (some b)) v v').run P w).andThen λ_ x=>Result.ok Next.skip x):=by
 obtain⟨j,i,r,s⟩:=c w v' z l d m f;rw[i];exact h j r s
end
theorem U5(w:Tw):(zeroValue 23).run prog w=.ok (Zs none 0 0) w:=by kernel_rfl
theorem AGb:(prog.info? 3).map (λi=>(i.zero,i.size,i.bytes))=some (some (Zi 0),1,8):=by kernel_rfl
theorem sO{rs:List Px}{r:Px}{zs:List Int}(b:IsMap D)(a:∀p,(D.atKey (lit p) .nil=.nil/\aJ rs p=[])\/D.atKey (lit p) .nil=DataW.slice (lits .i64 (aJ rs p)) [])(d:zs=aJ rs r.1):∀p,((D.put (lit r.1) (DataW.slice (lits .i64 (zs++[r.2.1])) [])).atKey (lit p) .nil=.nil/\aJ (rs++[r]) p=[])\/(D.put (lit r.1) (DataW.slice (lits .i64 (zs++[r.2.1])) [])).atKey (lit p) .nil=DataW.slice (lits .i64 (aJ (rs++[r]) p)) []:=λp=>by
 rw[AEw]
 by_cases e:r.1=p
 ·subst e
  right;rw[Yae rfl,atKey_put_same b (AEF _) _ _,d]
 rw[Yad e,XP,atKey_put_other (λc=>e (Jr c).symm)];exact a p
theorem AHp{b:Nat}{v u f:Tv}{t:TypeId}(h:W.1[b]? = some (Zk #[v,u,f] t (0,0))):W.cell? (Zd b 0)=some v/\W.cell? (Zd b 1)=some u:=by simp[World.cell?,h]
theorem fE(B:Nat)(v:Tv)(rs:List Px)(w:Tw)(hF:jE B w v rs)(a1:rs.length<=100000)(ab:∀r∈rs,r.1.size<=maxLen)(aa:∀r∈rs,Lu r.2.1):
 Zc 82 #[v] w λe w'=>∃m,e=Zr (.map (some m))/\w.1.size<=m/\Told w' m rs.length rs/\Below w.1.size w w':=by
 obtain⟨zs,e1,e2,e3⟩:=hF;obtain⟨fa,fc,rfl,_⟩:=Au e2;have ag:=Aa e1;have ah:=Aa e2;have ai:=Aa e3;have aj:=Aa ab;have ad:=Aa aa;obtain⟨i0,hi,ac,n,o⟩:=info_parts AGb;have b:=Zy hi ac n o;have aq:=@run_makeMap prog;have X:Hid (Told (w.alloc (.map #[] 0)) w.1.size 0 (rs.take 0)):=Aa ⟨.map [],World.ownsGroups_made _ _ _ _ _,isMap_empty,λp=>.inl ⟨rfl,rfl⟩⟩;have U:Hid (Below w.1.size w (w.alloc (.map #[] 0))):=Aa (Zal);clear e1 e2 e3 ab aa hi ac n o;go_enter func82,ntmps82;go_wp2_with fail;clear aq
 go_loopw [9] (λvi wr=>∃k:Nat,k<=rs.length/\vi=Zi (k:Int)/\Hid (Told wr w.1.size k (rs.take k))/\Hid (Below w.1.size w wr)) (λvi _=>rs.length-Ev vi)
 case atStart=>exact⟨0,XA _,rfl,X,U⟩
 case round=>
  obtain⟨k,hk,rfl,HT,T⟩:=hrel;clear X U
  rcases Yc k rs.length with ap|az
  ·obtain⟨r,hr⟩:∃r,rs[k]? = some r:=⟨_,Y' ap⟩
   obtain⟨z,hz⟩:∃z,zs[k]? = some z:=⟨_,Y' (by have:=ag.o;omega)⟩;obtain⟨n,o,au⟩:=ai.o k z r hz hr;obtain⟨zp,zi,zv⟩:=z;obtain⟨G,J,I,ez⟩:=au;simp only at ez;subst ez;have l:=E.Ad ah.o T.o
   obtain⟨fb,am,ay,f0,f1,f2⟩:∃fb,fa=some (Zd fb 0)/\fb<wr.1.size/\wr.cell? (Zd fb (k*3))=some (Zt zp)/\wr.cell? (Zd fb (k*3+1))=some (Zi zi)/\wr.cell? (Zd fb (k*3+2))=some (Zs G J I):=by
    rcases l.2 with⟨_,h0⟩|⟨fb,aw,ax,ev,_,hh,_,_,_⟩
    ·omega
    injection ev with al _ _;subst al;have hc:=l.cells (g:=fb) rfl;simp only[E.addr_add] at hc
    have d:∀(i:Nat)u,(Og (zp,zi,Zs G J I))[i]? = some u->wr.cell? (Zd fb (k*3+i))=some u:=λi u P=>by have:=hc (k*3+i) u (Hi (k:=3) (enc:=Og) (λ_=>rfl) hz P);simpa using this
    exact⟨fb,rfl,E.Ac hh,d 0 _ rfl,d 1 _ rfl,d 2 _ rfl⟩
   subst am;simp only at n o;subst n o;have O:=XH hr;have ar:=aj.o r O;have c:=ad.o r O;have ao:(k:Int)<(rs.length:Int):=by omega
   have Y:=Aa (S.Cs hr);have HA:Hid (Below wr.1.size wr (wr.alloc (Zk #[Zt r.1,Zi r.2.1,Zs G J I] 99))):=Aa (Zal)
   have a0:w.1.size<wr.1.size:=by obtain⟨_,d0,_⟩:=HT.o.ex;exact V9 d0
   obtain⟨D,d1,d2,d3⟩:=(HT.o.up HA.o).ex;have V:=Aa d1;have s:=Aa d2;have t:=Aa d3;have y:=Aa (Mh ar);clear d1 d2 d3 l hr hz O HT;have c0:=Yac wr (Zk #[Zt r.1,Zi r.2.1,Zs G J I] 99);have q0:=S.cell_of_heap c0 0;have q1:=S.cell_of_heap c0 1;simp at q0 q1;clear c0;go_wp2_with fail;have ae:=Aa (Vx V.o ((XB _ _).drew));have af:=Aa (Vx V.o ((((XB _ _).alloc (XC _) (Zk #[Zi r.2.1] 3))).drew))
   have W:Hid (((wr.alloc (Zk #[Zt r.1,Zi r.2.1,Zs G J I] 99)).alloc (Zk #[Zi r.2.1] 3)).drew.heap[wr.1.size+1]? = some (Zk #[Zi r.2.1] 3)):=Aa (by have:=Yac (wr.alloc (Zk #[Zt r.1,Zi r.2.1,Zs G J I] 99)) (Zk #[Zi r.2.1] 3);rwa[World.size_alloc] at this)
   have x:Hid (((wr.alloc (Zk #[Zt r.1,Zi r.2.1,Zs G J I] 99)).alloc (Zk #[Zi r.2.1] 3)).drew.heap[wr.1.size]? = some (Zk #[Zt r.1,Zi r.2.1,Zs G J I] 99 (0,0))):=Aa (((((XB _ _).alloc (XC _) (Zk #[Zi r.2.1] 3)).drew).block wr.1.size (by simp)).trans (Yac wr _));have a2:=T.o.size
   go_region_held3 (λw'=>w'.cell? (Zd wr.1.size 0)=some (Zt r.1)/\w'.cell? (Zd wr.1.size 1)=some (Zi r.2.1))
    (first
      | (go_keep;done)
      | exact AHp (Hq x.o (a.1.alloc _) (by decide) hg5)
      | exact AHp (Hq x.o a.1 (by decide) hg5)
      | exact AHp ((hgrow6.block _ (Ya (by simp;omega) hg5.size) (λe=>by injection e with e;omega)).trans (Hq x.o (a.1.alloc _) (by decide) hg5))
      | exact AHp ((hgrow6.block _ (Ya (by simp;omega) hg5.size) (λe=>by injection e with e;omega)).trans (Hq x.o a.1 (by decide) hg5))
      | fail)
    (first
      | (refine Ke Wl underlying168 (U5 _) ae.o (by unfold maxLen;omega) y.o ?_;intro v5 q d a av f)
      | (refine Ke Wl underlying168 (U5 _) af.o (by unfold maxLen;omega) y.o ?_;intro v5 q d a av f)
      | (refine step_append_lies _ (by rfl) (.tmp 19) (.tmp 22) 23 (by rfl) (w.1.size+1) 3 i0 (Zi 0) 1 8 underlying23 b.o.1 b.o.2.1 b.o.2.2.1 b.o.2.2.2 rfl (by decide) v5 q.length (q.map (Value.int .i64)) (by rfl) (a.1.alloc _) (Zd (wr.1.size+1) 0) 1 1 [Zi r.2.1] (by rfl) rfl (λj u hj=>XI W.o j u hj) (by intro u P;simp at P;subst P;rfl) (by omega) (by unfold maxLen;omega) (by omega) (by simp;omega) _ rfl ?_;intro g5 c5 w5 ho5 hg5 hat5 hlt5)
      | (refine step_append_lies _ (by rfl) (.tmp 19) (.tmp 22) 23 (by rfl) (w.1.size+1) 3 i0 (Zi 0) 1 8 underlying23 b.o.1 b.o.2.1 b.o.2.2.1 b.o.2.2.2 rfl (by decide) v5 q.length (q.map (Value.int .i64)) (by rfl) a.1 (Zd (wr.1.size+1) 0) 1 1 [Zi r.2.1] (by rfl) rfl (λj u hj=>XI W.o j u hj) (by intro u P;simp at P;subst P;rfl) (by omega) (by unfold maxLen;omega) (by omega) (by simp;omega) _ rfl ?_;intro g5 c5 w5 ho5 hg5 hat5 hlt5)
      | (refine Xs f ((XU _ _ _).trans hg5) (a.appended ho5 (WalkArith.wf_i64 (by have:=c.1;have:=c.2;omega))) (by simp;omega) (hat5.imp (λh=>h.symm) (λh=>⟨_,by rw[h];rfl,by simp⟩)) ?_;intro w6 hown6 hgrow6)
      | (refine Xs f hg5 (a.appended ho5 (WalkArith.wf_i64 (by have:=c.1;have:=c.2;omega))) (by simp;omega) (hat5.imp (λh=>h.symm) (λh=>⟨_,by rw[h];rfl,by simp⟩)) ?_;intro w6 hown6 hgrow6)
      | fail)
   ·have R:=Sd (t.o r.1) d a
    have N:=a.appended ho5 (WalkArith.wf_i64 (by have:=c.1;have:=c.2;omega));rw[N.datum_pos (by simp)] at hown6;have M:=Aa hown6;clear hown6;go_wp2;refine⟨⟨k+1,by omega,by simp,Aa ⟨_,M.o,s.o.put _ _,?_⟩,Aa ((Ap T.o (Ap HA.o ((XB _ _).drew))).groups a ((XU _ _ _).trans hg5) hgrow6 (by simp;omega) (Wb _) (XC _))⟩,by simp only[Ev];omega⟩;rw[Y.o];exact sO s.o t.o R
   have R:=Sd (t.o r.1) d a;have N:=a.appended ho5 (WalkArith.wf_i64 (by have:=c.1;have:=c.2;omega));rw[N.datum_pos (by simp)] at hown6;have M:=Aa hown6;clear hown6;go_wp2;refine⟨⟨k+1,by omega,by simp,Aa ⟨_,M.o,s.o.put _ _,?_⟩,Aa ((Ap T.o (Ap HA.o (((XB _ _).alloc (XC _) (Zk #[Zi r.2.1] 3)).drew))).groups a hg5 hgrow6 (by simp;omega) (Wb _) (XC _))⟩,by simp only[Ev];omega⟩;rw[Y.o];exact sO s.o t.o R
  have ao:¬((k:Int)<(rs.length:Int)):=by omega
  have an:k=rs.length:=by omega
  subst an;have L:=HT.o;rw[Yg] at L;have ak:=Aa L;clear L;go_wp2;go_ret;exact⟨w.1.size,rfl,XC _,ak.o,T.o⟩
def tK(w:World)(s:Ah)(Eb:Int)(g:ByteArray)(T:S.CT)(xs:List A6)(e:Ending)(a:World):Prop :=
 Zb w a/\((s.qz=[]/\e=.returned (.tuple #[.pointer none,.slice none 0 0,.iface 91 (Zi 6)])) \/
  (s.qz≠[]/\Ex s.qz T≠0/\e=.returned (.tuple #[.pointer none,.slice none 0 0,AEy (Ex s.qz T)])) \/
  (s.qz≠[]/\Ex s.qz T=0/\∃b v' c n1 c1 h d n2 f,e=.returned (.tuple #[.pointer (some ⟨b,0,none⟩),v',.nilIface])/\Dv w.1.size a b s Eb c n1 c1 h d n2 f g true none 0 [] ((Bo s.qz T xs).1.length:Int)/\Fp w.1.size w.1.size a v' (Bo s.qz T xs).1))
theorem Fp.base{B n:Nat}{w:Tw}{v:Tv}{rs:List Px}(h:Fp B B w v rs)(d:n<=B):Fp n n w v rs:=by obtain⟨zs,e,f,a⟩:=h;exact⟨zs,e,E.Ai f d,λj x r c b=>⟨(a j x r c b).1,(a j x r c b).2.1,E.Ai (a j x r c b).2.2 d⟩⟩
theorem Fp.far{w W:Tw}{I B b:Nat}{v:Tv}{rs:List Px}{cs:Array Tv}{t:TypeId}(h:Fp I B w v rs)(a:w.1[b]? = some (Zk cs t (0,0)))(g:t≠99)(i:t≠67)(c:w.grownBy W (some b)):Fp I B W v rs:=by obtain⟨zs,d,e,f⟩:=h;refine⟨zs,d,Mk e a g c,λj z r l k=>?_⟩;obtain⟨m,n,o⟩:=f j z r l k;exact⟨m,n,Mk o a i c⟩
theorem AKm{W:Tw}{b:Nat}{f a e c d k g l:Tv}{t:TypeId}(h:W.1[b]? = some (Zk #[f,a,e,c,d,k,g,l] t (0,0)))(u v:Tv):((W.setCell (Zd b 5) u).setCell (Zd b 7) v).heap[b]? = some (Zk #[f,a,e,c,d,u,g,v] t (0,0)):=by have i:=As W b 5 _ _ u h;have j:=As _ b 7 _ _ v i;simpa using j
theorem Wo(bb n:Nat)(D:Td)(mv:Tv)(H:List (Dn×Ah))(v:Tb)(xs:List A6)(T:S.CT)(G:Tv)(w:Tw)(h:Ground w bb n D mv)(O:B.Ob w)(t:S.Lp w)(R:U6 D H)(U:La H)(O5:H.length<=40)(u:Bx v=true)(I:v.size<=12)(x:Xh D (Ae H H.length) xs)(P:S.Gy w T G):
 Zc 45 #[Zp (some (Zd bb 0)),Zt v,G] w (tK w (Ae H H.length) H.length v T xs):=by
 have o:=Aa (fH bb n D mv H v w h R U O5 u I);have m:=Aa (λ(sv:Tv)W(y:Zb w W)(hS:Dl W (Ae H H.length) sv)=>oS bb n D mv (Ae H H.length) sv xs T G W (h.up y) (O.below y) (t.below y) hS x (P.up y));have ab:=Aa (L0 (Ae H H.length).qz T xs x.each);have ac:=x.Iz;have aa:Hid (∀W,Dl W (Ae H H.length)=Dl W (Ae H H.length)):=Aa λ_=>rfl
 unfold tK;unfold qP at m;generalize Ae H H.length=L at *;clear h O t R U x P u;go_enter func45,ntmps45;go_wp2_with fail;apply o.o.mono;rintro e w1⟨g,⟨r,rfl⟩|⟨r,l,a1,n1,c1,x2,a2,n2,c2,rfl,J⟩⟩
 ·have q:=Aa (And.intro r g)
  clear r g;go_wp2_with fail;go_ret3;exact⟨q.o.2,.inl ⟨q.o.1,rfl⟩⟩
 have f:=Aa g;have q:=Aa r;have M:=Aa J;obtain⟨Y,y1,y2,y3,y4,y5,y6,y7,yf⟩:=F2 J.box;clear g r J o;go_wp2_with fail;refine(m.o _ _ f.o M.o.snap).mono ?_;rintro e X⟨d,⟨s,rfl⟩|⟨V,v2,rfl,k⟩⟩
 ·have j:=Aa s
  have i:=Aa d;clear s d;rw[Et j.o];go_wp2_with fail;go_ret3;exact⟨Ap f.o i.o,.inr (.inl ⟨q.o,j.o,by rw[Et j.o];rfl⟩)⟩
 have HZ:=Aa V;have i:=Aa d;have z:=Aa k;have b:=Aa (M.o.up d)
 obtain⟨fa,fc,rfl,_⟩:∃a c,v2=Zs a (Bo L.qz T xs).1.length c/\(Bo L.qz T xs).1.length<=c:=by obtain⟨zs,_,e2,_⟩:=k;exact Au e2
 clear V d k Y y1 y2 y3 y4 y5 y6 y7 yf;obtain⟨Y,y1,y2,y3,y4,y5,y6,y7,yf⟩:=F2 b.o.box;go_wp2_with fail;go_ret3;have N:X.grownBy ((X.setCell (Zd l 5) (Zo true)).setCell (Zd l 7) (Zi ((Bo L.qz T xs).1.length:Int))) (some l):=Gp (Aq _ _ _ _) (Aq _ _ _ _);exact⟨((Ap f.o i.o).setCell (p:=Zd l 5) b.o.low _).setCell (p:=Zd l 7) b.o.low _,.inr (.inr ⟨q.o,HZ.o,l,_,a1,n1,c1,x2,a2,n2,c2,rfl,b.o.set N (AKm b.o.box _ _),(z.o.base f.o.size).far b.o.box (by decide) (by decide) N⟩)⟩
theorem Told.pa{w W:Tw}{base m n:Nat}{rs:List Px}(h:Told w m n rs)(l:B.A0 (PA w base) w W):Told W m n rs:=by
 obtain⟨D,d,p,q⟩:=h.ex;refine⟨D,Xe d (l.block m (V9 d) ?_) λv zs j=>⟨?_,j.2⟩,p,q⟩
 ·rintro⟨_,cs,T,e,_⟩
  obtain⟨es,clock,r,_⟩:=d;rw[r] at e;cases e
 refine⟨j.1.1,?_⟩
 rcases j.1.2 with o|⟨g,c,b,s,f,i,k⟩
 ·exact .inl o
 refine .inr ⟨g,c,b,s,f,(l.block g (Ac i) ?_).trans i,k⟩;rintro⟨_,cs,T,e,a⟩;rw[i] at e;injection e with e;injection e with _ e;subst e
 rcases a with a|a <;> exact absurd a (by decide)
theorem dC{base:Nat}{a b c:Tw}(h:B.A0 (PA a base) a b)(k:B.A0 (PA b base) b c):B.A0 (PA a base) a c :=
 h.trans k λi j e=>by
  by_cases hs:PA a base i
  ·exact hs
  obtain⟨d,cs,T,f,g⟩:=e;exact⟨d,cs,T,(h.block i j hs).symm.trans f,g⟩
theorem AGu(l:List Aj)(T:S.CT)(x:A6):(Vm l T x).length<=1:=by
 unfold Vm;split
 ·exact XA _
 split <;> exact XC _
theorem rV(l:List Aj)(T:S.CT):∀xs:List A6,(xs.flatMap (Vm l T)).length<=xs.length
 | []=>XC _
 | x :: xs=>by have:=rV l T xs;have:=AGu l T x;rw[XV,XG,List.length_cons];omega
theorem AK0(qk:Tb)(qv:List Int)(l:List Aj)(T:S.CT)(rs:List (List V))(b:rs.length<=1000):∀z∈Jw qk qv l T 0 rs,Lu z.2.1:=λz a=>by
 have:=(Pv qk qv l T rs 0).1 z a;exact⟨by omega,by omega⟩
theorem AJ0{D:Td}{l:List Aj}{xs:List A6}(c:∀x∈xs,Gt D x):∀z∈(Bo l .nil xs).1,Lu z.2.1/\z.1.size<=maxLen:=λz a=>by
 rw[H9] at a;obtain⟨x,b,a⟩:=List.mem_flatMap.1 a;have h:=c x b;refine⟨AK0 _ _ _ _ _ ?_ z a,?_⟩
 ·rw[J2]
  have:=(B4.mp h.ok).2.2.1;omega
 rw[N2 z a];have:=h.name;unfold maxLen;omega
theorem mL(base bb n:Nat)(D:Td)(mv:Tv)(pb:Nat)(s:Ah)(v:Int)(a1:To)(n1 c1:Nat)(x2:Int)(a2:To)(n2 c2:Nat)(tx:Tb)(rd:Bool)(aa:To)(ac:Nat)(L:List Gx)(qj:Int)(Bf:Nat)(rv:Tv)(T:S.CT)(xs:List A6)(w:Tw)(h:Ground w bb n D mv)(he:B.Ob w)(b4:S.Lp w)(hP:Dv base w pb s v a1 n1 c1 x2 a2 n2 c2 tx rd aa ac L qj)(cl:base<=w.1.size)(V:Xh D s xs)(hg:Good Bv Cm s)(hF:jE Bf w rv (Bo s.qz T xs).1)(W:(Bo s.qz T xs).1=(Bo s.qz .nil xs).1.filter (Q9 s.qz T))(hL:L.length<=10):
 Zc 46 #[Zp (some (Zd bb 0)),Zp (some (Zd pb 0)),rv] w λe w'=>e=Zr Zn/\(∃f j t,Dv base w' pb s v a1 n1 c1 x2 a2 n2 c2 tx rd f j (L++t) qj/\t.map (·.1)=xs.flatMap (Vm s.qz T))/\B.A0 (PA w base) w w':=by
 have O5:=hg.Iz;have c7:xs.length<=40:=by have:=congrArg List.length V.qx;rw[XF] at this;omega
 have b3:(xs.map (·.1.1)).Nodup:=by have:=hg.once;rw[<-V.qx,XW] at this;exact this
 have ct:n2=xs.length:=by obtain⟨b1,d1,b2,d2,Ls,ev,hV⟩:=hP.snap;unfold K4 at ev;simp only[Value.agg.injEq,Array.mk.injEq,List.cons.injEq,Value.int.injEq,Value.slice.injEq] at ev;have h1:=congrArg List.length hV.qx;have h2:=congrArg List.length V.qx;rw[XF] at h1 h2;omega
 subst ct;have M:=Aa (AJ0 (l:=s.qz) V.each);have av:=Aa (L0 s.qz .nil xs V.each);have aw:=Aa (L0 s.qz T xs V.each)
 have ak:Hid (∀z∈(Bo s.qz T xs).1,Lu z.2.1/\z.1.size<=maxLen):=Aa λz hz=>by rw[W] at hz;exact M.o z (List.mem_filter.1 hz).1
 have ce:Hid (∀x∈xs,aJ (Bo s.qz T xs).1 x.1.1=Ct s.qz T x/\(aJ (Bo s.qz .nil xs).1 x.1.1).length=(E4 s.qz x).length):=Aa λx hx=>by refine⟨?_,by rw[ADn s.qz b3 hx,XF]⟩;rw[W,H9];exact Wm s.qz _ xs b3 x hx
 have J:=Aa (oS bb n D mv s _ xs .nil (Zp none) w h he b4 hP.snap V rfl);unfold qP at J;simp only[dB] at J;have cc:=Aa V.qx;have HP:=Aa hP;have HF:=Aa hF;have cb:=Aa (λx(hx:x∈xs)=>And.intro (V.each x hx).name (V.each x hx).qv);obtain⟨y0,y1,y2,y3,y4,y5,y6,y7,yf⟩:=F2 hP.box
 obtain⟨fa,fc,rfl,_⟩:∃a c,rv=Zs a (Bo s.qz T xs).1.length c/\(Bo s.qz T xs).1.length<=c:=by obtain⟨zs,_,e2,_⟩:=hF;exact Au e2
 clear h he b4 V hg hF W hP;unfold K4 at J;go_enter func46,ntmps46;go_wp2_with fail;apply J.o.mono;rintro e w1⟨bw,⟨q,_⟩|⟨_,v1,rfl,bd⟩⟩
 ·exact absurd rfl q
 obtain⟨va,vc,rfl,_⟩:∃a c,v1=Zs a (Bo s.qz .nil xs).1.length c/\(Bo s.qz .nil xs).1.length<=c:=by obtain⟨zs,_,e2,_⟩:=bd;exact Au e2
 have bh:=Aa bw;have bl:=Aa (fE _ _ _ w1 bd.AJP (by have:=av.o.2;omega) (λr hr=>(M.o r hr).2) (λr hr=>(M.o r hr).1));clear bw bd J y0 y1 y2 y3 y4 y5 y6 y7 yf;go_wp2_with fail;apply bl.o.mono;rintro e w2⟨m1,rfl,c5,bu,bx⟩;have aq:=Aa (Ap bh.o bx);have bn:=Aa bu;have bm:=Aa (fE _ _ _ w2 (HF.o.up aq.o) (by have:=aw.o.2;omega) (λr hr=>(ak.o r hr).2) (λr hr=>(ak.o r hr).1));clear bx bu bl;go_wp2_with fail;apply bm.o.mono;rintro e w3⟨m2,rfl,c6,bv,bc⟩;have ar:=Aa (Ap aq.o bc);have al:=Aa (bn.o.up bc);have bo:=Aa bv;have az:=Aa (HP.o.up ar.o);clear bc bv bm bn;obtain⟨y0,y1,y2,y3,y4,y5,y6,y7,yf⟩:=F2 az.o.box;go_wp2_with fail;clear y0 y1 y2 y3 y4 y5 y6 y7 yf;have bk:Hid (B.A0 (PA w base) w w3):=Aa (B.A0.Ba ar.o)
 go_loopw [37] (λvi wr=>∃(k:Nat)(f:To)(j:Nat)(t:List Gx),k<=xs.length/\vi=Zi (k:Int)/\t.length<=k/\Hid (Dv base wr pb s v a1 n1 c1 x2 a2 xs.length c2 tx rd f j (L++t) qj)/\Hid (t.map (·.1)=(xs.take k).flatMap (Vm s.qz T))/\Hid (Told wr m1 (Bo s.qz .nil xs).1.length (Bo s.qz .nil xs).1)/\Hid (Told wr m2 (Bo s.qz T xs).1.length (Bo s.qz T xs).1)/\Hid (B.A0 (PA w base) w wr)) (λvi _=>xs.length-Ev vi)
 case atStart=>exact⟨0,aa,ac,[],XA _,rfl,XC _,Aa (by rw[XP];exact az.o),Aa rfl,al,bo,bk⟩
 case round=>
  clear az al bo bk ar aq bh;obtain⟨k,f,j,t,hk,rfl,c0,ah,HM,a5,a6,HO⟩:=hrel
  rcases Yc k xs.length with cs|c4
  ·obtain⟨x,ai⟩:∃x,xs[k]? = some x:=⟨_,Y' cs⟩
   obtain⟨b1,d1,b2,d2,Ls,ev,hV⟩:=ah.o.snap;unfold K4 at ev;simp only[Value.agg.injEq,Array.mk.injEq,List.cons.injEq,Value.int.injEq,Value.slice.injEq] at ev;obtain⟨-,-,-,⟨e1,e2,e3⟩,-⟩:=ev;subst e1 e3;obtain⟨y,bg⟩:∃y,Ls[k]? = some y:=⟨_,Y' (by omega)⟩
   have a9:y.1=x.1:=by
    have h1:(xs.map (·.1))[k]? = some x.1:=by simp[ai]
    rw[cc.o,hV.qx,XR,bg] at h1;simpa using h1
   have b5:=XH ai;obtain⟨⟨⟨b,m,qv⟩,l0,xr⟩,ex⟩:∃q,q=x:=⟨_,rfl⟩;obtain⟨ye,⟨ma,mn,mc⟩⟩:=y;have bt:ye=(b,m,qv):=by rw[<-ex] at a9;exact a9
   subst bt ex;have ae:=hV.row
   obtain⟨fb,co,c3,e0,e1,cz⟩:∃fb,a2=some (Zd fb 0)/\fb<wr.1.size/\wr.cell? (Zd fb (k*3))=some (Zt b)/\wr.cell? (Zd fb (k*3+1))=some (Zi m)/\wr.cell? (Zd fb (k*3+2))=some (Zs ma mn mc):=by
    rcases ae.2 with⟨_,h0⟩|⟨fb,cx,cy,ev,_,hh,_,_,_⟩
    ·omega
    injection ev with ch _ _;subst ch;have hc:=ae.cells (g:=fb) rfl;simp only[E.addr_add] at hc
    have ba:∀(i:Nat)u,(Lv ((b,m,qv),ma,mn,mc))[i]? = some u->wr.cell? (Zd fb (k*3+i))=some u:=λi u hu=>by have:=hc (k*3+i) u (Hi (k:=3) (enc:=Lv) (λ_=>rfl) bg hu);simpa using this
    exact⟨fb,rfl,E.Ac hh,ba 0 _ rfl,ba 1 _ rfl,ba 2 _ rfl⟩
   subst co;obtain⟨ab,ad⟩:=ce.o _ b5;have cq:(k:Int)<(xs.length:Int):=by omega
   have a4:Hid ((xs.take (k+1)).flatMap (Vm s.qz T)=(xs.take k).flatMap (Vm s.qz T)++Vm s.qz T ((b,m,qv),l0,xr)):=Aa (by rw[S.Cs ai];simp);have bf:b.size<=maxLen:=by have:=(cb.o _ b5).1;unfold maxLen;simp only at this;omega
   have O:=Aa (Mh bf);have o:Hid (Zb wr (wr.alloc (Zk #[Zt b,Zi m,Zs ma mn mc] 143))):=Aa (Zal);have cw:=Aa (Yac wr (Zk #[Zt b,Zi m,Zs ma mn mc] 143));obtain⟨Da,bp,cf,bq⟩:=(a5.o.up o.o).ex;obtain⟨Df,br,cg,bs⟩:=(a6.o.up o.o).ex;have bj:=Aa (And.intro bp (bq b));have ag:=Aa (And.intro br (bs b));have cr:(Bo s.qz .nil xs).1.length<maxLen:=by have:=av.o.2;unfold maxLen;omega
   have b0:(Bo s.qz T xs).1.length<maxLen:=by have:=aw.o.2;unfold maxLen;omega
   simp only at ab ad;have a0:=Aa (And.intro ab ad);clear bp cf bq br cg bs hV ae a9 bg ai ab ad e2;go_wp2_with fail;have au:Hid (Vm s.qz T ((b,m,qv),l0,xr)=if Ct s.qz T ((b,m,qv),l0,xr)=[] then [] else if (Ct s.qz T ((b,m,qv),l0,xr)).length=(E4 s.qz ((b,m,qv),l0,xr)).length then [(2,b,0,[],[],0)] else [(3,b,0,Ct s.qz T ((b,m,qv),l0,xr),[],0)]):=Aa rfl;generalize Ct s.qz T ((b,m,qv),l0,xr)=PL at *;generalize (E4 s.qz ((b,m,qv),l0,xr)).length=NP at *;generalize Vm s.qz T ((b,m,qv),l0,xr)=GA at *;refine Ke Wl underlying168 (U5 _) ag.o.1 b0 O.o ?_;intro v5 d am ap b6 _;have cu:d=PL:=(Sd ag.o.2 am ap).trans a0.o.1;subst cu;obtain⟨da,dc,ci,_⟩:=Au ap.1;subst ci;have c8:d.length<=100000:=by have:=aw.o.2;omega
   have a3:=Aa (ah.o.up o.o);have P:=Aa (a5.o.up o.o);have R:=Aa (a6.o.up o.o);have ay:=Aa (dC HO.o (B.A0.Ba o.o));have bz:base<=(wr.alloc (Zk #[Zt b,Zi m,Zs ma mn mc] 143)).1.size:=XE (XE cl HO.o.size) o.o.size;have bi:=Aa bz;clear am b6 bz HO ah a5 a6
   by_cases hq1:d=[]
   ·have N:Hid (GA=[]):=Aa (by rw[au.o,Yae hq1])
    have cm:((d.length:Nat):Int)=0:=by rw[hq1];rfl
    clear hq1;go_wp2
    go_roundw
    case rel=>refine⟨k+1,f,j,t,by omega,by simp,by omega,a3,Aa ?_,P,R,ay⟩;rw[HM.o,a4.o,N.o,XP]
    case measure=>simp only[Ev];omega
   have cm:¬((d.length:Nat):Int)=0:=λe=>hq1 (Yag.1 (by omega))
   go_wp2_with fail;refine Ke Wl underlying168 (U5 _) bj.o.1 cr O.o ?_;intro v6 af an Y b7 _;have aj:af.length=NP:=by rw[Sd bj.o.2 an Y];exact a0.o.2
   obtain⟨db,dd,cj,_⟩:=Au Y.1;subst cj;have c9:af.length<=100000:=by have:=av.o.2;omega
   clear an b7 Y
   by_cases hq2:d.length=af.length
   ·have N:Hid (GA=[(2,b,0,[],[],0)]):=Aa (by rw[au.o,Yad hq1,Yae (by rw[hq2,aj])])
    have cn:((d.length:Nat):Int)=((af.length:Nat):Int):=by omega
    have I:=Aa (N3 base pb s v a1 n1 c1 x2 _ xs.length c2 tx rd f j (L++t) qj _ a3.o bi.o 2 b 0 [] [] 0 none 0 0 none 0 0 ⟨XD _ _ _ _,XD _ _ _ _⟩ ⟨bf,XA _,(λx hx=>by cases hx)⟩ (by rw[XG];omega));clear hq1 hq2 aj;go_wp2_with fail;apply I.o.mono;rintro e w6⟨rfl,⟨a7,a8,U⟩,X⟩;have H6:=Aa (And.intro U X);clear U X I;go_wp2
    go_roundw
    case rel=>refine⟨k+1,a7,a8,t++[((2,b,0,[],[],0),(none,0,0),(none,0,0))],by omega,by simp,by simp;omega,Aa (by rw[<-XX];exact H6.o.1),Aa ?_,Aa (P.o.pa H6.o.2),Aa (R.o.pa H6.o.2),Aa (dC ay.o H6.o.2)⟩;rw[XL,HM.o,a4.o,N.o];rfl
    case measure=>simp only[Ev];omega
   have N:Hid (GA=[(3,b,0,d,[],0)]):=Aa (by rw[au.o,Yad hq1,Yad (λe=>hq2 (by rw[e,aj]))]);have cn:¬((d.length:Nat):Int)=((af.length:Nat):Int):=by omega
   clear hq1 hq2 aj;go_wp2_with fail;refine Ke Wl underlying168 (U5 _) ag.o.1 b0 O.o ?_;intro v7 G ao p b8 _;have cv:G=d:=(Sd ag.o.2 ao p).trans a0.o.1;subst cv;obtain⟨b9,ca,ck,_⟩:=Au p.1;subst ck;have I:=Aa (N3 base pb s v a1 n1 c1 x2 _ xs.length c2 tx rd f j (L++t) qj _ a3.o bi.o 3 b 0 G [] 0 b9 G.length ca none 0 0 ⟨E.Ai p.1 (XA _),XD _ _ _ _⟩ ⟨bf,by show G.length<=600000;omega,(λx hx=>by cases hx)⟩ (by rw[XG];omega));clear ao b8 p;go_wp2_with fail;apply I.o.mono;rintro e w6⟨rfl,⟨a7,a8,U⟩,X⟩;have H6:=Aa (And.intro U X);clear U X I;go_wp2
   go_roundw
   case rel=>refine⟨k+1,a7,a8,t++[((3,b,0,G,[],0),(b9,G.length,ca),(none,0,0))],by omega,by simp,by simp;omega,Aa (by rw[<-XX];exact H6.o.1),Aa ?_,Aa (P.o.pa H6.o.2),Aa (R.o.pa H6.o.2),Aa (dC ay.o H6.o.2)⟩;rw[XL,HM.o,a4.o,N.o];rfl
   case measure=>simp only[Ev];omega
  have cq:¬((k:Int)<(xs.length:Int)):=by omega
  have cp:k=xs.length:=by omega
  subst cp;have ax:=HM.o;rw[Yg] at ax;have cd:=Aa ax;clear ax;go_wp2;go_ret;exact⟨rfl,⟨f,j,t,ah.o,cd.o⟩,HO.o⟩
variable{W w:Tw}{v:Tv}{x:V}{L c r:List V}{l:List Aj}{s:Ah}{I k m:Nat}{y:Int}{D:Td}
def SlJ(I B:Nat)(w:World)(v:Value)(qj:List (List V)):Prop:=∃a:List Value,a.length=qj.length/\w.ownsRow B 71 1 v qj.length a/\∀(j:Nat)x r,a[j]? = some x->qj[j]? = some r->w.ownsRow I 67 3 x r.length (E.AKn r)
theorem AHj(I B:Nat)(w:Tw):SlJ I B w (Zs none 0 0) []:=⟨[],rfl,XD _ _ _ _,λj x r a=>by simp at a⟩
theorem SlJ.o{I B:Nat}{qj:List (List V)}(h:SlJ I B w v qj):Sc B w v qj:=by obtain⟨f,a,b,c⟩:=h;exact⟨f,a,b,λj x r e d=>E.Ai (c j x r e d) (XA _)⟩
theorem SlJ.snoc{I B:Nat}{v v':Tv}{qj:List (List V)}{X:List Tv}{x:Tv}(g:X.length=qj.length)(i:w.ownsRow B 71 1 v qj.length X)(l:∀(j:Nat)x r,X[j]? = some x->qj[j]? = some r->w.ownsRow I 67 3 x r.length (E.AKn r))(s:w.ownsRow I 67 3 x r.length (E.AKn r))(o:w.grownBy W v.ownBlock)(p:W.ownsRow B 71 1 v' (qj.length+1) (X++[x])):SlJ I B W v' (qj++[r]):=by
 have c:∀{y:Tv}{n:Nat}{h:List Tv},w.ownsRow I 67 3 y n h->W.ownsRow I 67 3 y n h:=λa=>Az a o λk c e=>a8 i a (by decide) k e c
 refine⟨X++[x],by simp[g],?_,λj y q a b=>?_⟩
 ·simpa using p
 rcases Yc j X.length with f|d
 ·rw[XK f] at a
  rw[XK (by omega)] at b;exact c (l j y q a b)
 rw[XJ d] at a;rw[XJ (by omega)] at b;rw[g] at a;cases hj:j-qj.length with
 | zero=>rw[hj] at a b;simp at a b;subst a b;exact c s
 | succ m=>rw[hj] at a;simp at a
theorem X7(I B:Nat)(v:Tv)(rs:List Px)(w:Tw)(hF:Fp I B w v rs)(ao:rs.length<=100000):
 Zc 49 #[v] w λe w'=>∃v',e=Zr v'/\SlJ I w.1.size w' v' (rs.map (·.2.2))/\Zb w w':=by
 obtain⟨zs,e1,e2,e3⟩:=hF;obtain⟨fa,fc,rfl,_⟩:=Au e2;have W:=Aa e1;have X:=Aa e2;have Y:=Aa e3;obtain⟨iC,N,O,P,R⟩:=info_parts eI;have h:=Zy N O P R;clear e1 e2 e3 N O P R;go_enter func49,ntmps49;go_wp2_with fail
 go_loopw [3,8] (λvo vi wr=>∃(k:Nat)(a:To)(c:Nat),k<=rs.length/\vi=Zi (k:Int)/\vo=Zs a k c/\Hid (SlJ I w.1.size wr (Zs a k c) ((rs.take k).map (·.2.2)))/\Hid (Zb w wr)) (λ_ vi _=>rs.length-Ev vi)
 case atStart=>exact⟨0,none,0,XA _,rfl,rfl,Aa (AHj _ _ _),Aa (XB _ _)⟩
 case round=>
  obtain⟨k,a,c,hk,rfl,rfl,HO,p⟩:=hrel
  rcases Yc k rs.length with aj|an
  ·obtain⟨r,hr⟩:∃r,rs[k]? = some r:=⟨_,Y' aj⟩
   obtain⟨z,hz⟩:∃z,zs[k]? = some z:=⟨_,Y' (by have:=W.o;omega)⟩;obtain⟨_,_,o⟩:=Y.o k z r hz hr;obtain⟨zp,zi,zv⟩:=z;obtain⟨T,U,ez,_⟩:=Au o;simp only at ez;subst ez;have f:=E.Ad X.o p.o
   obtain⟨fb,ag,am,f0,f1,f2⟩:∃fb,fa=some (Zd fb 0)/\fb<wr.1.size/\wr.cell? (Zd fb (k*3))=some (Zt zp)/\wr.cell? (Zd fb (k*3+1))=some (Zi zi)/\wr.cell? (Zd fb (k*3+2))=some (Zs T r.2.2.length U):=by
    rcases f.2 with⟨_,h0⟩|⟨fb,ak,al,ev,_,hh,_,_,_⟩
    ·omega
    injection ev with af _ _;subst af;have hc:=f.cells (g:=fb) rfl;simp only[E.addr_add] at hc
    have n:∀(i:Nat)u,(Og (zp,zi,Zs T r.2.2.length U))[i]? = some u->wr.cell? (Zd fb (k*3+i))=some u:=λi u V=>by have:=hc (k*3+i) u (Hi (k:=3) (enc:=Og) (λ_=>rfl) hz V);simpa using this
    exact⟨fb,rfl,E.Ac hh,n 0 _ rfl,n 1 _ rfl,n 2 _ rfl⟩
   subst ag;have ai:(k:Int)<(rs.length:Int):=by omega
   have M:rs.take (k+1)=rs.take k++[r]:=S.Cs hr;have ae:Hid ((rs.take (k+1)).map (·.2.2)=(rs.take k).map (·.2.2)++[r.2.2]):=Aa (by rw[M];simp);have J:((rs.take k).map (·.2.2)).length=k:=by rw[XF,XS];omega
   have HX:=Aa (E.Ad o p.o);obtain⟨vs,o1,o2,o3⟩:=HO.o;have ab:=Aa o1;have m:=Aa o2;have ac:=Aa o3;have t:=Aa J;obtain⟨t0,t1,t2,t3⟩:=ALM wr (Zk #[Zt zp,Zi zi,Zs T r.2.2.length U] 99) (Zk #[Zs T r.2.2.length U] 71);have b:=Aa t3;have aa:=Aa t2;have L:=p.o.size;clear M J o1 o2 o3 o f t0 t1 t2 t3
   go_wp2_with (first
    | (at_builtin;refine wpList_append_own _ rfl _ _ 33 rfl w.1.size 71 iC (.slice none 0 0) 1 24 underlying33 h.o.1 h.o.2.1 h.o.2.2.1 h.o.2.2.2 rfl (by decide) (.slice a k c) k vs rfl (by have q:=E.Ad m.o b.o;rw[t.o] at q;exact q) (Zd (wr.1.size+1) 0) 1 1 [.slice T r.2.2.length U] rfl rfl (λj u hj=>XI aa.o j u hj) (by intro u V;simp at V;subst V;rfl) (by unfold maxLen;omega) (by omega) (XE L b.o.size) ?_
       intro v5 w5 d G _;have y:=Aa d;have s:=Aa G;clear d G))
   obtain⟨a',c',rfl,_⟩:=Au y.o;have D:=Ap p.o b.o;refine⟨⟨k+1,a',c',by omega,by simp,rfl,Aa ?_,Aa ?_⟩,by simp only[Ev];omega⟩
   ·rw[ae.o]
    refine SlJ.snoc ab.o (E.Ad m.o b.o) (λj x q hx hq=>E.Ad (ac.o j x q hx hq) b.o) (E.Ad HX.o b.o) s.o ?_;rw[t.o];exact y.o
   exact D.grown s.o D.size (λj hj=>Fu m.o hj)
  have ai:¬((k:Int)<(rs.length:Int)):=by omega
  have ah:k=rs.length:=by omega
  subst ah;have l:=HO.o;rw[Yg] at l;have ad:=Aa l;clear l;go_wp2;go_ret;exact⟨_,rfl,ad.o,p.o⟩
abbrev Vi:=ByteArray×V
def Wu(s:Vi):List Value:=[.string s.1,Zi s.2.1,Zi s.2.2.1,.string s.2.2.2]
structure Tgt(l:List Aj)(A3:List Vi)(ts:List Nat):Prop where
 len:ts.length=A3.length
 find:∀(j:Nat)(t:Nat)(s:Vi),ts[j]? = some t->A3[j]? = some s->Ce l s.1=t/\t<l.length
 once:ts.Nodup
theorem Tgt.nil(l:List Aj):Tgt l [] []:=⟨rfl,(λj t s h=>by simp at h),List.nodup_nil⟩
theorem Tgt.snoc{A3:List Vi}{ts:List Nat}(h:Tgt l A3 ts){s:Vi}{t:Nat}(n:Ce l s.1=t)(p:t<l.length)(o:¬t∈ts):Tgt l (A3++[s]) (ts++[t]):=by
 refine⟨by simp[h.len],λj t' s' c d=>?_,?_⟩
 ·rcases Yc j ts.length with g|f
  ·rw[XK g] at c
   rw[XK (by rw[<-h.len];exact g)] at d;exact h.find j t' s' c d
  rw[XJ f] at c;rw[XJ (by rw[<-h.len];exact f)] at d;rw[<-h.len] at d;cases hj:j-ts.length with
  | zero=>rw[hj] at c d;simp at c d;subst c d;exact⟨n,p⟩
  | succ m=>rw[hj] at c;simp at c
 rw[YR];exact⟨h.once,by simp,λa k b i e=>by simp at i;subst e i;exact o k⟩
theorem Tgt.APv{A3:List Vi}{ts a:List Nat}{j:Nat}{s:Vi}(h:Tgt l (A3.take k) ts)(c:Tgt l A3 a)(m:A3[k]? = some s)(v:Ce l s.1=j)(q:j∈ts):False:=by
 obtain⟨i,p,e⟩:=List.mem_iff_getElem.1 q;have hlen:ts.length=min k A3.length:=by rw[h.len,XS]
 have f:i<k:=by omega
 have b:i<A3.length:=by omega
 have r:=(h.find i j A3[i] (by rw[Y' p,e]) (by rw[List.getElem?_take,Yae f,Y' b])).1;have d:i<a.length:=by rw[c.len];exact b
 have g:k<a.length:=by rw[c.len];exact Ax m
 have t:=(c.find i a[i] A3[i] (Y' d) (Y' b)).1;have u:=(c.find k a[k] s (Y' g) m).1;have n:a[i]=j:=by omega
 have o:a[k]=j:=by omega
 exact List.pairwise_iff_getElem.1 c.once i k d g f (by rw[n,o])
theorem Tgt.unique{A3:List Vi}{ts a:List Nat}(h:Tgt l A3 ts)(b:Tgt l A3 a):ts=a:=by
 refine Y9 (by rw[h.len,b.len]) λi c e=>?_
 have d:i<A3.length:=by rw[<-h.len];exact c
 have f:=(h.find i ts[i] A3[i] (Y' c) (Y' d)).1;have g:=(b.find i a[i] A3[i] (Y' e) (Y' d)).1;omega
def ints(ts:List Nat):List Int:=ts.map λ(t:Nat)=>(t:Int)
theorem uA(g cp:Nat)(l:List Aj)(sa:To)(sc:Nat)(A3:List Vi)(w:Tw)(hs:I1 w g 0 l)(h8:l.length<=8)(hS:F7 4 Wu w (Zs sa A3.length sc) A3)(aq:A3.length<=100):
 Zc 48 #[Zs (some (Zd g 0)) l.length cp,Zs sa A3.length sc] w λe w'=>Zb w w'/\((∃a c ts,e=Zr (Zu #[Zs a A3.length c,Zn])/\w'.ownsRow w.1.size 3 1 (Zs a A3.length c) A3.length ((ints ts).map (.int .i64))/\Tgt l A3 ts)\/((∀ts,¬Tgt l A3 ts)/\∃a n c T y,e=Zr (Zu #[Zs a n c,Zf T y]))):=by
 have ab:=Aa (λnm W(hW:Zb w W)=>E8 g 0 cp l nm W (hs.below hW) h8);have af:=Aa hS;obtain⟨i0,hi,X,Y,aa⟩:=info_parts AGb;have o:=Zy hi X Y aa;clear hs hS hi X Y aa;go_enter func48,ntmps48;go_wp2_with fail
 go_loopw [6,12] (λvo vi wr=>∃(k:Nat)(a:To)(c:Nat)(ts:List Nat),k<=A3.length/\vi=Zi (k:Int)/\vo=Zs a k c/\Hid (wr.ownsRow w.1.size 3 1 (Zs a k c) k ((ints ts).map (.int .i64)))/\Hid (Tgt l (A3.take k) ts)/\Hid (Zb w wr)) (λ_ vi _=>A3.length-Ev vi)
 case atStart=>exact⟨0,none,0,[],XA _,rfl,rfl,Aa (XD _ _ _ _),Aa (Tgt.nil l),Aa (XB _ _)⟩
 case round=>
  obtain⟨k,a,c,ts,hk,rfl,rfl,HO,HT,HB⟩:=hrel
  rcases Yc k A3.length with U|ao
  ·obtain⟨x,I⟩:∃x,A3[k]? = some x:=⟨_,Y' U⟩
   obtain⟨b,off,cc,ev,_,an,d⟩:=(af.o.up HB.o).cons (by omega);injection ev with e1 _ e3;subst e1 e3;obtain⟨nm,vk,vn,vt⟩:=x;have q0:=d k _ I 0 _ rfl;have q1:=d k _ I 1 _ rfl;have q2:=d k _ I 2 _ rfl;have q3:=d k _ I 3 _ rfl;have al:(k:Int)<(A3.length:Int):=by omega
   have V:ts.length=k:=by rw[HT.o.len,XS];omega
   have O:=Aa V;have ag:=Aa (S.Cs I);have HA:Hid (Zb wr (wr.alloc (Zk #[Zt nm,Zi vk,Zi vn,Zt vt] 78))):=Aa (Zal);have p:=Aa (ab.o nm _ (Ap HB.o HA.o));have m:=Aa (Gz l nm);have P:=Aa I;clear d I V;simp only[Nat.add_zero] at q0;obtain⟨fi,G⟩:∃fi,Ce l nm=fi:=⟨_,rfl⟩;rw[G] at p m;have r:=Aa G;clear G;go_wp2_with fail;apply p.o.mono;rintro e w1⟨rfl,D⟩;have f:=Aa (Ap HB.o (Ap HA.o D));have t:=Aa (Bc HO.o (Ap HA.o D));clear D p
   rcases m.o with⟨hf,_⟩|⟨j,hj,hf,_⟩
   ·subst hf
    have s:Hid (∀ts,¬Tgt l A3 ts):=Aa (λJ h'=>by
     have aj:k<J.length:=by rw[h'.len];exact U
     have h3:=(h'.find k J[k] _ (Y' aj) P.o).1;have h4:=r.o;simp only at h3;omega)
    clear m;go_wp2_with fail;go_ret2;exact⟨f.o,.inr ⟨s.o,_,_,_,_,_,rfl⟩⟩
   subst hf;have ap:¬(j:Int)<0:=by omega
   have M:Hid (Ph w1 (Zs a k c) (ints ts)):=Aa (by have:=Ph.Fz (l:=ints ts) (v:=Zs a k c) (w:=w1) (base:=w.1.size) (by rw[show (ints ts).length=k by simp[ints,O.o]];exact t.o);exact this)
   have L:=Aa (Nc (Zs a k c) (ints ts) (j:Int) w1 M.o (by simp[ints,O.o];unfold maxLen;omega));clear m;go_wp2_with fail;apply L.o.mono;rintro e w2⟨rfl,rfl⟩;clear L M;cases hany:(ints ts).any λy=>(j:Int)==y with
   | true=>
     have s:Hid (∀ts,¬Tgt l A3 ts):=Aa (λJ h'=>by
      refine HT.o.APv h' P.o r.o ?_;obtain⟨y,hy,e⟩:=List.any_eq_true.1 hany;obtain⟨q,hq,rfl⟩:=List.mem_map.1 hy;have:j=q:=by have e':=e;simp at e';omega
      rw[this];exact hq)
     clear hany;go_wp2_with fail;go_ret2;exact⟨f.o,.inr ⟨s.o,_,_,_,_,_,rfl⟩⟩
   | false=>
     have ae:Hid (¬j∈ts):=Aa (λhm=>by have:=List.any_eq_false.1 hany (j:Int) (List.mem_map.2 ⟨j,hm,rfl⟩);simp at this)
     clear hany;have i:Hid (Zb w2 (w2.alloc (Zk #[Zi (j:Int)] 3))):=Aa (Zal);have am:=f.o.size;have ad:=Aa hj;clear hj
     go_wp2_with (first
      | (at_builtin;refine wpList_append_own _ rfl _ _ 23 rfl w.1.size 3 i0 (Zi 0) 1 8 underlying23 o.o.1 o.o.2.1 o.o.2.2.1 o.o.2.2.2 rfl (by decide) (.slice a k c) k _ rfl (Bc t.o i.o) (Zd w2.1.size 0) 1 1 [Zi (j:Int)] rfl rfl (λj u hj=>XI (Yac _ _) j u hj) (by intro u hu;simp at hu;subst hu;rfl) (by unfold maxLen;omega) (by omega) (XE am i.o.size) ?_
         intro v5 w5 h R _;have N:=Aa h;have ac:=Aa R;clear h R))
     obtain⟨a',c',rfl,_⟩:=Au N.o;have ai:=(Ap f.o i.o).grown ac.o (Ap f.o i.o).size (λq hq=>Fu t.o hq)
     go_roundw
     case rel=>
      refine⟨k+1,a',c',ts++[j],by omega,by simp,rfl,Aa ?_,Aa ?_,Aa ai⟩
      ·simpa[ints] using N.o
      rw[ag.o];exact HT.o.snoc r.o ad.o ae.o
     case measure=>simp only[Ev];omega
  have al:¬(k:Int)<(A3.length:Int):=by omega
  have ak:k=A3.length:=by omega
  subst ak;have z:=HT.o;rw[Yg] at z;have ah:=Aa z;clear z;go_wp2;go_ret2;exact⟨HB.o,.inl ⟨a,c,rfl,ts,HO.o,ah.o⟩⟩
def Ly(ts:List Nat)(a:List V)(t:Nat):Option V:=((ts.zip a).find? λp=>p.1==t).map (·.2)
def tU(f:Nat->Option V)(r:List V):List V:=r.mapIdx λt x=>(f t).getD x
theorem AD5:∀{ts:List Nat}{L:List V}{i t:Nat}{v:V},ts.Nodup->ts[i]? = some t->L[i]? = some v->Ly ts L t=some v
 | [],_,_,_,_,_,h,_=>by simp at h
 | _ :: _,[],_,_,_,_,_,h=>by simp at h
 | a :: ts,b :: L,0,t,v,_,h1,h2=>by simp at h1 h2;subst h1 h2;simp[Ly]
 | a :: ts,b :: L,i+1,t,v,hn,h1,h2=>by
   rw[XZ] at hn;simp at h1 h2;have d:=AD5 hn.2 h1 h2;have c:¬a=t:=λe=>hn.1 (e ▸ XH h1)
   unfold Ly at d ⊢;simp[c,d]
theorem bI:∀{ts:List Nat}{L:List V}{t:Nat}{v:V},Ly ts L t=some v->∃i:Nat,ts[i]? = some t/\L[i]? = some v
 | [],_,_,_,h=>by simp[Ly] at h
 | _ :: _,[],_,_,h=>by simp[Ly] at h
 | a :: ts,b :: L,t,v,h=>by
   by_cases e:a=t
   ·subst e
    simp[Ly] at h;exact⟨0,rfl,by simp[h]⟩
   have:Ly ts L t=some v:=by unfold Ly at h ⊢;simpa[e] using h
   obtain⟨i,c,d⟩:=bI this;exact⟨i+1,by simpa using c,by simpa using d⟩
def oI(f:Nat->Option V)(r c:List V):Prop:=∀t,t<r.length->c[t]? = r[t]? \/ ∃v,f t=some v/\c[t]? = some v
def fQ(f:Nat->Option V)(r c:List V):Prop:=∀t,t<r.length->c[t]? = some ((f t).getD (r[t]?.getD zV))
theorem oI.refl(f:Nat->Option V)(r:List V):oI f r r:=λ_ _=>.inl rfl
theorem oI.set{f:Nat->Option V}{r c:List V}(h:oI f r c){t:Nat}{v:V}(a:f t=some v)(d:c.length=r.length):oI f r (c.set t v):=λs b=>by
 by_cases e:t=s
 ·subst e
  exact .inr ⟨v,a,by rw[Yj (by omega)]⟩
 rw[Yq e];exact h s b
theorem fQ.set{f:Nat->Option V}{r c:List V}(h:fQ f r c){t:Nat}{v:V}(a:f t=some v)(d:c.length=r.length):fQ f r (c.set t v):=λs b=>by
 by_cases e:t=s
 ·subst e
  rw[Yj (by omega),a];rfl
 rw[Yq e];exact h s b
theorem fQ.eq{f:Nat->Option V}(h:fQ f r c)(d:c.length=r.length):c=tU f r:=by
 apply List.ext_getElem?;intro t;unfold tU;rw[List.getElem?_mapIdx]
 rcases Yc t r.length with a|b
 ·rw[h t a,Y' a]
  simp
 rw[Yb (by omega),Yb b];rfl
theorem oI.done{ts:List Nat}(h:oI (Ly ts L) r c)(f:∀(i t:Nat)v,ts[i]? = some t->L[i]? = some v->c[t]? = some v):fQ (Ly ts L) r c:=λt a=>by
 cases e:Ly ts L t with
 | some v=>obtain⟨i,b,d⟩:=bI e;rw[f i t v b d];rfl
 | none=>
   rcases h t a with q|⟨v,q,_⟩
   ·rw[q,Y' a]
    rfl
   rw[e] at q;cases q
theorem Ku(k n:Int)(a:Tb):∀(l:List V)(t:Nat),t<l.length->(((E.AKn l).set (t*3) (Zi k)).set (t*3+1) (Zi n)).set (t*3+2) (Zt a)=E.AKn (l.set t (k,n,a))
 | [],t,h=>absurd h (Yr _)
 | c :: l,0,_=>rfl
 | c :: l,t+1,h=>by
   have d:=Ku k n a l t (by simpa using h);have e:∀(y:V)(z:List V),E.AKn (y :: z)=[Zi y.1,Zi y.2.1,Zt y.2.2]++E.AKn z:=λ_ _=>rfl
   rw[e,XM,e,<-d];have b:(t+1)*3=t*3+3:=by omega
   rw[b];rfl
def vK(I:Nat)(w:World)(xs:List Value)(rs:List (List V))(f:Nat->Option V)(m k:Nat)(P:List V->Prop):Prop :=
 ∀(j:Nat)x r,xs[j]? = some x->rs[j]? = some r->∃c:List V,w.ownsRow I 67 3 x m (E.AKn c)/\c.length=m/\r.length=m/\oI f r c/\(j<k->fQ f r c)/\(j=k->P c)
def aL(w:World)(g i:Nat)(a b c:Value):World:=((w.setCell ⟨g,i,none⟩ a).setCell ⟨g,i+1,none⟩ b).setCell ⟨g,i+2,none⟩ c
theorem vR(w:Tw)(g i:Nat)(a b c:Tv):w.grownBy (aL w g i a b c) (some g):=Gp (Gp (Aq _ _ _ _) (Aq _ _ _ _)) (Aq _ _ _ _)
theorem AF9{base g m i:Nat}(h:w.ownsRow base 67 3 (Zs (some (Zd g 0)) m i) m (E.AKn c))(b:c.length=m){t:Nat}(d:t<m)(k n:Int)(a:Tb):(aL w g (t*3) (Zi k) (Zi n) (Zt a)).ownsRow base 67 3 (Zs (some (Zd g 0)) m i) m (E.AKn (c.set t (k,n,a))):=by rw[<-Ku k n a c t (by omega)];exact(((h.stored _ _).1.stored _ _).1.stored _ _).1
theorem vK.store{xs:List Tv}{rs:List (List V)}{f:Nat->Option V}{P P':List V->Prop}(h:vK I w xs rs f m k P){g n t:Nat}{z:Int}{s:Tb}(W:xs[k]? = some (Zs (some (Zd g 0)) m n))(U:t<m)(G:f t=some (y,z,s))(O:∀c,c.length=m->P c->P' (c.set t (y,z,s))):vK I (aL w g (t*3) (Zi y) (Zi z) (Zt s)) xs rs f m k P':=λj x r b T=>by
 obtain⟨c,i,l,u,v,D,N⟩:=h j x r b T
 by_cases e:x.ownBlock=some g
 ·obtain⟨a,Y,M,_⟩:=Au i
  subst M
  have L:a=some (Zd g 0):=by
   rcases i.2 with⟨q,_⟩|⟨g',X,J,q,_⟩
   ·injection q with p _ _
    subst p;simp[Value.ownBlock] at e
   injection q with p _ _;subst p;simp[Value.ownBlock] at e;rw[e]
  subst L;exact⟨c.set t (y,z,s),AF9 i l U y z s,by rw[XY];exact l,u,v.set G (by omega),λd=>(D d).set G (by omega),λd=>O c l (N d)⟩
 refine⟨c,Az i (vR _ _ _ _ _ _) (λq R o=>?_),l,u,v,D,λd=>?_⟩
 ·injection o with o
  exact e (by rw[R,o])
 subst d;rw[W] at b;injection b with b;subst b;exact absurd rfl e
theorem vK.next{xs:List Tv}{rs:List (List V)}{ts:List Nat}{P':List V->Prop}(h:vK I w xs rs (Ly ts L) m k (λc=>∀(i t:Nat)v,ts[i]? = some t->L[i]? = some v->c[t]? = some v))(n:∀c,P' c):vK I w xs rs (Ly ts L) m (k+1) P':=λj x r hj hr=>by
 obtain⟨c,d,e,f,b,g,l⟩:=h j x r hj hr;refine⟨c,d,e,f,b,λp=>?_,λ_=>n c⟩
 rcases Yc j k with a|o
 ·exact g a
 exact b.done (l (by omega))
theorem vK.imp{xs:List Tv}{rs:List (List V)}{f:Nat->Option V}{P P':List V->Prop}(h:vK I w xs rs f m k P)(l:∀c,P c->P' c):vK I w xs rs f m k P':=λj x r n p=>by
 obtain⟨c,a,b,d,e,g,i⟩:=h j x r n p;exact⟨c,a,b,d,e,g,λo=>l c (i o)⟩
theorem vK.qj{I B:Nat}{xs:List Tv}{rs:List (List V)}{f:Nat->Option V}{P:List V->Prop}(h:vK I w xs rs f m rs.length P)(i:xs.length=rs.length)(k:w.ownsRow B 71 1 v rs.length xs):Sc B w v (rs.map (tU f)):=by
 refine⟨xs,by simp[i],by rw[XF];exact k,λj x r l a=>?_⟩;rw[XR] at a;cases hrj:rs[j]? with
 | none=>rw[hrj] at a;cases a
 | some q=>rw[hrj] at a;simp at a;obtain⟨c,b,d,n,o,g,p⟩:=h j x q l hrj;have e:=(g (Ax hrj)).eq (by omega);rw[<-a,<-e,d];exact E.Ai b (XA _)
theorem uI(h:Good Bv Cm s):∀c∈s.qz,Nz (bP c):=λc b=>by
 rcases h.qz with e|e
 ·rw[e] at b;cases b
 have d:=(e.2.2.1 c b).1.2.2.2;simp only[Cm,XN] at d;have a:=d.1;unfold A9 at a;unfold Nz bP;split at a
 ·rename_i h;exact .inl h
 split at a
 ·rename_i h;exact .inr (.inl h)
 split at a
 ·rename_i h;exact .inr (.inr h)
 cases a
def AIX(D:DataW Unit)(s:Ah)(xs:List A6)(T:S.CT)(a:DataW Unit)(b:Bool)(A:List ADV)(qj:Int):Prop :=
 s.qz≠[]/\Ex s.qz T=0/\a=D/\b=true/\A=xs.flatMap (Vm s.qz T)/\qj=(Bo s.qz T xs).1.length
def AIV(s:Ah)(T:S.CT):Prop:=s.qz=[]\/Ex s.qz T≠0
theorem Lo(w0:Tw)(V bb n:Nat)(D:Td)(fs:List Int)(mv I:Tv)(H:List (Dn×Ah))(U:List Tb)(k:Tb)(O:Tv)(T:S.CT)(xs:List A6)(w:Tw)(h:iK w0 w V bb n D fs mv I H U k)(J:C7 D (Ae H H.length) xs)(P:S.Gy w T O):
 Zc 23 #[Zp (some (Zd bb 0)),Zt k,O] w (Kd w0 w V bb n D mv H k (λ_=>AIV (Ae H H.length) T) (AIX D (Ae H H.length) xs T)):=by
 have o:=Aa h;have d:=Aa (Wo bb n D mv H k xs T O w h.base.ground (h.et.below h.base.low) (h.Pw.below h.base.low) h.inv.Lm h.inv.past h.O5 h.name h.short J.Lz P)
 have m:=Aa (λ(z:Nat)(p:To)(n1 c1:Nat)(G:Int)(q:To)(n2 r:Nat)(qj:Int)(Y:Tv)W(L:Zb w W)(f:Ex (Ae H H.length).qz T=0)(u:Dv w.1.size W z (Ae H H.length) (H.length:Int) p n1 c1 G q n2 r k true none 0 [] qj)(s:Fp w.1.size w.1.size W Y (Bo (Ae H H.length).qz T xs).1)=>mL w.1.size bb n D mv z (Ae H H.length) (H.length:Int) p n1 c1 G q n2 r k true none 0 [] qj w.1.size Y T xs W (h.base.ground.up L) ((h.et.below h.base.low).below L) ((h.Pw.below h.base.low).below L) u L.size J.Lz h.Of s.AJP (all_filter _ T (uI h.Of) P.ok f xs J.Lz.each).1 (XA _))
 clear h J P;unfold tK at d;generalize y:Ae H H.length=sn at *;have N:=Aa y;clear y;go_enter func23,ntmps23;go_wp2_with fail;apply d.o.mono;rintro e w1⟨b,⟨f,rfl⟩|⟨f,j,rfl⟩|⟨f,R,z,v1,p,n1,c1,G,q,n2,r,rfl,u,s⟩⟩
 ·have g:=Aa b
  have M:=Aa f;clear f b d;go_wp2_with fail;go_ret2;exact⟨n,D,fs,mv,I,o.o.base.up g.o,by omega,B.A0.Ba g.o,λ_ e=>.inl e,.refl,.inr ⟨_,_,.inl M.o,rfl⟩⟩
 ·have g:=Aa b
  have M:=Aa j;rw[Et j];clear f b j d;go_wp2_with fail;go_ret2;exact⟨n,D,fs,mv,I,o.o.base.up g.o,by omega,B.A0.Ba g.o,λ_ e=>.inl e,.refl,.inr ⟨_,_,.inr M.o,rfl⟩⟩
 have l:=Aa b;have g:=Aa (And.intro f R);have HP:=Aa u;have i:=Aa (m.o z p n1 c1 G q n2 r _ v1 w1 b R u s)
 obtain⟨fa,fc,rfl,_⟩:∃a c,v1=Zs a (Bo sn.qz T xs).1.length c/\(Bo sn.qz T xs).1.length<=c:=by obtain⟨zs,_,e2,_⟩:=s;exact Au e2
 clear b f R u s d m;go_wp2_with fail;apply i.o.mono;rintro e w2⟨rfl,⟨aa,ac,Lq,v,t⟩,x⟩;have H2:=Aa (And.intro v (And.intro t x));clear v t x i;go_wp2_with fail;go_ret2;have X:=(Mv.below (base:=w.1.size) (bb:=bb) (mv:=mv) l.o).trans (Mv.ACV H2.o.2.2);refine⟨n,D,fs,mv,I,Kv (o.o.base.up l.o) o.o.nf o.o.base.low.size H2.o.2.2,by omega,X.o (XC _),X.link,.refl,.inl ⟨z,Lq,true,_,p,n1,c1,G,q,n2,r,aa,ac,rfl,by rw[N.o];exact H2.o.1,g.o.1,g.o.2,rfl,rfl,H2.o.2.1,rfl⟩⟩
theorem iD(qk:Tb)(qv:List Int)(l:List Aj)(T:S.CT):∀(rs:List (List V))(p:Int),∀z∈Jw qk qv l T p rs,z.2.2∈rs
 | [],_,z,a=>by cases a
 | r :: rs,p,z,a=>by
   simp only[Jw] at a;split at a
   ·rcases List.mem_cons.1 a with rfl|a
    ·exact Ye ..
    exact Yd _ (iD qk qv l T rs _ z a)
   exact Yd _ (iD qk qv l T rs _ z a)
theorem ADa{x:A6}{z:Px}(a:z∈E4 l x):z.2.2.length=l.length:=by obtain⟨q,_,e⟩:=List.mem_map.1 (iD _ _ _ _ _ _ z a);rw[<-e,XF]
theorem AC5{s t:Ah}{a:ADV}(h:pQ Bx Bv Cm s a t)(d:Fh a)(b:∀c∈s.qz,Ib c):∀c∈t.qz,Ib c:=by
 rcases h with⟨_,_,rfl⟩|⟨_,_,rfl⟩|⟨_,_,rfl⟩|⟨_,_,rfl⟩
 ·exact b
 ·exact b
 ·exact b
 exact d.qz
theorem kL:∀{l:List ADV}{s t:Ah},Il Bx Bv Cm s l t->(∀a∈l,Fh a)->(∀c∈s.qz,Ib c)->∀c∈t.qz,Ib c
 | [],_,_,h,_,hs=>by simp only[Il] at h;subst h;exact hs
 | a :: l,s,t,⟨u,h1,h2⟩,hl,hs=>kL h2 (λb d=>hl b (Yd _ d)) (AC5 h1 (hl a (Ye ..)) hs)
theorem gH:∀{s:Ah}{H:List (Dn×Ah)},Xv s H->(∀c∈s.qz,Ib c)->∀k,k<=H.length->∀c∈(Ic s (H.take k)).qz,Ib c
 | _,_,_,hs,0,_=>by simpa[Ic] using hs
 | _,x :: l,h,hs,k+1,hk=>by have:=gH (s:=x.2) (H:=l) h.2.2 (kL h.1.2 h.2.1.lines hs) k (by simpa using hk);simpa[Ic] using this
theorem Mq{H:List (Dn×Ah)}(h:La H)(b:k<=H.length):∀c∈(Ae H k).qz,Ib c:=gH h (λc a=>by cases a) k b
theorem AFe{c:Aj}{v:V}(h:Lx c v=true):v.2.2.size<=40:=by unfold Lx Cm at h;simp only[XN] at h;exact Go.Proofs.YthafikkkjfielaaGreatDoor.gA (k:=v.1) (n:=v.2.1) h.1
theorem AIe{L:List Aj}(d:∀v∈r,Ks v)(f:r.length=L.length)(b:∀c∈l,Ks (bP c)):∀v∈l.map (pick (By L) r),Ks v:=λv e=>by
 obtain⟨c,a,rfl⟩:=List.mem_map.1 e;rw[eV];unfold pick
 by_cases hp:pos L c.1<L.length
 ·rw[Yae hp,Y' (by omega)]
  exact d _ (Yh _)
 rw[Yad hp];exact b c a
theorem No{xs:List A6}(m:C7 D s xs)(t:Good Bv Cm s)(r:∀c∈s.qz,Ib c):∀z∈(Bo s.qz .nil xs).1,∀v∈z.2.2,Ks v/\v.2.2.size<=40:=λz p v i=>by
 rw[H9] at p;obtain⟨x,o,k⟩:=List.mem_flatMap.1 p;have d:=m.Lz.each x o;obtain⟨q,g,e⟩:=List.mem_map.1 (iD _ _ _ _ _ _ z k);have a:=kA (m.link x o) ((B4.mp d.ok).2.2.2 q g) (sM t);have h:=(O7.mp ((B4.mp d.ok).2.2.2 q g)).1;rw[<-e] at i;refine⟨AIe (d.i64 q g) h (λc b=>(r c b).num) v i,?_⟩;obtain⟨j,n,rfl⟩:=List.mem_iff_getElem.mp i;have f:j<s.qz.length:=by simpa using n
 have l:=((O7.mp a).2 j f).1;rw[Y' n] at l;exact AFe l
def VB(w:World)(base i:Nat):Prop:=base<=i/\∃cs,w.1[i]? = some (.cells cs 67 (0,0))
theorem AFV{base:Nat}{a b c:Tw}(h:B.A0 (VB a base) a b)(k:B.A0 (VB b base) b c):B.A0 (VB a base) a c :=
 h.trans k λi g e=>by
  by_cases hs:VB a base i
  ·exact hs
  obtain⟨d,cs,f⟩:=e;exact⟨d,cs,(h.block i g hs).symm.trans f⟩
theorem Mf{base b z m:Nat}{T:TypeId}{xs:List Tv}(h:w.ownsRow b T z v m xs)(l:B.A0 (VB w base) w W)(k:T≠67):W.ownsRow b T z v m xs:=by
 refine⟨h.1,?_⟩
 rcases h.2 with j|⟨g,c,a,n,d,f,i⟩
 ·exact .inl j
 refine .inr ⟨g,c,a,n,d,(l.block g (Ac f) ?_).trans f,i⟩;rintro⟨_,cs,e⟩;rw[f] at e;injection e with e;injection e with _ e;exact k e
theorem uH{base:Nat}(d:B.A0 (VB w base) w W){w0:Tw}(b:Below base w0 w)(a:base<=w.1.size):Below base w0 W:=d.below b a λ_ c=>c.1
theorem AHn{w0 w W:Tw}{k base bb n:Nat}{fs:List Int}{mv v:Tv}(h:Ey w0 w k bb n D fs mv v)(R:k<=base)(O:w0.1.size<=base)(o:B.A0 (VB w base) w W):Ey w0 W k bb n D fs mv v:=by
 obtain⟨p,c,J⟩:=h.bu
 have r:¬VB w base bb:=by rintro⟨_,cs,b⟩;have q:w.1[bb]? = _:=p;rw[q] at b;injection b with b;injection b with _ b;exact absurd b (by decide)
 refine⟨⟨p.keep (o.block bb p.lt r),c.keep λm e=>o.block m (c.lt e) ?_,?_⟩,o.below h.low h.low.size (λi hi=>XE O hi.1),h.hb,h.hm,h.er,h.nc,h.tb,h.hf⟩
 ·rintro⟨_,cs,b⟩
  rcases c with⟨I,_⟩|⟨T,z,es,clock,s,_⟩
  ·rw[I] at e;cases e
  rw[z] at e;cases e;rw[s] at b;cases b
 obtain⟨a,j,e,L,M⟩:=J;refine⟨a,j,e,L,λu=>?_⟩;obtain⟨g,off,t,d⟩:=M u;refine⟨g,off,t,λi x P=>?_⟩
 have N:g<k:=by
  cases hfs:fs with
  | nil=>exact absurd hfs u
  | cons y l=>refine h.hf g off l.length j ?_;rw[e,t,hfs];rfl
 have f:=d i x P;have G:=o.block g (Fv f) (λe=>by have:=e.1;omega);simp only[World.cell?,G] at f ⊢;exact f
theorem AH1{base b:Nat}{n:Nat}{v:Int}{d:To}{n1 c1:Nat}{f:To}{n2 k:Nat}{t:Tb}{l:Bool}{g:To}{i:Nat}{L:List Gx}{qj:Int}(h:Dv base w n s v d n1 c1 y f n2 k t l g i L qj)(a:B.A0 (VB w b) w W):Dv base W n s v d n1 c1 y f n2 k t l g i L qj:=by
 refine⟨(a.block n (Ac h.box) ?_).trans h.box,?_,Mf h.row a (by decide),λq j=>⟨Mf (h.own q j).1 a (by decide),Mf (h.own q j).2 a (by decide)⟩,h.Vv,h.low⟩
 ·rintro⟨_,cs,e⟩
  rw[h.box] at e;injection e with e;injection e with _ e;exact absurd e (by decide)
 obtain⟨o,r,p,u,m,e,c⟩:=h.snap;exact⟨o,r,p,u,m,e,Mf c.qz a (by decide),c.qx,Mf c.row a (by decide),λx z=>Mf (c.Cl x z) a (by decide)⟩
theorem AJc{B0 b:Nat}{rs:List Px}(h:jE B0 w v rs)(e:B.A0 (VB w b) w W):jE B0 W v rs:=by obtain⟨zs,a,c,d⟩:=h;exact⟨zs,a,Mf c e (by decide),d⟩
theorem AIy{B0 base bb n:Nat}{fs:List Int}{mv u f:Tv}{rs:List Px}(h:jE B0 w v rs)(e:Mv base bb mv f w W)(d:B.Bu w bb n D fs mv u):jE B0 W v rs:=by obtain⟨zs,a,b,c⟩:=h;exact⟨zs,a,e.row d b (by decide) (by decide) (by decide),c⟩
theorem ABg{f:Nat->Option V}{v:V}(h:v∈tU f r):v∈r\/∃t,f t=some v:=by
 unfold tU at h;rw[List.mem_mapIdx] at h;obtain⟨i,a,e⟩:=h;cases hf:f i with
 | none=>rw[hf] at e;simp at e;left;rw[<-e];exact Yh _
 | some x=>rw[hf] at e;simp at e;exact .inr ⟨i,by rw[hf,e]⟩
def AOf(s:Ah)(xs:List A6)(T:S.CT)(A3:List Vi)(fs:List Int):Prop :=
 s.qz=[]\/Ex s.qz T≠0\/(∀ts,¬Tgt s.qz A3 ts)\/(∃ts,Tgt s.qz A3 ts/\(Bo s.qz T xs).1≠[]/\De s.qz ((Bo s.qz T xs).1.map λz=>tU (Ly ts (A3.map (·.2))) z.2.2)=false)\/fs.headD 0=1
def AIS(D:DataW Unit)(s:Ah)(xs:List A6)(b:ByteArray)(T:S.CT)(A3:List Vi)(a:DataW Unit)(c:Bool)(A:List ADV)(qj:Int):Prop :=
 s.qz≠[]/\Ex s.qz T=0/\c=true/\qj=(Bo s.qz T xs).1.length/\∃ts,Tgt s.qz A3 ts /\
  (((Bo s.qz T xs).1=[]/\a=D/\A=[]) \/
   ((Bo s.qz T xs).1≠[]/\∃R,R=(Bo s.qz T xs).1.map (λz=>tU (Ly ts (A3.map (·.2))) z.2.2)/\De s.qz R=true/\a=D.put (B.lit (Eh (Bw b 0))) (Pa s.qz R)/\A=(1,Bw b 0,(R.length:Int),[],[],0) :: xs.flatMap (Vm s.qz T)))
theorem xQ(w0:Tw)(NF bb n:Nat)(D:Td)(fs:List Int)(mv fv:Tv)(H:List (Dn×Ah))(U:List Tb)(tx:Tb)(cv:Tv)(T:S.CT)(xs:List A6)(sa:To)(sc:Nat)(A3:List Vi)(w:Tw)(h:iK w0 w NF bb n D fs mv fv H U tx)(hT:C7 D (Ae H H.length) xs)(hi:S.Gy w T cv)(hS:F7 4 Wu w (Zs sa A3.length sc) A3)(c9:A3.length<=100)(b8:∀s∈A3,s.2.2.2.size<=maxLen/\Lu s.2.2.1):
 Zc 25 #[Zp (some (Zd bb 0)),Zt tx,cv,Zs sa A3.length sc] w (Kd w0 w NF bb n D mv H tx (λ_=>AOf (Ae H H.length) xs T A3 fs) (AIS D (Ae H H.length) xs tx T A3)):=by
 have o:=Aa h;have bm:=Aa hT;have df:=Aa hi;have ac:=Aa (Wo bb n D mv H tx xs T cv w h.base.ground (h.et.below h.base.low) (h.Pw.below h.base.low) h.inv.Lm h.inv.past h.O5 h.name h.short hT.Lz hi);have h8:=M9 h.Of;have bk:=Aa (λg cp W(hW:Zb w W)(hs:I1 W g 0 (Ae H H.length).qz)=>uA g cp (Ae H H.length).qz sa sc A3 W hs h8 (hS.up hW) c9);have cm:=Aa b8;have cl:=Aa hS;have bc:=Aa (L0 (Ae H H.length).qz T xs hT.Lz.each);have dk:=hT.Lz.Iz;have ay:=Aa (λ(l:Ex (Ae H H.length).qz T=0)=>(all_filter _ T (uI h.Of) hi.ok l xs hT.Lz.each).1);have ba:=Aa h.Of;have cg:=Aa (No hT h.Of (Mq h.inv.past (XC _)));clear h hT hi hS b8;unfold tK at ac;go_enter func25,ntmps25;go_wp2_with fail;apply ac.o.mono;rintro e w1⟨N,⟨l,rfl⟩|⟨l,a5,rfl⟩|⟨l,hz,pb,v1,a1,n1,c1,x2,a2,n2,c2,rfl,hP,hF⟩⟩
 ·have O:=Aa N
  have av:=Aa l;clear l N ac;go_wp2_with fail;go_ret2;exact⟨n,D,fs,mv,fv,o.o.base.up O.o,by omega,B.A0.Ba O.o,λ_ e=>.inl e,.refl,.inr ⟨_,_,.inl av.o,rfl⟩⟩
 ·have O:=Aa N
  rw[Et a5];have av:=Aa a5;clear l N a5 ac;go_wp2_with fail;go_ret2;exact⟨n,D,fs,mv,fv,o.o.base.up O.o,by omega,B.A0.Ba O.o,λ_ e=>.inl e,.refl,.inr ⟨_,_,.inr (.inl av.o),rfl⟩⟩
 have a8:=Aa N;have O:=Aa (And.intro l hz);have HP:=Aa hP;have HF:=Aa hF
 obtain⟨fa,fc,rfl,_⟩:∃a c,v1=Zs a (Bo (Ae H H.length).qz T xs).1.length c/\(Bo (Ae H H.length).qz T xs).1.length<=c:=by obtain⟨zs,_,e2,_⟩:=hF;exact Au e2
 obtain⟨g,ga,ap⟩:∃g,a1=some (Zd g 0)/\n1=(Ae H H.length).qz.length/\I1 w1 g 0 (Ae H H.length).qz:=by
  obtain⟨b1,d1,b2,d2,Ls,ev,hV⟩:=hP.snap;unfold K4 at ev;simp only[Value.agg.injEq,Array.mk.injEq,List.cons.injEq,Value.int.injEq,Value.slice.injEq] at ev;obtain⟨-,⟨e1,e2,e3⟩,-⟩:=ev
  rcases hV.qz.2 with⟨_,h0⟩|⟨g,an,ao,ev,_⟩
  ·exact absurd (Yag.1 h0) l
  injection ev with ae _ di;subst ae;exact⟨g,e1,e2,I1.Fz hV.qz rfl⟩
 obtain⟨cx,ap⟩:=ap;subst ga cx;have ad:=Aa (bk.o g c1 w1 N ap);obtain⟨y0,y1,y2,y3,y4,y5,y6,y7,yf⟩:=F2 hP.box;clear N l hz hP hF ac bk ap;generalize b7:Ae H H.length=d at *;have J:=Aa b7;clear b7;go_wp2_with fail;apply ad.o.mono;rintro e w2⟨aa,⟨ta,tc,ts,rfl,cb,b9⟩|⟨m,ta,tn,tc,T',y,rfl⟩⟩
 rotate_left
 ·have V:=Aa (Ap a8.o aa)
  have az:=Aa m;clear aa ad y0 y1 y2 y3 y4 y5 y6 y7 yf m;go_wp2_with fail;go_ret2;exact⟨n,D,fs,mv,fv,o.o.base.up V.o,by omega,B.A0.Ba V.o,λ_ e=>.inl e,.refl,.inr ⟨_,_,.inr (.inr (.inl (by rw[J.o];exact az.o))),rfl⟩⟩
 have V:=Aa (Ap a8.o aa);have aq:=Aa cb;have f:=Aa b9;have a0:=Aa (HP.o.up aa);have ax:=Aa (HF.o.up aa);clear aa cb b9 ad y0 y1 y2 y3 y4 y5 y6 y7 yf HP HF
 by_cases hem:(Bo d.qz T xs).1.length=0
 ·have ak:=Aa (Yag.1 hem)
  have c4:(((Bo d.qz T xs).1.length:Nat):Int)=0:=by omega
  clear hem;go_wp2_with fail;go_ret2;exact⟨n,D,fs,mv,fv,o.o.base.up V.o,by omega,B.A0.Ba V.o,λ_ e=>.inl e,.refl,.inl ⟨pb,[],true,_,_,_,c1,x2,a2,n2,c2,none,0,rfl,by rw[J.o];exact a0.o,by rw[J.o];exact⟨O.o.1,O.o.2,rfl,rfl,ts,f.o,.inl ⟨ak.o,rfl,rfl⟩⟩⟩⟩
 have ak:Hid ((Bo d.qz T xs).1≠[]):=Aa (λe=>hem (by rw[e];rfl));have c4:¬(((Bo d.qz T xs).1.length:Nat):Int)=0:=by omega
 have br:=Aa (X7 _ _ _ _ w2 ax.o (by have:=bc.o.2;omega));clear hem;go_wp2_with fail;apply br.o.mono;rintro e w3⟨v3,rfl,c3,ah⟩;obtain⟨us,u1,u2,u3⟩:=c3;obtain⟨ra,rc,rfl,_⟩:=Au u2;have ab:=Aa (Ap V.o ah);have bo:=Aa u1;have bp:=Aa u2;have cq:=Aa u3;have cj:=Aa (a0.o.up ah);have ce:=Aa (ax.o.up ah);have cn:=Aa (Bc aq.o ah);clear ah u1 u2 u3 br a0 ax aq
 have aw:Hid (∀r∈(Bo d.qz T xs).1.map (·.2.2),r.length=d.qz.length):=Aa (λr G=>by obtain⟨z,hz,rfl⟩:=List.mem_map.1 G;rw[ay.o O.o.2,H9] at hz;obtain⟨x,_,hz⟩:=List.mem_flatMap.1 (List.mem_filter.1 hz).1;exact ADa hz)
 have I:Hid (((Bo d.qz T xs).1.map (·.2.2)).length=(Bo d.qz T xs).1.length):=Aa (XF ..);have dh:Hid ((A3.map (·.2)).length=A3.length):=Aa (XF ..);have bf:Hid (vK w.1.size w3 us ((Bo d.qz T xs).1.map (·.2.2)) (Ly ts (A3.map (·.2))) d.qz.length 0 (λ_=>True)):=Aa λj x r hx G=>⟨r,by rw[<-aw.o r (XH G)];exact cq.o j x r hx G,aw.o r (XH G),aw.o r (XH G),oI.refl _ _,(λh=>absurd h (Yr _)),λ_=>trivial⟩
 have c7:(Bo d.qz T xs).1.length<=100000:=by have:=bc.o.2;omega
 go_wp2_with fail
 go_loopw [53] (λvi wr=>∃k:Nat,k<=(Bo d.qz T xs).1.length/\vi=Zi (k:Int)/\Hid (vK w.1.size wr us ((Bo d.qz T xs).1.map (·.2.2)) (Ly ts (A3.map (·.2))) d.qz.length k (λ_=>True))/\Hid (B.A0 (VB w3 w.1.size) w3 wr)) (λvi _=>(Bo d.qz T xs).1.length-Ev vi)
 case atStart=>exact⟨0,XA _,rfl,bf,Aa (B.A0.refl _ _)⟩
 case round=>
  clear bf;obtain⟨k,hk,rfl,HR,X⟩:=hrel
  rcases Yc k (Bo d.qz T xs).1.length with b3|dn
  ·obtain⟨u,hu⟩:∃u,us[k]? = some u:=⟨_,Y' (by have:=bo.o;rw[I.o] at this;omega)⟩
   obtain⟨r,G⟩:∃r,((Bo d.qz T xs).1.map (·.2.2))[k]? = some r:=⟨_,Y' (by rw[I.o];exact b3)⟩;obtain⟨c0,q1,q2,_⟩:=HR.o k u r hu G;have dm:0<d.qz.length:=List.length_pos_iff.2 O.o.1
   obtain⟨g,an,eu,bw⟩:∃g an,u=Zs (some (Zd g 0)) d.qz.length an/\w.1.size<=g:=by
    rcases Di q1 with⟨_,e⟩|⟨g,c,e,hb,_⟩
    ·omega
    exact⟨g,c,e,hb⟩
   subst eu;have P:=Mf bp.o X.o (by decide);rw[I.o] at P
   obtain⟨rb,cy,dr,c8⟩:∃rb,ra=some (Zd rb 0)/\rb<wr.1.size/\wr.cell? (Zd rb k)=some (Zs (some (Zd g 0)) d.qz.length an):=by
    rcases P.2 with⟨_,h0⟩|⟨rb,cp,ao,ev,_,hh,_,_,_⟩
    ·omega
    injection ev with ae _ _;subst ae;have l:=P.cells (g:=rb) rfl;simp only[E.addr_add] at l;have:=l k _ hu;exact⟨rb,rfl,E.Ac hh,by simpa using this⟩
   subst cy;have c6:(k:Int)<((Bo d.qz T xs).1.length:Int):=by omega
   have bq:=Aa hu;have ch:=Aa bw;have da:d.qz.length<=8:=h8;clear P q1 q2 G hu bw;have bg:Hid (vK w.1.size wr us ((Bo d.qz T xs).1.map (·.2.2)) (Ly ts (A3.map (·.2))) d.qz.length k (λc=>∀(i t:Nat)v,i<0->ts[i]? = some t->(A3.map (·.2))[i]? = some v->c[t]? = some v)):=Aa (HR.o.imp λc _ i t v h=>absurd h (Yr _));go_wp2_with fail
   go_loopw [59] (λvi wi=>∃i:Nat,i<=A3.length/\vi=Zi (i:Int)/\Hid (vK w.1.size wi us ((Bo d.qz T xs).1.map (·.2.2)) (Ly ts (A3.map (·.2))) d.qz.length k (λc=>∀(j t:Nat)v,j<i->ts[j]? = some t->(A3.map (·.2))[j]? = some v->c[t]? = some v))/\Hid (B.A0 (VB w3 w.1.size) w3 wi)) (λvi _=>A3.length-Ev vi)
   case atStart=>exact⟨0,XA _,rfl,bg,X⟩
   case round=>
    clear bg HR X c8;rename_i wr0;obtain⟨i,dp,rfl,HR,X⟩:=hrel
    rcases Yc i A3.length with ar|db
    ·obtain⟨x,hx⟩:∃x,A3[i]? = some x:=⟨_,Y' ar⟩
     obtain⟨t,ht⟩:∃t,ts[i]? = some t:=⟨_,Y' (by rw[f.o.len];exact ar)⟩;obtain⟨_,ca⟩:=f.o.find i t x ht hx;have af:=uH X.o ab.o ab.o.size;obtain⟨b,off,cc,ev,_,dl,p⟩:=(cl.o.up af).cons (by omega);injection ev with e1 _ e3;subst e1 e3;obtain⟨nm,vk,vn,vt⟩:=x;have s1:=p i _ hx 1 _ rfl;have s2:=p i _ hx 2 _ rfl;have s3:=p i _ hx 3 _ rfl;have a6:=Mf cn.o X.o (by decide)
     obtain⟨tb,cz,ds,dt⟩:∃tb,ta=some (Zd tb 0)/\tb<wr.1.size/\wr.cell? (Zd tb i)=some (Zi (t:Int)):=by
      rcases a6.2 with⟨_,h0⟩|⟨tb,cp,ao,ev,_,hh,_,_,_⟩
      ·omega
      injection ev with ae _ _;subst ae;have l:=a6.cells (g:=tb) rfl;simp only[E.addr_add] at l;have:=l i (Zi (t:Int)) (by simp[ints,ht]);exact⟨tb,rfl,E.Ac hh,by simpa using this⟩
     subst cz;obtain⟨r,G⟩:∃r,((Bo d.qz T xs).1.map (·.2.2))[k]? = some r:=⟨_,Y' (by rw[I.o];exact b3)⟩;obtain⟨c0,q1,q2,_⟩:=HR.o k _ r bq.o G;have c5:(E.AKn c0).length=d.qz.length*3:=by rw[E.K3,q2]
     obtain⟨z0,dv⟩:∃z,wr.cell? (Zd g (t*3))=some z:=by rw[q1.cellAt (t*3) (by omega)];exact⟨_,Y' (by omega)⟩
     obtain⟨z1,dw⟩:∃z,wr.cell? (Zd g (t*3+1))=some z:=by rw[q1.cellAt (t*3+1) (by omega)];exact⟨_,Y' (by omega)⟩
     obtain⟨z2,dx⟩:∃z,wr.cell? (Zd g (t*3+2))=some z:=by rw[q1.cellAt (t*3+2) (by omega)];exact⟨_,Y' (by omega)⟩
     have f0:=q1.frozenAt (t*3);have f1:=q1.frozenAt (t*3+1);have f2:=q1.frozenAt (t*3+2)
     have a3:Hid (VB wr w.1.size g):=Aa (by obtain⟨ao,l⟩:=Go.Proofs.YthafikkkjfielaaGreatDoor.Ho q1 (k:=g) rfl;exact⟨ch.o,ao,l⟩)
     have bn:Hid (Ly ts (A3.map (·.2)) t=some (vk,vn,vt)):=Aa (AD5 f.o.once ht (by simp[hx]));have co:=Aa ht;have b0:(i:Int)<(A3.length:Int):=by omega
     have du:(t:Int)<(d.qz.length:Int):=by omega
     have de:(0:Int)<=(t:Int):=by omega
     have dd:(0:Int)<=(i:Int):=by omega
     have bl:=Aa ca;clear p a6 hx ht ca G q1 q2 c5 af;go_wp2;refine⟨⟨i+1,by omega,by simp,Aa (HR.o.store bq.o bl.o bn.o λc l hP j t' v' hj h1 h2=>?_),Aa (AFV X.o ((((B.A0.refl _ _).setCell (λ_=>a3.o) _).setCell (λ_=>a3.o) _).setCell (λ_=>a3.o) _))⟩,by simp only[Ev];omega⟩;have cd:=AD5 f.o.once h1 h2
     by_cases e:t=t'
     ·subst e
      rw[bn.o] at cd;rw[Yj (by rw[l];exact bl.o)];exact cd
     rw[Yq e];refine hP j t' v' ?_ h1 h2
     rcases Yc j i with b4|dc
     ·exact b4
     have:j=i:=by omega
     subst this;rw[co.o] at h1;injection h1 with h1;exact absurd h1 e
    have b0:¬(i:Int)<(A3.length:Int):=by omega
    have bx:i=A3.length:=by omega
    have bi:=Aa ((HR.o.imp (P':=λc=>∀(j t:Nat)v,ts[j]? = some t->(A3.map (·.2))[j]? = some v->c[t]? = some v) λc l j t v h1 h2=>l j t v (by rw[bx,<-f.o.len];exact Ax h1) h1 h2).next (P':=λ_=>True) λ_=>trivial);clear bx;go_wp2
    go_roundw
    case rel=>exact⟨k+1,by omega,by simp,bi,X⟩
    case measure=>simp only[Ev];omega
  have c6:¬(k:Int)<((Bo d.qz T xs).1.length:Int):=by omega
  have bz:k=(Bo d.qz T xs).1.length:=by omega
  have bj:=Aa (vK.qj (by rw[I.o,<-bz];exact HR.o) bo.o (Mf bp.o X.o (by decide)));have af:=uH X.o ab.o ab.o.size;have aj:=Aa af;have a9:=Aa (AHn (o.o.base.up ab.o) o.o.nf o.o.base.low.size X.o);have ck:=Aa (AH1 cj.o X.o);have cf:=Aa (AJc ce.o.AJP X.o);obtain⟨R,ag⟩:∃R,((Bo d.qz T xs).1.map (·.2.2)).map (tU (Ly ts (A3.map (·.2))))=R:=⟨_,rfl⟩;rw[ag,I.o] at bj;have bh:=Aa ag;have M:R.length=(Bo d.qz T xs).1.length:=by rw[<-ag,XF,I.o]
  have bi:=Aa M
  have ai:∀r∈R,∀v∈r,Ks v/\v.2.2.size<=maxLen:=λr G v hv=>by
   rw[<-ag] at G;obtain⟨q,hq,rfl⟩:=List.mem_map.1 G;obtain⟨z,hz,rfl⟩:=List.mem_map.1 hq
   rcases ABg hv with h|⟨t,h⟩
   ·rw[ay.o O.o.2] at hz
    have:=cg.o z (List.mem_filter.1 hz).1 v h;exact⟨this.1,by have:=this.2;unfold maxLen;omega⟩
   obtain⟨i,_,h2⟩:=bI h;rw[XR] at h2;cases hs:A3[i]? with
   | none=>rw[hs] at h2;cases h2
   | some x=>rw[hs] at h2;simp at h2;have:=cm.o x (XH hs);rw[h2] at this;exact⟨this.2,this.1⟩
  have am:=Aa (bK w0 NF w.1.size bb n D fs mv fv pb d (H.length:Int) _ _ c1 x2 a2 n2 c2 tx true none 0 [] _ _ R wr a9.o o.o.nf o.o.base.low.size (by have:=o.o.Iz;omega) o.o.inv.Lm.1 ck.o aj.o.size ba.o o.o.et bj.o.slr (by rw[M];exact c7) (λr G v hv=>(ai r G v hv).2) (λr G v hv=>(ai r G v hv).1) o.o.short (XA _) (o.o.free 0));unfold AIr at am;clear bz af ai ag M;go_wp2_with fail;apply am.o.mono;rintro e w5⟨n5,D5,dj,a7,bs,L,dq,Y,⟨rfl,hm,hf,rfl,rfl,cs,cu,a4⟩|⟨T5,x5,rfl,rfl,m⟩⟩
  ·have al:=Aa ((Mv.below (base:=w.1.size) aj.o).trans Y)
   have au:=Aa L;have dg:=Aa a4;have ci:=Aa hm;have cr:=Aa (XE aj.o.size Y.only.size);have bd:=Aa (mL w.1.size bb n5 _ a7 pb d (H.length:Int) _ _ c1 x2 a2 n2 c2 tx true cs cu _ _ _ _ T xs w5 L.ground (o.o.et.below L.low) (o.o.Pw.below L.low) a4 cr.o (by rw[<-J.o] at bm ⊢;exact bm.o.Lz.put (o.o.free 0) _) ba.o (AIy cf.o Y a9.o.bu) (ay.o O.o.2) (by simp));clear L Y hm hf a4 am;go_wp2_with fail;apply bd.o.mono;rintro e w6⟨rfl,⟨ct,cw,Lq,bv,bt⟩,b6⟩;have H6:=Aa (And.intro bv (And.intro bt b6));clear bv bt b6 bd;go_wp2_with fail;go_ret2;have b5:=al.o.trans (Mv.ACV H6.o.2.2);refine⟨n5,_,_,a7,bs,Kv au.o o.o.nf o.o.base.low.size H6.o.2.2,by omega,b5.o (XC _),b5.link,.put 0 _ .refl (o.o.free 0),.inl ⟨pb,_,true,_,_,_,c1,x2,a2,n2,c2,ct,cw,rfl,by rw[J.o];exact H6.o.1,?_⟩⟩;rw[J.o];refine⟨O.o.1,O.o.2,rfl,rfl,ts,f.o,.inr ⟨ak.o,R,?_,ci.o,rfl,?_⟩⟩
   ·rw[<-bh.o,XW];rfl
   rw[XL,H6.o.2.1];rfl
  have al:=Aa ((Mv.below (base:=w.1.size) aj.o).trans Y);have au:=Aa L
  have az:Hid (AOf d xs T A3 fs):=Aa (by
   rcases m with⟨m,_⟩|⟨_,m,_⟩
   ·exact .inr (.inr (.inr (.inl ⟨ts,f.o,ak.o,by rw[<-bh.o,XW] at m;exact m⟩)))
   exact .inr (.inr (.inr (.inr m))))
  clear L Y m am;go_wp2_with fail;go_ret2;exact⟨n5,_,_,a7,bs,au.o,by omega,al.o.o (XC _),al.o.link,.refl,.inr ⟨_,_,(by rw[J.o];exact az.o),rfl⟩⟩
def ALg:List V->List V->Int
 | [],[]=>0
 | [],_ :: _=> -1
 | _ :: _,[]=>1
 | x :: a,y :: b=>if S.Eu x y=0 then ALg a b else S.Eu x y
theorem AL8:∀a b:List V,ALg a b = -1\/ALg a b=0\/ALg a b=1
 | [],[]=>.inr (.inl rfl)
 | [],_ :: _=>.inl rfl
 | _ :: _,[]=>.inr (.inr rfl)
 | x :: a,y :: b=>by
   unfold ALg;split
   ·exact AL8 a b
   exact S.bV x y
theorem AMI:∀a b:List V,ALg b a = -ALg a b
 | [],[]=>rfl
 | [],_ :: _=>rfl
 | _ :: _,[]=>rfl
 | x :: a,y :: b=>by
   have h:=S.He x y;unfold ALg
   by_cases e:S.Eu x y=0
   ·rw[Yae e,Yae (by omega)];exact AMI a b
   rw[Yad e,Yad (by omega)];exact h
theorem AMa:∀a b:List V,ALg a b=0->a=b
 | [],[],_=>rfl
 | [],_ :: _,h=>by simp[ALg] at h
 | _ :: _,[],h=>by simp[ALg] at h
 | x :: a,y :: b,h=>by
   unfold ALg at h
   by_cases e:S.Eu x y=0
   ·rw[Yae e] at h
    rw[S.Ig.mp e,AMa a b h]
   rw[Yad e] at h;exact absurd h e
theorem AOQ(a:List V):ALg a a=0:=by have:=AMI a a;omega
theorem Ha{y z:V}{m:Int}(a:S.Eu x y=m)(b:S.Eu y z=m):S.Eu x z=m:=S.AAF _ _ _ _ _ _ _ _ _ m a b
theorem AMl:∀a b c:List V,ALg a b = -1->ALg b c = -1->ALg a c = -1
 | [],_,[],_,h2=>by rename_i b _;cases b <;> simp[ALg] at *
 | [],_,_ :: _,_,_=>rfl
 | _ :: _,[],_,h1,_=>by simp[ALg] at h1
 | _ :: _,_ :: _,[],_,h2=>by simp[ALg] at h2
 | x :: a,y :: b,z :: c,h1,h2=>by
   unfold ALg at h1 h2 ⊢
   by_cases e1:S.Eu x y=0
   ·have d:=S.Ig.mp e1
    subst d;rw[Yae e1] at h1
    by_cases e2:S.Eu x z=0
    ·rw[Yae e2] at h2 ⊢;exact AMl a b c h1 h2
    rw[Yad e2] at h2 ⊢;exact h2
   rw[Yad e1] at h1
   by_cases e2:S.Eu y z=0
   ·have e:=S.Ig.mp e2
    subst e;rw[Yad e1];exact h1
   rw[Yad e2] at h2;have:=Ha h1 h2;rw[Yad (by omega)];exact this
def Gr(w a:World):Prop:=∃q os,a=Go.Sort.grow (w.drewN q) os
theorem Gr.refl(w:Tw):Gr w w:=⟨0,#[],by rw[Go.Sort.grow_empty];rfl⟩
theorem Gr.trans{a b c:Tw}(h:Gr a b)(k:Gr b c):Gr a c:=by obtain⟨q,os,rfl⟩:=h;obtain⟨p,d,rfl⟩:=k;refine⟨q+p,os++d,?_⟩;rw[<-Go.Sort.grow_grow];simp[World.drewN,Go.Sort.grow,Nat.add_assoc]
theorem Gr.alloc{a b:Tw}(h:Gr a b)(o:Obj):Gr a (b.alloc o):=h.trans ⟨0,#[o],by rw[Go.Sort.alloc_eq_grow];rfl⟩
theorem Gr.drew{a b:Tw}(h:Gr a b):Gr a b.drew:=h.trans ⟨1,#[],by rw[Go.Sort.grow_empty];rfl⟩
theorem Gr.below{a b:Tw}(h:Gr a b):Zb a b:=by obtain⟨q,os,rfl⟩:=h;exact⟨rfl,rfl,rfl,by simp[Go.Sort.grow,World.drewN],λk c=>by simp[Go.Sort.grow,World.drewN,Array.getElem?_append,c]⟩
theorem AOl(b n1 c n2:Int)(t1 t2:Tb)(w:Tw):
 Zc 37 #[Zg #[Zi b,Zi n1,Zt t1],Zg #[Zi c,Zi n2,Zt t2]] w λe a=>e=Zr (Zi (S.Kb b n1 t1 c n2 t2))/\Gr w a:=by
 go_enter func37,ntmps37;go_wp2
 go_region_held3 (λa=>a.cell? (Zd w.1.size 0)=some (Zi b)/\a.cell? (Zd w.1.size 1)=some (Zi n1)/\a.cell? (Zd w.1.size 2)=some (Zt t1)/\a.cell? (Zd (w.1.size+1) 0)=some (Zi c)/\a.cell? (Zd (w.1.size+1) 1)=some (Zi n2)/\a.cell? (Zd (w.1.size+1) 2)=some (Zt t2)) (go_keep)
  (first
    | (go_at_call 67;refine(S.wD _ _ _).mono ?_;rintro e a⟨rfl,rfl⟩)
    | (go_at_call 68;refine(S.nI _ _ _).mono ?_;rintro e a⟨rfl,rfl⟩)
    | (go_at_call 69;refine(S.xM _ _ _).mono ?_;rintro e a⟨rfl,rfl⟩)
    | (go_at_call 66;refine(S.AJV (w.1.size+1+1) (S.Oh b c) (S.Oh n1 n2) (S.R4 t1 t2) _ (by simp[XO]) (by simp[XO]) (by simp[XO])).mono ?_;rintro e a⟨rfl,rfl⟩))
 go_wp2;go_ret;exact⟨rfl,((((Gr.refl _).alloc _).alloc _).alloc _).drew⟩
theorem drop_cons{l:List V}(h:l[k]? = some x):l.drop k=x :: l.drop (k+1):=by have a:=Ax h;rw[Y' a] at h;injection h with h;rw[Yl a,h]
theorem AOk(Y v2:Tv)(a b:List V)(w:Tw)(R:E.Sl w Y a)(T:E.Sl w v2 b)(ha:a.length<=1000)(_hb:b.length<=1000):
 Zc 36 #[Y,v2,.func (.func 37) #[] #[]] w λe w'=>e=Zr (Zi (ALg a b))/\Gr w w':=by
 have H1:=Aa R;have H2:=Aa T;obtain⟨a1,c1,rfl,_,_⟩:=R;obtain⟨a2,c2,rfl,_,_⟩:=T;go_enter func36,ntmps36;go_wp2
 go_loopw [13] (λI wr=>∃k:Nat,k<=a.length/\k<=b.length/\I=Zi k/\Hid (ALg (a.drop k) (b.drop k)=ALg a b)/\Hid (Gr w wr)) (λI _=>a.length-(intOf I).toNat)
 case atStart=>exact⟨0,XA _,XA _,rfl,Aa rfl,Aa (Gr.refl _)⟩
 case round=>
  obtain⟨k,hk,ae,rfl,n,i⟩:=hrel
  by_cases hlt:k<a.length
  ·obtain⟨x,m⟩:∃x,a[k]? = some x:=⟨_,Y' hlt⟩
   have v:(k:Int)<(a.length:Int):=by omega
   obtain⟨aa,ac,e1,_,D⟩:=H1.o.up i.o.below;injection e1 with e11 _ q;subst e11 q;obtain⟨b1,o1,rfl,p1,G⟩:=D (λe=>by rw[e] at hlt;simp at hlt);obtain⟨x0,x1,x2⟩:=G k x m;obtain⟨J,L,M⟩:=x
   by_cases hlb:k<b.length
   ·obtain⟨y,z⟩:∃y,b[k]? = some y:=⟨_,Y' hlb⟩
    have u:¬(b.length:Int)<=(k:Int):=by omega
    have U:(k:Int)<(b.length:Int):=by omega
    obtain⟨ab,ad,e2,_,W⟩:=H2.o.up i.o.below;injection e2 with r _ s;subst r s;obtain⟨b2,o2,rfl,p2,X⟩:=W (λe=>by rw[e] at hlb;simp at hlb);obtain⟨y0,y1,y2⟩:=X k y z;obtain⟨N,O,P⟩:=y;have c:=Aa (n.o.symm.trans (congr (congrArg ALg (drop_cons m)) (drop_cons z)));clear m z G X D W;go_wp2_with fail;refine(AOl _ _ _ _ _ _ _).mono ?_;rintro e w1⟨rfl,l⟩;have j:=Aa (((i.o.alloc _).alloc _).trans l);have o:Hid (S.Kb J L M N O P=S.Eu (J,L,M) (N,O,P)):=Aa rfl;clear l;generalize S.Kb J L M N O P=p at o ⊢
    by_cases hz:p=0
    ·have d:Hid (ALg (a.drop (k+1)) (b.drop (k+1))=ALg a b):=Aa (by
      have h:=c.o;rw[ALg,Yae (by rw[<-o.o];exact hz)] at h;exact h.symm)
     subst hz;clear c;go_wp2;exact⟨⟨k+1,by omega,by omega,by go_num,d,j⟩,by simp[intOf];omega⟩
    have d:Hid (p=ALg a b):=Aa (by have h:=c.o;rw[ALg,Yad (by rw[<-o.o];exact hz)] at h;rw[h];exact o.o)
    have af:(p==0)=false:=by simpa using hz
    clear c;go_wp2;go_ret;exact⟨congrArg (λx=>Ending.returned (Zi x)) d.o,j.o⟩
   have u:(b.length:Int)<=(k:Int):=by omega
   have c:Hid (ALg a b=1):=Aa (by have g:b.drop k=[]:=Yw (by omega);rw[<-n.o,drop_cons m,g];rfl)
   clear m G D;go_wp2;go_ret;exact⟨congrArg (λx=>Ending.returned (Zi x)) c.o.symm,i.o.alloc _⟩
  have v:¬(k:Int)<(a.length:Int):=by omega
  by_cases hlb:k<b.length
  ·have t:(a.length:Int)<(b.length:Int):=by omega
   have c:Hid (ALg a b = -1):=Aa (by have f:a.drop k=[]:=Yw (by omega);rw[<-n.o,f,Yl hlb];rfl)
   go_wp2;go_ret;exact⟨congrArg (λx=>Ending.returned (Zi x)) c.o.symm,i.o⟩
  have t:¬(a.length:Int)<(b.length:Int):=by omega
  have c:Hid (ALg a b=0):=Aa (by have f:a.drop k=[]:=Yw (by omega);have g:b.drop k=[]:=Yw (by omega);rw[<-n.o,f,g];rfl)
  go_wp2;go_ret;exact⟨congrArg (λx=>Ending.returned (Zi x)) c.o.symm,i.o⟩
theorem APM(d f:Tv)(a b:List V)(w:Tw)(h:E.Sl w d a)(i:E.Sl w f b)(j:a.length<=1000)(c:b.length<=1000):
 Zc 35 #[d,f] w λe k=>e=Zr (Zi (ALg a b))/\Gr w k:=by
 have g:=Aa (AOk d f a b w h i j c);generalize ALg a b=r at g ⊢;clear h i;go_enter func35,ntmps35;go_wp2_with fail;apply g.o.mono;rintro e l⟨rfl,c⟩;go_wp2;go_ret;exact⟨rfl,c⟩
