import Derived.Test.YthpcepcghakimaaGreatDoorQA
import Derived.Maps.OwnRows
set_option maxHeartbeats 40000000
set_option maxRecDepth 100000
open List renaming getElem?_eq_getElem->Y',getElem?_append_right->XD,getElem?_append_left->XE,mem_cons_self->XF,mem_of_getElem?->XG,length_append->XH,length_map->XL,length_cons->XM,getElem?_map->XN,length_take->XQ,append_nil->XR,filter_append->XS,map_append->XT,cons_append->XV,set_cons_succ->XW,flatMap_cons->XX,append_assoc->XZ,filter_cons_of_pos->X4,getElem_map->X6,nil_append->X',mem_of_mem_drop->WA,flatten_cons->WC,any_eq_false->WD,map_nil->WG,not_mem_nil->WJ,length_set->WK,nodup_cons->WL,mem_cons->WM,map_cons->WO
open Go.RowKit.Below renaming refl->XA,heap_alloc->XU,setCell->WN
open Nat renaming le_refl->XB,zero_le->XC,le_trans->XJ,le_add_right->XO,lt_trichotomy->WE,le_succ->WR
open Go.World renaming ownsRow_nil->XI,news_of_block->XK,size_alloc->X2,cell?_alloc_at->Wb,grownBy_alloc->WB
open Int renaming toNat_natCast->XP,natCast_zero->WI,add_zero->WQ
open Bool renaming and_eq_true->XY
open Option renaming getD_some->WH
namespace Go.Proofs.YthpcepcghakimaaGreatDoor
open Tryz RowKit Shelf Joins Lib Maps ChangeMaps MapKept ChangeShapes
open Go.Sort (grow)
open WideElems (Fit rd rg pl rd_val elemAt)
namespace F
variable{u v:Tv}{W w:Tw}{c k n:Int}{X:List Tv}{p:List (List V)}{i j:Nat}{T x y:S.CT}{r:List V}{L l:List Aj}{D:Td}{s:Ah}{m:List Int}{H:List (Dn×Ah)}{U:List Tb}
theorem AFz(k:Nat)(cv gv:Tv)(qz:List Aj)(gs:List Fk)(g:Fk)(c1:Int)(y:Tb)(z:Int)(D:Bool)(m n:Int)(o:Tb)(w:Tw)(O:Hm w cv gv (qz,gs))(hk:gs[k]? = some g)(h1:1<=qz.length)(h8:qz.length<=8)(t:Gb qz g=true)(hp:cM qz c1 = -1):
 Zc 137 #[Zg #[cv,gv],Zi k,Zg #[Zi c1,Zt y,Zi z,Zo D,Zi m,Zi n,Zt o]] w λe P=>e=Zr (Zg (S.E6 (S.Iv (List.replicate g.1 (m,n,o)))))/\Zb w P:=by
 have I:=Aa (λW(hW:Zb w W)=>nL k cv gv qz gs g W (O.up hW).1 (O.up hW).2 hk);have J:=Aa (λW(hW:Zb w W)=>U9 cv gv qz c1 y z D m n o W (O.up hW).1 h1 h8);have s:1<=g.1/\g.1<=6:=by simp only[Gb,decide_eq_true_eq] at t;exact⟨t.2.2.1,t.2.2.2⟩
 have am:Hid (∀W(i f:To)(sn j bn h:Nat),Zc 197 #[Zg #[Zi g.1,Zs i sn j,Zs f bn h],Zg #[Zi c1,Zt y,Zi z,Zo D,Zi m,Zi n,Zt o]] W λe P=>∃v',e=Zr v'/\P.ownsRow W.1.size 55 3 v' g.1 (rep (m,n,o) g.1)/\Zb W P):=Aa λW i f sn j bn h=>Sf g.1 _ _ i f sn j bn h c1 y z D m n o W s.1 s.2 rfl rfl
 have u:Hid (∀v W B,W.ownsRow B 55 3 v g.1 (rep (m,n,o) g.1)->Zc 196 #[v] W λe P=>e=Zr (Zg (S.E6 (S.Iv (List.replicate g.1 (m,n,o)))))/\Zb W P):=Aa λv W B ho=>S.yU v _ W (E.Cy (by rw[List.length_replicate];exact ho)) (by simp;omega)
 obtain⟨ga,gc,rfl,_⟩:=O.2.slice;obtain⟨ca,cc,rfl,_⟩:=O.1.slice;dsimp only at I J ⊢;rw[t] at I;rw[hp] at J;clear O t s;obtain⟨⟨s1,s2,⟨k1,n1,t1⟩,⟨k2,n2,t2⟩⟩,af⟩:∃st,S.Iv (List.replicate g.1 (m,n,o))=st:=⟨_,rfl⟩;rw[af] at u ⊢;unfold S.E6 at u ⊢;simp only at u ⊢;clear af;obtain⟨N,V,q,X,aa⟩:=Jl w (Zk #[Zs ca qz.length cc,Zs ga gs.length gc] 125) (Zk #[Zi c1,Zt y,Zi z,Zo D,Zi m,Zi n,Zt o] 59) (Zk #[Zi 0,Zi 0,Zi 0,Zi 0,Zt ⟨#[]⟩,Zi 0,Zi 0,Zt ⟨#[]⟩] 235);have HA:=Aa V;have HB:=Aa q;have U:=Aa X;have R:=Aa aa;have ao:=Aa N;clear V q X aa N;go_enter func137,ntmps137;go_wp2_with fail;generalize ((w.alloc (Zk #[Zs ca qz.length cc,Zs ga gs.length gc] 125)).alloc (Zk #[Zi c1,Zt y,Zi z,Zo D,Zi m,Zi n,Zt o] 59)).alloc (Zk #[Zi 0,Zi 0,Zi 0,Zi 0,Zt ⟨#[]⟩,Zi 0,Zi 0,Zt ⟨#[]⟩] 235)=W3 at *;refine(I.o W3 R.o).mono ?_;rintro e l⟨sv,bv,rfl,ag,ad,ab⟩;obtain⟨i,j,rfl,_⟩:=ag.slice;obtain⟨f,h,rfl,_⟩:=ad.slice;have N:=ao.o;have ac:Zb l (l.alloc (Zk #[Zi g.1,Zs i g.2.1.length j,Zs f g.2.2.length h] 171)):=Zal;have b:=Ap ab ac;have V:=(b.block w.1.size (by omega)).trans HA.o;have q:=(b.block (w.1.size+1) (by omega)).trans HB.o;have aj:=Aa q;have ak:=Aa ((b.block (w.1.size+2) (by omega)).trans U.o);obtain⟨f0,f1⟩:=Hg V;have x0:(l.alloc (Zk #[Zi g.1,Zs i g.2.1.length j,Zs f g.2.2.length h] 171)).cell? (Zd (w.1.size+1) 0)=some (Zi c1):=A4 q rfl;have x1:(l.alloc (Zk #[Zi g.1,Zs i g.2.1.length j,Zs f g.2.2.length h] 171)).cell? (Zd (w.1.size+1) 1)=some (Zt y):=A4 q rfl;have x2:(l.alloc (Zk #[Zi g.1,Zs i g.2.1.length j,Zs f g.2.2.length h] 171)).cell? (Zd (w.1.size+1) 2)=some (Zi z):=A4 q rfl;have x3:(l.alloc (Zk #[Zi g.1,Zs i g.2.1.length j,Zs f g.2.2.length h] 171)).cell? (Zd (w.1.size+1) 3)=some (Zo D):=A4 q rfl;have x4:(l.alloc (Zk #[Zi g.1,Zs i g.2.1.length j,Zs f g.2.2.length h] 171)).cell? (Zd (w.1.size+1) 4)=some (Zi m):=A4 q rfl;have x5:(l.alloc (Zk #[Zi g.1,Zs i g.2.1.length j,Zs f g.2.2.length h] 171)).cell? (Zd (w.1.size+1) 5)=some (Zi n):=A4 q rfl;have x6:(l.alloc (Zk #[Zi g.1,Zs i g.2.1.length j,Zs f g.2.2.length h] 171)).cell? (Zd (w.1.size+1) 6)=some (Zt o):=A4 q rfl;have an:=Aa (Yad l (Zk #[Zi g.1,Zs i g.2.1.length j,Zs f g.2.2.length h] 171));have T:=Aa (Ap R.o b);have ar:=b.size;have ap:l.1.size<(l.alloc (Zk #[Zi g.1,Zs i g.2.1.length j,Zs f g.2.2.length h] 171)).1.size:=by simp
 clear ag ad ab ac b V q HA HB U;go_wp2_with fail;generalize l.alloc (Zk #[Zi g.1,Zs i g.2.1.length j,Zs f g.2.2.length h] 171)=W5 at *;refine(J.o W5 T.o).mono ?_;rintro e G⟨rfl,r⟩;have L:=(r.block (w.1.size+2) (by omega)).trans ak.o;have Y:=(r.block l.1.size ap).trans an.o;have c:=(r.block (w.1.size+1) (by omega)).trans aj.o;have al:=Aa L;have aq:w.1.size+2<G.1.size:=E.Ac L;obtain⟨g0,g1,g2,_⟩:=J5 Y;have y0:G.cell? (Zd (w.1.size+1) 0)=some (Zi c1):=A4 c rfl;have y1:G.cell? (Zd (w.1.size+1) 1)=some (Zt y):=A4 c rfl;have y2:G.cell? (Zd (w.1.size+1) 2)=some (Zi z):=A4 c rfl;have y3:G.cell? (Zd (w.1.size+1) 3)=some (Zo D):=A4 c rfl;have y4:G.cell? (Zd (w.1.size+1) 4)=some (Zi m):=A4 c rfl;have y5:G.cell? (Zd (w.1.size+1) 5)=some (Zi n):=A4 c rfl;have y6:G.cell? (Zd (w.1.size+1) 6)=some (Zt o):=A4 c rfl;have ah:=Aa (Ap T.o r);clear r x0 x1 x2 x3 x4 x5 x6 f0 f1 L Y c;go_wp2_with fail;refine(am.o _ _ _ _ _ _ _).mono ?_;rintro e w7⟨v7,rfl,ae,x⟩;go_wp2_with fail;refine(u.o v7 w7 _ ae).mono ?_;rintro e d⟨rfl,M⟩;have a:=(M.block (w.1.size+2) (by have:=x.size;omega)).trans ((x.block (w.1.size+2) aq).trans al.o);have r0:d.cell? (Zd (w.1.size+2) 0)=some (Zi 0):=A4 a rfl;have r1:d.cell? (Zd (w.1.size+2) 1)=some (Zi 0):=A4 a rfl;have r2:d.cell? (Zd (w.1.size+2) 2)=some (Zi 0):=A4 a rfl;have r3:d.cell? (Zd (w.1.size+2) 3)=some (Zi 0):=A4 a rfl;have r4:d.cell? (Zd (w.1.size+2) 4)=some (Zt ⟨#[]⟩):=A4 a rfl;have r5:d.cell? (Zd (w.1.size+2) 5)=some (Zi 0):=A4 a rfl;have r6:d.cell? (Zd (w.1.size+2) 6)=some (Zi 0):=A4 a rfl;have r7:d.cell? (Zd (w.1.size+2) 7)=some (Zt ⟨#[]⟩):=A4 a rfl;have z0:=Yag d (w.1.size+2) 0 _ _ a;have z1:=Yag d (w.1.size+2) 1 _ _ a;have z2:=Yag d (w.1.size+2) 2 _ _ a;have z3:=Yag d (w.1.size+2) 3 _ _ a;have z4:=Yag d (w.1.size+2) 4 _ _ a;have z5:=Yag d (w.1.size+2) 5 _ _ a;have z6:=Yag d (w.1.size+2) 6 _ _ a;have z7:=Yag d (w.1.size+2) 7 _ _ a;have ai:=Aa (Ap (Ap ah.o x) M);clear x M a ae y0 y1 y2 y3 y4 y5 y6 g0 g1 g2;go_wp2;refine bodyPost_ret (v:=Zg #[Zi s1,Zi s2,Zi k1,Zi n1,Zt t1,Zi k2,Zi n2,Zt t2]) (by simp[results,results137,go_sem,r0,r1,r2,r3,r4,r5,r6,r7]) rfl ⟨rfl,?_⟩;exact(((((((ai.o.setCell (p:=Zd (w.1.size+2) 0) (XO _ _) _).setCell (p:=Zd (w.1.size+2) 1) (XO _ _) _).setCell (p:=Zd (w.1.size+2) 2) (XO _ _) _).setCell (p:=Zd (w.1.size+2) 3) (XO _ _) _).setCell (p:=Zd (w.1.size+2) 4) (XO _ _) _).setCell (p:=Zd (w.1.size+2) 5) (XO _ _) _).setCell (p:=Zd (w.1.size+2) 6) (XO _ _) _).setCell (p:=Zd (w.1.size+2) 7) (XO _ _) _
def I5(b:List Aj)(p:List (List V))(a:List Aj)(s:ByteArray):S.St:=if Ce a s<0 then S.F6 else S.Iv (p.map λr=>pick b r (a[(Ce a s).toNat]?.getD zC))
theorem AB3(k:Nat)(l m:Tv)(a:List Aj)(gs:List Fk)(p:List (List V))(c1:Int)(f:Tb)(g:Int)(h:Bool)(b c:Int)(d:Tb)(w:Tw)(q:Hm w l m (a,gs))(s:gs[k]? = some (An a p))(n:1<=a.length)(o:a.length<=8)(i:1<=p.length)(j:p.length<=6):
 Zc 137 #[Zg #[l,m],Zi k,Zg #[Zi c1,Zt f,Zi g,Zo h,Zi b,Zi c,Zt d]] w λe t=>e=Zr (Zg (S.E6 (S.Iv (p.map λr=>pick a r (c1,f,g,h,b,c,d)))))/\Zb w t:=by
 by_cases hp:pos a c1<a.length
 ·have e:(p.map λr=>pick a r (c1,f,g,h,b,c,d))=D7 p (pos a c1):=by
   unfold D7 pick;simp only[A2 hp]
  rw[e];exact V5 k (pos a c1) l m a gs (An a p) _ c1 f g h b c d w q s n o (dF a p i j) (by unfold cM;rw[A2 hp]) (ACi a p hp)
 have e:(p.map λr=>pick a r (c1,f,g,h,b,c,d))=List.replicate (An a p).1 (b,c,d):=by unfold pick;simp only[A1 hp];rw[List.map_const'];rfl
 rw[e];exact AFz k l m a gs (An a p) c1 f g h b c d w q s n o (dF a p i j) (ABF hp)
theorem AFd(f l:List Aj)(gs:List Fk)(p:List (List V))(k:Nat)(cv gv:Tv)(g o cp L y M:Nat)(s:Tb)(w:Tw)(T:Hm w cv gv (f,gs))(hk:gs[k]? = some (An f p))(aj:1<=f.length)(ak:f.length<=8)(h8:l.length<=8)(al:1<=p.length)(am:p.length<=6)(hs:I1 w g o l)(Y:w.cell? (Zd L 0)=some (Zs (some (Zd g o)) l.length cp))(U:w.cell? (Zd y 0)=some cv)(X:w.cell? (Zd y 1)=some gv)(aa:w.cell? (Zd M 0)=some (Zi k))(ab:L<w.1.size)(J:y<w.1.size)(ad:M<w.1.size):
 Zc 136 #[Zt s,Zp (some (Zd L 0)),Zp (some (Zd y 0)),Zp (some (Zd M 0))] w λe w'=>e=Zr (Zg (S.E6 (I5 f p l s)))/\Zb w w':=by
 have P:=Aa (λW(b:Zb w W)=>E8 g o cp l s W (hs.below b) h8);have h:Zb w (w.alloc (Zk (S.E6 S.F6) 235)):=Zal;obtain⟨ca,cc,ec,_⟩:=T.1.slice;obtain⟨ga,gc,eg,_⟩:=T.2.slice;dsimp only at ec eg;subst ec eg
 rcases Gz l s with⟨N,_⟩|⟨j,hj,N,_⟩
 ·have R:Hid (I5 f p l s=S.F6):=Aa (by unfold I5;rw[A2 (by omega)])
  rw[R.o];simp only[N] at P;clear R N T hk hs;go_enter func136,ntmps136;go_wp2_with fail;refine(P.o _ h).mono ?_;rintro e i⟨rfl,a⟩;have G:S.Nq i w.1.size S.F6:=S.Nq.up (Yad _ _) a;obtain⟨c0,c1,c2,c3,c4,c5,c6,c7⟩:=S.Nq.cells (c:=0) (m:=0) (k:=0) (n:=0) (t:=⟨#[]⟩) (k':=0) (n':=0) (t':=⟨#[]⟩) G;obtain⟨f0,f1,f2,f3,f4,f5,f6,f7⟩:=G.free;have B1:Hid (Zb w i):=Aa (Ap h a);clear a G h;go_wp2;exact bodyPost_ret (v:=Zg #[Zi 0,Zi 0,Zi 0,Zi 0,Zt ⟨#[]⟩,Zi 0,Zi 0,Zt ⟨#[]⟩]) (by simp[results,results136,go_sem,c0,c1,c2,c3,c4,c5,c6,c7]) rfl ⟨rfl,S.b8c B1.o (XB _) _ _ _ _ _ _ _ _⟩
 have R:Hid (I5 f p l s=S.Iv (p.map λr=>pick f r (l[j]?.getD zC))):=Aa (by unfold I5;rw[A1 (by omega),N];rfl);rw[R.o];simp only[N] at P;have ex:∃x,l[j]! = x:=⟨_,rfl⟩;obtain⟨⟨y1,y2,y3,y4,y5,y6,y7⟩,hx⟩:=ex
 have hx? : (l[j]?.getD zC)=(y1,y2,y3,y4,y5,y6,y7):=by rw[Y' hj,WH,<-hx,getElem!_pos l j hj]
 have q:=Aa (λW(b:Zb w W)=>AB3 k (Zs ca f.length cc) (Zs ga gs.length gc) f gs p y1 y2 y3 y4 y5 y6 y7 W (T.up b) hk aj ak al am);rw[<-hx?] at q;have HS:=Aa hs;have aq:(j:Int)<(l.length:Int):=by omega
 have ao:¬(j:Int)<0:=by omega
 have ap:(0:Int)<=(j:Int):=by omega
 obtain⟨⟨s1,s2,⟨k1,n1,t1⟩,⟨k2,n2,t2⟩⟩,af⟩:∃st,S.Iv (p.map λr=>pick f r (l[j]?.getD zC))=st:=⟨_,rfl⟩;rw[af] at q ⊢;unfold S.E6 at q ⊢;simp only at q ⊢;clear af;clear R N T hk hs hx?;go_enter func136,ntmps136;go_wp2_with fail;refine(P.o _ h).mono ?_;rintro e i⟨rfl,u⟩;have G:S.Nq i w.1.size S.F6:=S.Nq.up (Yad _ _) u;have a:=Ap h u;have an:w.1.size<i.1.size:=E.Ac G;clear u h;obtain⟨e0,e1,e2,e3,e4,e5,e6⟩:=(HS.o.below a).cells hj hx;have d0:=(a.cell (p:=Zd L 0) ab).trans Y;have d1:=(a.cell (p:=Zd y 0) J).trans U;have d2:=(a.cell (p:=Zd y 1) J).trans X;have d3:=(a.cell (p:=Zd M 0) ad).trans aa;clear Y U X aa hx P;have d:g<i.1.size:=(HS.o.below a).1;have ac:L<i.1.size:=Ya ab a.size;have D:y<i.1.size:=Ya J a.size;have ae:M<i.1.size:=Ya ad a.size
 have HK:Hid (∀W,Zb i W->W.cell? (Zd L 0)=some (Zs (some (Zd g o)) l.length cp)/\W.cell? (Zd y 0)=some (Zs ca f.length cc)/\W.cell? (Zd y 1)=some (Zs ga gs.length gc)/\W.cell? (Zd M 0)=some (Zi k)/\W.cell? (Zd g (o+j*7))=some (Zi y1)/\W.cell? (Zd g (o+j*7+1))=some (Zt y2)/\W.cell? (Zd g (o+j*7+2))=some (Zi y3)/\W.cell? (Zd g (o+j*7+3))=some (Zo y4)/\W.cell? (Zd g (o+j*7+4))=some (Zi y5)/\W.cell? (Zd g (o+j*7+5))=some (Zi y6)/\W.cell? (Zd g (o+j*7+6))=some (Zt y7)):=Aa (λW b=>⟨(b.cell (p:=Zd L 0) ac).trans d0,(b.cell (p:=Zd y 0) D).trans d1,(b.cell (p:=Zd y 1) D).trans d2,(b.cell (p:=Zd M 0) ae).trans d3,(b.cell (p:=Zd g (o+j*7)) d).trans e0,(b.cell (p:=Zd g (o+j*7+1)) d).trans e1,(b.cell (p:=Zd g (o+j*7+2)) d).trans e2,(b.cell (p:=Zd g (o+j*7+3)) d).trans e3,(b.cell (p:=Zd g (o+j*7+4)) d).trans e4,(b.cell (p:=Zd g (o+j*7+5)) d).trans e5,(b.cell (p:=Zd g (o+j*7+6)) d).trans e6⟩)
 have ai:Hid (∀W,Zb i W->S.Nq W w.1.size S.F6):=Aa (λW b=>S.Nq.up G b);have O:=Aa a;have ah:Hid (∀args w,(callFunc 137 args).run prog w=.ok (.enter 137 args) w):=Aa (enters_of func137 (by kernel_rfl) rfl);clear G a;go_wp2_with fail;clear HK
 go_region_law
  (first
    | (refine Nh (by rfl) 137 (.tmp 13) (.tmp 14) (.tmp 18) 125 3 59 (by rfl) (Zg #[Zs ca f.length cc,Zs ga gs.length gc]) (Zi k) (Zg #[Zi y1,Zt y2,Zi y3,Zo y4,Zi y5,Zi y6,Zt y7]) (by rfl) (by rfl) (by rfl) ah.o _ (q.o i.drew O.o.drew) ?_
       rintro e w2⟨rfl,z⟩;have I:Zb i w2:=Ap (XA _ _).drew z;have K2:=ai.o w2 I;obtain⟨c0,c1,c2,c3,c4,c5,c6,c7⟩:=S.Nq.cells (c:=0) (m:=0) (k:=0) (n:=0) (t:=⟨#[]⟩) (k':=0) (n':=0) (t':=⟨#[]⟩) K2;obtain⟨f0,f1,f2,f3,f4,f5,f6,f7⟩:=K2.free;clear K2;refine⟨_,rfl,?_⟩)
    | fail)
 all_goals
  have ag:=Aa (Ap O.o I);clear I z;go_wp2;exact bodyPost_ret (v:=Zg #[Zi s1,Zi s2,Zi k1,Zi n1,Zt t1,Zi k2,Zi n2,Zt t2]) (by simp[results,results136,go_sem,c0,c1,c2,c3,c4,c5,c6,c7]) rfl ⟨rfl,S.b8c ag.o (XB _) _ _ _ _ _ _ _ _⟩
theorem pE(a l:List Aj)(gs:List Fk)(p:List (List V))(k:Nat)(d f:Tv)(g o j:Nat)(T:S.CT)(v:Tv)(w:Tw)(m:Hm w d f (a,gs))(L:gs[k]? = some (An a p))(q:1<=a.length)(r:a.length<=8)(h8:l.length<=8)(t:1<=p.length)(u:p.length<=6)(N:I1 w g o l)(O:S.Gy w T v)(M:S.Lp w)(J:S.C9 T 24=true):
 Zc 84 #[Zg #[d,f],Zi k,Zs (some (Zd g o)) l.length j,v] w λe y=>e=Zr (Zo (S.Bp (I5 a p l) false T))/\Zb w y:=by
 have i:Zb w (((w.alloc (Zk #[d,f] 125)).alloc (Zk #[Zi k] 3)).alloc (Zk #[Zs (some (Zd g o)) l.length j] 34)):=b3 w _ _ _
 have X:Hid (∀W,Zb w W->W.1[w.1.size]? = some (Zk #[d,f] 125)->W.1[w.1.size+1]? = some (Zk #[Zi k] 3)->W.1[w.1.size+2]? = some (Zk #[Zs (some (Zd g o)) l.length j] 34) ->
  Zc 135 #[v,.func (.func 136) #[] #[Zp (some (Zd (w.1.size+2) 0)),Zp (some (Zd w.1.size 0)),Zp (some (Zd (w.1.size+1) 0))]] W λe y=>e=Zr (Zo (S.Bp (I5 a p l) false T))/\Zb W y):=Aa (λW hW q0 q1 q2=>
  S.AG4 _ (I5 a p l) T v W (O.up hW) (λY s h=>S.AM0 _ _ _ (I5 a p l) s Y (λW2 s2 hW2=>by have I:=Ap (Ap hW h) hW2;have b:=Ap h hW2;have x:=(b.block _ (E.Ac q0)).trans q0;have P:=(b.block _ (E.Ac q1)).trans q1;have U:=(b.block _ (E.Ac q2)).trans q2;exact AFd a l gs p k d f g o j _ _ _ s2 W2 (m.up I) L q r h8 t u (N.below I) (S.cell_of_heap U 0) (S.cell_of_heap x 0) (S.cell_of_heap x 1) (S.cell_of_heap P 0) (E.Ac U) (E.Ac x) (E.Ac P))) (M.below hW) J)
 have aa:∀(G:Fn)(first c:Array Tv)(w:Tw),(Instr.makeFunc G first c).run prog w=.ok (.func G first c) w:=λ_ _ _ _=>rfl
 obtain⟨ca,cc,z,_⟩:=m.1.slice;obtain⟨ga,gc,D,_⟩:=m.2.slice;dsimp only at z D;subst z D;generalize S.Bp (I5 a p l) false T=R at *;clear m L N O M J;go_enter func84,ntmps84;go_wp2_with fail;refine(X.o _ i (AF1 w _ _ _).1 (AF1 w _ _ _).2.1 (AF1 w _ _ _).2.2).mono ?_;rintro e w1⟨rfl,n⟩;go_wp2;go_ret;exact⟨rfl,Ap i n⟩
theorem ADM(l:List Aj)(r:List V)(g o G D z a b q:Nat)(s:Tb)(w:Tw)(h8:l.length<=8)(hs:I1 w g o l)(N:r.length=l.length)(h:Rf l s)(t:w.cell? (Zd z 0)=some (Zs (some (Zd g o)) l.length G))(i:w.cell? (Zd D 0)=some (Zs (some (Zd a b)) l.length q))(hc:∀j x,r[j]? = some x->w.cell? (Zd a (b+j*3))=some (Zi x.1)/\w.cell? (Zd a (b+j*3+1))=some (Zi x.2.1)/\w.cell? (Zd a (b+j*3+2))=some (Zt x.2.2))(q1:z<w.1.size)(q4:D<w.1.size)(O:a<w.1.size):
 Zc 200 #[Zt s,Zp (some (Zd D 0)),Zp (some (Zd z 0))] w λe w'=>e=Zr (Zg #[Zi (Uk l r s).1,Zi (Uk l r s).2.1,Zt (Uk l r s).2.2])/\Zb w w':=by
 obtain⟨j,hj,n⟩:∃j:Nat,j<l.length/\Ce l s=j:=by
  rcases Gz l s with⟨n,_⟩|⟨j,hj,n,_⟩
  ·unfold Rf at h;omega
  exact⟨j,hj,n⟩
 have X:=Aa (λW(c:Zb w W)=>E8 g o G l s W (hs.below c) h8);simp only[n] at X;obtain⟨⟨P,R,T⟩,y⟩:∃v,Uk l r s=v:=⟨_,rfl⟩
 have u:r[j]? = some (P,R,T):=by unfold Uk at y;rw[n,XP,Y' (by omega)] at y;rw[Y' (by omega)];simpa using y
 rw[y];obtain⟨x0,x1,x2⟩:=hc j _ u;have ab:(j:Int)<(l.length:Int):=by omega
 have aa:(0:Int)<=(j:Int):=by omega
 have L:Hid (∀args w,(callFunc 115 args).run prog w=.ok (.enter 115 args) w):=Aa (enters_of func115 (by kernel_rfl) rfl);clear y u hc hs h n N;go_enter func200,ntmps200;go_wp2_with fail;have m:Zb w (w.alloc (Zk #[Zi 0,Zi 0,Zt ⟨#[]⟩] 55)):=Zal;have M:=Yad w (Zk #[Zi 0,Zi 0,Zt ⟨#[]⟩] 55)
 have Y:Hid (∀W,Zb w W->W.cell? (Zd z 0)=some (Zs (some (Zd g o)) l.length G)/\W.cell? (Zd D 0)=some (Zs (some (Zd a b)) l.length q)/\W.cell? (Zd a (b+j*3))=some (Zi P)/\W.cell? (Zd a (b+j*3+1))=some (Zi R)/\W.cell? (Zd a (b+j*3+2))=some (Zt T)):=Aa (λW c=>⟨(c.cell (p:=Zd z 0) q1).trans t,(c.cell (p:=Zd D 0) q4).trans i,(c.cell (p:=Zd a (b+j*3)) O).trans x0,(c.cell (p:=Zd a (b+j*3+1)) O).trans x1,(c.cell (p:=Zd a (b+j*3+2)) O).trans x2⟩)
 generalize w.alloc (Zk #[Zi 0,Zi 0,Zt ⟨#[]⟩] 55)=I at *;obtain⟨p0,p3,p4,p5,p6⟩:=Y.o I m;have HZ:Hid (∀W,Zb I W->W.1[w.1.size]? = some (Zk #[Zi 0,Zi 0,Zt ⟨#[]⟩] 55)):=Aa (λW c=>(c.block _ (E.Ac M)).trans M);have k:=Aa m;clear t i x0 x1 x2 m M
 go_region_law
  (first
    | (refine Gc (by rfl) 115 (.tmp 6) (.tmp 7) 34 9 (by rfl) (Zs (some (Zd g o)) l.length G) (Zt s) (by rfl) (by rfl) L.o _ (X.o I.drew k.o.drew) ?_
       rintro e U⟨rfl,f⟩;have d:Zb I U:=Ap (XA _ _).drew f;obtain⟨r0,r3,r4,r5,r6⟩:=Y.o U (Ap k.o d);obtain⟨z0,z1,z2,t0,t1,t2⟩:=J5 (HZ.o U d);refine⟨_,rfl,?_⟩)
    | fail)
 all_goals
  have J:=Aa (Ap k.o d);clear d f;go_wp2;exact bodyPost_ret (v:=Zg #[Zi P,Zi R,Zt T]) (by simp[results,results200,go_sem,z0,z1,z2]) rfl ⟨rfl,((J.o.setCell (p:=Zd w.1.size 0) (XB _) _).setCell (p:=Zd w.1.size 1) (XB _) _).setCell (p:=Zd w.1.size 2) (XB _) _⟩
theorem ACq(pa i:Tv)(g h:Tb->Int)(gt:Tb->Tb)(P:Tb->Prop)(s:Tb)(w:Tw)(r:P s)(l:∀(W:Tw)(s:Tb),P s->Zb w W->Zc 200 #[Zt s,pa,i] W λe d=>e=Zr (Zg #[Zi (g s),Zi (h s),Zt (gt s)])/\Zb W d):
 Zc 241 #[.func (.func 200) #[] #[pa,i],Zt s] w λe d=>e=Zr (Zg #[Zi (g s),Zi (h s),Zt (gt s)])/\Zb w d:=by
 have o:Hid (∀W,Zb w W->Zc 200 #[Zt s,pa,i] W λe d=>e=Zr (Zg #[Zi (g s),Zi (h s),Zt (gt s)])/\Zb W d):=λW hb=>l W s r hb
 clear l;have u:∀(j:Fn)(first c:Array Tv)(w:Tw),(Instr.makeFunc j first c).run prog w=.ok (.func j first c) w:=λ_ _ _ _=>rfl
 generalize g s=k,h s=n,gt s=t at *
 go_enter_defers func241,ntmps241
 go_wp2_with fail;refine(o.o _ (Zal)).mono ?_;rintro e b⟨rfl,a⟩;have c0:b.cell? (Zd w.1.size 0)=some (Zi 0):=(a.cell (p:=Zd w.1.size 0) (by simp)).trans (by go_simp);have c1:b.cell? (Zd w.1.size 1)=some (Zi 0):=(a.cell (p:=Zd w.1.size 1) (by simp)).trans (by go_simp);have q:b.cell? (Zd w.1.size 2)=some (Zt ⟨#[]⟩):=(a.cell (p:=Zd w.1.size 2) (by simp)).trans (by go_simp);have x:b.frozen? (Zd w.1.size 0)=false:=(a.frozen (p:=Zd w.1.size 0) (by simp)).trans (by go_simp);have y:b.frozen? (Zd w.1.size 1)=false:=(a.frozen (p:=Zd w.1.size 1) (by simp)).trans (by go_simp);have z:b.frozen? (Zd w.1.size 2)=false:=(a.frozen (p:=Zd w.1.size 2) (by simp)).trans (by go_simp);have m:Hid (Zb w b):=((XA _ w).alloc (XB _) _).trans (a.mono (by simp));clear a;go_wp2;refine leaves_cons (f:=282) (args:=#[Zp (some (Zd w.1.size 0))]) (by simp) (by simp[go_sem]) ?_;refine(S.AEX (Zd w.1.size 0) _).mono ?_;rintro e D v⟨rfl,rfl,rfl⟩;simp[Leaves,settle,results,results241,go_sem,c0,c1,q];exact((m.o.setCell (XB _) _).setCell (XB _) _).setCell (XB _) _
structure kI(W:World)(a b:Nat)(lv vv:Value):Prop where
 va:W.1[a]? = some (.cells #[vv] 61)
 lb:W.1[b]? = some (.cells #[lv] 34)
theorem kI.up{W V:Tw}{a b:Nat}(h:kI W a b v u)(c:Zb W V):kI V a b v u :=
 ⟨(c.block a (E.Ac h.va)).trans h.va,(c.block b (E.Ac h.lb)).trans h.lb⟩
def AA0(a b:Nat):Value:=.func (.func 200) #[] #[.pointer (some ⟨a,0,none⟩),.pointer (some ⟨b,0,none⟩)]
theorem AGC(d h:To)(g f j i:Nat)(w:Tw):Zc 141 #[Zs d g f,Zs h j i] w λe m=>∃a b,e=Zr (AA0 a b)/\kI m a b (Zs d g f) (Zs h j i)/\Below w.1.size w m:=by
 have n:∀(k:Fn)(first c:Array Tv)(w:Tw),(Instr.makeFunc k first c).run prog w=.ok (.func k first c) w:=λ_ _ _ _=>rfl
 go_enter func141,ntmps141;go_wp2;go_ret;have l:=Yad (w.alloc (Zk #[Zs d g f] 34)) (Zk #[Zs h j i] 61);rw[X2] at l;exact⟨w.1.size+1,w.1.size,rfl,⟨l,(XU _ _ _ (by simp)).trans (Yad w _)⟩,S.Gj w _ _⟩
def evR(l:List Aj)(r:List V)(T:S.CT):Int:=S.Io (λs=>(Uk l r s).1) (λs=>(Uk l r s).2.1) (λs=>(Uk l r s).2.2) T
theorem AB4(l:List Aj)(r:List V)(g o m a b:Nat)(n:Tv)(T:S.CT)(v:Tv)(w:Tw)(q:l.length<=8)(I:I1 w g o l)(f:r.length=l.length)(O:1<=l.length)(J:E.Sl w n r)(t:kI w a b (Zs (some (Zd g o)) l.length m) n)(G:S.Gy w T v)(x:S.Kg (Rf l) T)(D:S.C9 T 24=true):
 Zc 140 #[v,AA0 a b] w λe M=>e=Zr (Zi (evR l r T))/\Zb w M:=by
 refine S.AAk (Rf l) (AA0 a b) _ _ _ T v w G x (λW s u y=>?_) D;refine ACq (Zp (some (Zd a 0))) (Zp (some (Zd b 0))) (λs=>(Uk l r s).1) (λs=>(Uk l r s).2.1) (λs=>(Uk l r s).2.2) (Rf l) s W u (λW2 s2 hP2 hb2=>?_);have h:=Ap y hb2;have d:=t.up h;obtain⟨N,c,rfl,_,z⟩:=J.up h;obtain⟨p,L,rfl,k,i⟩:=z (by intro e;rw[e] at f;simp at f;omega);have j:=d.va;rw[f] at j;exact ADM l r g o m a b p L c s2 W2 q (I.below h) f hP2 (S.cell_of_heap d.lb 0) (S.cell_of_heap j 0) i (E.Ac d.lb) (E.Ac d.va) k
abbrev Px:=ByteArray×Int×List V
def Og(x:ByteArray×Int×Value):List Value:=[.string x.1,Zi x.2.1,x.2.2]
def Fp(I B:Nat)(w:World)(v:Value)(rs:List Px):Prop:=∃xs:List (ByteArray×Int×Value),xs.length=rs.length/\w.ownsRow B 78 3 v rs.length (xs.flatMap Og)/\∀(j:Nat)x r,xs[j]? = some x->rs[j]? = some r->x.1=r.1/\x.2.1=r.2.1/\w.ownsRow I 55 3 x.2.2 r.2.2.length (E.AHk r.2.2)
theorem Fp.up{I B:Nat}{rs:List Px}(h:Fp I B w v rs)(d:Zb w W):Fp I B W v rs:=by obtain⟨xs,e,f,a⟩:=h;exact⟨xs,e,E.Ad f d,λj x r c b=>⟨(a j x r c b).1,(a j x r c b).2.1,E.Ad (a j x r c b).2.2 d⟩⟩
theorem P6(I B:Nat)(w:Tw):Fp I B w (Zs none 0 0) []:=⟨[],rfl,XI _ _ _ _,λj x r a=>by simp at a⟩
def Jw(qk:ByteArray)(qv:List Int)(l:List Aj)(T:S.CT):Int->List (List V)->List Px
 | _,[]=>[]
 | p,r :: rs=>if (qv.any λy=>p==y)=false/\evR l r T=1 then (qk,p,r) :: Jw qk qv l T (p+1) rs else Jw qk qv l T (p+1) rs
theorem rC(qk:Tb)(qv:List Int)(l:List Aj)(T:S.CT):∀(rs:List (List V))(p:Int)(r:List V),Jw qk qv l T p (rs++[r])=Jw qk qv l T p rs++(if (qv.any λy=>(p+rs.length)==y)=false/\evR l r T=1 then [(qk,p+rs.length,r)] else [])
 | [],p,r=>by simp only[X',Jw,List.length_nil,WI,WQ]
 | q :: rs,p,r=>by
   have a:=rC qk qv l T rs (p+1) r;have e:p+1+(rs.length:Int)=p+((q :: rs).length:Int):=by simp only[XM];omega
   rw[e] at a;simp only[XV,Jw];split
   ·rw[a];rfl
   exact a
def ABC:Value:=.agg #[.string ⟨#[]⟩,Zi 0,.slice none 0 0]
theorem AEA:(prog.info? 78).map (λi=>(i.zero,i.size,i.bytes))=some (some ABC,3,48):=by kernel_rfl
def Ev:Value->Nat
 | .int _ n=>n.toNat
 | _=>0
theorem yF.at{I:Nat}{w:Tw}{v:Tv}{qj:List (List V)}(h:yF I w v qj){k:Nat}{r:List V}(i:qj[k]? = some r):∃d c x,v=Zs (some (Zd d 0)) qj.length c/\d<w.1.size/\qj.length<=c/\w.cell? (Zd d k)=some x/\w.ownsRow I 55 3 x r.length (E.AHk r):=by
 obtain⟨p,s,e,m⟩:=h;have o:=Ax i;obtain⟨x,j⟩:∃x,p[k]? = some x:=⟨_,Y' (by omega)⟩
 rcases e.2 with⟨_,q⟩|⟨g,b,l,rfl,t,n,a,_,_⟩
 ·omega
 have f:=e.cells (g:=g) rfl;simp only[E.addr_add] at f;have:=f k x j;exact⟨g,b,x,rfl,E.Ac n,a,by simpa using this,m k x r j i⟩
theorem a8{n i j m n1 n2:Nat}{c d:TypeId}{Y:List Tv}(e:w.ownsRow n c j v n1 X)(f:w.ownsRow i d m u n2 Y)(g:c≠d):∀k,v.ownBlock=some k->u.ownBlock≠some k:=λk h b=>by
 obtain⟨c1,l⟩:=Ho e h;obtain⟨o,a⟩:=Ho f b;rw[l] at a;injection a with a;injection a with _ a;exact g a
theorem Fp.snoc{I B:Nat}{v v':Tv}{rs:List Px}{p:Tb}{i:Int}{x:Tv}{xs:List (Tb×Int×Tv)}(o:xs.length=rs.length)(t:w.ownsRow B 78 3 v rs.length (xs.flatMap Og))(u:∀(j:Nat)x r,xs[j]? = some x->rs[j]? = some r->x.1=r.1/\x.2.1=r.2.1/\w.ownsRow I 55 3 x.2.2 r.2.2.length (E.AHk r.2.2))(G:w.ownsRow I 55 3 x r.length (E.AHk r))(z:w.grownBy W v.ownBlock)(D:W.ownsRow B 78 3 v' (rs.length+1) (xs.flatMap Og++Og (p,i,x))):Fp I B W v' (rs++[(p,i,r)]):=by
 have g:∀{y:Tv}{n:Nat}{s:List Tv},w.ownsRow I 55 3 y n s->W.ownsRow I 55 3 y n s:=λd=>Az d z λk g e=>a8 t d (by decide) k e g
 refine⟨xs++[(p,i,x)],by simp[o],?_,λj y q d f=>?_⟩
 ·simpa using D
 rcases Yc j xs.length with l|h
 ·rw[XE l] at d
  rw[XE (by omega)] at f;obtain⟨a,b,c⟩:=u j y q d f;exact⟨a,b,g c⟩
 rw[XD h] at d;rw[XD (by omega)] at f;rw[o] at d;cases hj:j-rs.length with
 | zero=>rw[hj] at d f;simp at d f;subst d f;exact⟨rfl,rfl,g G⟩
 | succ m=>rw[hj] at d;simp at d
theorem rI(I:Nat)(gr:Tv)(qj:List (List V))(first:Nat)(qk:Tb)(er:Int)(ma:To)(mn mc:Nat)(qv:List Int)(g o cp:Nat)(l:List Aj)(T:S.CT)(v:Tv)(w:Tw)(hR:yF I w gr qj)(bb:qj.length<=6)(ah:∀r∈qj,r.length=l.length)(hf:first<=1000)(hm:Ph w (Zs ma mn mc) qv)(a9:qv.length<=1000)(h8:l.length<=8)(h1:1<=l.length)(hs:I1 w g o l)(hi:S.Gy w T v)(ha:S.Kg (Rf l) T)(hd:S.C9 T 24=true):
 Zc 86 #[gr,Zi (first:Int),Zg #[Zt qk,Zi er,Zs ma mn mc],Zs (some (Zd g o)) l.length cp,v] w λe w'=>∃v',e=Zr v'/\Fp I w.1.size w' v' (Jw qk qv l T first qj)/\Zb w w':=by
 obtain⟨ga,gc,rfl,a7⟩:=hR.o.slr.slice;go_enter func86,ntmps86;go_wp2_with fail;have HR:=Aa hR;have av:=Aa ah;have HM:=Aa hm;have HS:=Aa hs;have HI:=Aa hi;have HA:=Aa ha;have HD:=Aa hd;have ar:=Aa (Yad w (Zk #[Zt qk,Zi er,Zs ma mn mc] 122));have an:Hid (Zb w (w.alloc (Zk #[Zt qk,Zi er,Zs ma mn mc] 122))):=Aa (Zal);obtain⟨iC,aj,ak,al,am⟩:=info_parts AEA;have s:=Zy aj ak al am;clear hR ah hm hs hi ha hd aj ak al am
 go_loopw [11,17] (λvr vi wr=>∃(k:Nat)(a:To)(n c:Nat),k<=qj.length/\vi=Zi (k:Int)/\vr=Zs a n c/\n<=k/\Hid (Fp I w.1.size wr (Zs a n c) (Jw qk qv l T first (qj.take k))/\n=(Jw qk qv l T first (qj.take k)).length)/\Hid (Zb w wr)/\Hid (wr.1[w.1.size]? = some (Zk #[Zt qk,Zi er,Zs ma mn mc] 122))) (λ_ vi _=>qj.length-Ev vi)
 case atStart=>exact⟨0,none,0,0,XC _,rfl,rfl,XB _,Aa ⟨P6 _ _ _,rfl⟩,an,ar⟩
 case round=>
  obtain⟨k,a,n,c,hk,rfl,rfl,ba,HF,HB,Y⟩:=hrel
  rcases Yc k qj.length with a1|a8
  ·obtain⟨r,X⟩:∃r,qj[k]? = some r:=⟨_,Y' a1⟩
   obtain⟨gb,a5,x,eg,a6,a3,hx,U⟩:=(HR.o.up HB.o).at X;injection eg with ax _ ay;subst ax ay;obtain⟨xa,xc,rfl,_⟩:=(E.Cy U);have a0:(k:Int)<(qj.length:Int):=by omega
   have n0:=S.cell_of_heap Y.o 0;have n1:=S.cell_of_heap Y.o 1;have n2:=S.cell_of_heap Y.o 2;simp at n0 n1 n2;have HX:=Aa U;clear U;have ai:qj.take (k+1)=qj.take k++[r]:=S.Cs X;have ag:(qj.take k).length=k:=by rw[XQ];omega
   have t:=Aa (rC qk qv l T (qj.take k) first r);rw[ag,<-ai] at t;clear ai ag;have ao:=Aa (Nc (Zs ma mn mc) qv ((first:Int)+(k:Int)) wr (HM.o.below HB.o) (by unfold maxLen;omega));go_wp2_with fail;apply ao.o.mono;rintro e w1⟨rfl,rfl⟩;cases hb:qv.any (λy=>((first:Int)+(k:Int))==y) with
   | true=>have HQ:Hid (Jw qk qv l T first (qj.take (k+1))=Jw qk qv l T first (qj.take k)):=Aa (by rw[t.o,A1 (by rw[hb];simp),XR]);clear hb;go_wp2;refine⟨⟨k+1,a,n,c,by omega,rfl,rfl,by omega,?_,HB,Y⟩,by simp only[Ev];omega⟩;rw[HQ.o];exact HF
   | false=>
     have aa:=Aa (λ(A B:Nat)W(hW:Zb w W)(hS:kI W A B (Zs (some (Zd g o)) l.length cp) (Zs xa r.length xc))(hv:E.Sl W (Zs xa r.length xc) r)=>AB4 l r g o cp A B (Zs xa r.length xc) T v W h8 (HS.o.below hW) (av.o r (XG X)) h1 hv hS (HI.o.up hW) HA.o HD.o);go_wp2_with fail;refine(AGC _ _ _ _ _ _ _).mono ?_;rintro e w2⟨A,B,rfl,ad,f⟩;have z:=Aa (Ap HB.o f);have P:=Aa (E.Ad HX.o f);have L:=Aa (And.intro (HF.o.1.up f) HF.o.2);have O:=Aa ((f.block _ (E.Ac Y.o)).trans Y.o);have ac:=Aa ad;clear f ad;unfold AA0 at aa ⊢;go_wp2_with fail;refine(aa.o A B w2 z.o ac.o (E.Cy P.o)).mono ?_;rintro e w3⟨rfl,i⟩;have D:=Aa (Ap z.o i);have aw:=Aa (E.Ad P.o i);have M:=Aa (And.intro (L.o.1.up i) L.o.2);have d:=Aa ((i.block _ (E.Ac O.o)).trans O.o);clear i z P L O ac n0 n1 n2;have n0:=S.cell_of_heap d.o 0;have n1:=S.cell_of_heap d.o 1;have n2:=S.cell_of_heap d.o 2;simp at n0 n1 n2
     by_cases hev:evR l r T=1
     ·have HQ:Hid (Jw qk qv l T first (qj.take (k+1))=Jw qk qv l T first (qj.take k)++[(qk,(first:Int)+(k:Int),r)]):=Aa (by rw[t.o,A2 ⟨hb,hev⟩])
      rw[hev];clear hb hev;obtain⟨⟨xs,e1,e2,e3⟩,hn⟩:=M.o;rw[<-hn] at e1 e2;have ap:=Aa e1;have p:=Aa e2;have G:=Aa e3;have au:=Aa hn;have b:Hid (Zb w3 (w3.alloc (Zk #[Zt qk,Zi ((first:Int)+(k:Int)),Zs xa r.length xc] 78))):=Aa (Zal);clear e1 e2 e3 hn M
      go_wp2_with (first
       | (at_builtin;refine wpList_append_own _ rfl _ _ 74 rfl w.1.size 78 iC ABC 3 48 underlying74 s.o.1 s.o.2.1 s.o.2.2.1 s.o.2.2.2 rfl (by decide) (.slice a n c) n (xs.flatMap Og) rfl (E.Ad p.o b.o) (Zd w3.1.size 0) 1 1 (Og (qk,(first:Int)+(k:Int),.slice xa r.length xc)) rfl rfl (λj u hj=>XK (Yad _ _) j u hj) (by intro u hu;simp[Og] at hu;rcases hu with rfl|rfl|rfl <;> rfl) (by unfold maxLen;omega) (by omega) (XJ D.o.size b.o.size) ?_
          intro v1 w5 m af _;have ab:=Aa m;have N:=Aa af;clear m af))
      obtain⟨a',c',rfl,_⟩:=Au ab.o;have ae:=Ap D.o b.o;have R:=(b.o.block _ (E.Ac d.o)).trans d.o;have hn:=au.o;subst hn;refine⟨⟨k+1,a',_,c',by omega,by simp,rfl,by omega,Aa ⟨?_,?_⟩,Aa (ae.grown N.o ae.size (λj hj=>Fu p.o hj)),Aa ?_⟩,by simp only[Ev];omega⟩
      ·rw[HQ.o]
       exact Fp.snoc ap.o (E.Ad p.o b.o) (λj x r hx X=>⟨(G.o j x r hx X).1,(G.o j x r hx X).2.1,E.Ad (G.o j x r hx X).2.2 b.o⟩) (E.Ad aw.o b.o) N.o ab.o
      ·rw[HQ.o]
       simp
      refine(N.o.block _ (E.Ac R) (λe=>?_)).trans R;obtain⟨a4,q⟩:=Ho (E.Ad p.o b.o) e.symm;rw[R] at q;injection q with q;injection q with _ q;exact absurd q (by decide)
     have HQ:Hid (Jw qk qv l T first (qj.take (k+1))=Jw qk qv l T first (qj.take k)):=Aa (by rw[t.o,A1 (λh=>hev h.2),XR]);have a2:(evR l r T==1)=false:=by simpa using hev
     generalize evR l r T=ev at *;go_wp2;refine⟨⟨k+1,a,n,c,by omega,rfl,rfl,by omega,?_,D,d⟩,by simp only[Ev];omega⟩;rw[HQ.o];exact M
  have a0:¬((k:Int)<(qj.length:Int)):=by omega
  have az:k=qj.length:=by omega
  subst az;have J:=HF.o;rw[Ye] at J;have aq:=Aa J;clear J;go_wp2;go_ret;exact⟨_,rfl,aq.o.1,HB.o⟩
def Cw(a l:List Aj)(p:List (List V)):List (List V):=p.map λr=>l.map (pick a r)
def Oe(qk:ByteArray)(qv:List Int)(l:List Aj)(T:S.CT)(a:List Aj):Int->List (List (List V))->List Px×Nat
 | _,[]=>([],0)
 | f,p :: ps=>if S.Bp (I5 a p l) false T=true then (Jw qk qv l T f (Cw a l p)++(Oe qk qv l T a (f+p.length) ps).1,(Oe qk qv l T a (f+p.length) ps).2+1) else Oe qk qv l T a (f+p.length) ps
def En:List (List (List V))->Nat
 | []=>0
 | p :: ps=>p.length+En ps
theorem sQ(a:List (List (List V)))(p:List (List V)):En (a++[p])=En a+p.length:=by
 induction a with
 | nil=>simp[En]
 | cons q a ih=>simp only[XV,En,ih];omega
theorem tQ(qk:Tb)(qv:List Int)(l:List Aj)(T:S.CT)(b:List Aj)(p:List (List V)):∀(a:List (List (List V)))(f:Int),Oe qk qv l T b f (a++[p])=if S.Bp (I5 b p l) false T=true then ((Oe qk qv l T b f a).1++Jw qk qv l T (f+En a) (Cw b l p),(Oe qk qv l T b f a).2+1) else Oe qk qv l T b f a
 | [],f=>by simp only[X',Oe,En,WI,WQ,XR,Nat.zero_add]
 | q :: a,f=>by
   have c:=tQ qk qv l T b p a (f+q.length);have e:f+(q.length:Int)+(En a:Int)=f+(En (q :: a):Int):=by simp only[En];omega
   rw[e] at c;simp only[XV,Oe,c];split <;> split <;> simp
theorem AGe(qk:Tb)(qv:List Int)(l:List Aj)(T:S.CT)(rs:List (List V)):∀p:Int,(Jw qk qv l T p rs).length<=rs.length:=by
 induction rs with
 | nil=>intro p;simp[Jw]
 | cons r rs ih=>intro p;simp only[Jw];split <;> simp <;> have:=ih (p+1) <;> omega
theorem xP(qk:Tb)(qv:List Int)(l:List Aj)(T:S.CT)(b:List Aj):∀(a:List (List (List V)))(f:Int),(Oe qk qv l T b f a).2<=a.length/\(Oe qk qv l T b f a).1.length<=En a
 | [],f=>by simp[Oe,En]
 | q :: a,f=>by
   have e:=xP qk qv l T b a (f+q.length);have c:=AGe qk qv l T (Cw b l q) f;have d:(Cw b l q).length=q.length:=by simp[Cw]
   simp only[Oe,En,XM];split
   ·simp only[XH];omega
   omega
theorem Mk{base z n b:Nat}{e t:TypeId}{xs:List Tv}{cs:Array Tv}(h:w.ownsRow base e z v n xs)(d:w.1[b]? = some (Zk cs t))(i:t≠e)(f:w.grownBy W (some b)):W.ownsRow base e z v n xs :=
 Az h f λk g a=>by obtain⟨c,q⟩:=Ho h g;injection a with a;subst a;rw[d] at q;injection q with q;injection q with _ q;exact i q
theorem Hq{base z n b:Nat}{e t:TypeId}{xs:List Tv}{cs:Array Tv}(a:w.1[b]? = some (Zk cs t))(g:w.ownsRow base e z v n xs)(h:t≠e)(f:w.grownBy W v.ownBlock):W.1[b]? = some (Zk cs t):=by refine(f.block _ (E.Ac a) (λd=>?_)).trans a;obtain⟨c,q⟩:=Ho g d.symm;rw[a] at q;injection q with q;injection q with _ q;exact h q
theorem Fp.app{I B:Nat}{v v':Tv}{rs h:List Px}{xs i:List (Tb×Int×Tv)}(o:xs.length=rs.length)(p:w.ownsRow B 78 3 v rs.length (xs.flatMap Og))(s:∀(j:Nat)x r,xs[j]? = some x->rs[j]? = some r->x.1=r.1/\x.2.1=r.2.1/\w.ownsRow I 55 3 x.2.2 r.2.2.length (E.AHk r.2.2))(z:i.length=h.length)(D:∀(j:Nat)x r,i[j]? = some x->h[j]? = some r->x.1=r.1/\x.2.1=r.2.1/\w.ownsRow I 55 3 x.2.2 r.2.2.length (E.AHk r.2.2))(t:w.grownBy W v.ownBlock)(u:W.ownsRow B 78 3 v' (rs.length+h.length) (xs.flatMap Og++i.flatMap Og)):Fp I B W v' (rs++h):=by
 have f:∀{y:Tv}{n:Nat}{zs:List Tv},w.ownsRow I 55 3 y n zs->W.ownsRow I 55 3 y n zs:=λd=>Az d t λk f e=>a8 p d (by decide) k e f
 refine⟨xs++i,by simp[o,z],?_,λj y q d g=>?_⟩
 ·simpa using u
 rcases Yc j xs.length with m|l
 ·rw[XE m] at d
  rw[XE (by omega)] at g;obtain⟨a,b,c⟩:=s j y q d g;exact⟨a,b,f c⟩
 rw[XD l] at d;rw[XD (by omega)] at g;rw[o] at d;obtain⟨a,b,c⟩:=D _ y q d g;exact⟨a,b,f c⟩
theorem ABB{I:Nat}{xs:List (Tb×Int×Tv)}{rs:List Px}(i:xs.length=rs.length)(f:∀(j:Nat)x r,xs[j]? = some x->rs[j]? = some r->x.1=r.1/\x.2.1=r.2.1/\w.ownsRow I 55 3 x.2.2 r.2.2.length (E.AHk r.2.2)):∀u∈xs.flatMap Og,u.oneCell'=true:=by
 intro u b;obtain⟨x,h,b⟩:=List.mem_flatMap.1 b;obtain⟨j,d⟩:=List.getElem?_of_mem h;obtain⟨r,g⟩:∃r,rs[j]? = some r:=⟨_,Y' (by have:=Ax d;omega)⟩;obtain⟨a,c,e,_⟩:=Au (f j x r d g).2.2;simp only[Og,WM,WJ,or_false] at b
 rcases b with rfl|rfl|rfl
 ·rfl
 ·rfl
 rw[e];rfl
theorem wE(I:Nat)(cv gv:Tv)(d:List Aj)(f:List (List (List V)))(qk:Tb)(er:Int)(Y:To)(mn mc:Nat)(qv:List Int)(g o cp:Nat)(l:List Aj)(T:S.CT)(v:Tv)(w:Tw)(hF:Hm w cv gv (d,f.map (An d)))(ce:f.length<=10)(t:∀p∈f,Gr d p/\1<=p.length/\p.length<=6)(hK:Kl d)(a8:∀p∈f,∀b∈(An d p).2.2,b.length<=1000000)(a2:1<=d.length)(a3:d.length<=8)(hm:Ph w (Zs Y mn mc) qv)(b9:qv.length<=1000)(h8:l.length<=8)(h1:1<=l.length)(b6:l.length<=cp)(hs:I1 w g o l)(hi:S.Gy w T v)(ha:S.Kg (Rf l) T)(hd:S.C9 T 24=true)(a6:S.Lp w)(hI:I<=w.1.size):
 Zc 49 #[Zg #[cv,gv],Zg #[Zt qk,Zi er,Zs Y mn mc],Zs (some (Zd g o)) l.length cp,v] w λe w'=>∃v',e=Zr (Zu #[v',Zi ((Oe qk qv l T d 0 f).2:Int)])/\Fp I w.1.size w' v' (Oe qk qv l T d 0 f).1/\Below w.1.size w w':=by
 obtain⟨O,P,ec,_⟩:=hF.1.slice;obtain⟨R,U,eg,a4⟩:=hF.2.slice;dsimp only at ec eg a4;subst ec eg;have ax:=Aa (λ(k:Nat)(p:List (List V))(hk:f[k]? = some p)W(x:Below w.1.size w W)=>pE d l (f.map (An d)) p k (Zs O d.length P) (Zs R (f.map (An d)).length U) g o cp T v W (hF.up x) (by rw[XN,hk];rfl) a2 a3 h8 (t p (XG hk)).2.1 (t p (XG hk)).2.2 (hs.below x) (hi.up x) (a6.below x) hd)
 have az:Hid (∀(k:Nat)(p:List (List V))W,f[k]? = some p->Below w.1.size w W->Zc 85 #[Zg #[Zs O d.length P,Zs R (f.map (An d)).length U],Zi k,Zs (some (Zd g o)) l.length cp] W (l4 (some (Cw d l p)) W)):=Aa λk p W hk x=>by have hm:=XG hk;have:=AFP k (Zs O d.length P) (Zs R (f.map (An d)).length U) (Zs (some (Zd g o)) l.length cp) d (f.map (An d)) (An d p) l W (hF.up x) (by rw[XN,hk];rfl) (AI5 (hs.below x) b6) h8 a2 a3 (a8 p hm);rw[cG (Xl d) (t p hm).1 hK (t p hm).2.1 (t p hm).2.2 l] at this;exact this
 have bu:=Aa (λ(p:List (List V))(f0:Nat)(gr:Tv)W(x:Below w.1.size w W)(hR:yF I W gr (Cw d l p))(al:p.length<=6)(b3:f0<=1000)=>rI I gr (Cw d l p) f0 qk er Y mn mc qv g o cp l T v W hR (by simpa[Cw] using al) (λr hr=>by obtain⟨q,_,rfl⟩:=List.mem_map.1 hr;simp) b3 (hm.below x) b9 h8 h1 (hs.below x) (hi.up x) ha hd);have ar:=Aa (λW(x:Below w.1.size w W)=>(hF.up x).2);obtain⟨iC,bd,bf,bg,bh⟩:=info_parts AEA;have N:=Zy bd bf bg bh;have bw:=Aa t
 have a5:∀qs:List (List (List V)),(∀p∈qs,p.length<=6)->En qs<=6*qs.length:=by
  intro qs
  induction qs with
  | nil=>intro _;simp[En]
  | cons q qs ih=>intro h;have:=ih (λp X=>h p (Yf _ X));have:=h q (XF ..);simp only[En,XM];omega
 have aw:Hid (∀k,En (f.take k)<=60):=Aa λk=>by
  have:=a5 (f.take k) (λp X=>(t p (Yk X)).2.2);have hl:(f.take k).length<=f.length:=by rw[XQ];omega
  omega
 have br:Hid (∀k,(Oe qk qv l T d 0 (f.take k)).2<=10):=Aa λk=>by
  have:=(xP qk qv l T d (f.take k) 0).1;have hl:(f.take k).length<=f.length:=by rw[XQ];omega
  omega
 clear a5;clear hF t a8 hm hs hi ha hd a6 hK bd bf bg bh;simp only[XL] at ax az ar a4 ⊢
 have bi:∀W0:Tw,((W0.alloc (Zk #[Zs O d.length P,Zs R f.length U] 125)).alloc (Zk #[Zt qk,Zi er,Zs Y mn mc] 122)).1[W0.1.size]? = some (Zk #[Zs O d.length P,Zs R f.length U] 125)/\((W0.alloc (Zk #[Zs O d.length P,Zs R f.length U] 125)).alloc (Zk #[Zt qk,Zi er,Zs Y mn mc] 122)).1[W0.1.size+1]? = some (Zk #[Zt qk,Zi er,Zs Y mn mc] 122):=λW0=>by have hn:=Yad (W0.alloc (Zk #[Zs O d.length P,Zs R f.length U] 125)) (Zk #[Zt qk,Zi er,Zs Y mn mc] 122);rw[X2] at hn;exact⟨(XU _ _ _ (by simp)).trans (Yad W0 _),hn⟩
 have bx:=Aa (bi w);have bj:=Aa (S.Gj w (Zk #[Zs O d.length P,Zs R f.length U] 125) (Zk #[Zt qk,Zi er,Zs Y mn mc] 122));clear bi;go_enter func49,ntmps49;go_wp2_with fail
 go_loopw [10,11,12,20] (λvr vl vf vi wr=>∃(k:Nat)(a:To)(n c:Nat),k<=f.length/\vi=Zi (k:Int)/\vr=Zs a n c/\n<=6*k/\vl=Zi ((Oe qk qv l T d 0 (f.take k)).2:Int)/\vf=Zi (En (f.take k):Int)/\Hid (Fp I w.1.size wr (Zs a n c) (Oe qk qv l T d 0 (f.take k)).1/\n=(Oe qk qv l T d 0 (f.take k)).1.length)/\Hid (Below w.1.size w wr)/\Hid (wr.1[w.1.size]? = some (Zk #[Zs O d.length P,Zs R f.length U] 125)/\wr.1[w.1.size+1]? = some (Zk #[Zt qk,Zi er,Zs Y mn mc] 122))) (λ_ _ _ vi _=>f.length-Ev vi)
 case atStart=>exact⟨0,none,0,0,XC _,rfl,rfl,XC _,rfl,rfl,Aa ⟨P6 _ _ _,rfl⟩,bj,bx⟩
 case round=>
  obtain⟨k,a,n,c,hk,rfl,rfl,ck,rfl,rfl,HF,HB,HN⟩:=hrel
  rcases Yc k f.length with b8|ci
  ·obtain⟨p,X⟩:∃p,f[k]? = some p:=⟨_,Y' b8⟩
   obtain⟨_,cl,al⟩:=bw.o p (XG X);obtain⟨gb,go,cg,nn,sv,bv,eg,ch,en,g0,g1,g2,a7,a1⟩:=(ar.o wr HB.o).at (k:=k) (g:=An d p) (by rw[XN,X];rfl);obtain⟨sa,sc,rfl,_⟩:=a7.slice;obtain⟨ba,bc,rfl,_⟩:=a1.slice;clear a7 a1;simp only[XL] at eg;injection eg with b0 _ b1;subst b0 b1;have b2:nn=(p.length:Int):=en;subst b2;have b5:(k:Int)<(f.length:Int):=by omega
   have bb:f.take (k+1)=f.take k++[p]:=S.Cs X;have ah:=Aa (tQ qk qv l T d p (f.take k) 0);have ag:=Aa (sQ (f.take k) p);rw[<-bb] at ah ag;clear bb en;have n0:=S.cell_of_heap HN.o.1 0;have n1:=S.cell_of_heap HN.o.1 1;simp at n0 n1;have cd:En (f.take k)<=60:=aw.o k;have b7:(Oe qk qv l T d 0 (f.take k)).2<=10:=br.o k;have cj:(En (f.take k):Int)+(p.length:Int)<=1000:=by omega
   have cf:=Aa b7;generalize hS:(An d p).2.1.length=sn at *;generalize hT:(An d p).2.2.length=bn at *;clear hS hT;have af:Hid (Below wr.1.size wr (wr.alloc (Zk #[Zi (p.length:Int),Zs sa sn sc,Zs ba bn bc] 171))):=Aa (Zal);have aq:=Aa (Yad wr (Zk #[Zi (p.length:Int),Zs sa sn sc,Zs ba bn bc] 171));have am:=(XU wr (Zk #[Zi (p.length:Int),Zs sa sn sc,Zs ba bn bc] 171) _ (E.Ac HN.o.1)).trans HN.o.1;have m0:=S.cell_of_heap am 0;have m1:=S.cell_of_heap am 1;simp at m0 m1;clear am;generalize aj:(Oe qk qv l T d 0 (f.take k)).2=lk at *;generalize hlen:En (f.take k)=ln at *;go_wp2_with fail;refine(ax.o k p X _ (Ap HB.o af.o)).mono ?_;rintro e w1⟨rfl,ai⟩;have s:=Ap af.o ai;have G:=Aa (Ap HB.o s);have L:=Aa (And.intro (HF.o.1.up s) HF.o.2);have i:=Aa (And.intro ((s.block _ (E.Ac HN.o.1)).trans HN.o.1) ((s.block _ (E.Ac HN.o.2)).trans HN.o.2));have M:=Aa ((ai.block wr.1.size (by simp)).trans aq.o);clear ai s m0 m1 n0 n1 g0 g1 g2 af aq;cases hmay:S.Bp (I5 d p l) false T with
   | false=>have HQ:Hid (Oe qk qv l T d 0 (f.take (k+1))=Oe qk qv l T d 0 (f.take k)):=Aa (by rw[ah.o,A1 (by rw[hmay];simp)]);have x0:=S.cell_of_heap M.o 0;simp at x0;clear hmay;go_wp2;refine⟨⟨k+1,a,n,c,by omega,rfl,rfl,by omega,by rw[HQ.o,aj],by rw[ag.o];simp,?_,G,i⟩,by simp only[Ev];omega⟩;rw[HQ.o];exact L
   | true=>
     have HQ:Hid (Oe qk qv l T d 0 (f.take (k+1))=((Oe qk qv l T d 0 (f.take k)).1++Jw qk qv l T (ln:Int) (Cw d l p),lk+1)):=Aa (by rw[ah.o,A2 hmay,Int.zero_add]);clear hmay;have y0:=S.cell_of_heap i.o.1 0;have y1:=S.cell_of_heap i.o.1 1;simp at y0 y1;go_wp2_with fail;refine(az.o k p w1 X G.o).mono ?_;rintro e w2⟨v2,rfl,J,y⟩;have ab:=Aa (Ap G.o y);have ad:=Aa (And.intro (L.o.1.up y) L.o.2);have m:=Aa (And.intro ((y.block _ (E.Ac i.o.1)).trans i.o.1) ((y.block _ (E.Ac i.o.2)).trans i.o.2));have ae:=Aa ((y.block _ (E.Ac M.o)).trans M.o);have a0:=Aa (J.low (I':=I) (XJ hI G.o.size));obtain⟨va,vc,rfl,_⟩:=J.o.slr.slice;have z0:=S.cell_of_heap m.o.2 0;have z1:=S.cell_of_heap m.o.2 1;have z2:=S.cell_of_heap m.o.2 2;simp at z0 z1 z2;clear J y y0 y1 G L i M;go_wp2_with fail;refine(bu.o p ln _ w2 ab.o a0.o al (by omega)).mono ?_;rintro e w3⟨v3,rfl,aa,z⟩;have an:=Aa (Ap ab.o z);have ay:=Aa (And.intro ((z.block _ (E.Ac m.o.1)).trans m.o.1) ((z.block _ (E.Ac m.o.2)).trans m.o.2));have bp:=Aa ((z.block _ (E.Ac ae.o)).trans ae.o);have ao:=Aa (And.intro (ad.o.1.up z) ad.o.2);have ap:=Aa aa;clear z aa z0 z1 z2 ab ad m ae a0;obtain⟨⟨xs,e1,e2,e3⟩,hn⟩:=ao.o;obtain⟨ys,k1,k2,k3⟩:=ap.o;rw[<-hn] at e1 e2;obtain⟨ya,yc,rfl,_⟩:=Au k2
     have cm:(Jw qk qv l T (ln:Int) (Cw d l p)).length<=6:=by
      have h2:=AGe qk qv l T (Cw d l p) (ln:Int);have h3:(Cw d l p).length=p.length:=by simp[Cw]
      omega
     have bl:=Aa e1;have u:=Aa e2;have bm:=Aa e3;have au:=Aa k1;have bq:=Aa k2;have av:=Aa k3;have bt:=Aa hn;generalize cb:Jw qk qv l T (ln:Int) (Cw d l p)=qs at *;have a9:=an.o.size;clear e1 e2 e3 k1 k2 k3 hn ao ap cb;go_wp2_with (at_builtin;refine E.Ck rfl _ _ 74 rfl w.1.size 78 iC ABC 3 48 underlying74 N.o.1 N.o.2.1 N.o.2.2.1 N.o.2.2.2 rfl (by decide) _ _ _ rfl u.o _ _ _ _ rfl bq.o (ABB au.o av.o) ?f1 ?f2 ?f3 ?_)
     case f1=>unfold maxLen;omega
     case f2=>omega
     case f3=>omega
     intro v4 w4 ak D;obtain⟨a',c',rfl,_⟩:=Au ak;have hn:=bt.o;subst hn;have bz:=Aa (Fp.app bl.o u.o bm.o au.o av.o D ak);have bk:=Aa (an.o.grown D a9 (λj hj=>Fu u.o hj));have bs:=Aa (And.intro (Hq ay.o.1 u.o (by decide) D) (Hq ay.o.2 u.o (by decide) D));have x0:=S.cell_of_heap (Hq bp.o u.o (by decide) D) 0;simp at x0;clear ak D;go_wp2;refine⟨⟨k+1,a',_,c',by omega,rfl,rfl,by omega,by rw[HQ.o];simp,by rw[ag.o];simp,Aa ⟨?_,?_⟩,bk,bs⟩,by simp only[Ev];omega⟩
     ·rw[HQ.o]
      exact bz.o
     rw[HQ.o];simp
  have b5:¬((k:Int)<(f.length:Int)):=by omega
  have b4:k=f.length:=by omega
  subst b4;have ac:=HF.o;rw[Ye] at ac ⊢;have bo:=Aa ac;clear ac;go_wp2;go_ret2;exact⟨_,rfl,bo.o.1,HB.o⟩
def AEy(x:Int):Value:=if x=0 then .nilIface else .iface 107 (Zi x)
def AM7(l:List Aj)(s:ByteArray):Int:=kd (l[(Ce l s).toNat]?.getD zC)
def Mz(l:List Aj)(c:Int)(Bl:ByteArray)(k:Int):Int:=if Ce l Bl<0 then 5 else if c=7\/c=8\/k=0\/k=AM7 l Bl then 0 else 1
def D4(l:List Aj):S.CT->Int
 | .nil=>0
 | .node _ _ ⟨c,Bl,k,_,_⟩ x y=>if c=9\/c=10 then (if D4 l x=0 then D4 l y else D4 l x) else if c=11 then D4 l x else Mz l c Bl k
def Ex(l:List Aj)(T:S.CT):Int:=if S.C9 T 24=true then D4 l T else 1
def EPost(x:Int)(w:World)(e:Ending)(a:World):Prop:=e=.returned (AEy x)/\Zb w a
theorem N7:AEy 0=Zn:=rfl
theorem Et{x:Int}(h:x≠0):AEy x=Zf 107 (Zi x):=A1 h
theorem bC(l:List Aj):∀T:S.CT,D4 l T=0->S.Kg (Rf l) T
 | .nil,_=>trivial
 | .node _ _ ⟨c,Bl,k,_,_⟩ x y,h=>by
   simp only[D4] at h;simp only[S.Kg]
   by_cases h9:c=9\/c=10
   ·rw[A2 h9] at h
    rw[A1 (by omega),A2 h9];split at h
    ·exact⟨bC l x ‹_›,bC l y h⟩
    exact absurd h ‹_›
   rw[A1 h9] at h
   by_cases h11:c=11
   ·rw[A2 h11] at h ⊢
    exact bC l x h
   rw[A1 h11] at h ⊢;rw[A1 h9];unfold Mz at h;unfold Rf;split at h
   ·cases h
   omega
theorem gP(h:Ex l T=0):S.Kg (Rf l) T/\S.C9 T 24=true:=by
 unfold Ex at h;split at h
 ·exact⟨bC l T h,‹_›⟩
 cases h
theorem ACe(g o U:Nat)(l:List Aj)(b:Nat)(c:Int)(Bl:Tb)(k n:Int)(t:Tb)(pl pr:Tv)(w:Tw)(h:I1 w g o l)(X:l.length<=8)(I:w.1[b]? = some (Zk #[Zi c,Zt Bl,Zi k,Zi n,Zt t,pl,pr] 153)):
 Zc 131 #[Zs (some (Zd g o)) l.length U,Zp (some (Zd b 0))] w (EPost (Mz l c Bl k) w):=by
 have r:=Aa (E8 g o U l Bl w h X);have c0:w.cell? (Zd b 0)=some (Zi c):=S.cell_of_heap I 0;have c1:w.cell? (Zd b 1)=some (Zt Bl):=S.cell_of_heap I 1;have i:w.cell? (Zd b 2)=some (Zi k):=S.cell_of_heap I 2;have d:b<w.1.size:=E.Ac I;have s:=Aa h;clear I h
 rcases Gz l Bl with⟨u,_⟩|⟨j,R,u,_⟩
 ·have f:Hid (Mz l c Bl k=5):=Aa (by unfold Mz;rw[A2 (by omega)])
  rw[f.o];rw[u] at r;clear u;go_enter func131,ntmps131;go_wp2_with fail;apply r.o.mono;rintro e L⟨rfl,a⟩;go_wp2;go_ret;exact⟨rfl,a⟩
 have W:∃x,l[j]! = x:=⟨_,rfl⟩;obtain⟨⟨y1,y2,P,y4,y5,y6,y7⟩,T⟩:=W
 have J:AM7 l Bl=P:=by unfold AM7;rw[u,XP,Y' R,WH,<-getElem!_pos l j R,T];rfl
 have f:Hid (Mz l c Bl k=if c=7\/c=8\/k=0\/k=P then 0 else 1):=Aa (by unfold Mz;rw[A1 (by omega),J]);rw[u] at r;obtain⟨e0,v,m,y,z,D,G⟩:=s.o.cells R T;have ab:(j:Int)<(l.length:Int):=by omega
 have Y:¬(j:Int)<0:=by omega
 have aa:(0:Int)<=(j:Int):=by omega
 clear u T J;generalize Mz l c Bl k=q at *
 by_cases h7:c=7
 ·subst h7
  obtain rfl:q=0:=f.o.trans (A2 (.inl rfl));clear f;go_enter func131,ntmps131;go_wp2_with fail;apply r.o.mono;rintro e L⟨rfl,a⟩;have M:=(a.cell (p:=Zd b 0) d).trans c0;have N:=(a.cell (p:=Zd b 2) d).trans i;have O:=(a.cell (p:=Zd g (o+j*7+2)) s.o.1).trans m;clear c0 c1 i e0 v m y z D G;go_wp2;go_ret;exact⟨rfl,a⟩
 have b7:(c==7)=false:=by simpa using h7
 by_cases h8':c=8
 ·subst h8'
  obtain rfl:q=0:=f.o.trans (A2 (.inr (.inl rfl)));clear f;go_enter func131,ntmps131;go_wp2_with fail;apply r.o.mono;rintro e L⟨rfl,a⟩;have M:=(a.cell (p:=Zd b 0) d).trans c0;have N:=(a.cell (p:=Zd b 2) d).trans i;have O:=(a.cell (p:=Zd g (o+j*7+2)) s.o.1).trans m;clear c0 c1 i e0 v m y z D G;go_wp2;go_ret;exact⟨rfl,a⟩
 have b8:(c==8)=false:=by simpa using h8'
 by_cases hk:k=0
 ·subst hk
  obtain rfl:q=0:=f.o.trans (A2 (.inr (.inr (.inl rfl))));clear f;go_enter func131,ntmps131;go_wp2_with fail;apply r.o.mono;rintro e L⟨rfl,a⟩;have M:=(a.cell (p:=Zd b 0) d).trans c0;have N:=(a.cell (p:=Zd b 2) d).trans i;have O:=(a.cell (p:=Zd g (o+j*7+2)) s.o.1).trans m;clear c0 c1 i e0 v m y z D G;go_wp2;go_ret;exact⟨rfl,a⟩
 have bk:(k==0)=false:=by simpa using hk
 by_cases hy:k=P
 ·subst hy
  obtain rfl:q=0:=f.o.trans (A2 (.inr (.inr (.inr rfl))));clear f;go_enter func131,ntmps131;go_wp2_with fail;apply r.o.mono;rintro e L⟨rfl,a⟩;have M:=(a.cell (p:=Zd b 0) d).trans c0;have N:=(a.cell (p:=Zd b 2) d).trans i;have O:=(a.cell (p:=Zd g (o+j*7+2)) s.o.1).trans m;clear c0 c1 i e0 v m y z D G;go_wp2_with fail
  go_region
  go_wp2;go_ret;exact⟨rfl,a.drew⟩
 have V:(k==P)=false:=by simpa using hy
 obtain rfl:q=1:=f.o.trans (A1 (by omega));clear f;go_enter func131,ntmps131;go_wp2_with fail;apply r.o.mono;rintro e L⟨rfl,a⟩;have M:=(a.cell (p:=Zd b 0) d).trans c0;have N:=(a.cell (p:=Zd b 2) d).trans i;have O:=(a.cell (p:=Zd g (o+j*7+2)) s.o.1).trans m;clear c0 c1 i e0 v m y z D G;go_wp2_with fail
 go_region
 go_wp2;go_ret;exact⟨rfl,a.drew⟩
theorem p9{Bl:Tb}{t:Tb}(h:c=9\/c=10):(if D4 l x=0 then D4 l y else D4 l x)=D4 l (.node i j ⟨c,Bl,k,n,t⟩ x y):=by rw[D4,A2 h]
theorem p11{Bl:Tb}{t:Tb}(h:c=11):D4 l x=D4 l (.node i j ⟨c,Bl,k,n,t⟩ x y):=by rw[D4,A1 (by omega),A2 h]
theorem p0{Bl:Tb}{t:Tb}(h:¬(c=9\/c=10))(a:¬c=11):Mz l c Bl k=D4 l (.node i j ⟨c,Bl,k,n,t⟩ x y):=by rw[D4,A1 h,A1 a]
theorem Ws(g o q:Nat)(l:List Aj)(J:l.length<=8):∀(T:S.CT)(v:Tv)(w:Tw),S.Gy w T v->I1 w g o l ->
 Zc 82 #[Zs (some (Zd g o)) l.length q,v] w (EPost (D4 l T) w)
 | .nil,v,w,h,_=>by obtain rfl:v=Zp none:=h;have O:Hid (D4 l .nil=0):=rfl;rw[O.o];go_enter func82,ntmps82;go_wp2;go_ret;exact⟨rfl,XA _ _⟩
 | .node a0 o0 ⟨c,Bl,k,n,t⟩ x y,v,w,h,hs=>by
   obtain⟨b,G,I,rfl,r,_,M,N⟩:=h;have d:Hid (∀W,Zb w W->Zc 82 #[Zs (some (Zd g o)) l.length q,G] W (EPost (D4 l x) W)):=λW z=>Ws g o q l J x G W (M.up z) (hs.below z)
   have i:Hid (∀W,Zb w W->Zc 82 #[Zs (some (Zd g o)) l.length q,I] W (EPost (D4 l y) W)):=λW z=>Ws g o q l J y I W (N.up z) (hs.below z)
   have f:=Aa (ACe g o q l b c Bl k n t G I w hs J r);have c0:w.cell? (Zd b 0)=some (Zi c):=S.cell_of_heap r 0;have c5:w.cell? (Zd b 5)=some G:=S.cell_of_heap r 5;have L:w.cell? (Zd b 6)=some I:=S.cell_of_heap r 6;have D:b<w.1.size:=E.Ac r;clear r M N hs;unfold EPost at d i f ⊢
   by_cases j:c=9\/c=10
   ·rw[<-p9 j]
    clear f;generalize D4 l x=u at *;generalize D4 l y=V at *
    by_cases hx:u=0
    ·subst hx
     rw[N7] at d;rw[A2 rfl]
     by_cases hy:V=0
     ·subst hy
      rw[N7] at i ⊢
      rcases j with rfl|rfl
      all_goals
       go_enter func82,ntmps82;go_wp2_with fail;refine(d.o _ (XA _ _)).mono ?_;rintro e s⟨rfl,a⟩;have U:=(a.cell (p:=Zd b 6) D).trans L;go_wp2_with fail;refine(i.o _ a).mono ?_;rintro e X⟨rfl,m⟩;go_wp2;go_ret;exact⟨rfl,Ap a m⟩
     rw[Et hy] at i ⊢
     rcases j with rfl|rfl
     all_goals
      go_enter func82,ntmps82;go_wp2_with fail;refine(d.o _ (XA _ _)).mono ?_;rintro e s⟨rfl,a⟩;have U:=(a.cell (p:=Zd b 6) D).trans L;go_wp2_with fail;refine(i.o _ a).mono ?_;rintro e X⟨rfl,m⟩;go_wp2;go_ret;exact⟨rfl,Ap a m⟩
    rw[Et hx] at d;rw[A1 hx,Et hx]
    rcases j with rfl|rfl
    all_goals
     go_enter func82,ntmps82;go_wp2_with fail;refine(d.o _ (XA _ _)).mono ?_;rintro e s⟨rfl,a⟩;go_wp2;go_ret;exact⟨rfl,a⟩
   by_cases h11:c=11
   ·rw[<-p11 h11]
    subst h11;clear f i j;generalize D4 l x=u at *
    by_cases hx:u=0
    ·subst hx
     rw[N7] at d ⊢;go_enter func82,ntmps82;go_wp2_with fail;refine(d.o _ (XA _ _)).mono ?_;rintro e s⟨rfl,a⟩;go_wp2;go_ret;exact⟨rfl,a⟩
    rw[Et hx] at d ⊢;go_enter func82,ntmps82;go_wp2_with fail;refine(d.o _ (XA _ _)).mono ?_;rintro e s⟨rfl,a⟩;go_wp2;go_ret;exact⟨rfl,a⟩
   rw[<-p0 j h11];have Y:(c==9)=false:=by rw[beq_eq_false_iff_ne];omega
   have P:(c==10)=false:=by rw[beq_eq_false_iff_ne];omega
   have R:(c==11)=false:=by rw[beq_eq_false_iff_ne];omega
   clear d i j h11;generalize Mz l c Bl k=u at *
   by_cases hx:u=0
   ·subst hx
    rw[N7] at f ⊢;go_enter func82,ntmps82;go_wp2_with fail;apply f.o.mono;rintro e s⟨rfl,a⟩;go_wp2;go_ret;exact⟨rfl,a⟩
   rw[Et hx] at f ⊢;go_enter func82,ntmps82;go_wp2_with fail;apply f.o.mono;rintro e s⟨rfl,a⟩;go_wp2;go_ret;exact⟨rfl,a⟩
theorem ADv(g o c:Nat)(l:List Aj)(j:l.length<=8)(T:S.CT)(v:Tv)(w:Tw)(h:S.Gy w T v)(d:I1 w g o l):
 Zc 47 #[Zs (some (Zd g o)) l.length c,v] w (EPost (Ex l T) w):=by
 have H1:=Aa (S.Uh T v w h);have H2:=Aa (Ws g o c l j T v w h d);clear h d;unfold EPost at H2 ⊢;cases hw:S.C9 T 24 with
 | false=>have b:Hid (Ex l T=1):=Aa (by unfold Ex;rw[A1 (by rw[hw];simp)]);rw[b.o];rw[hw] at H1;clear hw b;go_enter func47,ntmps47;go_wp2_with fail;apply H1.o.mono;rintro e f⟨rfl,rfl⟩;go_wp2;go_ret;exact⟨rfl,XA _ _⟩
 | true=>
   have b:Hid (Ex l T=D4 l T):=Aa (by unfold Ex;rw[A2 hw]);rw[b.o];rw[hw] at H1;clear hw b;generalize D4 l T=i at *
   by_cases hx:i=0
   ·subst hx
    rw[N7] at H2 ⊢;go_enter func47,ntmps47;go_wp2_with fail;apply H1.o.mono;rintro e f⟨rfl,rfl⟩;go_wp2_with fail;apply H2.o.mono;rintro e k⟨rfl,a⟩;go_wp2;go_ret;exact⟨rfl,a⟩
   rw[Et hx] at H2 ⊢;go_enter func47,ntmps47;go_wp2_with fail;apply H1.o.mono;rintro e f⟨rfl,rfl⟩;go_wp2_with fail;apply H2.o.mono;rintro e k⟨rfl,a⟩;go_wp2;go_ret;exact⟨rfl,a⟩
abbrev A6:=Vc×List Aj×List (List V)
structure Gt(D:DataW Unit)(x:A6):Prop where
 has:Maps.has D (B.lit (Eh x.1.1))=true
 Gw:D.atKey (B.lit (Eh x.1.1)) (B.Gw ByteArray.empty)=B.Gw (E.str (Cq (x.2.1,Ay x.2.1 x.2.2)))
 ok:De x.2.1 x.2.2=true
 i64:K9 x.2.2
 name:x.1.1.size<=1000
 qv:x.1.2.2.length<=1000
def N9(l:List Aj)(T:S.CT)(x:A6):List Px×Nat:=Oe x.1.1 x.1.2.2 l T (By x.2.1) 0 (parts x.2.2)
def Bo(l:List Aj)(T:S.CT):List A6->List Px×Nat
 | []=>([],0)
 | x :: xs=>((N9 l T x).1++(Bo l T xs).1,(N9 l T x).2+(Bo l T xs).2)
theorem j6(l:List Aj)(T:S.CT)(x:A6):∀xs:List A6,Bo l T (xs++[x])=((Bo l T xs).1++(N9 l T x).1,(Bo l T xs).2+(N9 l T x).2)
 | []=>by simp[Bo]
 | y :: ys=>by have a:=j6 l T x ys;simp only[XV,Bo,a,XZ];congr 1;omega
theorem oU{qj p:List (List V)}(h:Gr l qj)(g:∀r∈p,r∈qj):Gr (By l) p:=λr f=>by
 obtain⟨c,d⟩:=h r (g r f);rw[Je];refine⟨c,λi e=>?_⟩;obtain⟨a,b⟩:=d i e;exact⟨by rw[ABo ((It l).kdq i)];exact a,b⟩
theorem vH(h:Kl l):Kl (By l):=λi a=>by
 rw[Je] at a;rw[(It l).kdq i];exact h i a
theorem wH(g:Gr l p)(f:Kl l)(h:p.length<=6):∀b∈(An l p).2.2,b.length<=1000000:=λb d=>by
 simp only[An,List.mem_map,List.mem_range] at d;obtain⟨i,e,rfl⟩:=d;obtain⟨a,c⟩:=Ot g e (f i e);have:=AAr a c (by rw[Gn];omega);omega
structure AJL(fl:List Aj)(ps:List (List (List V))):Prop where
 p10:ps.length<=10
 each:∀p∈ps,Gr fl p/\1<=p.length/\p.length<=6
 kinds:Kl fl
 bytes:∀p∈ps,∀b∈(An fl p).2.2,b.length<=1000000
 one:1<=fl.length
 eight:fl.length<=8
theorem opened{qj:List (List V)}(h:De l qj=true)(i:K9 qj):AJL (By l) (parts qj)/\Ay l qj=(parts qj).map (An (By l)):=by
 obtain⟨j,n,g,e⟩:=B4.1 h;have k:=Mu e i;have m:=vH j.kinds
 have d:∀p∈parts qj,Gr (By l) p/\1<=p.length/\p.length<=6:=λp f=>by obtain⟨a,b,c⟩:=Ij f;exact⟨oU k c,a,b⟩
 refine⟨⟨by rw[Vg];exact AAB g,d,m,λp f=>wH (d p f).1 m (d p f).2.2,by rw[Je];exact j.one,by rw[Je];exact j.eight⟩,?_⟩;unfold Ay;exact Yw λp _=>(Ul (It l) p).symm
theorem X0:∀a:List (List (List V)),En a=a.flatten.length
 | []=>rfl
 | p :: a=>by simp only[En,WC,XH,X0 a]
theorem tX{x:A6}(h:Gt D x)(l:List Aj)(T:S.CT):(N9 l T x).2<=10/\(N9 l T x).1.length<=60:=by obtain⟨a,b⟩:=xP x.1.1 x.1.2.2 l T (By x.2.1) (parts x.2.2) 0;obtain⟨_,_,c,_⟩:=B4.1 h.ok;have d:=(opened h.ok h.i64).1.p10;rw[X0,V2] at b;unfold N9;omega
theorem L0{D:Td}(l:List Aj)(T:S.CT):∀xs:List A6,(∀x∈xs,Gt D x)->(Bo l T xs).2<=10*xs.length/\(Bo l T xs).1.length<=60*xs.length
 | [],_=>by simp[Bo]
 | x :: xs,h=>by
   have b:=tX (h x (XF ..)) l T;have c:=L0 l T xs λy a=>h y (Yf _ a)
   simp only[Bo,XH,XM];omega
def qP(l:List Aj)(T:S.CT)(xs:List A6)(w:World)(e:Ending)(a:World):Prop :=
 Zb w a/\((Ex l T≠0/\e=.returned (.tuple #[.slice none 0 0,Zi 0,AEy (Ex l T)]))\/(Ex l T=0/\∃v',e=.returned (.tuple #[v',Zi ((Bo l T xs).2:Int),.nilIface])/\Fp w.1.size w.1.size a v' (Bo l T xs).1))
theorem AFL(bb n:Nat)(D:Td)(mv:Tv)(s:Ah)(g cp:Nat)(fa:To)(fc:Nat)(L:List Ef)(xs:List A6)(T:S.CT)(v:Tv)(w:Tw)(h:Ground w bb n D mv)(he:B.Ob w)(ao:S.Lp w)(hV:X8 w s (Zs (some (Zd g 0)) s.qz.length cp) (Zs fa L.length fc) L)(hx:xs.map (·.1)=s.qx)(d:∀x∈xs,Gt D x)(cd:xs.length<=1000)(h8:s.qz.length<=8)(h1:1<=s.qz.length)(hi:S.Gy w T v):
 Zc 21 #[Zp (some (Zd bb 0)),Zg #[Zi s.Eb,Zs (some (Zd g 0)) s.qz.length cp,Zi s.next,Zs fa L.length fc],v] w (qP s.qz T xs w):=by
 have hs:I1 w g 0 s.qz:=I1.Fz hV.qz rfl
 have b6:s.qz.length<=cp:=by obtain⟨a,c,e,hc⟩:=Au hV.qz;injection e with _ _ e;omega
 have z:=Aa (λW(P:Zb w W)=>ADv g 0 cp s.qz h8 T v W (hi.up P) (hs.below P));have G:Hid (Zb w (w.alloc (Zk #[Zi s.Eb,Zs (some (Zd g 0)) s.qz.length cp,Zi s.next,Zs fa L.length fc] 71))):=Aa (Zal);have a0:=Aa (Yad w (Zk #[Zi s.Eb,Zs (some (Zd g 0)) s.qz.length cp,Zi s.next,Zs fa L.length fc] 71));unfold qP;unfold EPost at z
 by_cases hce:Ex s.qz T=0
 rotate_left
 ·rw[Et hce] at z ⊢
  have HC:=Aa hce;clear hs hV hi h he ao d hx;generalize Ex s.qz T=ce at *;go_enter func21,ntmps21;go_wp2_with fail;refine(z.o _ G.o).mono ?_;rintro e w1⟨rfl,M⟩;go_wp2;go_ret3;exact⟨Ap G.o M,.inl ⟨HC.o,rfl⟩⟩
 rw[hce,N7] at z;obtain⟨has,a9⟩:=gP hce;go_enter func21,ntmps21;go_wp2_with fail;refine(z.o _ G.o).mono ?_;rintro e w1⟨rfl,M⟩;have am:=(M.block w.1.size (by simp)).trans a0.o;have n3:=S.cell_of_heap am 3;simp at n3
 have hlen:L.length=xs.length:=by have:=congrArg List.length (hx.trans hV.qx);simpa using this.symm
 have bw:=Aa (λ(x:A6)(b:x∈xs)W(P:Zb w W)=>AD9 bb n D mv x.1.1 W (h.up P) (he.below P) (d x b).name (λt _ ht=>by have e:=B.aS ((d x b).Gw.symm.trans ht);rw[<-e,E.Ds];have:=Vn (d x b).ok (d x b).i64;omega))
 have bv:=Aa (λ(x:A6)(b:x∈xs)(cv gv:Tv)(J:Int)(ma:To)(mn mc:Nat)W(P:Zb w W)(hF:Hm W cv gv (By x.2.1,(parts x.2.2).map (An (By x.2.1))))(hm:Ph W (Zs ma mn mc) x.1.2.2)=>
  have O:=(opened (d x b).ok (d x b).i64).1
  wE w.1.size cv gv (By x.2.1) (parts x.2.2) x.1.1 J ma mn mc x.1.2.2 g 0 cp s.qz T v W hF O.p10 O.each O.kinds O.bytes O.one O.eight hm (d x b).qv h8 h1 b6 (hs.below P) (hi.up P) has a9 (ao.below P) P.size)
 have ax:=Aa d;have ag:=Aa hV;have bz:=Aa hx;have bk:=Aa hce;have bi:=Aa (Ap G.o M);have br:=Aa am;obtain⟨iC,bc,bd,bf,bg⟩:=info_parts AEA;have U:=Zy bc bd bf bg;clear hs hV hi h he ao d hx hce has a9 M am z G a0 bc bd bf bg;go_wp2_with fail
 go_loopw [10,11,28] (λvr vl vi wr=>∃(k:Nat)(a:To)(n c:Nat),k<=xs.length/\vi=Zi (k:Int)/\vr=Zs a n c/\n<=60*k/\vl=Zi ((Bo s.qz T (xs.take k)).2:Int)/\Hid (Fp w.1.size w.1.size wr (Zs a n c) (Bo s.qz T (xs.take k)).1/\n=(Bo s.qz T (xs.take k)).1.length)/\Hid (Zb w wr)/\Hid (wr.1[w.1.size]? = some (Zk #[Zi s.Eb,Zs (some (Zd g 0)) s.qz.length cp,Zi s.next,Zs fa L.length fc] 71))) (λ_ _ vi _=>xs.length-Ev vi)
 case atStart=>exact⟨0,none,0,0,XC _,rfl,rfl,XC _,rfl,Aa ⟨P6 _ _ _,rfl⟩,bi,br⟩
 case round=>
  obtain⟨k,a,n',c,hk,rfl,rfl,ci,rfl,HF,HB,HN⟩:=hrel
  have ch:(Bo s.qz T (xs.take k)).2<=10*1000:=by
   have:=(L0 s.qz T (xs.take k) (λy hy=>ax.o y (Yk hy))).1;have hl:(xs.take k).length<=xs.length:=by rw[XQ];omega
   omega
  rcases Yc k xs.length with b8|cg
  ·obtain⟨x,ap⟩:∃x,xs[k]? = some x:=⟨_,Y' b8⟩
   obtain⟨y,Y⟩:∃y,L[k]? = some y:=⟨_,Y' (by omega)⟩
   have ah:y.1=x.1:=by
    have h1:(xs.map (·.1))[k]? = some x.1:=by simp[ap]
    rw[bz.o,ag.o.qx,XN,Y] at h1;simpa using h1
   have b:=XG ap;have ba:=XG Y;obtain⟨⟨⟨f,J,qv⟩,l0,qj⟩,ex⟩:∃q,q=x:=⟨_,rfl⟩;obtain⟨ye,⟨ma,mn,mc⟩⟩:=y;have a3:ye=(f,J,qv):=by rw[<-ex] at ah;exact ah
   subst a3 ex;have m:=Aa (ax.o _ b);have bq:=Aa (Ph.Fz (ag.o.Cl _ ba));have N:=Bc ag.o.row HB.o
   obtain⟨fb,b1,cf,e0,e1,e2⟩:∃fb,fa=some (Zd fb 0)/\fb<wr.1.size/\wr.cell? (Zd fb (k*3))=some (Zt f)/\wr.cell? (Zd fb (k*3+1))=some (Zi J)/\wr.cell? (Zd fb (k*3+2))=some (Zs ma mn mc):=by
    rcases N.2 with⟨_,h0⟩|⟨fb,b9,cb,ev,_,hh,_,_,_⟩
    ·omega
    injection ev with b0 _ _;subst b0;have hc:=N.cells (g:=fb) rfl;simp only[E.addr_add] at hc
    have ak:∀(i:Nat)u,(Lv ((f,J,qv),ma,mn,mc))[i]? = some u->wr.cell? (Zd fb (k*3+i))=some u:=λi u hu=>by have:=hc (k*3+i) u (Hi (k:=3) (enc:=Lv) (λ_=>rfl) Y hu);simpa using this
    exact⟨fb,rfl,E.Ac hh,ak 0 _ rfl,ak 1 _ rfl,ak 2 _ rfl⟩
   subst b1;have b5:(k:Int)<(L.length:Int):=by omega
   have a8:xs.take (k+1)=xs.take k++[((f,J,qv),l0,qj)]:=S.Cs ap;have I:=Aa (j6 s.qz T ((f,J,qv),l0,qj) (xs.take k));rw[<-a8] at I;have af:=Aa (tX m.o s.qz T);clear a8 ah N Y ba;have ad:Hid (Zb wr (wr.alloc (Zk #[Zt f,Zi J,Zs ma mn mc] 122))):=Aa (Zal);have au:=Aa (Yad wr (Zk #[Zt f,Zi J,Zs ma mn mc] 122));generalize b7:(Bo s.qz T (xs.take k)).2=lk at *;go_wp2_with fail;refine(bw.o _ b _ (Ap HB.o ad.o)).mono ?_;rintro e w2 ab;unfold iB at ab
   rcases ab with⟨q,_⟩|⟨_,t,ht,a6⟩
   ·rw[m.o.has] at q;cases q
   have et:=B.aS (m.o.Gw.symm.trans ht);have a2:t.1.toList=Cq (l0,Ay l0 qj):=by rw[<-et];simp[E.str]
   rw[a2,tN m.o.ok m.o.i64] at a6;obtain⟨cv,gv,rfl,l,al⟩:=a6;rw[(opened m.o.ok m.o.i64).2] at l;obtain⟨ca,cc,ec,_⟩:=l.1.slice;obtain⟨ga,gc,eg,_⟩:=l.2.slice;dsimp only at ec eg;subst ec eg;have p:=Ap ad.o al;have ac:=Aa (Ap HB.o p);have av:=Aa (And.intro (HF.o.1.up p) HF.o.2);have V:=Aa ((p.block _ (E.Ac HN.o)).trans HN.o);have ar:=Aa ((al.block _ (by simp)).trans au.o);have bo:=Aa l;clear l al p et a2 ht ad au e0 e1 e2;generalize b2:(By l0).length=ai at *;generalize b3:((parts qj).map (An (By l0))).length=aj at *;clear b2 b3;have R:Hid (Zb w2 (w2.alloc (Zk #[Zs ca ai cc,Zs ga aj gc] 125))):=Aa (Zal);have aa:=(XU w2 (Zk #[Zs ca ai cc,Zs ga aj gc] 125) _ (E.Ac ar.o)).trans ar.o;have z0:=S.cell_of_heap aa 0;have z1:=S.cell_of_heap aa 1;have z2:=S.cell_of_heap aa 2;have bh:=(XU w2 (Zk #[Zs ca ai cc,Zs ga aj gc] 125) _ (E.Ac V.o)).trans V.o;have u1:=S.cell_of_heap bh 1;simp at z0 z1 z2 u1;clear aa bh;go_wp2_with fail;refine(bv.o _ b _ _ J ma mn mc _ (Ap ac.o R.o) (bo.o.up R.o) (bq.o.below (Ap ac.o R.o))).mono ?_;rintro e w3⟨v3,rfl,a5,a4⟩;have r:=Ap R.o a4;have aq:=Aa (Ap ac.o r);have aw:=Aa (And.intro (av.o.1.up r) av.o.2);have bs:=Aa ((r.block _ (E.Ac V.o)).trans V.o);obtain⟨ys,k1,k2,k3⟩:=a5;obtain⟨⟨zs,e1,e2,e3⟩,hn⟩:=aw.o;rw[<-hn] at e1 e2;obtain⟨ya,yc,rfl,_⟩:=Au k2;have a1:Hid (N9 s.qz T ((f,J,qv),l0,qj)=Oe f qv s.qz T (By l0) 0 (parts qj)):=Aa rfl;rw[a1.o] at af I;generalize Oe f qv s.qz T (By l0) 0 (parts qj)=qq at *;obtain⟨qs,qn⟩:=qq;simp only at k1 k2 k3;have cj:qn<=10:=af.o.1;have ck:qs.length<=60:=af.o.2;have bl:=Aa e1;have o:=Aa e2;have bm:=Aa e3;have ay:=Aa k1;have bp:=Aa k2;have az:=Aa k3;have bu:=Aa hn;have a7:=aq.o.size;clear e1 e2 e3 k1 k2 k3 hn aw a4 r z0 z1 z2 u1 a1;go_wp2_with (at_builtin;refine E.Ck rfl _ _ 74 rfl w.1.size 78 iC ABC 3 48 underlying74 U.o.1 U.o.2.1 U.o.2.2.1 U.o.2.2.2 rfl (by decide) _ _ _ rfl o.o _ _ _ _ rfl bp.o (ABB ay.o az.o) ?f1 ?f2 ?f3 ?_)
   case f1=>unfold maxLen;omega
   case f2=>omega
   case f3=>omega
   intro v4 w4 an X;obtain⟨a',c',rfl,_⟩:=Au an;have hn:=bu.o;subst hn;have bx:=Aa (Fp.app bl.o o.o bm.o ay.o az.o X an);have bj:=Aa (aq.o.grown X a7 (λj hj=>Fu o.o hj));have bt:=Aa (Hq bs.o o.o (by decide) X);clear an X;go_wp2;refine⟨⟨k+1,a',_,c',by omega,rfl,rfl,by omega,by rw[I.o];simp,Aa ⟨?_,?_⟩,bj,bt⟩,by simp only[Ev];omega⟩
   ·rw[I.o]
    exact bx.o
   rw[I.o];simp
  have b5:¬((k:Int)<(L.length:Int)):=by omega
  have b4:k=xs.length:=by omega
  subst b4;have ae:=HF.o;rw[Ye] at ae ⊢;have bn:=Aa ae;clear ae;go_wp2;go_ret3;exact⟨HB.o,.inr ⟨bk.o,_,rfl,bn.o.1⟩⟩
theorem AHX(a:To)(c:Nat)(b:Tv)(w:Tw):Zc 178 #[Zs a 0 c,b] w λe d=>e=Zr (Zi (-1))/\d=w:=by go_enter func178,ntmps178;go_wp2_with fail;refine wp_loop_rounds 1 ?_;rw[rounds_succ];go_wp2;go_ret;exact⟨rfl,rfl⟩
theorem AEa(a:To)(c:Nat)(nm:Tb)(w:Tw):Zc 115 #[Zs a 0 c,Zt nm] w λe g=>e=Zr (Zi (-1))/\Zb w g:=by
 have f:∀(d:Fn)(first b:Array Tv)(w:Tw),(Instr.makeFunc d first b).run prog w=.ok (.func d first b) w:=λ_ _ _ _=>rfl
 go_enter func115,ntmps115;go_wp2_with fail;refine(AHX a c _ _).mono ?_;rintro e h⟨rfl,rfl⟩;go_wp2;go_ret;exact⟨rfl,Zal⟩
theorem AC9(c:Int)(Bl:Tb)(k:Int):Mz [] c Bl k=5:=rfl
theorem ACN(d:To)(f:Nat)(b:Nat)(c:Int)(Bl:Tb)(k n:Int)(t:Tb)(i j:Tv)(w:Tw)(g:w.1[b]? = some (Zk #[Zi c,Zt Bl,Zi k,Zi n,Zt t,i,j] 153)):
 Zc 131 #[Zs d 0 f,Zp (some (Zd b 0))] w (EPost (Mz [] c Bl k) w):=by
 rw[AC9];have h:=Aa (AEa d f Bl w);have c1:w.cell? (Zd b 1)=some (Zt Bl):=S.cell_of_heap g 1;clear g;go_enter func131,ntmps131;go_wp2_with fail;apply h.o.mono;rintro e l⟨rfl,a⟩;go_wp2;go_ret;exact⟨rfl,a⟩
theorem Vz(m:To)(o:Nat):∀(T:S.CT)(v:Tv)(w:Tw),S.Gy w T v ->
 Zc 82 #[Zs m 0 o,v] w (EPost (D4 [] T) w)
 | .nil,v,w,h=>by obtain rfl:v=Zp none:=h;have M:Hid (D4 [] .nil=0):=rfl;rw[M.o];go_enter func82,ntmps82;go_wp2;go_ret;exact⟨rfl,XA _ _⟩
 | .node a0 o0 ⟨c,Bl,k,n,t⟩ x y,v,w,h=>by
   obtain⟨b,z,D,rfl,q,_,J,L⟩:=h;have d:Hid (∀W,Zb w W->Zc 82 #[Zs m 0 o,z] W (EPost (D4 [] x) W)):=λW G=>Vz m o x z W (J.up G)
   have g:Hid (∀W,Zb w W->Zc 82 #[Zs m 0 o,D] W (EPost (D4 [] y) W)):=λW G=>Vz m o y D W (L.up G)
   have f:=Aa (ACN m o b c Bl k n t z D w q);have c0:w.cell? (Zd b 0)=some (Zi c):=S.cell_of_heap q 0;have X:w.cell? (Zd b 5)=some z:=S.cell_of_heap q 5;have I:w.cell? (Zd b 6)=some D:=S.cell_of_heap q 6;have u:b<w.1.size:=E.Ac q;clear q J L;unfold EPost at d g f ⊢
   by_cases i:c=9\/c=10
   ·rw[<-p9 (l:=[]) i]
    clear f;generalize D4 [] x=s at *;generalize D4 [] y=R at *
    by_cases hx:s=0
    ·subst hx
     rw[N7] at d;rw[A2 rfl]
     by_cases hy:R=0
     ·subst hy
      rw[N7] at g ⊢
      rcases i with rfl|rfl
      all_goals
       go_enter func82,ntmps82;go_wp2_with fail;refine(d.o _ (XA _ _)).mono ?_;rintro e r⟨rfl,a⟩;have P:=(a.cell (p:=Zd b 6) u).trans I;go_wp2_with fail;refine(g.o _ a).mono ?_;rintro e U⟨rfl,j⟩;go_wp2;go_ret;exact⟨rfl,Ap a j⟩
     rw[Et hy] at g ⊢
     rcases i with rfl|rfl
     all_goals
      go_enter func82,ntmps82;go_wp2_with fail;refine(d.o _ (XA _ _)).mono ?_;rintro e r⟨rfl,a⟩;have P:=(a.cell (p:=Zd b 6) u).trans I;go_wp2_with fail;refine(g.o _ a).mono ?_;rintro e U⟨rfl,j⟩;go_wp2;go_ret;exact⟨rfl,Ap a j⟩
    rw[Et hx] at d;rw[A1 hx,Et hx]
    rcases i with rfl|rfl
    all_goals
     go_enter func82,ntmps82;go_wp2_with fail;refine(d.o _ (XA _ _)).mono ?_;rintro e r⟨rfl,a⟩;go_wp2;go_ret;exact⟨rfl,a⟩
   by_cases h11:c=11
   ·rw[<-p11 (l:=[]) h11]
    subst h11;clear f g i;generalize D4 [] x=s at *
    by_cases hx:s=0
    ·subst hx
     rw[N7] at d ⊢;go_enter func82,ntmps82;go_wp2_with fail;refine(d.o _ (XA _ _)).mono ?_;rintro e r⟨rfl,a⟩;go_wp2;go_ret;exact⟨rfl,a⟩
    rw[Et hx] at d ⊢;go_enter func82,ntmps82;go_wp2_with fail;refine(d.o _ (XA _ _)).mono ?_;rintro e r⟨rfl,a⟩;go_wp2;go_ret;exact⟨rfl,a⟩
   rw[<-p0 (l:=[]) i h11];have V:(c==9)=false:=by rw[beq_eq_false_iff_ne];omega
   have N:(c==10)=false:=by rw[beq_eq_false_iff_ne];omega
   have O:(c==11)=false:=by rw[beq_eq_false_iff_ne];omega
   clear d g i h11;generalize Mz [] c Bl k=s at *
   by_cases hx:s=0
   ·subst hx
    rw[N7] at f ⊢;go_enter func82,ntmps82;go_wp2_with fail;apply f.o.mono;rintro e r⟨rfl,a⟩;go_wp2;go_ret;exact⟨rfl,a⟩
   rw[Et hx] at f ⊢;go_enter func82,ntmps82;go_wp2_with fail;apply f.o.mono;rintro e r⟨rfl,a⟩;go_wp2;go_ret;exact⟨rfl,a⟩
theorem ABl(c:To)(d:Nat)(T:S.CT)(v:Tv)(w:Tw)(h:S.Gy w T v):
 Zc 47 #[Zs c 0 d,v] w (EPost (Ex [] T) w):=by
 have H1:=Aa (S.Uh T v w h);have H2:=Aa (Vz c d T v w h);clear h;unfold EPost at H2 ⊢;cases hw:S.C9 T 24 with
 | false=>have b:Hid (Ex [] T=1):=Aa (by unfold Ex;rw[A1 (by rw[hw];simp)]);rw[b.o];rw[hw] at H1;clear hw b;go_enter func47,ntmps47;go_wp2_with fail;apply H1.o.mono;rintro e f⟨rfl,rfl⟩;go_wp2;go_ret;exact⟨rfl,XA _ _⟩
 | true=>
   have b:Hid (Ex [] T=D4 [] T):=Aa (by unfold Ex;rw[A2 hw]);rw[b.o];rw[hw] at H1;clear hw b;generalize D4 [] T=g at *
   by_cases hx:g=0
   ·subst hx
    rw[N7] at H2 ⊢;go_enter func47,ntmps47;go_wp2_with fail;apply H1.o.mono;rintro e f⟨rfl,rfl⟩;go_wp2_with fail;apply H2.o.mono;rintro e i⟨rfl,a⟩;go_wp2;go_ret;exact⟨rfl,a⟩
   rw[Et hx] at H2 ⊢;go_enter func47,ntmps47;go_wp2_with fail;apply H1.o.mono;rintro e f⟨rfl,rfl⟩;go_wp2_with fail;apply H2.o.mono;rintro e i⟨rfl,a⟩;go_wp2;go_ret;exact⟨rfl,a⟩
theorem all_none(bb:Nat)(Eb next:Int)(d i:To)(f j:Nat)(T:S.CT)(v:Tv)(w:Tw)(k:S.Gy w T v):
 Zc 21 #[Zp (some (Zd bb 0)),Zg #[Zi Eb,Zs d 0 f,Zi next,Zs i 0 j],v] w (qP [] T [] w):=by
 have c:Hid (Zb w (w.alloc (Zk #[Zi Eb,Zs d 0 f,Zi next,Zs i 0 j] 71))):=Aa (Zal);have h:=Aa (Yad w (Zk #[Zi Eb,Zs d 0 f,Zi next,Zs i 0 j] 71));have a:=Aa (ABl d f T v _ (k.up c.o));unfold qP;unfold EPost at a
 by_cases hce:Ex [] T=0
 rotate_left
 ·rw[Et hce] at a ⊢
  have g:=Aa hce;clear k;generalize Ex [] T=o at *;go_enter func21,ntmps21;go_wp2_with fail;apply a.o.mono;rintro e n⟨rfl,b⟩;go_wp2;go_ret3;exact⟨Ap c.o b,.inl ⟨g.o,rfl⟩⟩
 rw[hce,N7] at a;have g:=Aa hce;clear k hce;go_enter func21,ntmps21;go_wp2_with fail;apply a.o.mono;rintro e n⟨rfl,b⟩;have l:=(b.block w.1.size (by simp)).trans h.o;have m:=S.cell_of_heap l 3;simp at m;go_wp2_with fail;refine wp_loop_rounds 1 ?_;rw[rounds_succ];go_wp2;go_ret3;exact⟨Ap c.o b,.inr ⟨g.o,_,rfl,P6 _ _ _⟩⟩
def Fc(l:List Aj)(xs:List A6):List (List V):=(Bo l .nil xs).1.map (·.2.2)
theorem dB(l:List Aj):Ex l .nil=0:=rfl
structure Xh(D:DataW Unit)(s:Ah)(xs:List A6):Prop where
 qx:xs.map (·.1)=s.qx
 each:∀x∈xs,Gt D x
 Iz:xs.length<=1000
 eight:s.qz.length<=8
 bare:s.qz=[]->s.qx=[]
theorem oS(bb n:Nat)(D:Td)(mv:Tv)(s:Ah)(sv:Tv)(xs:List A6)(T:S.CT)(v:Tv)(w:Tw)(h:Ground w bb n D mv)(u:B.Ob w)(e:S.Lp w)(t:Dl w s sv)(a:Xh D s xs)(k:S.Gy w T v):
 Zc 21 #[Zp (some (Zd bb 0)),sv,v] w (qP s.qz T xs w):=by
 obtain⟨l,c1,f,i,L,rfl,d⟩:=t;cases hc:s.qz with
 | nil=>
   have j:=a.bare hc;have r:L=[]:=by have:=d.qx;rw[j] at this;simpa using this.symm
   have x:xs=[]:=by have:=a.qx;rw[j] at this;simpa using this
   subst r x;exact all_none bb s.Eb s.next l f c1 i T v w k
 | cons c0 l0=>
   have q:1<=s.qz.length:=by rw[hc];simp
   rw[<-hc]
   rcases d.qz.2 with⟨_,y⟩|⟨g,m,o,p,_⟩
   ·omega
   injection p with b _ c;subst b c;exact AFL bb n D mv s g c1 f i L xs T v w h u e d a.qx a.each a.Iz a.eight q k
theorem Sc.base{B n:Nat}{qj:List (List V)}(h:Sc B w v qj)(d:n<=B):Sc n w v qj:=by obtain⟨e,a,b,c⟩:=h;exact⟨e,a,E.Ai b d,c⟩
theorem Sc.snoc{B:Nat}{v v':Tv}{qj:List (List V)}{x:Tv}(g:X.length=qj.length)(i:w.ownsRow B 61 1 v qj.length X)(l:∀(j:Nat)x r,X[j]? = some x->qj[j]? = some r->w.ownsRow 0 55 3 x r.length (E.AHk r))(s:w.ownsRow 0 55 3 x r.length (E.AHk r))(o:w.grownBy W v.ownBlock)(p:W.ownsRow B 61 1 v' (qj.length+1) (X++[x])):Sc B W v' (qj++[r]):=by
 have c:∀{y:Tv}{n:Nat}{h:List Tv},w.ownsRow 0 55 3 y n h->W.ownsRow 0 55 3 y n h:=λa=>Az a o λk c e=>a8 i a (by decide) k e c
 refine⟨X++[x],by simp[g],?_,λj y q a b=>?_⟩
 ·simpa using p
 rcases Yc j X.length with f|d
 ·rw[XE f] at a
  rw[XE (by omega)] at b;exact c (l j y q a b)
 rw[XD d] at a;rw[XD (by omega)] at b;rw[g] at a;cases hj:j-qj.length with
 | zero=>rw[hj] at a b;simp at a b;subst a b;exact c s
 | succ m=>rw[hj] at a;simp at a
theorem ABH(bb n:Nat)(D:Td)(mv:Tv)(H:List (Dn×Ah))(Eb:Int)(d:Nat)(xs:List A6)(w:Tw)(h:Ground w bb n D mv)(he:B.Ob w)(ab:S.Lp w)(hl:U6 D H)(hp:La H)(O5:H.length<=40)(hk:d<=H.length)(hv:(Eb<0/\d=H.length)\/Eb=d)(hT:Xh D (Ae H d) xs):
 Zc 9 #[Zp (some (Zd bb 0)),Zi Eb] w λe w'=>∃v',e=Zr (Zu #[v',Zo true])/\Sc w.1.size w' v' (Fc (Ae H d).qz xs)/\Zb w w':=by
 have O:=Aa (Ua bb n D mv H Eb d w h hl hp O5 hk hv);have o:=Aa (λ(sv:Tv)W(hW:Zb w W)(hS:Dl W (Ae H d) sv)=>oS bb n D mv (Ae H d) sv xs .nil (Zp none) W (h.up hW) (he.below hW) (ab.below hW) hS hT rfl);have P:=Aa (L0 (Ae H d).qz .nil xs hT.each);have a0:=hT.Iz;clear h he ab hl hp hT;unfold qP at o;simp only[dB] at o;unfold Fc;generalize (Bo (Ae H d).qz .nil xs)=AR at *;obtain⟨rs,nr⟩:=AR;generalize Ae H d=sn at *;go_enter func9,ntmps9;go_wp2_with fail;apply O.o.mono;rintro e w1⟨a1,n1,c1,x2,a2,n2,c2,rfl,G,U⟩;unfold K4 at G ⊢;have T:=Aa G;have t:=Aa U;clear G U;have m:Hid (Zb w1 (w1.alloc (Zk #[Zi (d:Int),Zs a1 n1 c1,Zi x2,Zs a2 n2 c2] 71))):=Aa (Zal);go_wp2_with fail;refine(o.o _ _ (Ap t.o m.o) (T.o.up m.o)).mono ?_;rintro e w2⟨V,⟨q,_⟩|⟨_,v2,rfl,ar⟩⟩
 ·exact absurd rfl q
 obtain⟨zs,e1,e2,e3⟩:=ar;obtain⟨fa,fc,rfl,_⟩:=Au e2;have aj:=Aa e1;have ak:=Aa e2;have al:=Aa e3;have L:=Aa (Ap (Ap t.o m.o) V);have a5:rs.length<=60*1000:=by have:=P.o.2;omega
 obtain⟨iC,af,ag,ah,ai⟩:=info_parts eI;have p:=Zy af ag ah ai;clear e1 e2 e3 V T t m o O P af ag ah ai;go_wp2_with fail
 go_loopw [10,11] (λvo vi wr=>∃(k:Nat)(a:To)(c:Nat),k<=rs.length/\vi=Zi (k:Int)/\vo=Zs a k c/\Hid (Sc w2.1.size wr (Zs a k c) ((rs.take k).map (·.2.2)))/\Hid (Zb w2 wr)) (λ_ vi _=>rs.length-Ev vi)
 case atStart=>exact⟨0,none,0,XC _,rfl,rfl,Aa (ABG _ _),Aa (XA _ _)⟩
 case round=>
  obtain⟨k,a,c,hk,rfl,rfl,HO,J⟩:=hrel
  rcases Yc k rs.length with ax|a4
  ·obtain⟨r,hr⟩:∃r,rs[k]? = some r:=⟨_,Y' ax⟩
   obtain⟨z,hz⟩:∃z,zs[k]? = some z:=⟨_,Y' (by have:=aj.o;omega)⟩;obtain⟨_,_,s⟩:=al.o k z r hz hr;have I:=E.Ai s (XC _);clear s;obtain⟨zp,zi,zv⟩:=z;obtain⟨xa,xc,ez,_⟩:=Au I;simp only at ez;subst ez;have l:=E.Ad ak.o J.o
   obtain⟨fb,au,a3,f2⟩:∃fb,fa=some (Zd fb 0)/\fb<wr.1.size/\wr.cell? (Zd fb (k*3+2))=some (Zs xa r.2.2.length xc):=by
    rcases l.2 with⟨_,h0⟩|⟨fb,ay,az,ev,_,hh,_,_,_⟩
    ·omega
    injection ev with aq _ _;subst aq;have hc:=l.cells (g:=fb) rfl;simp only[E.addr_add] at hc;have:=hc (k*3+2) _ (Hi (k:=3) (enc:=Og) (λ_=>rfl) hz (i:=2) rfl);exact⟨fb,rfl,E.Ac hh,by simpa using this⟩
   subst au;have aw:(k:Int)<(rs.length:Int):=by omega
   have ae:rs.take (k+1)=rs.take k++[r]:=S.Cs hr;have ap:Hid ((rs.take (k+1)).map (·.2.2)=(rs.take k).map (·.2.2)++[r.2.2]):=Aa (by rw[ae];simp);have aa:((rs.take k).map (·.2.2)).length=k:=by rw[XL,XQ];omega
   have HX:=Aa (E.Ad I J.o);obtain⟨vs,o1,o2,o3⟩:=HO.o;have am:=Aa o1;have y:=Aa o2;have an:=Aa o3;have N:=Aa aa;have b:Hid (Zb wr (wr.alloc (Zk #[Zs xa r.2.2.length xc] 61))):=Aa (Zal);have ad:=J.o.size;clear ae aa o1 o2 o3 I l
   go_wp2_with (first
    | (at_builtin;refine wpList_append_own _ rfl _ _ 35 rfl w2.1.size 61 iC (.slice none 0 0) 1 24 underlying35 p.o.1 p.o.2.1 p.o.2.2.1 p.o.2.2.2 rfl (by decide) (.slice a k c) k vs rfl (by have q:=E.Ad y.o b.o;rw[N.o] at q;exact q) (Zd wr.1.size 0) 1 1 [.slice xa r.2.2.length xc] rfl rfl (λj u hj=>XK (Yad _ _) j u hj) (by intro u hu;simp at hu;subst hu;rfl) (by unfold maxLen;omega) (by omega) (XJ ad b.o.size) ?_
       intro v5 w5 f Y _;have R:=Aa f;have M:=Aa Y;clear f Y))
   obtain⟨a',c',rfl,_⟩:=Au R.o;have X:=Ap J.o b.o;refine⟨⟨k+1,a',c',by omega,by simp,rfl,Aa ?_,Aa ?_⟩,by simp only[Ev];omega⟩
   ·rw[ap.o]
    refine Sc.snoc am.o (E.Ad y.o b.o) (λj x q hx hq=>E.Ad (an.o j x q hx hq) b.o) (E.Ad HX.o b.o) M.o ?_;rw[N.o];exact R.o
   exact X.grown M.o X.size (λj hj=>Fu y.o hj)
  have aw:¬((k:Int)<(rs.length:Int)):=by omega
  have av:k=rs.length:=by omega
  subst av;have v:=HO.o;rw[Ye] at v;have ao:=Aa v;have ac:=L.o.size;clear v;go_wp2;go_ret2;exact⟨_,rfl,ao.o.base ac,Ap L.o J.o⟩
def Nz(v:V):Prop:=v.1=0\/v.1=1\/v.1=2
theorem AD4(D:Gr L p)(v:Kl L)(u:∀c∈l,Nz (bP c))(z:r∈p){s:Tb}(G:Rf l s):S.AJG (I5 L p l s) (Uk l (l.map (pick L r)) s):=by
 obtain⟨j,h,g⟩:∃j:Nat,j<l.length/\Ce l s=j:=by
  rcases Gz l s with⟨g,_⟩|⟨j,h,g,_⟩
  ·unfold Rf at G;omega
  exact⟨j,h,g⟩
 unfold I5 Uk;rw[g,A1 (by omega),XP];have f:=Y' h
 have e:((l.map (pick L r))[j]?.getD zV)=pick L r (l[j]?.getD zC):=by rw[XN,f];rfl
 rw[e];have i:(l[j]?.getD zC)∈l:=by rw[f];exact Yg h
 generalize (l[j]?.getD zC)=c at *
 have k:(∀x∈p.map (λr=>pick L r c),Nz x)/\∃o,∀x∈p.map (λr=>pick L r c),x.1=0\/x.1=o:=by
  by_cases hp:pos L c.1<L.length
  ·have b:∀x∈p.map (λr=>pick L r c),x.1=0\/x.1=kd (L[pos L c.1]?.getD zC):=λx a=>by
    obtain⟨q,n,rfl⟩:=List.mem_map.1 a;unfold pick;rw[A2 hp];exact AEu ((D q n).2 _ hp).1
   have w:=v _ hp;refine⟨λx a=>?_,_,b⟩;have:=b x a;unfold Nz;omega
  have d:∀x∈p.map (λr=>pick L r c),x=bP c:=λx a=>by obtain⟨q,n,rfl⟩:=List.mem_map.1 a;unfold pick;rw[A1 hp]
  refine⟨λx a=>by rw[d x a];exact u c i,(bP c).1,λx a=>.inr (by rw[d x a])⟩
 obtain⟨t,o,m⟩:=k;refine⟨p.map (λr=>pick L r c),S.AHR _ (λx a=>?_),λx a y hy hx0 hy0=>?_,List.mem_map.2 ⟨r,z,rfl⟩⟩
 ·have:=t x a;unfold Nz at this;omega
 have:=m x a;have:=m y hy;omega
theorem AB6(i:Gr L p)(d:Kl L)(b:∀c∈l,Nz (bP c))(e:r∈p)(g:S.okT T)(a:S.Kg (Rf l) T)(f:S.Bp (I5 L p l) false T=false):¬evR l (l.map (pick L r)) T=1:=λh=>by
 have:=(S.sound (Rf l) (I5 L p l) (Uk l (l.map (pick L r))) (λs j=>AD4 i d b e j) T g a).1 h;rw[f] at this;cases this
theorem AAs(l:List Aj)(r:List V):evR l r .nil=1:=rfl
theorem ABU(gs:Tb->S.St):S.Bp gs false .nil=true:=rfl
def Q9(l:List Aj)(T:S.CT)(f:Px):Bool:=decide (evR l f.2.2 T=1)
theorem lE(qk:Tb)(qv:List Int)(l:List Aj)(T:S.CT):∀(rs:List (List V))(p:Int),Jw qk qv l T p rs=(Jw qk qv l .nil p rs).filter (Q9 l T)
 | [],_=>rfl
 | r :: rs,p=>by
   have a:=lE qk qv l T rs (p+1);simp only[Jw,AAs,and_true]
   by_cases hm:(qv.any λy=>p==y)=false
   ·rw[A2 hm]
    by_cases he:evR l r T=1
    ·rw[A2 ⟨hm,he⟩,X4 (by simp[Q9,he]),a]
    rw[A1 (λh=>he h.2),YB (by simp[Q9,he]),a]
   rw[A1 hm,A1 (λh=>hm h.1),a]
theorem AAv(qk:Tb)(qv:List Int)(l:List Aj)(T:S.CT):∀(rs:List (List V))(p:Int),(∀r∈rs,¬evR l r T=1)->Jw qk qv l T p rs=[]
 | [],_,_=>rfl
 | r :: rs,p,h=>by simp only[Jw];rw[A1 (λq=>h r (XF ..) q.2)];exact AAv qk qv l T rs (p+1) λq a=>h q (Yf _ a)
theorem lJ(qk:Tb)(qv:List Int)(l:List Aj)(T:S.CT)(a:List Aj)(i:Kl a)(g:∀c∈l,Nz (bP c))(j:S.okT T)(e:S.Kg (Rf l) T):∀(b:List (List (List V)))(f:Int),(∀p∈b,Gr a p)->(Oe qk qv l T a f b).1=(Oe qk qv l .nil a f b).1.filter (Q9 l T)/\(Oe qk qv l T a f b).2<=(Oe qk qv l .nil a f b).2
 | [],_,_=>⟨rfl,XB _⟩
 | p :: b,f,h=>by
   obtain⟨n,o⟩:=lJ qk qv l T a i g j e b (f+p.length) λq d=>h q (Yf _ d)
   simp only[Oe,ABU,if_true];rw[XS,<-n,<-lE];cases hm:S.Bp (I5 a p l) false T with
   | true=>exact⟨by simp,by simp only[if_true];omega⟩
   | false=>
     have m:=AAv qk qv l T (Cw a l p) f λr k=>by obtain⟨q,d,rfl⟩:=List.mem_map.1 k;exact AB6 (h p (XF ..)) i g d j e hm
     rw[m];exact⟨by simp,by simp;omega⟩
theorem all_filter{D:Td}(l:List Aj)(T:S.CT)(b:∀c∈l,Nz (bP c))(d:S.okT T)(a:Ex l T=0):∀xs:List A6,(∀x∈xs,Gt D x)->(Bo l T xs).1=(Bo l .nil xs).1.filter (Q9 l T)/\(Bo l T xs).2<=(Bo l .nil xs).2
 | [],_=>⟨rfl,XB _⟩
 | x :: xs,h=>by
   obtain⟨e,g⟩:=all_filter l T b d a xs λy hy=>h y (Yf _ hy)
   have O:=(opened (h x (XF ..)).ok (h x (XF ..)).i64).1;obtain⟨f,i⟩:=lJ x.1.1 x.1.2.2 l T (By x.2.1) O.kinds b d (gP a).1 (parts x.2.2) 0 λp hp=>(O.each p hp).1
   simp only[Bo,N9,XS,<-e,<-f];exact⟨trivial,by omega⟩
theorem fA(qk:Tb)(qv:List Int)(l:List Aj)(T:S.CT):∀(a b:List (List V))(p:Int),Jw qk qv l T p (a++b)=Jw qk qv l T p a++Jw qk qv l T (p+a.length) b
 | [],b,p=>by simp[Jw]
 | r :: a,b,p=>by
   have c:=fA qk qv l T a b (p+1);have e:p+1+(a.length:Int)=p+((r :: a).length:Int):=by simp only[XM];omega
   rw[e] at c;simp only[XV,Jw,c];split <;> simp
theorem dP(c l:List Aj)(a b:List (List V)):Cw c l (a++b)=Cw c l a++Cw c l b:=by simp[Cw]
theorem J2(b l:List Aj)(a:List (List V)):(Cw b l a).length=a.length:=by simp[Cw]
theorem vB(qk:Tb)(qv:List Int)(l b:List Aj):∀(a:List (List (List V)))(f:Int),Oe qk qv l .nil b f a=(Jw qk qv l .nil f (Cw b l a.flatten),a.length)
 | [],_=>rfl
 | p :: a,f=>by have c:=vB qk qv l b a (f+p.length);simp only[Oe,ABU,if_true,c,WC,dP,fA,J2,XM]
def E4(l:List Aj)(x:A6):List Px:=Jw x.1.1 x.1.2.2 l .nil 0 (Cw (By x.2.1) l x.2.2)
theorem zN(l:List Aj)(x:A6):(N9 l .nil x).1=E4 l x:=by unfold N9 E4;rw[vB,V2]
theorem H9(l:List Aj):∀xs:List A6,(Bo l .nil xs).1=xs.flatMap (E4 l)
 | []=>rfl
 | x :: xs=>by simp only[Bo,zN,H9 l xs,XX]
theorem sW(l:List Aj)(xs:List A6):Fc l xs=(xs.flatMap (E4 l)).map (·.2.2):=by unfold Fc;rw[H9]
theorem AHe(qk:Tb)(qv a m:List Int)(l:List Aj)(c:∀y,y∈a↔y∈qv\/y∈m):∀(rs:List (List V))(p:Int),Jw qk a l .nil p rs=(Jw qk qv l .nil p rs).filter λz=>!(m.any λy=>z.2.1==y)
 | [],_=>rfl
 | r :: rs,p=>by
   have g:=AHe qk qv a m l c rs (p+1)
   have b:∀q:List Int,((q.any λy=>p==y)=false)↔¬p∈q:=λq=>by
    constructor
    ·intro h d
     have:=List.any_eq_false.mp h p d;simp at this
    intro h;rw[WD];intro y f e;simp at e;subst e;exact h f
   simp only[Jw,AAs,and_true,b,g]
   by_cases h1:p∈qv
   ·rw[A1 (λh=>h ((c p).mpr (.inl h1))),A1 (λh=>h h1)]
   rw[A2 h1]
   by_cases h2:p∈m
   ·rw[A1 (λh=>h ((c p).mpr (.inr h2))),YB (by
     have:¬((m.any λy=>p==y)=false):=λh=>(b m).mp h h2
     simpa using this)]
   rw[A2 (λh=>by rcases (c p).mp h with h|h <;> contradiction),X4 (by have:=(b m).mpr h2;simpa using this)]
theorem Pv(qk:Tb)(qv:List Int)(l:List Aj)(T:S.CT):∀(rs:List (List V))(p:Int),(∀z∈Jw qk qv l T p rs,z.1=qk/\p<=z.2.1/\z.2.1<p+rs.length/\¬z.2.1∈qv)/\(Jw qk qv l T p rs).Pairwise λa b=>a.2.1<b.2.1
 | [],_=>⟨λz e=>(by cases e),List.Pairwise.nil⟩
 | r :: rs,p=>by
   obtain⟨g,i⟩:=Pv qk qv l T rs (p+1)
   have f:∀z∈Jw qk qv l T (p+1) rs,z.1=qk/\p<=z.2.1/\z.2.1<p+((r :: rs).length:Int)/\¬z.2.1∈qv:=λz e=>by obtain⟨a,b,c,d⟩:=g z e;simp only[XM];exact⟨a,by omega,by omega,d⟩
   simp only[Jw];split
   ·next h=>
    refine⟨λz e=>?_,List.Pairwise.cons (λz e=>?_) i⟩
    ·rcases List.mem_cons.1 e with rfl|e
     ·refine⟨rfl,Int.le_refl _,by simp only[XM];omega,λj=>?_⟩
      have:=List.any_eq_false.mp h.1 p j;simp at this
     exact f z e
    have:=(g z e).2.1;show p<z.2.1;omega
   exact⟨f,i⟩
def Ct(l:List Aj)(T:S.CT)(x:A6):List Int:=((E4 l x).filter (Q9 l T)).map (·.2.1)
def pO(l:List Aj)(T:S.CT)(x:A6):Option A6 :=
 if Ct l T x=[] then some x
 else if (Ct l T x).length=(E4 l x).length then none
 else some (N6 x.1 (Ct l T x),x.2)
theorem mD{a b:List Vc}{e:Vc}(j:((a++e :: b).map (·.1)).Nodup):Bt (a++e :: b) e.1=a.length:=by
 rcases J8 (a++e :: b) e.1 with⟨_,h⟩|⟨k,g,h,f,l⟩
 ·have:=h a.length (by simp)
  rw[getElem!_pos _ _ (by simp)] at this;simp at this
 rw[h];rw[getElem!_pos _ k g] at f;have d:k<((a++e :: b).map (·.1)).length:=by simpa using g
 have c:a.length<((a++e :: b).map (·.1)).length:=by simp
 have i:=List.pairwise_iff_getElem.mp j
 rcases WE k a.length with h|h|h
 ·exact absurd (by simp only[X6];rw[f];simp) (i k a.length d c h)
 ·omega
 exact absurd (by simp only[X6];rw[f];simp) (i a.length k c d h)
def Vm(l:List Aj)(T:S.CT)(x:A6):List A5 :=
 if Ct l T x=[] then []
 else if (Ct l T x).length=(E4 l x).length then [(2,x.1.1,0,[],[],0)]
 else [(3,x.1.1,0,Ct l T x,[],0)]
theorem O6(l:List Aj)(T:S.CT)(x:A6)(g:x.1.2.1=x.2.2.length):Ma (-1) x.1.2.1 (Ct l T x)/\aK (Ct l T x) x.1.2.2=false:=by
 obtain⟨a,d⟩:=Pv x.1.1 x.1.2.2 l .nil (Cw (By x.2.1) l x.2.2) 0;rw[J2] at a;refine⟨⟨?_,λy b=>?_⟩,?_⟩
 ·unfold Ct
  rw[List.pairwise_map];exact d.filter _
 ·obtain⟨z,c,rfl⟩:=List.mem_map.1 b
  have:=a z (List.mem_filter.1 c).1;omega
 unfold aK;rw[WD];intro y b e;obtain⟨z,c,rfl⟩:=List.mem_map.1 b;have:=(a z (List.mem_filter.1 c).1).2.2.2;rw[List.any_eq_true] at e;obtain⟨u,f,e⟩:=e;simp at e;subst e;exact this f
theorem ADz{qj:Int}(h:Ma (-1) qj m)(a:m≠[]):Dj m qj=true:=by
 unfold Dj;rw[(Mr qj m (-1)).mpr h];cases m with
 | nil=>exact absurd rfl a
 | cons=>simp
section
variable {nb : ByteArray → Bool} {cb : ByteArray → Bool} {fb : Int → Int → Int → ByteArray → Bool}
theorem Sp(l:List Aj)(T:S.CT):∀(xs:List A6)(done tail:List Vc)(s:Ah),s.qx=done++xs.map (·.1)++tail->(s.qx.map (·.1)).Nodup->(∀x∈xs,x.1.2.1=x.2.2.length) ->
 Il nb cb fb s (xs.flatMap (Vm l T)) ⟨s.Eb,s.qz,s.next,done++(xs.filterMap (pO l T)).map (·.1)++tail⟩
 | [],done,tail,s,hf,_,_=>by simp only[List.flatMap_nil,Il,List.filterMap_nil];rw[<-hf]
 | x :: xs,done,tail,s,hf,hn,hr=>by
   have a:s.qx=done++x.1 :: (xs.map (·.1)++tail):=by rw[hf];simp
   have f:=hn;rw[a] at f;have i:Bt s.qx x.1.1=done.length:=by rw[a];exact mD f
   have b:s.qx[done.length]! = x.1:=by rw[a,getElem!_pos _ _ (by simp)];simp
   have m:=hr x (XF ..);have c:∀y∈xs,y.1.2.1=y.2.2.length:=λy n=>hr y (Yf _ n)
   obtain⟨j,k⟩:=O6 l T x m;rw[XX]
   by_cases c1:Ct l T x=[]
   ·have d:Vm l T x=[]:=by unfold Vm;rw[A2 c1]
    have e:pO l T x=some x:=by unfold pO;rw[A2 c1]
    have g:=Sp l T xs (done++[x.1]) tail s (by rw[hf];simp) hn c;rw[d,YP,e];simpa using g
   by_cases c2:(Ct l T x).length=(E4 l x).length
   ·have d:Vm l T x=[(2,x.1.1,0,[],[],0)]:=by unfold Vm;rw[A1 c1,A2 c2]
    have e:pO l T x=none:=by unfold pO;rw[A1 c1,A2 c2]
    have h:s.qx.eraseIdx (Bt s.qx x.1.1).toNat=done++xs.map (·.1)++tail:=by rw[i,XP,a,List.eraseIdx_append_of_length_le (XB _)];simp
    have g:=Sp l T xs done tail ⟨s.Eb,s.qz,s.next,done++xs.map (·.1)++tail⟩ rfl (by refine List.Sublist.nodup ?_ hn;rw[<-h];exact(YL _ _).map _) c
    rw[d,YP,e];refine⟨_,.inr (.inl ⟨rfl,by show 0<=Bt s.qx x.1.1;omega,rfl⟩),?_⟩;unfold tI;simp only;rw[h];exact g
   have d:Vm l T x=[(3,x.1.1,0,Ct l T x,[],0)]:=by unfold Vm;rw[A1 c1,A1 c2]
   have e:pO l T x=some (N6 x.1 (Ct l T x),x.2):=by unfold pO;rw[A1 c1,A1 c2]
   have h:s.qx.set (Bt s.qx x.1.1).toNat (N6 s.qx[(Bt s.qx x.1.1).toNat]! (Ct l T x))=(done++[N6 x.1 (Ct l T x)])++xs.map (·.1)++tail:=by rw[i,XP,b,a,YC _ _ (XB _)];simp
   have g:=Sp l T xs (done++[N6 x.1 (Ct l T x)]) tail ⟨s.Eb,s.qz,s.next,(done++[N6 x.1 (Ct l T x)])++xs.map (·.1)++tail⟩ rfl (by rw[a] at hn;simpa[N6] using hn) c
   rw[d,YP,e];refine⟨_,.inr (.inr (.inl ⟨rfl,⟨by show 0<=Bt s.qx x.1.1;omega,?_,?_⟩,rfl⟩)),?_⟩
   ·show Dj (Ct l T x) (s.qx[(Bt s.qx x.1.1).toNat]!).2.1=true
    rw[i,XP,b];exact ADz j c1
   ·show aK (Ct l T x) (s.qx[(Bt s.qx x.1.1).toNat]!).2.2=false
    rw[i,XP,b];exact k
   unfold gJ;simp only;rw[h];simpa using g
theorem qO:∀(es tail:List Vc)(s:Ah),s.qx=es++tail->(s.qx.map (·.1)).Nodup->Il nb cb fb s (es.map λe=>(2,e.1,0,[],[],0)) ⟨s.Eb,s.qz,s.next,tail⟩
 | [],tail,s,hf,_=>by simp only[WG,Il];simp at hf;rw[<-hf]
 | e :: es,tail,s,hf,hn=>by
   have d:Bt s.qx e.1=0:=by have:=mD (a:=[]) (b:=es++tail) (e:=e) (by rw[hf] at hn;simpa using hn);rw[hf];simpa using this
   have c:s.qx.eraseIdx (Bt s.qx e.1).toNat=es++tail:=by rw[d,hf];simp
   have f:=qO es tail ⟨s.Eb,s.qz,s.next,es++tail⟩ rfl (by rw[hf] at hn;simpa using (List.nodup_cons.mp (by simpa using hn)).2);refine⟨_,.inr (.inl ⟨rfl,by show 0<=Bt s.qx e.1;omega,rfl⟩),?_⟩;unfold tI;simp only;rw[c];exact f
end
def mst(c:Aj):Bool:=c.2.2.2.1
theorem jL:∀{l:List Aj}{r:List V},r.length=l.length->(Ia l r=0↔∀i,i<l.length->Lx (l[i]?.getD zC) (r[i]?.getD zV)=true/\(mst (l[i]?.getD zC)=true->(r[i]?.getD zV).1≠0))
 | [],[],_=>by simp[Ia]
 | [],_ :: _,h=>by simp at h
 | _ :: _,[],h=>by simp at h
 | c :: l,v :: r,h=>by
   have g:=jL (l:=l) (r:=r) (by simpa using h);unfold Ia;constructor
   ·intro a i b
    by_cases h1:Lx c v=false
    ·rw[A2 h1] at a;exact absurd a (by decide)
    rw[A1 h1] at a
    by_cases h2:(c.2.2.2.1 && v.1==0)=true
    ·rw[A2 h2] at a;exact absurd a (by decide)
    rw[A1 h2] at a;cases i with
    | zero=>
      refine⟨by simpa using h1,λj e=>h2 ?_⟩;simp at e;have d:c.2.2.2.1=true:=by simpa[mst] using j
      rw[d,e];rfl
    | succ i=>simpa using g.mp a i (by simpa using b)
   intro a;have f:=a 0 (by simp);simp at f
   rw[A1 (by simp[f.1]),A1 (λe=>by simp at e;exact f.2 e.1 e.2)]
   exact g.mpr λi b=>by simpa using a (i+1) (by simpa using b)
theorem O7:Hu l r=0↔r.length=l.length/\∀i,i<l.length->Lx (l[i]?.getD zC) (r[i]?.getD zV)=true/\(mst (l[i]?.getD zC)=true->(r[i]?.getD zV).1≠0):=by
 unfold Hu
 by_cases h:r.length=l.length
 ·rw[A2 h,jL h];simp[h]
 rw[A1 h];simp[h]
structure Lk(fl l:List Aj):Prop where
 same:∀c∈l,∀d∈fl,d.1=c.1->kd d=kd c/\mst d=mst c
 late:∀c∈l,(∀d∈fl,d.1≠c.1)->mst c=true->(bP c).1≠0
theorem ADh(l:List Aj):ids (By l)=ids l:=by simp[ids,By,qN]
theorem eV(a:List Aj)(r:List V)(c:Aj):pick (By a) r c=pick a r c:=by unfold pick pos;rw[ADh];simp[By]
theorem pos_at{id:Int}(h:pos l id<l.length):(l[pos l id]?.getD zC).1=id/\(l[pos l id]?.getD zC)∈l:=by
 rw[Y' h];refine⟨?_,Yg h⟩;unfold pos at h ⊢;have b:(ids l).idxOf id<(ids l).length:=by simpa[ids] using h
 have a:(ids l)[(ids l).idxOf id]=id:=List.getElem_idxOf b;simp only[ids,X6] at a;exact a
theorem AIo{id:Int}(h:¬pos l id<l.length):∀d∈l,d.1≠id:=λd a e=>h (by
 unfold pos;have:id∈ids l:=List.mem_map.2 ⟨d,a,e⟩;have:=List.idxOf_lt_length_of_mem this;simpa[ids] using this)
theorem kA(g:Lk L l)(m:Hu L r=0)(k:∀c∈l,Lx c (bP c)=true):Hu l (l.map (pick (By L) r))=0:=by
 obtain⟨p,j⟩:=O7.mp m;rw[O7];refine⟨by simp,λi f=>?_⟩;have h:=Y' f;have b:(l[i]?.getD zC)∈l:=by rw[h];exact Yg f
 have e:((l.map (pick (By L) r))[i]?.getD zV)=pick L r (l[i]?.getD zC):=by rw[XN,h];exact eV L r _
 rw[e];generalize (l[i]?.getD zC)=c at *;unfold pick
 by_cases hp:pos L c.1<L.length
 ·rw[A2 hp]
  obtain⟨n,o⟩:=pos_at hp;obtain⟨s1,s2⟩:=g.same c b _ o n;obtain⟨a,d⟩:=j _ hp;unfold Lx at a ⊢;rw[s1] at a;rw[s2] at d;exact⟨a,d⟩
 rw[A1 hp];exact⟨k c b,g.late c b (AIo hp)⟩
theorem Lk.self(g:l.Pairwise λa b=>a.1≠b.1):Lk l l:=by
 refine⟨λc f d n e=>?_,λc f h=>absurd rfl (h c f)⟩
 have:d=c:=by
  obtain⟨i,k,rfl⟩:=List.mem_iff_getElem.mp f;obtain⟨j,m,rfl⟩:=List.mem_iff_getElem.mp n;rw[Yv] at g
  rcases WE i j with h|h|h
  ·exact absurd e.symm (g i j k m h)
  ·subst h;rfl
  exact absurd e (g j i m k h)
 rw[this];exact⟨rfl,rfl⟩
theorem Lk.sub{L l l':List Aj}(h:Lk L l)(b:∀c∈l',c∈l):Lk L l':=⟨λc a=>h.same c (b c a),λc a=>h.late c (b c a)⟩
theorem Lk.more{c:Aj}(h:Lk L l)(g:∀d∈L,d.1≠c.1)(f:mst c=true->(bP c).1≠0):Lk L (l++[c]):=by
 refine⟨λx a d b e=>?_,λx a hz=>?_⟩
 ·rcases List.mem_append.1 a with a|a
  ·exact h.same x a d b e
  simp at a;subst a;exact absurd e (g d b)
 rcases List.mem_append.1 a with a|a
 ·exact h.late x a hz
 simp at a;subst a;exact f
theorem Lk.named{L l l':List Aj}(h:Lk L l)(i:∀c∈l',∃d∈l,d.1=c.1/\d.2.2=c.2.2):Lk L l':=by
 refine⟨λc f x j e=>?_,λc f hz=>?_⟩
 ·obtain⟨d,g,a,b⟩:=i c f
  have:=h.same d g x j (by rw[e,a]);unfold kd mst at this ⊢;rw[b] at this;exact this
 obtain⟨d,g,a,b⟩:=i c f;have:=h.late d g (λy k=>by rw[a];exact hz y k);unfold bP mst at this ⊢;rw[b] at this;exact this
section
variable {nb : ByteArray → Bool} {cb : ByteArray → Bool} {fb : Int → Int → Int → ByteArray → Bool}
end
structure C7(D:DataW Unit)(s:Ah)(xs:List A6):Prop where
 Lz:Xh D s xs
 link:∀x∈xs,Lk x.2.1 s.qz
 below:∀x∈xs,∀d∈x.2.1,d.1<s.next
 qj:∀x∈xs,x.1.2.1=x.2.2.length
def R6(D:DataW Unit)(H:List (Dn×Ah)):Prop:=∀k,k<=H.length->∃xs,C7 D (Ae H k) xs
theorem Gt.put{D:Td}{x:A6}(h:Gt D x){s:Tb}(b:Maps.has D (B.lit s)=false)(v:Td):Gt (D.put (B.lit s) v) x:=by
 have a:B.lit (Eh x.1.1)≠B.lit s:=λe=>by have:=h.has;rw[e,b] at this;cases this
 exact⟨by rw[Maps.has_put_other a];exact h.has,by rw[Maps.atKey_put_other a];exact h.Gw,h.ok,h.i64,h.name,h.qv⟩
theorem Xh.put{D:Td}{s:Ah}{xs:List A6}(h:Xh D s xs){t:Tb}(a:Maps.has D (B.lit t)=false)(v:Td):Xh (D.put (B.lit t) v) s xs :=
 ⟨h.qx,λx b=>(h.each x b).put a v,h.Iz,h.eight,h.bare⟩
theorem C7.put{D:Td}{s:Ah}{xs:List A6}(h:C7 D s xs){t:Tb}(a:Maps.has D (B.lit t)=false)(v:Td):C7 (D.put (B.lit t) v) s xs :=
 ⟨h.Lz.put a v,h.link,h.below,h.qj⟩
theorem R6.put{D:Td}{H:List (Dn×Ah)}(h:R6 D H){s:Tb}(b:Maps.has D (B.lit s)=false)(v:Td):R6 (D.put (B.lit s) v) H:=λk a=>by
 obtain⟨xs,c⟩:=h k a;exact⟨xs,c.put b v⟩
theorem tG(p:Tb)(i:Nat):Eh p≠Ek i:=λe=>by
 have h:=congrArg (λb:Tb=>b.1.toList[0]?) e;simp[Eh,Ek,AAe] at h
theorem ACQ(h:U6 D H)(p:Tb)(v:Td):U6 (D.put (B.lit (Eh p)) v) H:=by
 refine⟨h.1.put _ _,λi b=>?_⟩;have a:B.lit (Ek (i+1))≠B.lit (Eh p):=λe=>tG p (i+1) (B.Jr e).symm
 rw[Maps.has_put_other a,Maps.atKey_put_other a];exact h.2 i b
theorem xA{x:Dn×Ah}{k:Nat}(a:k<=H.length):Ae (H++[x]) k=Ae H k:=by unfold Ae;rw[Yx a]
theorem AAM{x:Dn×Ah}:Ae (H++[x]) (H.length+1)=x.2:=by
 have:Ae (H++[x]) (H++[x]).length=x.2:=by rw[bR,Re]
 simpa using this
theorem R6.snoc(h:R6 D H){c:Dn}{t:Ah}{b:List A6}(f:C7 D t b):R6 D (H++[(c,t)]):=λk d=>by
 rcases Yc H.length k with a|a
 ·have e:k=H.length+1:=by simp at d;omega
  subst e;rw[AAM];exact⟨b,f⟩
 rw[xA a];exact h k a
theorem R0(h:Ma (-1) n m)(a:n<=60):m.length<=60:=by have:=fO n ((Mr n m (-1)).mpr h);omega
theorem C7.go{xs:List A6}(h:C7 D s xs)(g:Good Bv Cm s)(T:S.CT)(Eb:Int):C7 D ⟨Eb,s.qz,s.next,(xs.filterMap (pO s.qz T)).map (·.1)⟩ (xs.filterMap (pO s.qz T)):=by
 have c:∀y∈xs.filterMap (pO s.qz T),∃x∈xs,(y=x\/y=(N6 x.1 (Ct s.qz T x),x.2)):=λy b=>by
  obtain⟨x,a,e⟩:=List.mem_filterMap.1 b;refine⟨x,a,?_⟩;unfold pO at e;split at e
  ·injection e with e;exact .inl e.symm
  split at e
  ·cases e
  injection e with e;exact .inr e.symm
 refine⟨⟨rfl,λy b=>?_,XJ (List.length_filterMap_le _ _) h.Lz.Iz,h.Lz.eight,λe=>?_⟩,λy b=>?_,λy b=>?_,λy b=>?_⟩
 ·obtain⟨x,a,rfl|rfl⟩:=c y b
  ·exact h.Lz.each _ a
  have f:=h.Lz.each x a;refine⟨f.has,f.Gw,f.ok,f.i64,f.name,?_⟩;show (Go.Proofs.YthpcepcghakimaaGreatDoor.Ir (x.1.2.2++Ct s.qz T x)).length<=1000;have d:x.1∈s.qx:=by rw[<-h.Lz.qx];exact List.mem_map.2 ⟨x,a,rfl⟩
  have i:=R0 (g.Cl _ d) (g.qj _ d);have j:=R0 (O6 s.qz T x (h.qj x a)).1 (g.qj _ d);rw[Go.Proofs.YthpcepcghakimaaGreatDoor.Ml,XH];omega
 ·have:xs=[]:=by
   have:=h.Lz.qx;rw[h.Lz.bare e] at this;simpa using this
  subst this;rfl
 ·obtain⟨x,a,rfl|rfl⟩:=c y b
  ·exact h.link _ a
  exact h.link x a
 ·obtain⟨x,a,rfl|rfl⟩:=c y b
  ·exact h.below _ a
  exact h.below x a
 obtain⟨x,a,rfl|rfl⟩:=c y b
 ·exact h.qj _ a
 exact h.qj x a
theorem C7.add{xs:List A6}(h:C7 D s xs){qk:Tb}{qj:List (List V)}(k:Gt D ((qk,(qj.length:Int),[]),s.qz,qj))(o:∀d∈s.qz,d.1<s.next)(p:xs.length<1000)(Eb:Int):C7 D ⟨Eb,s.qz,s.next,s.qx++[(qk,(qj.length:Int),[])]⟩ (xs++[((qk,(qj.length:Int),[]),s.qz,qj)]):=by
 have g:=(B4.mp k.ok).1;have f:s.qz≠[]:=λe=>by have:=g.one;simp[e] at this
 refine⟨⟨by rw[XT,h.Lz.qx];rfl,λy a=>?_,by simp;omega,h.Lz.eight,λe=>absurd e f⟩,λy a=>?_,λy a=>?_,λy a=>?_⟩
 ·rcases List.mem_append.1 a with a|a
  ·exact h.Lz.each y a
  simp at a;subst a;exact k
 ·rcases List.mem_append.1 a with a|a
  ·exact h.link y a
  simp at a;subst a;refine Lk.self ?_;rw[Yv];intro i j b l c;have:=g.once i j c l;show (s.qz[i]).1≠(s.qz[j]).1;have m:(s.qz[i]?.getD zC)=s.qz[i]:=by rw[Y' b];rfl
  have n:(s.qz[j]?.getD zC)=s.qz[j]:=by rw[Y' l];rfl
  show s.qz[i].1≠s.qz[j].1
  change (s.qz[i]?.getD zC).1≠(s.qz[j]?.getD zC).1 at this
  rw[m,n] at this;exact this
 ·rcases List.mem_append.1 a with a|a
  ·exact h.below y a
  simp at a;subst a;exact o
 rcases List.mem_append.1 a with a|a
 ·exact h.qj y a
 simp at a;subst a;rfl
theorem C7.qz{xs:List A6}(h:C7 D s xs){next:Int}(a:l.length<=8)(c:l≠[])(b:∀x∈xs,Lk x.2.1 l)(f:s.next<=next)(Eb:Int):C7 D ⟨Eb,l,next,s.qx⟩ xs :=
 ⟨⟨h.Lz.qx,h.Lz.each,h.Lz.Iz,a,λe=>absurd e c⟩,b,λx hx d hd=>by have:=h.below x hx d hd;show d.1<next;omega,h.qj⟩
theorem C7.right{xs:List A6}(h:C7 D s xs)(g:∀c∈s.qz,Lx c (bP c)=true):∀r∈Fc s.qz xs,Hu s.qz r=0:=λr d=>by
 rw[sW] at d;obtain⟨z,a,rfl⟩:=List.mem_map.1 d;obtain⟨x,f,b⟩:=List.mem_flatMap.1 a
 have i:∀(rs:List (List V))(p:Int),∀z∈Jw x.1.1 x.1.2.2 s.qz .nil p rs,z.2.2∈rs:=λrs=>by
  induction rs with
  | nil=>intro p z a;cases a
  | cons r rs ih=>
    intro p z a;simp only[Jw] at a;split at a
    ·rcases List.mem_cons.1 a with rfl|a
     ·exact XF ..
     exact Yf _ (ih _ z a)
    exact Yf _ (ih _ z a)
 obtain⟨q,j,e⟩:=List.mem_map.1 (i _ _ z b);rw[<-e];exact kA (h.link x f) ((B4.mp (h.Lz.each x f).ok).2.2.2 q j) g
theorem AJm(a b:Tv)(r:List V)(w:Tw)(d:E.Sl w a r)(f:E.Sl w b r)(g:r.length<=1000):
 Zc 23 #[a,b] w λe i=>e=Zr (Zo true)/\Zb w i:=by
 have c:=Aa (E.AJA a b r r w d f g g);rw[decide_eq_true rfl] at c;clear d f;go_enter func23,ntmps23;go_wp2_with fail;apply c.o.mono;rintro e j⟨rfl,h⟩;go_wp2;go_ret;exact⟨rfl,h⟩
theorem AGn(p q:Tv)(l:List (List V))(w:Tw)(h:iJ w p l)(i:iJ w q l)(O:l.length<=1000000)(b:∀r∈l,r.length<=1000):
 Zc 22 #[p,q,.func (.func 23) #[] #[]] w λe v=>e=Zr (Zo true)/\Zb w v:=by
 have H1:=Aa h;have H2:=Aa i;have s:=Aa b;obtain⟨z,c1,rfl,_⟩:=h.slice;obtain⟨D,J,rfl,_⟩:=i.slice;clear h i b;go_enter func22,ntmps22;go_wp2
 go_loopw [17] (λo wr=>∃k:Nat,k<=l.length/\o=Zi k/\Hid (Zb w wr)) (λo _=>l.length-(intOf o).toNat)
 case atStart=>exact⟨0,XC _,rfl,Aa (XA _ _)⟩
 case round=>
  obtain⟨k,N,rfl,a⟩:=hrel
  by_cases hlt:k<l.length
  ·obtain⟨r,b⟩:∃r,l[k]? = some r:=⟨_,Y' hlt⟩
   obtain⟨G,P,L,x,t,_,T,s1⟩:=(H1.o.up a.o).at b;obtain⟨I,R,M,y,u,_,U,s2⟩:=(H2.o.up a.o).at b;injection t with e11 _ d;injection u with f _ g;subst e11 d f g;have c:=Aa (AJm x y r wr s1 s2 (s.o r (XG b)));obtain⟨X,Y,rfl,_⟩:=id s1;obtain⟨ya,yc,rfl,_⟩:=id s2;have n:(k:Int)<(l.length:Int):=by omega
   clear b s1 s2;go_wp2_with fail;apply c.o.mono;rintro e W⟨rfl,j⟩;have m:=Ap a.o j;go_wp2;exact⟨⟨k+1,by omega,by go_num,Aa m⟩,by simp[intOf];omega⟩
  have n:¬(k:Int)<(l.length:Int):=by omega
  go_wp2;go_ret;exact⟨rfl,a.o⟩
theorem ACk(a b:Tv)(l:List (List V))(w:Tw)(c:iJ w a l)(d:iJ w b l)(f:l.length<=1000000)(g:∀r∈l,r.length<=1000):
 Zc 10 #[a,b] w λe j=>e=Zr (Zo true)/\Zb w j:=by
 have h:=Aa (AGn a b l w c d f g);clear c d g f;go_enter func10,ntmps10;go_wp2_with fail;apply h.o.mono;rintro e k⟨rfl,i⟩;go_wp2;go_ret;exact⟨rfl,i⟩
theorem qQ(bb n:Nat)(D:Td)(mv:Tv)(H:List (Dn×Ah))(w:Tw)(h:Ground w bb n D mv)(f:U6 D H)(g:La H)(O5:H.length<=40):
 Zc 8 #[Zp (some (Zd bb 0))] w λe i=>e=Zr (Zi (H.length:Int))/\Zb w i:=by
 have c:=Aa (Ua bb n D mv H (-1) H.length w h f g O5 (XB _) (.inl ⟨by decide,rfl⟩));clear h f g;go_enter func8,ntmps8;go_wp2_with fail;apply c.o.mono;rintro e m⟨j,n1,c1,o,k,n2,l,rfl,d,b⟩;unfold K4;clear d;have a:=Aa b;clear b;go_wp2;go_ret;exact⟨rfl,a.o.alloc a.o.size _⟩
def wK(i:Nat):ByteArray:=⟨#[116,UInt8.ofNat (97+i % 26),UInt8.ofNat (97+i / 26 % 26)]⟩
theorem AAm{x:Nat}(h:x<256):((UInt8.ofNat x).toNat:Int)=(x:Int):=by rw[UInt8.toNat_ofNat'];omega
theorem AJt(i:Nat)(w:Tw):(convert 68 9 (Zs (some (Zd w.1.size 0)) 2 2)).run prog (w.alloc (Zk #[.int .u8 (97+(i:Int) % 26),.int .u8 (97+(i:Int) / 26 % 26)] 5))=.ok (Zt ⟨#[UInt8.ofNat (97+i % 26),UInt8.ofNat (97+i / 26 % 26)]⟩) (w.alloc (Zk #[.int .u8 (97+(i:Int) % 26),.int .u8 (97+(i:Int) / 26 % 26)] 5)) :=
 run_convert_bytes_back _ 68 9 5 (Zd w.1.size 0) 2 [UInt8.ofNat (97+i % 26),UInt8.ofNat (97+i / 26 % 26)] underlying68 underlying5 underlying9 (λj c=>by
  have a:=AAm (x:=97+i % 26) (by omega);have b:=AAm (x:=97+i / 26 % 26) (by omega)
  match j,c with
  | 0,_=>simp[Addr.add,Wb];push_cast at a;omega
  | 1,_=>simp[Addr.add,Wb];push_cast at b;omega)
theorem ADi(i:Nat)(f:i<=600)(w:Tw):
 Zc 7 #[Zi (i:Int)] w λe d=>e=Zr (Zt (wK i))/\Zb w d:=by
 have c:=AJt i w;have a:Hid ((⟨#[116]⟩:Tb)++⟨#[UInt8.ofNat (97+i % 26),UInt8.ofNat (97+i / 26 % 26)]⟩=wK i):=Aa rfl;have b:(⟨#[UInt8.ofNat (97+i % 26),UInt8.ofNat (97+i / 26 % 26)]⟩:Tb).size=2:=rfl;generalize (⟨#[UInt8.ofNat (97+i % 26),UInt8.ofNat (97+i / 26 % 26)]⟩:Tb)=B at c a b;generalize wK i=C at a ⊢;go_enter func7,ntmps7;go_wp2;refine bodyPost_ret (v:=Zt (⟨#[116]⟩++B)) ?_ rfl ?_
 ·simp[results,results7,go_sem]
 exact⟨congrArg (λx=>Ending.returned (Zt x)) a.o,Zal⟩
theorem AHh(e:i<676)(f:j<676)(h:wK i=wK j):i=j:=by unfold wK at h;have d:=congrArg ByteArray.data h;have a:=congrArg Array.toList d;simp only[List.cons.injEq,and_true,true_and] at a;have b:=congrArg UInt8.toNat a.1;have c:=congrArg UInt8.toNat a.2;rw[UInt8.toNat_ofNat',UInt8.toNat_ofNat'] at b c;omega
def Bw(a:ByteArray)(k:Nat):ByteArray:=⟨(a.1.toList++95 :: Lib.itoa (k:Int)).toArray⟩
def Plain(a:ByteArray):Prop:=∀x∈a.1.toList,x≠95
theorem jV{α:Type}{c:α}:∀{a b x y:List α},(∀z∈a,z≠c)->(∀z∈b,z≠c)->a++c :: x=b++c :: y->a=b/\x=y
 | [],[],_,_,_,_,h=>by simpa using h
 | [],z :: b,_,_,_,hb,h=>by simp at h;exact absurd h.1.symm (hb z (XF ..))
 | z :: a,[],_,_,ha,_,h=>by simp at h;exact absurd h.1 (ha z (XF ..))
 | z :: a,u :: b,x,y,ha,hb,h=>by simp at h;obtain⟨d,e⟩:=h;obtain⟨f,g⟩:=jV (λw hw=>ha w (Yf _ hw)) (λw hw=>hb w (Yf _ hw)) e;exact⟨by rw[d,f],g⟩
theorem AHM{a b:List UInt8}(h:(⟨a.toArray⟩:Tb)=⟨b.toArray⟩):a=b:=by have:=congrArg (λx:Tb=>x.1.toList) h;simpa using this
theorem S5{t u:Tb}{k:Nat}(e:Plain t)(f:Plain u)(h:Bw t i=Bw u k):t=u/\(i<=1000000->k<=1000000->i=k):=by
 obtain⟨b,c⟩:=jV e f (AHM h);refine⟨?_,?_⟩
 ·have:t.data=u.data:=Array.toList_inj.mp b
  exact ByteArray.ext this
 intro g j;have a:=Vy (n:=(i:Int)) (by omega) (by omega);have d:=Vy (n:=(k:Int)) (by omega) (by omega);rw[c,d] at a;injection a with a;omega
theorem Uw{p q:Tb}(h:Eh p=Eh q):p=q:=by have a:=congrArg (λb:Tb=>b.1.toList) h;simp[Eh] at a;exact ByteArray.ext a
def Used(D:DataW Unit)(U:List ByteArray):Prop:=∀p,Maps.has D (B.lit (Eh p))=true->∃tx∈U,∃k,p=Bw tx k
theorem Used.nil:Used (.map []) []:=λp h=>by simp[Maps.has] at h
theorem Used.fresh(h:Used D U){s:Tb}(d:¬s∈U)(f:Plain s)(c:∀u∈U,Plain u)(k:Nat):Maps.has D (B.lit (Eh (Bw s k)))=false:=by
 cases e:Maps.has D (B.lit (Eh (Bw s k))) with
 | false=>rfl
 | true=>obtain⟨u,a,i,b⟩:=h _ e;obtain⟨rfl,_⟩:=S5 f (c u a) b;exact absurd a d
theorem Used.more{a:List Tb}(h:Used D U)(c:∀u∈U,u∈a):Used D a:=λp b=>by
 obtain⟨u,d,k,e⟩:=h p b;exact⟨u,c u d,k,e⟩
theorem Used.put{D:Td}{U:List Tb}(h:Used D U){s:Tb}(c:s∈U)(k:Nat)(v:Td):Used (D.put (B.lit (Eh (Bw s k))) v) U:=λp a=>by
 by_cases e:p=Bw s k
 ·exact⟨s,c,k,e⟩
 rw[Maps.has_put_other (λb=>e (Uw (B.Jr b)))] at a;exact h p a
theorem Used.log(h:Used D U)(i:Nat)(v:Td):Used (D.put (B.lit (Ek i)) v) U:=λp a=>by
 rw[Maps.has_put_other (λb=>tG p i (B.Jr b))] at a;exact h p a
theorem AFl(i:Nat):Plain (wK i):=λx a=>by
 simp[wK] at a
 rcases a with rfl|rfl|rfl
 ·decide
 ·intro e
  have:=congrArg UInt8.toNat e;rw[UInt8.toNat_add,UInt8.toNat_ofNat'] at this;simp at this;omega
 intro e;have:=congrArg UInt8.toNat e;rw[UInt8.toNat_add,UInt8.toNat_ofNat'] at this;simp at this;omega
def PA(w:World)(base i:Nat):Prop:=base<=i/\∃cs T,w.1[i]? = some (.cells cs T (0,0))/\(T=112\/T=144)
structure Mv(base bb:Nat)(mv mv':Value)(w w':World):Prop where
 only:B.A0 (λi=>B.Own bb mv i\/PA w base i) w w'
 link:∀k,mv'=.map (some k)->mv=.map (some k)\/w.1.size<=k
 stay:B.St mv mv'
theorem Mv.trans{base bb:Nat}{mv v u:Tv}{w W r:Tw}(h:Mv base bb mv v w W)(k:Mv base bb v u W r):Mv base bb mv u w r:=by
 refine⟨h.only.trans k.only λi f e=>?_,λj a=>?_,λj a=>(k.stay j ((h.stay j a).trans a)).trans (h.stay j a)⟩
 ·rcases e with(e|e)|⟨b,cs,T,c,d⟩
  ·exact .inl (.inl e)
  ·rcases h.link i e with e|e
   ·exact .inl (.inr e)
   omega
  by_cases hs:B.Own bb mv i\/PA w base i
  ·exact hs
  exact .inr ⟨b,cs,T,(h.only.block i f hs).symm.trans c,d⟩
 rcases k.link j a with e|e
 ·exact h.link j e
 exact .inr (XJ h.only.size e)
theorem Mv.below{base bb:Nat}{mv:Tv}(h:Zb w W):Mv base bb mv mv w W:=⟨B.A0.Ba h,λ_ e=>.inl e,B.St.refl _⟩
theorem Mv.refl{base bb:Nat}{mv:Tv}{w:Tw}:Mv base bb mv mv w w:=Mv.below (XA _ _)
theorem Mv.put{base bb:Nat}{mv v:Tv}(h:B.A0 (B.Own bb mv) w W)(a:(∀k,v=.map (some k)->mv=.map (some k)\/w.1.size<=k)/\B.St mv v):Mv base bb mv v w W:=⟨h.mono λ_ _ e=>.inl e,a.1,a.2⟩
theorem Mv.o{base bb:Nat}{mv v:Tv}(h:Mv base bb mv v w W)(a:w.1.size<=base):B.A0 (B.Own bb mv) w W :=
 h.only.mono λi b e=>e.elim id λe=>by have:=e.1;omega
theorem Mv.ACV{base bb:Nat}{mv:Tv}(h:B.A0 (PA w base) w W):Mv base bb mv mv w W:=⟨h.mono λ_ _ e=>.inr e,λ_ e=>.inl e,B.St.refl _⟩
theorem Mv.zG{base bb n:Nat}{fs:List Int}{mv v u:Tv}(h:Mv base bb mv u w W)(g:B.Bu w bb n D fs mv v){cs:Array Tv}{T:TypeId}(a:w.1[i]? = some (Zk cs T (0,0)))(o:T≠29)(p:T≠112)(q:T≠144):W.1[i]? = some (Zk cs T (0,0)):=by
 refine(h.only.block i (Ac a) ?_).trans a;rintro((e|e)|⟨_,j,r,b,c⟩)
 ·subst e
  have d:w.1[i]? = _:=g.1;rw[d] at a;injection a with a;injection a with _ a;exact o a.symm
 ·rcases g.2.1 with⟨l,_⟩|⟨m,k,es,clock,f,_⟩
  ·rw[l] at e;cases e
  rw[k] at e;cases e;rw[f] at a;cases a
 rw[a] at b;injection b with b;injection b with _ b;subst b
 rcases c with c|c
 ·exact p c
 exact q c
theorem Mv.row{base bb n:Nat}{fs:List Int}{mv u f:Tv}(h:Mv base bb mv f w W)(p:B.Bu w bb n D fs mv u){b z m:Nat}{T:TypeId}{xs:List Tv}(i:w.ownsRow b T z v m xs)(k:T≠29)(l:T≠112)(o:T≠144):W.ownsRow b T z v m xs:=by
 refine⟨i.1,?_⟩
 rcases i.2 with j|⟨g,c,a,r,d,q,e⟩
 ·exact .inl j
 exact .inr ⟨g,c,a,r,d,h.zG p q k l o,e⟩
theorem Mv.snap{base bb n:Nat}{fs:List Int}{mv u f:Tv}(h:Mv base bb mv f w W)(b:B.Bu w bb n D fs mv u)(i:Dl w s v):Dl W s v:=by obtain⟨c,c1,d,g,L,e,a⟩:=i;exact⟨c,c1,d,g,L,e,h.row b a.qz (by decide) (by decide) (by decide),a.qx,h.row b a.row (by decide) (by decide) (by decide),λx j=>h.row b (a.Cl x j) (by decide) (by decide) (by decide)⟩
theorem Mv.AKi{base bb n:Nat}{fs:List Int}{mv v u:Tv}(h:Mv base bb mv u w W)(a:B.Bu w bb n D fs mv v){b:Nat}{q:Gx}(c:pC b w q):pC b W q :=
 ⟨h.row a c.1 (by decide) (by decide) (by decide),h.row a c.2 (by decide) (by decide) (by decide)⟩
theorem Mv.slO{base bb n:Nat}{fs:List Int}{mv u f:Tv}(h:Mv base bb mv f w W)(a:B.Bu w bb n D fs mv u){b:Nat}{qj:List (List V)}(g:Sc b w v qj):Sc b W v qj:=by obtain⟨l,c,d,e⟩:=g;exact⟨l,c,h.row a d (by decide) (by decide) (by decide),λj x r k i=>h.row a (e j x r k i) (by decide) (by decide) (by decide)⟩
theorem Kv{w0 w W:Tw}{k base bb n:Nat}{fs:List Int}{mv v:Tv}(h:Ey w0 w k bb n D fs mv v)(U:k<=base)(P:w0.1.size<=base)(p:B.A0 (PA w base) w W):Ey w0 W k bb n D fs mv v:=by
 obtain⟨q,c,L⟩:=h.bu
 have s:¬PA w base bb:=by
  rintro⟨_,cs,T,b,o⟩;have r:w.1[bb]? = _:=q;rw[r] at b;injection b with b;injection b with _ b;subst b
  rcases o with o|o <;> exact absurd o (by decide)
 refine⟨⟨q.keep (p.block bb q.lt s),c.keep λm e=>p.block m (c.lt e) ?_,?_⟩,p.below h.low h.low.size (λi hi=>XJ P hi.1),h.hb,h.hm,h.er,h.nc,h.tb,h.hf⟩
 ·rintro⟨_,cs,T,b,_⟩
  rcases c with⟨J,_⟩|⟨V,G,es,clock,t,_⟩
  ·rw[J] at e;cases e
  rw[G] at e;cases e;rw[t] at b;cases b
 obtain⟨a,j,e,M,N⟩:=L;refine⟨a,j,e,M,λz=>?_⟩;obtain⟨g,off,u,d⟩:=N z;refine⟨g,off,u,λi x R=>?_⟩
 have O:g<k:=by
  cases hfs:fs with
  | nil=>exact absurd hfs z
  | cons y l=>refine h.hf g off l.length j ?_;rw[e,u,hfs];rfl
 have f:=d i x R;have I:=p.block g (Fv f) (λe=>by have:=e.1;omega);simp only[World.cell?,I] at f ⊢;exact f
structure Dv(base:Nat)(w:World)(pb:Nat)(s:Ah)(v:Int)(a1:Option Addr)(n1 c1:Nat)(x2:Int)(a2:Option Addr)(n2 c2:Nat)(tx:ByteArray)(rd:Bool)(aa:Option Addr)(ac:Nat)(L:List Gx)(qj:Int):Prop where
 box:w.1[pb]? = some (.cells #[Zi v,.slice a1 n1 c1,Zi x2,.slice a2 n2 c2,.string tx,.bool rd,.slice aa L.length ac,Zi qj] 112 (0,0))
 snap:Dl w s (K4 v a1 n1 c1 x2 a2 n2 c2)
 row:w.ownsRow base 144 6 (.slice aa L.length ac) L.length (Ci L)
 own:∀q∈L,pC 0 w q
 Vv:∀q∈L,pM q.1
 low:base<=pb
theorem Dv.up{base:Nat}{w W:Tw}{n:Nat}{s:Ah}{v:Int}{b:To}{n1 c1:Nat}{x:Int}{c:To}{n2 k:Nat}{t:Tb}{f:Bool}{d:To}{i:Nat}{L:List Gx}{qj:Int}(h:Dv base w n s v b n1 c1 x c n2 k t f d i L qj)(a:Zb w W):Dv base W n s v b n1 c1 x c n2 k t f d i L qj :=
 ⟨(a.block _ (Ac h.box)).trans h.box,h.snap.up a,Bc h.row a,λq e=>⟨Bc (h.own q e).1 a,Bc (h.own q e).2 a⟩,h.Vv,h.low⟩
theorem Dv.put{base:Nat}{w W:Tw}{k:Nat}{s:Ah}{v:Int}{o:To}{n1 c1:Nat}{x:Int}{p:To}{n2 i:Nat}{t:Tb}{y:Bool}{r:To}{j:Nat}{L:List Gx}{qj:Int}{bb n:Nat}{D:Td}{fs:List Int}{mv u:Tv}(h:Dv base w k s v o n1 c1 x p n2 i t y r j L qj)(a:B.Bu w bb n D fs mv u)(f:B.A0 (B.Own bb mv) w W):Dv base W k s v o n1 c1 x p n2 i t y r j L qj:=by
 have m:Mv 0 bb mv mv w W:=Mv.put f ⟨λ_ e=>.inl e,B.St.refl _⟩;refine⟨Ut a f h.box (by decide),m.snap a h.snap,⟨h.row.1,?_⟩,λq I=>m.AKi a (h.own q I),h.Vv,h.low⟩
 rcases h.row.2 with z|⟨g,c,b,J,d,G,l⟩
 ·exact .inl z
 exact .inr ⟨g,c,b,J,d,Ut a f G (by decide),l⟩
theorem F2{b:Nat}{v u f a e c d g:Tv}{t:TypeId}(h:W.1[b]? = some (Zk #[v,u,f,a,e,c,d,g] t (0,0))):
 W.cell? (Zd b 0)=some v/\W.cell? (Zd b 1)=some u/\W.cell? (Zd b 2)=some f/\W.cell? (Zd b 3)=some a/\W.cell? (Zd b 4)=some e/\W.cell? (Zd b 5)=some c/\W.cell? (Zd b 6)=some d/\W.cell? (Zd b 7)=some g/\∀i,W.frozen? (Zd b i)=false:=by
 simp[World.cell?,World.frozen?,h]
theorem AK4{b:Nat}{u f a e c d i g:Tv}{t:TypeId}(h:W.1[b]? = some (Zk #[u,f,a,e,c,d,i,g] t (0,0)))(v:Tv):(W.setCell (Zd b 6) v).heap[b]? = some (Zk #[u,f,a,e,c,d,v,g] t (0,0)):=by have:=As W b 6 _ _ v h;simpa using this
theorem sN{base:Nat}{t T:TypeId}{z:Nat}{n:Nat}{xs:List Tv}{b i:Nat}{cs:Array Tv}(h:W.ownsRow base t z v n xs)(f:W.1[b]? = some (Zk cs T (0,0)))(c:t≠T):(W.setCell (Zd b i) u).ownsRow base t z v n xs :=
 Az h (Aq W b i u) λk g e=>by injection e with e;subst e;obtain⟨d,a⟩:=Go.Proofs.YthpcepcghakimaaGreatDoor.Ho h g;rw[f] at a;injection a with a;injection a with _ a;exact c a.symm
theorem N3(base O:Nat)(s:Ah)(v:Int)(a1:To)(n1 c1:Nat)(x2:Int)(a2:To)(n2 c2:Nat)(tx:Tb)(rd:Bool)(aa:To)(ac:Nat)(L:List Gx)(qj:Int)(w:Tw)(hP:Dv base w O s v a1 n1 c1 x2 a2 n2 c2 tx rd aa ac L qj)(al:base<=w.1.size)(k:Int)(p:Tb)(r:Int)(M:List Int)(C:List Aj)(d:Int)(t:To)(D y:Nat)(f:To)(n l:Nat)(o:pC 0 w ((k,p,r,M,C,d),(t,D,y),(f,n,l)))(hf:pM (k,p,r,M,C,d))(hL:L.length<=1000):
 Zc 64 #[Zp (some (Zd O 0)),Zg #[Zi k,Zt p,Zi r,Zs t D y,Zs f n l,Zi d]] w λe w'=>e=Zr (Zu #[])/\(∃U V,Dv base w' O s v a1 n1 c1 x2 a2 n2 c2 tx rd U V (L++[((k,p,r,M,C,d),(t,D,y),(f,n,l))]) qj)/\B.A0 (PA w base) w w':=by
 obtain⟨t0,t1,t2,t3⟩:=C1 w (Zk #[Zi k,Zt p,Zi r,Zs t D y,Zs f n l,Zi d] 144) (Zk #[Zi k,Zt p,Zi r,Zs t D y,Zs f n l,Zi d] 144);have HB:=Aa t3;have HX:=Aa t2;have c:=Aa hP;have HP:=Aa (hP.up t3);have HQ:=Aa o;have HF:=Aa hf;obtain⟨iA,ad,X⟩:=Option.map_eq_some_iff.1 gO;simp only[Prod.mk.injEq] at X;have N:=Aa (And.intro ad X);have ao:O<w.1.size:=Ac hP.box;obtain⟨x0,x1,y2,x3,x4,x5,x6,x7,xf⟩:=F2 hP.box;have ak:=Aa t0;clear hP o hf t0 t1 t2 t3 ad X;have ah:Hid (((w.alloc (Zk #[Zi k,Zt p,Zi r,Zs t D y,Zs f n l,Zi d] 144)).alloc (Zk #[Zi k,Zt p,Zi r,Zs t D y,Zs f n l,Zi d] 144)).drew.ownsRow base 144 6 (Zs aa L.length ac) L.length (Ci L)):=Aa HP.o.row;have ag:Hid (((w.alloc (Zk #[Zi k,Zt p,Zi r,Zs t D y,Zs f n l,Zi d] 144)).alloc (Zk #[Zi k,Zt p,Zi r,Zs t D y,Zs f n l,Zi d] 144)).drew.heap[w.1.size+1]? = some (Zk #[Zi k,Zt p,Zi r,Zs t D y,Zs f n l,Zi d] 144)):=Aa HX.o;have I:=Aa (HP.o.up ((XA _ _).drew));have Y:Hid (Zb w ((w.alloc (Zk #[Zi k,Zt p,Zi r,Zs t D y,Zs f n l,Zi d] 144)).alloc (Zk #[Zi k,Zt p,Zi r,Zs t D y,Zs f n l,Zi d] 144)).drew):=Aa (HB.o.drew)
 have af:Hid (∀(g P:Nat)(w5:Tw),w5.ownsRow base 144 6 (Zs (some (Zd g 0)) (L.length+1) P) (L.length+1) (Ci L++[Zi k,Zt p,Zi r,Zs t D y,Zs f n l,Zi d])->((w.alloc (Zk #[Zi k,Zt p,Zi r,Zs t D y,Zs f n l,Zi d] 144)).alloc (Zk #[Zi k,Zt p,Zi r,Zs t D y,Zs f n l,Zi d] 144)).drew.grownBy w5 (Value.slice aa L.length ac).ownBlock->((∃U V,Dv base (w5.setCell (Zd O 6) (Zs (some (Zd g 0)) (L.length+1) P)) O s v a1 n1 c1 x2 a2 n2 c2 tx rd U V (L++[((k,p,r,M,C,d),(t,D,y),(f,n,l))]) qj)/\B.A0 (PA w base) w (w5.setCell (Zd O 6) (Zs (some (Zd g 0)) (L.length+1) P)))):=Aa (λg P w5 R G=>by
  have HY:=Hq I.o.box I.o.row (by decide) G
  have a:∀{b z m:Nat}{T:TypeId}{u:Tv}{xs:List Tv},w.ownsRow b T z u m xs->T≠144->T≠112->(w5.setCell (Zd O 6) (Zs (some (Zd g 0)) (L.length+1) P)).ownsRow b T z u m xs:=λh h1 h2=>by have h5:=j8 (Bc h Y.o) I.o.row h1 G;exact sN h5 HY h2
  refine⟨⟨some (Zd g 0),P,?_,?_,?_,?_,?_,c.o.low⟩,?_⟩
  ·rw[XH]
   exact AK4 HY _
  ·obtain⟨b1,d1,b2,d2,E,e,hV⟩:=c.o.snap
   exact⟨b1,d1,b2,d2,E,e,a hV.qz (by decide) (by decide),hV.qx,a hV.row (by decide) (by decide),λx hx=>a (hV.Cl x hx) (by decide) (by decide)⟩
  ·have h5:=sN (i:=6) (u:=Zs (some (Zd g 0)) (L.length+1) P) R HY (by decide)
   rw[XH];simpa[Ci,nU,sv] using h5
  ·intro q o
   rcases List.mem_append.1 o with o|o
   ·exact⟨a (c.o.own q o).1 (by decide) (by decide),a (c.o.own q o).2 (by decide) (by decide)⟩
   simp at o;subst o;exact⟨a HQ.o.1 (by decide) (by decide),a HQ.o.2 (by decide) (by decide)⟩
  ·intro q o
   rcases List.mem_append.1 o with o|o
   ·exact c.o.Vv q o
   simp at o;subst o;exact HF.o
  refine((B.A0.Ba Y.o).grown G λm hm am=>?_).setCell (λ_=>⟨c.o.low,_,_,c.o.box,.inl rfl⟩) _;obtain⟨ai,hc⟩:=Go.Proofs.YthpcepcghakimaaGreatDoor.Ho c.o.row hm;exact⟨Fu c.o.row hm,ai,_,hc,.inr rfl⟩)
 have aj:Hid (base<=w.1.size+1+1):=Aa (by omega);have an:O≠w.1.size:=by omega
 go_enter func64,ntmps64;go_wp2_with fail
 go_region_law
  (first
    | (refine step_append_lies _ (by rfl) (.tmp 9) (.tmp 11) 108 (by rfl) base 144 iA Mi 6 88 underlying108 N.o.1 N.o.2.1 N.o.2.2.1 N.o.2.2.2 rfl (by decide) (.slice aa L.length ac) L.length _ (by rfl) ah.o (Zd (w.1.size+1) 0) 1 1 [Zi k,.string p,Zi r,.slice t D y,.slice f n l,Zi d] (by rfl) rfl (λj u hj=>XK ag.o j u hj) (by intro u hu;simp only[WM,WJ,or_false] at hu;rcases hu with rfl|rfl|rfl|rfl|rfl|rfl <;> rfl) (by omega) (by unfold maxLen;omega) (by omega) (by simp;omega) _ rfl ?_
       intro a' P w5 J W ab ae;have R:=Aa J;have G:=Aa W;have HY:=Aa (Hq I.o.box I.o.row (by decide) W);obtain⟨z0,z1,z2,z3,z4,z5,z6,z7,zf⟩:=F2 HY.o;clear J W ab ae)
    | fail)
 all_goals exact⟨rfl,Zu #[],by simp[results,results64,go_sem],rfl,af.o _ _ _ R.o G.o⟩
theorem kN(bb n:Nat)(D:Td)(mv:Tv)(H:List (Dn×Ah))(a:Tb)(w:Tw)(h:Ground w bb n D mv)(v:U6 D H)(x:La H)(O5:H.length<=40)(o:Bx a=true)(I:a.size<=12):
 Zc 61 #[Zp (some (Zd bb 0)),Zt a] w λe G=>∃y g n1 c1 p i n2 j,e=Zr (Zu #[Zp (some (Zd y 0)),Zn])/\Dv w.1.size G y (Ae H H.length) (H.length:Int) g n1 c1 p i n2 j a false none 0 [] 0/\Zb w G:=by
 have r:=Aa (Mn a w (by unfold maxLen;omega));rw[o] at r;have d:=Aa (λW(J:Zb w W)=>Ua bb n D mv H (-1) H.length W (h.up J) v x O5 (XB _) (.inl ⟨by decide,rfl⟩));have u:¬(12:Int)<(a.size:Int):=by omega
 clear h v x o;generalize Ae H H.length=O at *;go_enter func61,ntmps61;go_wp2_with fail;apply r.o.mono;rintro e P⟨rfl,l⟩;have b:=Aa l;clear l r;go_wp2_with fail;refine(d.o _ b.o).mono ?_;rintro e N⟨g,n1,c1,p,i,n2,j,rfl,k,m⟩;have f:=Aa k;have c:=Aa (Ap b.o m);clear k m d;unfold K4 at f ⊢;obtain⟨M,t1,t2,z⟩:=C1 N (Zk #[Zi (H.length:Int),Zs g n1 c1,Zi p,Zs i n2 j] 71) (Zk #[Zi (H.length:Int),Zs g n1 c1,Zi p,Zs i n2 j,Zt a,Zo false,Zs none 0 0,Zi 0] 112);have s:=Aa (And.intro t2 z);have L:=c.o.size;clear M t1 t2 z;go_wp2_with fail;go_ret2;refine⟨_,g,n1,c1,p,i,n2,j,rfl,⟨s.o.1,f.o.up s.o.2,XI _ _ _ _,(λq t=>by cases t),(λq t=>by cases t),by omega⟩,Ap c.o s.o.2⟩
theorem fH(bb n:Nat)(D:Td)(mv:Tv)(H:List (Dn×Ah))(i:Tb)(w:Tw)(h:Ground w bb n D mv)(t:U6 D H)(u:La H)(O5:H.length<=40)(g:Bx i=true)(d:i.size<=12):
 Zc 65 #[Zp (some (Zd bb 0)),Zt i] w λe v=>Zb w v/\(((Ae H H.length).qz=[]/\e=Zr (Zu #[Zp none,Zf 107 (Zi 6)]))\/((Ae H H.length).qz≠[]/\∃k m n1 c1 s o n2 p,e=Zr (Zu #[Zp (some (Zd k 0)),Zn])/\Dv w.1.size v k (Ae H H.length) (H.length:Int) m n1 c1 s o n2 p i false none 0 [] 0)):=by
 have c:=Aa (kN bb n D mv H i w h t u O5 g d);clear h t u g d;generalize Ae H H.length=a at *;go_enter func65,ntmps65;go_wp2_with fail;apply c.o.mono;rintro e y⟨k,m,n1,c1,s,o,n2,p,rfl,j,f⟩
 have r:n1=a.qz.length:=by obtain⟨_,_,_,_,_,e,_⟩:=j.snap;unfold K4 at e;simp only[Value.agg.injEq,Array.mk.injEq,List.cons.injEq,Value.int.injEq,Value.slice.injEq] at e;exact e.2.1.2.1
 subst r;have x:=Aa j;have b:=Aa f;obtain⟨z,G,I,J,L,M,N,O,P⟩:=F2 j.box;clear j f c
 by_cases hc:a.qz.length=0
 ·have l:Hid (a.qz=[]):=Aa (Yah.1 hc)
  have q:((a.qz.length:Nat):Int)=0:=by omega
  go_wp2_with fail;go_ret2;exact⟨b.o,.inl ⟨l.o,rfl⟩⟩
 have l:Hid (a.qz≠[]):=Aa (λe=>hc (by rw[e];rfl));have q:¬((a.qz.length:Nat):Int)=0:=by omega
 go_wp2_with fail;go_ret2;exact⟨b.o,.inr ⟨l.o,k,m,_,c1,s,o,n2,p,rfl,x.o⟩⟩
theorem AGy(w:Tw):(binOp .neq 32 Zn (Zf 107 (Zi 14))).run prog w=.ok (Zo true) w:=by kernel_rfl
theorem AEO(w:Tw):(binOp .neq 32 (Zf 107 (Zi 14)) (Zf 107 (Zi 14))).run prog w=.ok (Zo false) w:=by kernel_rfl
theorem Vo{w0 w:Tw}{j bb n:Nat}{fs:List Int}{mv v:Tv}(h:Ey w0 w j bb n D fs mv v)(I:n<100000)(d:Tb)(t:d.size<=1000)(s:Tb)(y:s.size<=maxLen)(r:Int×Td×List Int)(x:B.bM D fs d s=r):
 Zc 78 #[Zp (some (Zd bb 0)),Zt d,Zt s] w λe q=>e=Zr (B.L8 r.1)/\∃a f,Ey w0 q j bb (n+1) r.2.1 r.2.2 a f/\B.A0 (B.Own bb mv) w q/\(∀k,a=.map (some k)->mv=.map (some k)\/w.1.size<=k)/\B.St mv a:=by
 refine(B.ABa bb n D fs mv v d s w h.bu (by unfold maxLen;omega) (by unfold maxLen;omega) y).mono ?_;rw[x];rintro e q⟨rfl,a,f,m,u,g,o,p⟩;refine⟨rfl,a,f,⟨m,u.below h.low h.low.size ?_,h.hb,λk t=>?_,h.er,h.nc,h.tb,λb off l c e=>?_⟩,u,g,p⟩
 ·rintro i (rfl|e)
  ·exact h.hb
  exact h.hm i e
 ·rcases g k t with e|e
  ·exact h.hm k e
  exact XJ h.low.size e
 obtain⟨G,z,c0,e0⟩:=o b off l c e;exact h.hf b G z c0 e0
def ABM(w0 w:World)(g bb n:Nat)(D:DataW Unit)(fs:List Int)(mv:Value)(d s:ByteArray)(e:Ending)(f:World):Prop :=
 ∃a c b,Ey w0 f g bb (n+1) b fs.tail a c/\B.A0 (B.Own bb mv) w f/\((∀k,a=.map (some k)->mv=.map (some k)\/w.1.size<=k)/\B.St mv a) /\
  ((fs.headD 0≠1/\e=.returned .nilIface/\b=D.put (B.lit d) (B.Gw s))\/(fs.headD 0=1/\e=.returned (.iface 107 (.int .i64 14))/\b=D))
theorem oD(w0:Tw)(M bb n:Nat)(D:Td)(fs:List Int)(mv T:Tv)(a s:Tb)(w:Tw)(h:Ey w0 w M bb n D fs mv T)(J:n<100000)(N:Maps.IsMap D)(u:B.Wz a=true)(f:Maps.has D (B.lit a)=false)(L:s.size<=maxLen):
 Zc 112 #[Zp (some (Zd bb 0)),Zt a,Zt s] w (ABM w0 w M bb n D fs mv a s):=by
 have O:a.size<=60:=by simp[B.Wz] at u;exact u.2
 have b:B.bM D fs a s=if fs.headD 0=1 then (14,D,fs.tail) else if fs.headD 0=2 then (14,D.put (B.lit a) (B.Gw s),fs.tail) else (0,D.put (B.lit a) (B.Gw s),fs.tail):=by unfold B.bM;rw[u,f];rfl
 have V:=AGy;have W:=AEO
 by_cases h1:fs.headD 0=1
 ·rw[A2 h1] at b
  have c:=Aa (Vo h J a (by omega) s L _ b);rw[show B.L8 ((14:Int),D,fs.tail).1=Value.iface 107 (Zi 14) from rfl] at c;have x:=Aa h1;have I:=Aa f;clear h b f h1 u;go_enter func112,ntmps112;go_wp2_with fail;apply c.o.mono;rintro e z⟨rfl,j,o,d,i,g⟩;have m:=Aa (B.aP bb (n+1) D j a z d.ground.c0 d.ground.th (by unfold maxLen;omega));unfold B.Um at m;rw[A1 (by rw[I.o];decide)] at m;rw[show B.L8 7=Value.iface 107 (Zi 7) from rfl] at m;have k:=Aa (And.intro d (And.intro i g));clear d i g c;go_wp2_with fail;apply m.o.mono;rintro e U⟨t,rfl,_,_,p⟩;have l:=Aa p;clear p m;go_wp2_with fail;go_ret;exact⟨j,o,D,k.o.1.up l.o,k.o.2.1.trans (B.A0.Ba (S:=λ_=>False) l.o) (λ_ _ h=>h.elim),k.o.2.2,.inr ⟨x.o,rfl,rfl⟩⟩
 rw[A1 h1] at b
 by_cases h2:fs.headD 0=2
 ·rw[A2 h2] at b
  have c:=Aa (Vo h J a (by omega) s L _ b);rw[show B.L8 ((14:Int),D.put (B.lit a) (B.Gw s),fs.tail).1=Value.iface 107 (.int .i64 14) from rfl] at c;have x:=Aa h1;have q:Hid (Maps.has (D.put (B.lit a) (B.Gw s)) (B.lit a)=true/\(D.put (B.lit a) (B.Gw s)).atKey (B.lit a) (B.Gw ByteArray.empty)=B.Gw s):=Aa ⟨Maps.has_put_same N L4 _,Maps.atKey_put_same N L4 _ _⟩;clear h b f h1 h2 u;have v:Hid (∃y,D.put (B.lit a) (B.Gw s)=y):=Aa ⟨_,rfl⟩;obtain⟨y,r⟩:=v.o;rw[r] at c q;have G:=Aa r;clear r v;go_enter func112,ntmps112;go_wp2_with fail;apply c.o.mono;rintro e z⟨rfl,j,o,d,i,g⟩;have m:=Aa (B.aP bb (n+1) y j a z d.ground.c0 d.ground.th (by unfold maxLen;omega));unfold B.Um at m;rw[A2 q.o.1] at m;rw[show B.L8 0=Value.nilIface from rfl] at m;have k:=Aa (And.intro d (And.intro i g));clear d i g c;go_wp2_with fail;apply m.o.mono;rintro e U⟨t,rfl,P,_,p⟩;have R:t=s:=B.aS ((P q.o.1).symm.trans q.o.2);subst R;have l:=Aa p;clear p m P;go_wp2_with fail;go_ret;exact⟨j,o,y,k.o.1.up l.o,k.o.2.1.trans (B.A0.Ba (S:=λ_=>False) l.o) (λ_ _ h=>h.elim),k.o.2.2,.inl ⟨x.o,rfl,G.o.symm⟩⟩
 rw[A1 h2] at b;have c:=Aa (Vo h J a (by omega) s L _ b);rw[show B.L8 ((0:Int),D.put (B.lit a) (B.Gw s),fs.tail).1=Value.nilIface from rfl] at c;have x:=Aa h1;clear h b f h1 h2 u;go_enter func112,ntmps112;go_wp2_with fail;apply c.o.mono;rintro e z⟨rfl,j,o,d,i,g⟩;have k:=Aa (And.intro d (And.intro i g));clear d i g c;go_wp2_with fail;go_ret;exact⟨j,o,_,k.o.1,k.o.2.1,k.o.2.2,.inl ⟨x.o,rfl,rfl⟩⟩
end F
variable{W:Tw}{a:Act}
def S7(W:World)(b:Nat)(a c d e f g h:Value):Prop:=W.cell? ⟨b,0,none⟩=some a/\W.cell? ⟨b,1,none⟩=some c/\W.cell? ⟨b,2,none⟩=some d/\W.cell? ⟨b,3,none⟩=some e/\W.cell? ⟨b,4,none⟩=some f/\W.cell? ⟨b,5,none⟩=some g/\W.cell? ⟨b,6,none⟩=some h
theorem s7{b:Nat}{v u f a e c d:Tv}(h:W.1[b]? = some (Zk #[v,u,f,a,e,c,d] 59)):S7 W b v u f a e c d:=by refine⟨?_,?_,?_,?_,?_,?_,?_⟩ <;> simp[World.cell?,h]
theorem heap_alloc_new(w:Tw)(o:Obj):(w.alloc o).heap[w.1.size]? = some o:=by show (w.1.push o)[w.1.size]? = some o;simp
theorem P2{q:Array Oper}{o:Oper}{K:Act->Tw->Prop}{Q:Exit->Act->Tw->Prop}{E:Prop}(i:o.guard=none)(s x:Operand)(y:o.op=.call { callee:=.builtin .append,args:=#[s,x],argTypes:=#[34,34] })(base n:Nat)(v:Tv)(xs:List Tv)(e:W.ownsRow base 59 7 v n xs)(b:Nat)(cs:List Tv)(t:W.1[b]? = some (Zk cs.toArray 59))(z:a.eval s=v)(D:a.eval x=Zs (some (Zd b 0)) 1 1)(I:cs.length=7)(r:∀u∈cs,u.oneCell'=true)(J:n<=1000)(d:base<=W.1.size)(h:∀g c f,Hid (f.ownsRow base 59 7 (Zs (some (Zd g 0)) (n+1) c) (n+1) (xs++cs)/\W.grownBy f v.ownBlock)->K (a.put o.dst (Zs (some (Zd g 0)) (n+1) c)) f):
 if Region.wanted o (yielded q a.tmps)=true then Oper.wp prog o a W K Q else E:=by
 obtain⟨G,k,l,m,p⟩:=info_parts Kh;exact step_append_lies W i s x 34 y base 59 G L6 7 72 underlying34 k l m p rfl (by omega) v n xs z e (Zd b 0) 1 1 cs D (by omega) (λj u w=>XK t j u (by simpa using w)) r (by omega) (by unfold maxLen;omega) (by omega) d _ rfl (λg c f h2 h3 _ _=>h g c f ⟨h2,h3⟩)
theorem AFQ(g o T:Nat)(l:List Aj)(next i:Int)(nm:Tb)(k:Int)(mu:Bool)(r u:Int)(v:Tb)(w:Tw)(h:I1 w g o l)(h8:l.length<8)(hf:Ce l nm = -1)(J:Ko (next,nm,k,mu,r,u,v)=true)(aa:(mu && r==0)=false)(ad:1<=next)(ae:next<=1000000000000000)(hw:Lw w):
 Zc 107 #[Zs (some (Zd g o)) l.length T,Zi next,Zg #[Zi i,Zt nm,Zi k,Zo mu,Zi r,Zi u,Zt v]] w λe c=>∃s t,e=Zr (Zu #[Zs (some (Zd s 0)) (l.length+1) t,Zi (next+1),Zn])/\c.ownsRow w.1.size 59 7 (Zs (some (Zd s 0)) (l.length+1) t) (l.length+1) (Av (l++[(next,nm,k,mu,r,u,v)]))/\Zb w c:=by
 have hm:=(Ou _).1 J;have ac:¬(8:Int)<=(l.length:Int):=by omega
 have HW:Hid (IntKind.i64.wrap (next+1)=next+1):=by rw[show IntKind.i64.wrap (next+1)=next+1 by rw[IntKind.wrap_i64];omega];exact rfl
 have HF:Hid (∀W,Zb w W->Zc 115 #[Zs (some (Zd g o)) l.length T,Zt nm] W λe c=>e=Zr (Zi (-1))/\Zb W c):=λW n=>by have:=E8 g o T l nm W (h.below n) (by omega);rwa[hf] at this
 have HM:Hid (∀W,Zb w W->Zc 105 #[Zg #[Zi next,Zt nm,Zi k,Zo mu,Zi r,Zi u,Zt v]] W λe c=>e=Zr (Zo true)/\Zb W c):=λW n=>by have:=I8 next nm k mu r u v W (jU hm.2.2.1) (kU hm.2.2.2) (hw.below n);rwa[J] at this
 have HC:Hid (∀W,Zb w W->Zc 104 #[Zs (some (Zd g o)) l.length T] W λe c=>∃s t,e=Zr (Zs (some (Zd s 0)) l.length t)/\c.ownsRow W.1.size 59 7 (Zs (some (Zd s 0)) l.length t) l.length (Av l)/\Zb W c):=λW n=>Rb g o T l W (h.below n) (by omega)
 have B1:Hid (∀X:Obj,Zb w (w.alloc X)):=λX=>Zal
 clear h hf J hm hw;cases mu with
 | false=>
   go_enter func107,ntmps107
   go_wp2_with (first
    | (go_at_call 115;refine(HF.o _ (B1.o _)).mono ?_;rintro e w1⟨rfl,b⟩;have z:∀o,w1.cell? (Zd w.1.size o)=_:=λo=>b.cell (p:=Zd w.1.size o) (by simp))
    | (go_at_call 105;refine(HM.o _ (Below.Ap (B1.o _) b)).mono ?_;rintro e m⟨rfl,f⟩;have D:∀o,m.cell? (Zd w.1.size o)=_:=λo=>f.cell (p:=Zd w.1.size o) (Ya (by simp) b.size)))
   have Y:Hid (m.1[w.1.size]? = some (Zk #[Zi next,Zt nm,Zi k,Zo false,Zi r,Zi u,Zt v] 59)):=by have e1:=b.block w.1.size (by simp);have e2:=f.block w.1.size (Ya (by simp) b.size);exact e2.trans (e1.trans (Yad _ _))
   have x:Hid (Zb w m):=Below.Ap (Below.Ap (B1.o _) b) f;have I:w.1.size<m.1.size:=Ya (Ya (by simp) b.size) f.size;clear z D b f;have HX:Hid (∀W,Zb m W->Zc 104 #[Zs (some (Zd g o)) l.length T] W λe c=>∃s t,e=Zr (Zs (some (Zd s 0)) l.length t)/\c.ownsRow w.1.size 59 7 (Zs (some (Zd s 0)) l.length t) l.length (Av l)/\m.1.size<=s/\Zb W c/\Zb m c):=λW n=>(HC.o W (Below.Ap x.o n)).mono λe c⟨s,t,he,ho,hb'⟩=>⟨s,t,he,ownsRow_le ho (XJ (YT I) n.size),XJ n.size (ho.lt _ rfl).1,hb',Below.Ap n hb'⟩
   have P:Hid (∀W:Tw,Zb m W->S7 W w.1.size (Zi next) (Zt nm) (Zi k) (Zo false) (Zi r) (Zi u) (Zt v)):=λW n=>s7 ((n.block _ I).trans Y.o)
   obtain⟨i0,G,M,N,O⟩:=info_parts Kh;have HI:=Zy G M N O;clear G M N O;obtain⟨q0,q1,q2,q3,q4,q5,q6⟩:=P.o m (XA _ _)
   go_region_held3 (λc=>c.cell? (Zd w.1.size 0)=some (Zi next)/\c.cell? (Zd w.1.size 1)=some (Zt nm)/\c.cell? (Zd w.1.size 2)=some (Zi k)/\c.cell? (Zd w.1.size 3)=some (Zo false)/\c.cell? (Zd w.1.size 4)=some (Zi r)/\c.cell? (Zd w.1.size 5)=some (Zi u)/\c.cell? (Zd w.1.size 6)=some (Zt v))
    (first
      | (go_keep;done)
      | exact P.o _ a
      | exact P.o _ ((a.alloc a.size _).grown d.o.2 (by have:=a.size;simp;omega) (λj y=>by cases y;exact q))
      | exact P.o _ (a.grown d.o.2 a.size (λj y=>by cases y;exact q))
      | fail)
    (first
      | (go_at_call 104;refine(HX.o _ ?_).mono ?_;(first|exact(XA _ _).drew|exact(XA _ _).drew.alloc (by simp) _|exact(Zal).drew);rintro e w3⟨g3,c3,rfl,L,q,V,a⟩)
      | (refine P2 (by rfl) (.tmp 37) (.tmp 39) (by rfl) w.1.size l.length (Zs (some (Zd g3 0)) l.length c3) (Av l) (L.alloc _) w3.1.size [Zi next,Zt nm,Zi k,Zo false,Zi r,Zi u,Zt v] (Yad _ _) (by rfl) (by rfl) rfl (by simp[Value.oneCell']) (by omega) (by have:=a.size;simp;omega) ?_;intro U R w4 d)
      | (refine P2 (by rfl) (.tmp 37) (.tmp 39) (by rfl) w.1.size l.length (Zs (some (Zd g3 0)) l.length c3) (Av l) L m.1.size [Zi next,Zt nm,Zi k,Zo false,Zi r,Zi u,Zt v] ((V.block _ (by simp)).trans (Yad _ _)) (by rfl) (by rfl) rfl (by simp[Value.oneCell']) (by omega) (by have:=a.size;simp;omega) ?_;intro U R w4 d)
      | fail)
   ·go_wp2
    go_ret3;refine⟨U,R,by simp[HW.o],?_,Below.Ap x.o ((a.alloc a.size _).grown d.o.2 (by have:=a.size;simp;omega) (λj y=>by cases y;exact q))⟩;rw[Hs];exact d.o.1
   go_wp2;go_ret3;refine⟨U,R,by simp[HW.o],?_,Below.Ap x.o (a.grown d.o.2 a.size (λj y=>by cases y;exact q))⟩;rw[Hs];exact d.o.1
 | true=>
   have ab:(r==0)=false:=by simpa using aa
   go_enter func107,ntmps107
   go_wp2_with (first
    | (go_at_call 115;refine(HF.o _ (B1.o _)).mono ?_;rintro e w1⟨rfl,b⟩;have z:∀o,w1.cell? (Zd w.1.size o)=_:=λo=>b.cell (p:=Zd w.1.size o) (by simp))
    | (go_at_call 105;refine(HM.o _ (Below.Ap (B1.o _) b)).mono ?_;rintro e m⟨rfl,f⟩;have D:∀o,m.cell? (Zd w.1.size o)=_:=λo=>f.cell (p:=Zd w.1.size o) (Ya (by simp) b.size)))
   have Y:Hid (m.1[w.1.size]? = some (Zk #[Zi next,Zt nm,Zi k,Zo true,Zi r,Zi u,Zt v] 59)):=by have e1:=b.block w.1.size (by simp);have e2:=f.block w.1.size (Ya (by simp) b.size);exact e2.trans (e1.trans (Yad _ _))
   have x:Hid (Zb w m):=Below.Ap (Below.Ap (B1.o _) b) f;have I:w.1.size<m.1.size:=Ya (Ya (by simp) b.size) f.size;clear z D b f;have HX:Hid (∀W,Zb m W->Zc 104 #[Zs (some (Zd g o)) l.length T] W λe c=>∃s t,e=Zr (Zs (some (Zd s 0)) l.length t)/\c.ownsRow w.1.size 59 7 (Zs (some (Zd s 0)) l.length t) l.length (Av l)/\m.1.size<=s/\Zb W c/\Zb m c):=λW n=>(HC.o W (Below.Ap x.o n)).mono λe c⟨s,t,he,ho,hb'⟩=>⟨s,t,he,ownsRow_le ho (XJ (YT I) n.size),XJ n.size (ho.lt _ rfl).1,hb',Below.Ap n hb'⟩
   have P:Hid (∀W:Tw,Zb m W->S7 W w.1.size (Zi next) (Zt nm) (Zi k) (Zo true) (Zi r) (Zi u) (Zt v)):=λW n=>s7 ((n.block _ I).trans Y.o)
   obtain⟨i0,G,M,N,O⟩:=info_parts Kh;have HI:=Zy G M N O;clear G M N O;obtain⟨q0,q1,q2,q3,q4,q5,q6⟩:=P.o m (XA _ _)
   go_region_held3 (λc=>c.cell? (Zd w.1.size 0)=some (Zi next)/\c.cell? (Zd w.1.size 1)=some (Zt nm)/\c.cell? (Zd w.1.size 2)=some (Zi k)/\c.cell? (Zd w.1.size 3)=some (Zo true)/\c.cell? (Zd w.1.size 4)=some (Zi r)/\c.cell? (Zd w.1.size 5)=some (Zi u)/\c.cell? (Zd w.1.size 6)=some (Zt v))
    (first
      | (go_keep;done)
      | exact P.o _ a
      | exact P.o _ ((a.alloc a.size _).grown d.o.2 (by have:=a.size;simp;omega) (λj y=>by cases y;exact q))
      | exact P.o _ (a.grown d.o.2 a.size (λj y=>by cases y;exact q))
      | fail)
    (first
      | (go_at_call 104;refine(HX.o _ ?_).mono ?_;(first|exact(XA _ _).drew|exact(XA _ _).drew.alloc (by simp) _|exact(Zal).drew);rintro e w3⟨g3,c3,rfl,L,q,V,a⟩)
      | (refine P2 (by rfl) (.tmp 37) (.tmp 39) (by rfl) w.1.size l.length (Zs (some (Zd g3 0)) l.length c3) (Av l) (L.alloc _) w3.1.size [Zi next,Zt nm,Zi k,Zo true,Zi r,Zi u,Zt v] (Yad _ _) (by rfl) (by rfl) rfl (by simp[Value.oneCell']) (by omega) (by have:=a.size;simp;omega) ?_;intro U R w4 d)
      | (refine P2 (by rfl) (.tmp 37) (.tmp 39) (by rfl) w.1.size l.length (Zs (some (Zd g3 0)) l.length c3) (Av l) L m.1.size [Zi next,Zt nm,Zi k,Zo true,Zi r,Zi u,Zt v] ((V.block _ (by simp)).trans (Yad _ _)) (by rfl) (by rfl) rfl (by simp[Value.oneCell']) (by omega) (by have:=a.size;simp;omega) ?_;intro U R w4 d)
      | fail)
   ·go_wp2
    go_ret3;refine⟨U,R,by simp[HW.o],?_,Below.Ap x.o ((a.alloc a.size _).grown d.o.2 (by have:=a.size;simp;omega) (λj y=>by cases y;exact q))⟩;rw[Hs];exact d.o.1
   go_wp2;go_ret3;refine⟨U,R,by simp[HW.o],?_,Below.Ap x.o (a.grown d.o.2 a.size (λj y=>by cases y;exact q))⟩;rw[Hs];exact d.o.1
def AAg(l:List Aj)(c:Aj):Prop:=Ce l c.2.1 = -1/\l.length<8/\Ko c=true/\(c.2.2.2.1 && c.2.2.2.2.1==0)=false
theorem AHP(g o L:Nat)(l:List Aj)(next i:Int)(nm:Tb)(k:Int)(mu:Bool)(q u:Int)(r:Tb)(w:Tw)(h:I1 w g o l)(T:l.length<=8)(D:nm.size<=maxLen)(z:r.size<=maxLen)(m:¬AAg l (next,nm,k,mu,q,u,r))(O:Lw w):
 Zc 107 #[Zs (some (Zd g o)) l.length L,Zi next,Zg #[Zi i,Zt nm,Zi k,Zo mu,Zi q,Zi u,Zt r]] w λe G=>∃x,e=Zr (Zu #[Zs none 0 0,Zi 0,Zf 107 (Zi x)])/\Zb w G:=by
 have s:Hid (∀W,Zb w W->Zc 115 #[Zs (some (Zd g o)) l.length L,Zt nm] W λe G=>e=Zr (Zi (Ce l nm))/\Zb W G):=λW hb=>E8 g o L l nm W (h.below hb) T
 have t:Hid (∀W,Zb w W->Zc 105 #[Zg #[Zi next,Zt nm,Zi k,Zo mu,Zi q,Zi u,Zt r]] W λe G=>e=Zr (Zo (Ko (next,nm,k,mu,q,u,r)))/\Zb W G):=λW hb=>I8 next nm k mu q u r W D z (O.below hb)
 have n:Hid (∀X:Obj,Zb w (w.alloc X)):=λX=>Zal
 clear h O D z
 by_cases J:0<=Ce l nm
 ·generalize Ce l nm=f at s J
  clear t m;go_enter func107,ntmps107
  go_wp2_with (first
   | (go_at_call 115;refine(s.o _ (n.o _)).mono ?_;rintro e I⟨rfl,a⟩))
  go_ret3;exact⟨_,rfl,Below.Ap (n.o _) a⟩
 have c:Ce l nm = -1:=by
  rcases Gz l nm with⟨e,_⟩|⟨j,_,e,_⟩
  ·exact e
  omega
 rw[c] at s
 by_cases h7:l.length<8
 ·have M:¬(8:Int)<=(l.length:Int):=by omega
  cases hm:Ko (next,nm,k,mu,q,u,r) with
  | false=>
    rw[hm] at t;clear m J c hm;go_enter func107,ntmps107
    go_wp2_with (first
     | (go_at_call 115;refine(s.o _ (n.o _)).mono ?_;rintro e I⟨rfl,a⟩;have v:∀o,I.cell? (Zd w.1.size o)=_:=λo=>a.cell (p:=Zd w.1.size o) (by simp))
     | (go_at_call 105;refine(t.o _ (Below.Ap (n.o _) a)).mono ?_;rintro e N⟨rfl,b⟩;have y:∀o,N.cell? (Zd w.1.size o)=_:=λo=>b.cell (p:=Zd w.1.size o) (Ya (by simp) a.size)))
    go_ret3;exact⟨_,rfl,Below.Ap (Below.Ap (n.o _) a) b⟩
  | true=>
    rw[hm] at t
    have d:(mu && q==0)=true:=by
     cases hq:(mu && q==0) with
     | true=>rfl
     | false=>exact(m ⟨c,h7,hm,hq⟩).elim
    have P:mu=true:=by simp at d;exact d.1
    have R:q=0:=by simp at d;exact d.2
    subst P R;clear m J c hm d;go_enter func107,ntmps107
    go_wp2_with (first
     | (go_at_call 115;refine(s.o _ (n.o _)).mono ?_;rintro e I⟨rfl,a⟩;have v:∀o,I.cell? (Zd w.1.size o)=_:=λo=>a.cell (p:=Zd w.1.size o) (by simp))
     | (go_at_call 105;refine(t.o _ (Below.Ap (n.o _) a)).mono ?_;rintro e N⟨rfl,b⟩;have y:∀o,N.cell? (Zd w.1.size o)=_:=λo=>b.cell (p:=Zd w.1.size o) (Ya (by simp) a.size)))
    go_ret3;exact⟨_,rfl,Below.Ap (Below.Ap (n.o _) a) b⟩
 have M:(8:Int)<=(l.length:Int):=by omega
 clear t m J c;go_enter func107,ntmps107
 go_wp2_with (first
  | (go_at_call 115;refine(s.o _ (n.o _)).mono ?_;rintro e I⟨rfl,a⟩))
 go_ret3;exact⟨_,rfl,Below.Ap (n.o _) a⟩
theorem tR(w:Tw)(o:Obj):w.1.size<(w.alloc o).heap.size:=by simp
theorem fX(n:Nat):(Builtin.zeroCells L6.cells n).size=n*7:=by simp[Builtin.zeroCells,show L6.cells.size=7 from rfl]
theorem AFw(n:Nat)(w:Tw)(m:1<=n)(o:n<=8):
 Zc 218 #[Zs none 0 0,Zi n] w λe h=>∃j i,e=Zr (Zs (some (Zd j 0)) 0 i)/\h.ownsRow w.1.size 59 7 (Zs (some (Zd j 0)) 0 i) 0 (Av [])/\Zb w h:=by
 obtain⟨l,d,f,k,g⟩:=info_parts Kh;refine(Any8.slices_Grow_grow layGro l L6 d f (by omega) none 0 0 n [] w (XB _) (by omega) (by rw[g];omega) (by omega) (by simp) (λ_=>rfl) (λa ha=>by cases ha)).mono ?_;rintro e h⟨rfl,rfl⟩;have c:0+n<=grownCap w (0+n) 0 59:=grownCap_ge w _ _ _;have b:grownCap w (0+n) 0 59<=maxLen:=grownCap_le_maxLen w (0+n) 0 59 (by unfold maxLen;omega);refine⟨_,_,rfl,?_,((XA _ _).drew).alloc (XB _) _⟩
 change (w.drew.alloc (Zk (#[]++Builtin.zeroCells L6.cells (0+n-0)++Builtin.zeroCells L6.cells (grownCap w (0+n) 0 59-(0+n))) 59)).ownsRow w.1.size 59 7 (Zs (some (Zd w.1.size 0)) 0 (grownCap w (0+n) 0 59)) 0 []
 generalize grownCap w (0+n) 0 59=G at c b;exact YR (w:=w.drew) _ G (XB _) b (by simp only[Array.size_append,fX,Array.size_empty];omega)
theorem Oc{f:Array Oper}{rest:List Oper}{o:Oper}{Q:Exit->Act->Tw->Prop}(q:o.guard=none)(s x:Operand)(N:o.op=.call { callee:=.builtin .append,args:=#[s,x],argTypes:=#[34,34] })(base g c:Nat)(l:List Aj)(O:a.eval s=Zs (some (Zd g 0)) l.length c)(e:W.ownsRow base 59 7 (Zs (some (Zd g 0)) l.length c) l.length (Av l))(p y z:Nat)(m:List Aj)(P:a.eval x=Zs (some (Zd p y)) m.length z)(M:I1 W p y m)(T:l.length+m.length<=1000)(b:base<=W.1.size)(h:∀k d i,Hid (i.ownsRow base 59 7 (Zs (some (Zd k 0)) (l.length+m.length) d) (l.length+m.length) (Av (l++m))/\W.grownBy i (some g))->wpList prog f Q rest (a.put o.dst (Zs (some (Zd k 0)) (l.length+m.length) d)) i):wpList prog f Q (o :: rest) a W:=by
 obtain⟨R,r,t,v,w⟩:=info_parts Kh;refine wpList_append_own W q s x 34 N base 59 R L6 7 72 underlying34 r t v w rfl (by omega) _ _ _ O e (Zd p y) m.length z (Av m) P (Hy m) (λj u L=>by rw[Addr.add_lit];exact M.flat j u L) (Ni m) (by unfold maxLen;omega) (by omega) b ?_;intro v' i D I J
 rcases ownsRow_forms D with⟨n,_⟩|⟨k,G,n⟩
 ·exact absurd (J.1 n).1 (by simp)
 subst n;exact h k G i ⟨by rw[Hs];exact D,I⟩
theorem vO(p g o c m r t:Nat)(a b:List Aj)(w:Tw)(v:w.cell? (Zd p 0)=some (Zs (some (Zd g o)) a.length c))(x:w.cell? (Zd p 1)=some (Zs (some (Zd m r)) b.length t))(L:p<w.1.size)(I:I1 w g o a)(J:I1 w m r b)(X:1<=a.length+b.length)(Y:a.length+b.length<=8):
 Zc 170 #[Zs (some (Zd p 0)) 2 2] w λe s=>∃l k,e=Zr (Zs (some (Zd l 0)) (a.length+b.length) k)/\s.ownsRow w.1.size 59 7 (Zs (some (Zd l 0)) (a.length+b.length) k) (a.length+b.length) (Av (a++b))/\Zb w s:=by
 have P:Hid (Zc 218 #[Zs none 0 0,Zi ((a.length:Int)+(b.length:Int))] w λe s=>∃l k,e=Zr (Zs (some (Zd l 0)) 0 k)/\s.ownsRow w.1.size 59 7 (Zs (some (Zd l 0)) 0 k) 0 (Av [])/\Zb w s):=by have:=AFw (a.length+b.length) w X Y;rwa[show ((a.length+b.length:Nat):Int)=(a.length:Int)+(b.length:Int) by omega] at this
 have N:Hid (I1 w g o a):=I;have O:Hid (I1 w m r b):=J;have y:Hid (∀W,Zb w W->W.cell? (Zd p 0)=some (Zs (some (Zd g o)) a.length c)/\W.cell? (Zd p 1)=some (Zs (some (Zd m r)) b.length t)):=λW G=>⟨(G.cell (p:=Zd p 0) L).trans v,(G.cell (p:=Zd p 1) L).trans x⟩
 clear I J;have n1:¬(a.length:Int)<0:=by omega
 have n2:¬(a.length:Int)+(b.length:Int)<0:=by omega
 have n3:IntKind.i64.wrap ((a.length:Int)+(b.length:Int))=(a.length:Int)+(b.length:Int):=by rw[IntKind.wrap_i64];omega
 have n4:IntKind.i64.wrap (a.length:Int)=(a.length:Int):=by rw[IntKind.wrap_i64];omega
 go_enter func170,ntmps170;go_wp2;refine wp_loop_rounds 3 ?_;rw[rounds_succ];go_wp2;rw[rounds_succ];go_wp2;rw[rounds_succ]
 go_wp2_with (first
  | (go_at_call 218;apply P.o.mono;rintro e w1⟨U,R,rfl,n,d⟩;obtain⟨r0,r1⟩:=y.o _ d))
 refine wp_loop_rounds 3 ?_;rw[rounds_succ];go_wp2_with (at_builtin;refine Oc rfl _ _ rfl w.1.size U R [] rfl n g o c a rfl (N.o.below d) (by simp;omega) d.size ?_;intro D z M h;have f:Zb w M:=d.grown h.o.2 d.size (λj hj=>by cases hj;exact(n.lt _ rfl).1);obtain⟨s0,s1⟩:=y.o _ f;have i:Hid (M.ownsRow w.1.size 59 7 (Zs (some (Zd D 0)) a.length z) a.length (Av a)):=Aa (by have:=h.o.1;simpa using this);clear h);rw[rounds_succ];go_wp2_with (at_builtin;refine Oc rfl _ _ rfl w.1.size D z a rfl i.o m r t b rfl (O.o.below f) (by omega) f.size ?_;intro V T w5 q;have u:Zb w w5:=f.grown q.o.2 f.size (λj hj=>by cases hj;exact(i.o.lt _ rfl).1));rw[rounds_succ];go_wp2;go_ret;exact⟨V,T,rfl,q.o.1,u⟩
theorem AFn(g o b:Nat)(l:List Aj)(nm:Tb)(k:Nat)(w:Tw)(h:I1 w g o l)(T:Ce l nm=k)(hk:k<l.length)(h1:l.length≠1)(h8:l.length<=8)(P:l.length<=b):
 Zc 108 #[Zs (some (Zd g o)) l.length b,Zt nm] w λe d=>∃q n,e=Zr (Zu #[Zs (some (Zd q 0)) (l.take k++l.drop (k+1)).length n,Zn])/\d.ownsRow w.1.size 59 7 (Zs (some (Zd q 0)) (l.take k++l.drop (k+1)).length n) (l.take k++l.drop (k+1)).length (Av (l.take k++l.drop (k+1)))/\Zb w d:=by
 have N:Hid (∀W,Zb w W->Zc 115 #[Zs (some (Zd g o)) l.length b,Zt nm] W λe d=>e=Zr (Zi k)/\Zb W d):=λW r=>by have:=E8 g o b l nm W (h.below r) h8;rwa[T] at this
 have V:(l.take k).length=k:=by simp;omega
 have lb:(l.drop (k+1)).length=l.length-(k+1):=by simp
 obtain⟨m,I⟩:∃m,m=k+1:=⟨_,rfl⟩;rw[<-I] at lb ⊢
 have L:Hid (∀W p u y nb,Zb w W->p<W.1.size->nb=(l.drop m).length->W.1[p]? = some (Zk #[Zs (some (Zd g o)) k b,Zs (some (Zd g u)) nb y] 34)->I1 W g u (l.drop m)->Zc 170 #[Zs (some (Zd p 0)) 2 2] W λe d=>∃q n,e=Zr (Zs (some (Zd q 0)) (l.take k++l.drop m).length n)/\d.ownsRow W.1.size 59 7 (Zs (some (Zd q 0)) (l.take k++l.drop m).length n) (l.take k++l.drop m).length (Av (l.take k++l.drop m))/\Zb W d):=λW p u y nb r hp hnb hh hs=>by rw[XH];exact vO p g o b g u y (l.take k) (l.drop m) W (by rw[V];simp[World.cell?,hh]) (by rw[<-hnb];simp[World.cell?,hh]) hp ((h.below r).take k) hs (by omega) (by omega)
 have t:Hid (I1 w g o l):=h;have Y:∃x,l[0]! = x:=⟨_,rfl⟩;obtain⟨⟨J,x2,x3,x4,x5,x6,x7⟩,U⟩:=Y;have s:Hid (∀W,Zb w W->W.cell? (Zd g o)=some (Zi J)):=λW r=>by have:=((h.below r).cells (k:=0) (by omega) U).1;simpa using this
 clear U;generalize hM:l.take k++l.drop m=M at *
 have ad:((l.length:Int)==1)=false:=by
  have:¬(l.length:Int)=1:=by omega
  simpa using this
 have aa:(0:Int)<=(k:Int):=by omega
 have ab:IntKind.i64.wrap ((k:Int)+1)=(m:Int):=by rw[IntKind.wrap_i64];omega
 have ac:(k:Int)<=(b:Int):=by omega
 have af:(0:Int)<=(m:Int):=by omega
 have ah:(m:Int)<=(l.length:Int):=by omega
 have ag:(m:Int)<=(b:Int):=by omega
 have ae:(l.length:Int)<=(b:Int):=by omega
 have X:Hid (l.length-m=(l.drop m).length):=by rw[lb,I];exact rfl
 have v:Hid (b=m->l.drop m=[]):=λe=>YK (by omega)
 clear h T V lb I
 by_cases hcc:b=m
 ·have O:Hid (l.drop m=[]):=v.o hcc
  subst hcc;clear v;go_enter func108,ntmps108
  go_wp2_with (first
   | (go_at_call 115;refine(N.o _ (XA _ _)).mono ?_;rintro e f⟨rfl,a⟩))
  have q0:=s.o f a;have G:g<f.1.size:=Ya t.o.1 a.size
  go_region_held3 (λd=>d.cell? (Zd g o)=some (Zi J)) (first|(go_keep;done)|exact s.o _ (Below.Ap (a.alloc a.size _).drew c))
   (first
     | (go_at_call 170;refine(L.o _ f.1.size o 0 0 ?_ ?_ ?_ ?_ ?_).mono ?_;exact(a.alloc a.size _).drew;exact tR f _;(rw[O.o];rfl);exact Yad f _;(rw[O.o];exact⟨Ya t.o.1 (a.alloc a.size _).size,λj hj=>by simp at hj⟩);rintro e w3⟨D,z,rfl,i,c⟩)
     | fail)
  go_wp2;go_ret2;exact⟨D,z,rfl,ownsRow_le i (a.alloc a.size _).size,Below.Ap (a.alloc a.size _).drew c⟩
 clear v;have R:¬(b:Int)=(m:Int):=by omega
 go_enter func108,ntmps108
 go_wp2_with (first
  | (go_at_call 115;refine(N.o _ (XA _ _)).mono ?_;rintro e f⟨rfl,a⟩))
 have q0:=s.o f a;have G:g<f.1.size:=Ya t.o.1 a.size
 go_region_held3 (λd=>d.cell? (Zd g o)=some (Zi J)) (first|(go_keep;done)|exact s.o _ (Below.Ap (a.alloc a.size _).drew c))
  (first
    | (go_at_call 170;refine(L.o _ f.1.size (o+m*7) (b-m) (l.length-m) ?_ ?_ ?_ ?_ ?_).mono ?_;exact(a.alloc a.size _).drew;exact tR f _;exact X.o;exact Yad f _;(have:=(t.o.below (a.alloc a.size (Zk #[Zs (some (Zd g o)) k b,Zs (some (Zd g (o+m*7))) (l.length-m) (b-m)] 34)).drew).drop m;exact this);rintro e w3⟨D,z,rfl,i,c⟩)
    | fail)
 go_wp2;go_ret2;exact⟨D,z,rfl,ownsRow_le i (a.alloc a.size _).size,Below.Ap (a.alloc a.size _).drew c⟩
theorem AG7(g o c:Nat)(l:List Aj)(nm:Tb)(w:Tw)(h:I1 w g o l)(b:Ce l nm = -1\/l.length=1)(d:l.length<=8):
 Zc 108 #[Zs (some (Zd g o)) l.length c,Zt nm] w λe i=>(∃x,e=Zr (Zu #[Zs none 0 0,Zf 107 (Zi x)])/\(0<=Ce l nm->x=6))/\Zb w i:=by
 have j:Hid (∀W,Zb w W->Zc 115 #[Zs (some (Zd g o)) l.length c,Zt nm] W λe i=>e=Zr (Zi (Ce l nm))/\Zb W i):=λW hb=>E8 g o c l nm W (h.below hb) d
 clear h
 by_cases hf:Ce l nm<0
 ·generalize Ce l nm=f at *
  clear b d;go_enter func108,ntmps108
  go_wp2_with (first
   | (go_at_call 115;refine(j.o _ (XA _ _)).mono ?_;rintro e p⟨rfl,a⟩))
  go_ret2;exact⟨⟨_,rfl,λh=>by omega⟩,a⟩
 have k:l.length=1:=by rcases b with h|h <;> omega
 have m:((l.length:Int)==1)=true:=by rw[k];rfl
 generalize Ce l nm=f at *;generalize l.length=n at *;clear b d k;go_enter func108,ntmps108
 go_wp2_with (first
  | (go_at_call 115;refine(j.o _ (XA _ _)).mono ?_;rintro e p⟨rfl,a⟩))
 go_ret2;exact⟨⟨_,rfl,λ_=>rfl⟩,a⟩
theorem eF(a:Tb):∀(l:List Aj)(k:Nat),k<l.length->(Av l).set (k*7+1) (Zt a)=Av (l.set k (rR l[k]! a))
 | [],k,h=>absurd h (Yp _)
 | c :: l,0,_=>rfl
 | c :: l,k+1,h=>by
   have d:=eF a l k (by simpa using h);have e:Av (c :: l)=Cc c++Av l:=rfl;have b:(c :: l)[k+1]! = l[k]! := by simp
   rw[e,b,XW,show Av (c :: l.set k (rR l[k]! a))=Cc c++Av (l.set k (rR l[k]! a)) from rfl,<-d];rw[YC _ _ (by rw[Gl];omega),Gl,show (k+1)*7+1-7=k*7+1 by omega]
theorem yL(g o d:Nat)(l:List Aj)(nm c:ByteArray)(k:Nat)(w:World)(h:I1 w g o l)(z:Ce l nm=k)(P:k<l.length)(j:Bv c=true)(q:Ce l c = -1)(t:l.length<=8)(D:Lw w):
 Zc 109 #[.slice (some ⟨g,o,none⟩) l.length d,.string nm,.string c] w λe a=>∃b i,e=.returned (.tuple #[.slice (some ⟨b,0,none⟩) l.length i,.nilIface])/\a.ownsRow w.1.size 59 7 (.slice (some ⟨b,0,none⟩) l.length i) l.length (Av (l.set k (rR l[k]! c)))/\Zb w a:=by
 have I:Hid (∀W,Zb w W->Zc 115 #[.slice (some ⟨g,o,none⟩) l.length d,.string nm] W λe a=>e=.returned (.int .i64 k)/\Zb W a):=λW hb=>by have:=E8 g o d l nm W (h.below hb) t;rwa[z] at this
 have M:Hid (∀W,Zb w W->Zc 115 #[.slice (some ⟨g,o,none⟩) l.length d,.string c] W λe a=>e=.returned (.int .i64 (-1))/\Zb W a):=λW hb=>by have:=E8 g o d l c W (h.below hb) t;rwa[q] at this
 have J:Hid (∀W,Zb w W->Zc 166 #[.string c] W λe a=>e=.returned (.bool true)/\Zb W a):=λW hb=>by have:=Li c W (jU j) (D.below hb);rwa[j] at this
 have G:Hid (∀W,Zb w W->Zc 104 #[.slice (some ⟨g,o,none⟩) l.length d] W λe a=>∃b i,e=.returned (.slice (some ⟨b,0,none⟩) l.length i)/\a.ownsRow w.1.size 59 7 (.slice (some ⟨b,0,none⟩) l.length i) l.length (Av l)/\(∃u,a.cell? ⟨b,k*7+1,none⟩=some u)/\a.frozen? ⟨b,k*7+1,none⟩=false/\Zb w a):=λW hb=>(Rb g o d l W (h.below hb) t).mono λe a⟨b,i,he,ho,hb'⟩=>⟨b,i,he,ownsRow_le ho hb.size,by rw[ho.cellAt (k*7+1) (by omega)];exact⟨_,Y' (by rw[Hy];omega)⟩,ho.frozenAt _,Below.Ap hb hb'⟩
 have L:=Aa (eF c l k P);have R:¬(k:Int)<0:=by omega
 have T:(k:Int)<(l.length:Int):=by omega
 have U:(0:Int)<=(k:Int):=by omega
 clear h z j q D;go_enter func109,ntmps109
 go_wp2_with (first
  | (go_at_call_of 115 (#[.slice (some ⟨g,o,none⟩) l.length d,.string nm]:Array Value);refine(I.o _ (XA _ _)).mono ?_;rintro e Y⟨rfl,m⟩)
  | (go_at_call 166;refine(J.o _ m).mono ?_;rintro e w2⟨rfl,v⟩;have f:=Below.Ap m v)
  | (go_at_call 115;refine(M.o _ f).mono ?_;rintro e w3⟨rfl,x⟩;have n:=Below.Ap f x)
  | (go_at_call 104;refine(G.o _ n).mono ?_;rintro e w4⟨s,N,rfl,r,⟨X,V⟩,O,y⟩))
 go_ret2;refine⟨s,N,rfl,?_,WN (p:=⟨s,k*7+1,none⟩) y (r.lt s rfl).1 _⟩;rw[<-L.o];exact(r.stored _ _).1
theorem ACv(g o q:Nat)(l:List Aj)(nm c:ByteArray)(w:World)(h:I1 w g o l)(j:Ce l nm = -1\/Bv c=false\/0<=Ce l c)(s:c.size<=maxLen)(u:l.length<=8)(y:Lw w):
 Zc 109 #[.slice (some ⟨g,o,none⟩) l.length q,.string nm,.string c] w λe n=>∃x,e=.returned (.tuple #[.slice none 0 0,.iface 107 (.int .i64 x)])/\Zb w n:=by
 have t:Hid (∀W,Zb w W->Zc 115 #[.slice (some ⟨g,o,none⟩) l.length q,.string nm] W λe n=>e=.returned (.int .i64 (Ce l nm))/\Zb W n):=λW hb=>E8 g o q l nm W (h.below hb) u
 have r:Hid (∀W,Zb w W->Zc 115 #[.slice (some ⟨g,o,none⟩) l.length q,.string c] W λe n=>e=.returned (.int .i64 (Ce l c))/\Zb W n):=λW hb=>E8 g o q l c W (h.below hb) u
 have p:Hid (∀W,Zb w W->Zc 166 #[.string c] W λe n=>e=.returned (.bool (Bv c))/\Zb W n):=λW hb=>Li c W s (y.below hb)
 clear h y s u
 by_cases hf:Ce l nm<0
 ·generalize Ce l nm=f at *
  clear j r p;go_enter func109,ntmps109
  go_wp2_with (first
   | (go_at_call 115;refine(t.o _ (XA _ _)).mono ?_;rintro e v⟨rfl,b⟩))
  go_ret2;exact⟨_,rfl,b⟩
 have m:¬Ce l nm = -1:=by omega
 cases hc:Bv c with
 | false=>
   rw[hc] at p;generalize Ce l nm=f at *;clear j r m;go_enter func109,ntmps109
   go_wp2_with (first
    | (go_at_call 115;refine(t.o _ (XA _ _)).mono ?_;rintro e v⟨rfl,b⟩)
    | (go_at_call 166;refine(p.o _ b).mono ?_;rintro e z⟨rfl,d⟩;have a:=Below.Ap b d))
   go_ret2;exact⟨_,rfl,a⟩
 | true=>
   rw[hc] at p
   have I:0<=Ce l c:=by
    rcases j with h|h|h
    ·exact(m h).elim
    ·rw[hc] at h;cases h
    exact h
   clear j m
   by_cases hnt:nm=c
   ·subst hnt
    generalize Ce l nm=f at *;clear t;go_enter func109,ntmps109;go_wp2_with fail;refine(r.o _ (XA _ _)).mono ?_;rintro e v⟨rfl,b⟩
    go_wp2_with (first
     | (go_at_call 166;refine(p.o _ b).mono ?_;rintro e z⟨rfl,d⟩;have a:=Below.Ap b d)
     | (go_at_call 115;refine(r.o _ a).mono ?_;rintro e D⟨rfl,k⟩;have i:=Below.Ap a k))
    go_ret2;exact⟨_,rfl,i⟩
   generalize Ce l nm=f at *;generalize Ce l c=G at *;clear hnt;go_enter func109,ntmps109
   go_wp2_with (first
    | (go_at_call_of 115 (#[.slice (some ⟨g,o,none⟩) l.length q,.string nm]:Array Value);refine(t.o _ (XA _ _)).mono ?_;rintro e v⟨rfl,b⟩)
    | (go_at_call 166;refine(p.o _ b).mono ?_;rintro e z⟨rfl,d⟩;have a:=Below.Ap b d)
    | (go_at_call 115;refine(r.o _ a).mono ?_;rintro e D⟨rfl,k⟩;have i:=Below.Ap a k))
   go_ret2;exact⟨_,rfl,i⟩
namespace F
variable{D:Td}{H:List (Dn×Ah)}{U:List Tb}{s:Ah}{l:List Aj}{x:A6}{c:Aj}{W:Tw}{n:Int}{p:Tb}{T:S.CT}
structure Inv(D:DataW Unit)(H:List (Dn×Ah))(U:List ByteArray):Prop where
 Lm:U6 D H
 past:La H
 wU:R6 D H
 used:Used D U
 plain:∀u∈U,Plain u
 next:∀k,k<=H.length->(Ae H k).next<=10+k
theorem vA(D:Td):C7 D F6 [] :=
 ⟨⟨rfl,(λx a=>by cases a),XC _,XC _,λ_=>rfl⟩,(λx a=>by cases a),(λx a=>by cases a),(λx a=>by cases a)⟩
theorem Inv.nil:Inv (.map []) [] []:=by
 refine⟨AGO,trivial,λk a=>⟨[],?_⟩,Used.nil,(λu hu=>by cases hu),λk a=>?_⟩
 ·have:k=0:=by simpa using a
  subst this;exact vA _
 have:k=0:=by simpa using a
 subst this;show (0:Int)<=_;omega
theorem Inv.user(h:Inv D H U){s:Tb}(b:Plain s):Inv D H (s :: U) :=
 ⟨h.Lm,h.past,h.wU,h.used.more λu a=>Yf _ a,λu a=>by
  rcases List.mem_cons.1 a with rfl|a
  ·exact b
  exact h.plain u a,h.next⟩
theorem Inv.put{D:Td}{H:List (Dn×Ah)}{U:List Tb}(h:Inv D H U){s:Tb}(b:s∈U)(k:Nat)(v:Td)(a:Maps.has D (B.lit (Eh (Bw s k)))=false):Inv (D.put (B.lit (Eh (Bw s k))) v) H U :=
 ⟨ACQ h.Lm _ _,h.past,h.wU.put a v,h.used.put b k v,h.plain,h.next⟩
theorem Inv.AJO(h:Inv D H U)(O5:H.length<90){C:Dn}{t:Ah}(b:Bi (Ae H H.length) C t)(f:Lay C){i:List A6}(g:C7 D t i)(j:t.next<=11+H.length):Inv (D.put (B.lit (Ek (H.length+1))) (B.Gw (C6 C))) (H++[(C,t)]) U:=by
 have c:=(h.Lm.2 H.length (by omega)).2 (XB _);refine⟨AFI h.Lm O5 C t,ADc h.past b f,(h.wU.snoc g).put c _,h.used.log _ _,h.plain,λk d=>?_⟩
 rcases Yc H.length k with a|a
 ·have e:k=H.length+1:=by simp at d;omega
  subst e;rw[rJ];show t.next<=_;omega
 rw[qV a];exact h.next k a
structure J4 where
 Qk:Int
 qz:List Aj
 qj:List (List V)
 A3:List (ByteArray×V)
 change:Int
 name:ByteArray
 tw:ByteArray
 tree:S.CT->Prop
def Nl:Nat->List Aj->List Aj
 | _,[]=>[]
 | k,c :: l=>((k:Int),c.2) :: Nl (k+1) l
theorem dK:∀(k:Nat)(l:List Aj),(Nl k l).length=l.length
 | _,[]=>rfl
 | k,c :: l=>by simp[Nl,dK (k+1) l]
def cI(l:List Aj)(next:Int)(a:Int)(c:Aj)(nm b:ByteArray)(l':List Aj)(next':Int):Prop :=
 (a=1/\AAg l (next,c.2)/\l'=l++[(next,c.2)]/\next'=next+1) \/
 (a=2/\∃k:Nat,Ce l nm=k/\k<l.length/\l.length≠1/\l'=l.take k++l.drop (k+1)/\next'=next) \/
 (a=3/\∃k:Nat,Ce l nm=k/\k<l.length/\Bv b=true/\Ce l b = -1/\l'=l.set k (rR l[k]! b)/\next'=next)
def Pa(l:List Aj)(qj:List (List V)):DataW Unit:=B.Gw (E.str (Cq (l,Ay l qj)))
theorem bD(b:Maps.IsMap D){qk:Tb}{qj:List (List V)}(c:De l qj=true)(a:K9 qj)(d:qk.size<=1000):Gt (D.put (B.lit (Eh qk)) (Pa l qj)) ((qk,(qj.length:Int),[]),l,qj) :=
 ⟨Maps.has_put_same b L4 _,Maps.atKey_put_same b L4 _ _,c,a,d,XC _⟩
theorem Gt.AFx(h:Gt D x){qk:Tb}(b:qk≠x.1.1)(v:Td):Gt (D.put (B.lit (Eh qk)) v) x:=by
 have a:B.lit (Eh x.1.1)≠B.lit (Eh qk):=λe=>b (Uw (B.Jr e)).symm
 exact⟨by rw[Maps.has_put_other a];exact h.has,by rw[Maps.atKey_put_other a];exact h.Gw,h.ok,h.i64,h.name,h.qv⟩
theorem AJb{L l l':List Aj}{next next' y:Int}{nm s:Tb}(h:cI l next y c nm s l' next')(f:Lk L l)(i:∀d∈L,d.1<next):Lk L l':=by
 rcases h with⟨_,g,rfl,_⟩|⟨_,k,_,b,_,rfl,_⟩|⟨_,k,_,b,_,_,rfl,_⟩
 ·refine f.more (λd j e=>?_) (λhm e=>?_)
  ·have:=i d j
   simp at e;omega
  have:=g.2.2.2;simp only[mst,bP] at hm e;simp[hm,e] at this
 ·refine f.sub λx a=>?_
  rcases List.mem_append.1 a with a|a
  ·exact Yk a
  exact WA a
 refine f.named λx a=>?_
 rcases Ys a with a|rfl
 ·exact⟨x,a,rfl,rfl⟩
 exact⟨l[k]!,Jj b,rfl,rfl⟩
theorem rQ{l l':List Aj}{next next' x:Int}{nm s:Tb}(h:cI l next x c nm s l' next'):next<=next'/\next'<=next+1:=by rcases h with⟨_,_,_,rfl⟩|⟨_,k,_,_,_,_,rfl⟩|⟨_,k,_,_,_,_,_,rfl⟩ <;> omega
theorem AA6(a:Tb)(k:Nat):a++⟨#[95]⟩++Bm (k:Int)=Bw a k:=by apply ByteArray.ext;apply Array.toList_inj.mp;simp[Bw,Bm]
theorem Vu(a:Tb)(k:Nat)(b:k<=1000):(Bw a k).size<=a.size+22:=by have h:=Dw (n:=(k:Int)) ⟨by omega,by omega⟩;rw[<-AA6,ByteArray.size_append,ByteArray.size_append];have e:(⟨#[95]⟩:Tb).size=1:=rfl;omega
theorem fB(h:Good Bv Cm s):∀x∈s.qz,x.2.1.size<=maxLen/\x.2.2.2.2.2.2.size<=maxLen:=λx a=>by
 rcases h.qz with e|e
 ·rw[e] at a;cases a
 have d:=(e.2.2.1 x a).1;have b:=d.2.2.1;have c:=d.2.2.2;simp only[Bv,XY] at b;simp only[Cm,XY] at c;have:=Hh b.2;have:=gA c.1;unfold maxLen;omega
def noA(qk:ByteArray)(n:Int):Gx:=((1,qk,n,[],[],0),(none,0,0),(none,0,0))
def AIr(w0 w:World)(h base bb n:Nat)(D:DataW Unit)(fs:List Int)(mv:Value)(o:Nat)(s:Ah)(v:Int)(i:Option Addr)(n1 c1:Nat)(q:Int)(j:Option Addr)(n2 m:Nat)(f:ByteArray)(p:Bool)(L:List Gx)(qj:Int)(R:List (List V))(e:Ending)(g:World):Prop :=
 ∃n' c a b d,Ey w0 g h bb n' c a b d/\n'<=n+1/\Mv base bb mv b w g /\
  ((e=.returned .nilIface/\De s.qz R=true/\fs.headD 0≠1/\a=fs.tail/\c=D.put (B.lit (Eh (Bw f L.length))) (Pa s.qz R)/\∃k l,Dv base g o s v i n1 c1 q j n2 m f p k l (L++[noA (Bw f L.length) R.length]) qj) \/
   (∃T x,e=.returned (.iface T x)/\c=D/\((De s.qz R=false/\a=fs)\/(De s.qz R=true/\fs.headD 0=1/\a=fs.tail))))
theorem bK(w0:Tw)(NF base bb n:Nat)(D:Td)(fs:List Int)(mv fv:Tv)(P:Nat)(s:Ah)(v:Int)(a1:To)(n1 c1:Nat)(x2:Int)(a2:To)(n2 c2:Nat)(o:Tb)(rd:Bool)(aa:To)(ac:Nat)(L:List Gx)(qj:Int)(rv:Tv)(R:List (List V))(w:Tw)(h:Ey w0 w NF bb n D fs mv fv)(hN:NF<=base)(a8:w0.1.size<=base)(hn:n<100000)(hD:Maps.IsMap D)(hP:Dv base w P s v a1 n1 c1 x2 a2 n2 c2 o rd aa ac L qj)(az:base<=w.1.size)(hg:Good Bv Cm s)(he:B.Ob w0)(hR:iJ w rv R)(ay:R.length<=100000)(Y:∀r∈R,∀v∈r,v.2.2.size<=maxLen)(l:K9 R)(ba:o.size<=12)(hL:L.length<=100)(f:Maps.has D (B.lit (Eh (Bw o L.length)))=false):
 Zc 67 #[Zp (some (Zd bb 0)),Zp (some (Zd P 0)),rv] w (AIr w0 w NF base bb n D fs mv P s v a1 n1 c1 x2 a2 n2 c2 o rd L qj R):=by
 have a0:s.qz.length<=8:=by
  rcases hg.qz with e|e
  ·rw[e];exact XC _
  exact e.2.1
 obtain⟨b1,d1,b2,d2,Ls,ev,hV⟩:=hP.snap;unfold K4 at ev;simp only[Value.agg.injEq,Array.mk.injEq,List.cons.injEq,Value.int.injEq,Value.slice.injEq] at ev;obtain⟨⟨_,_⟩,⟨e1,e2,e3⟩,_⟩:=ev;subst e1 e2 e3;have d:F7 7 Cc w (Zs a1 s.qz.length c1) s.qz:=F7.Fz (k:=7) (enc:=Cc) (λ_=>rfl) (show w.ownsRow 0 59 7 (Zs a1 s.qz.length c1) s.qz.length (s.qz.flatMap Cc) from hV.qz) rfl;have c:=Aa (rW (Zs a1 s.qz.length c1) rv s.qz R w d hR (by omega) ay (fB hg) Y l (AHr h.ground.nc) (AJI (he.below h.low)));obtain⟨ra,rc,rfl,_⟩:=hR.slice;obtain⟨x0,x1,y2,x3,x4,x5,x6,x7,xf⟩:=F2 hP.box;have HP:=Aa hP;have ae:=Aa h;have a6:=Vu o L.length (by omega);have a5:(0:Int)<=(L.length:Int):=by omega
 cases hm:De s.qz R with
 | false=>rw[AL3 hm] at c;have HM:=Aa hm;clear hm d hV hP h hg f hR Y l;unfold gK at c;go_enter func67,ntmps67;go_wp2_with fail;apply c.o.mono;rintro e w1⟨T,u,rfl,t⟩;have i:Hid (Zb w (w1.alloc (Zk #[Zs none 0 0,Zs none 0 0] 125))):=Aa (Ap t (Zal));clear t c;go_wp2_with fail;go_ret;exact⟨n,D,fs,mv,fv,ae.o.up i.o,by omega,Mv.below i.o,.inr ⟨_,_,rfl,rfl,.inl ⟨HM.o,rfl⟩⟩⟩
 | true=>
   rw[lG hm] at c;have HM:=Aa hm;have hG:=opened hm l
   have X:=Aa (λcv gv W(N:Zb w W)(hF:Hm W cv gv (s.qz,Ay s.qz R))=>lH cv gv s.qz (Ay s.qz R) W hF a0 (by rw[hG.2];intro g hg b hb;obtain⟨p,hp,rfl⟩:=List.mem_map.1 hg;exact hG.1.bytes p hp b hb) (by rw[hG.2,XL];have:=hG.1.p10;omega) (AHr (h.ground.nc.below N)) (AJI ((he.below h.low).below N)))
   rw[show Jn (s.qz,Ay s.qz R)=some (Cq (s.qz,Ay s.qz R)) by unfold Jn;rw[A2 (o8 hm ⟨rfl,rfl⟩ l)]] at X;have M:Hid (∀(cv gv:Tv)(W:Tw),Zb w W->Hm W cv gv (s.qz,Ay s.qz R)->Zc 111 #[Zg #[cv,gv]] W λe w'=>e=Zr (Zu #[Zt (E.str (Cq (s.qz,Ay s.qz R))),Zn])/\Zb W w'):=Aa X.o;clear X;have a9:=Vn hm l;have ag:=Aa (λW(N:Zb w W)=>Mx (L.length:Int) W ⟨by omega,by omega⟩ (h.ground.tb.below N));have a4:=Dw (n:=(L.length:Int)) ⟨by omega,by omega⟩;have ai:=Aa (AA6 o L.length);have ah:=Aa (λW=>tC (Bw o L.length) W (by omega));have q:=Aa (λW(N:Zb w W)=>oD w0 NF bb n D fs mv fv (Eh (Bw o L.length)) (E.str (Cq (s.qz,Ay s.qz R))) W (h.up N) hn hD (by simp[B.Wz,lS];omega) f (by rw[E.Ds];unfold maxLen;omega));unfold ABM at q;have ap:(⟨#[95]⟩:Tb).size=1:=rfl;have a7:(o++⟨#[95]⟩:Tb).size<=13:=by rw[ByteArray.size_append,ap];omega
   have au:Hid (B.Gw (E.str (Cq (s.qz,Ay s.qz R)))=Pa s.qz R):=Aa rfl;have ak:=Aa (And.intro hN a8);clear hm d hV hP h hg f hR Y l hG;unfold gK at c;generalize a3:Ay s.qz R=gs at *;generalize E.str (Cq (s.qz,gs))=tt at *;obtain⟨ar,y⟩:∃p,Bw o L.length=p:=⟨_,rfl⟩;rw[y] at ai ah q a6;have aj:=Aa y;clear y;generalize Bm (L.length:Int)=it at *;clear a3;go_enter func67,ntmps67;go_wp2_with fail;apply c.o.mono;rintro e w1⟨cv,gv,rfl,I,t⟩;obtain⟨ca,cc,ec,_⟩:=I.1.slice;obtain⟨ga,gc,eg,_⟩:=I.2.slice;simp only at ec eg;subst ec eg;have af:=Aa I;have i:=Aa t;have z:Hid (Zb w1 (w1.alloc (Zk #[Zs ca s.qz.length cc,Zs ga gs.length gc] 125))):=Aa (Zal);clear I t c x0 x1 y2 x3 x4 x5 x6 x7 xf;go_wp2_with fail;refine(M.o _ _ _ (Ap i.o z.o) (af.o.up z.o)).mono ?_;rintro e w2⟨rfl,an⟩;have U:=Aa (Ap (Ap i.o z.o) an);clear an M af z i
   have HK:Hid (∀W,Zb w W->W.cell? (Zd P 4)=some (Zt o)/\W.cell? (Zd P 6)=some (Zs aa L.length ac)):=Aa λW N=>by obtain⟨_,_,_,_,x4,_,x6,_⟩:=F2 (HP.o.up N).box;exact⟨x4,x6⟩
   obtain⟨x4,x6⟩:=HK.o _ U.o;go_wp2_with fail
   go_region_held (λw'=>w'.cell? (Zd P 4)=some (Zt o)/\w'.cell? (Zd P 6)=some (Zs aa L.length ac))
    (first
      | (go_keep;done)
      | exact HK.o _ ab
      | fail)
    (first
      | (go_at_call 98;refine(ag.o _ U.o.drew).mono ?_;rintro e w3⟨rfl,O⟩
         have ab:=Ap U.o.drew O;clear O)
      | fail)
   all_goals
    have j:=Aa ab;clear ab ag x4 x6 ap a7 a9 a4;go_wp2_with fail;rw[ai.o];refine(ah.o _).mono ?_;rintro e w4⟨rfl,rfl⟩;go_wp2_with fail;refine(q.o _ j.o).mono ?_;rintro e w5⟨aq,al,D5,G,m,J,⟨hh,rfl,rfl⟩|⟨hh,rfl,rfl⟩⟩
    ·have a:=Zy G m J hh
     have av:=Aa ((HP.o.up j.o).put (ae.o.up j.o).bu m);have ad:=Aa (N3 base P s v a1 _ c1 x2 a2 n2 c2 o rd aa ac L qj w5 av.o (XJ (XJ az j.o.size) m.size) 1 ar (R.length:Int) [] [] 0 none 0 0 none 0 0 ⟨XI _ _ _ _,XI _ _ _ _⟩ ⟨by unfold maxLen;show ar.size<=_;omega,XC _,(λx hx=>by cases hx)⟩ (by omega));clear G m J hh q;go_wp2_with fail;apply ad.o.mono;rintro e w6⟨rfl,⟨aw,ax,am⟩,ao⟩;have H6:=Aa (And.intro am ao);clear am ao ad;go_wp2_with fail;go_ret;refine⟨n+1,_,_,aq,al,Kv a.o.1 ak.o.1 ak.o.2 H6.o.2,by omega,((Mv.below j.o).trans (Mv.put a.o.2.1 a.o.2.2.1)).trans (Mv.ACV H6.o.2),.inl ⟨rfl,HM.o,a.o.2.2.2,rfl,by rw[au.o,aj.o],aw,ax,by rw[aj.o];exact H6.o.1⟩⟩
    have a:=Zy G m J hh;clear G m J hh q;go_wp2_with fail;go_ret;exact⟨n+1,_,_,aq,al,a.o.1,by omega,(Mv.below j.o).trans (Mv.put a.o.2.1 a.o.2.2.1),.inr ⟨_,_,rfl,rfl,.inr ⟨HM.o,a.o.2.2.2,rfl⟩⟩⟩
inductive Grown (tx:ByteArray) (D:DataW Unit):DataW Unit->Prop
 | refl:Grown tx D D
 | put {D':DataW Unit} (k:Nat) (v:DataW Unit):Grown tx D D'->Maps.has D' (B.lit (Eh (Bw tx k)))=false->Grown tx D (D'.put (B.lit (Eh (Bw tx k))) v)
theorem Inv.grown{a:Td}{s:Tb}(h:Inv D H U)(c:s∈U)(b:Grown s D a):Inv a H U:=by
 induction b with
 | refl=>exact h
 | put k v _ hf ih=>exact ih.put c k v hf
def AnyE(_:Value):Prop:=True
def Kd(w0 w:World)(l bb n:Nat)(D:DataW Unit)(mv:Value)(H:List (Dn×Ah))(i:ByteArray)(j:Value->Prop)(Ok:DataW Unit->Bool->List A5->Int->Prop)(e:Ending)(f:World):Prop :=
 ∃n' b c a d,Ey w0 f l bb n' b c a d/\n'<=n+50/\B.A0 (B.Own bb mv) w f/\(∀k,a=.map (some k)->mv=.map (some k)\/w.1.size<=k)/\Grown i D b /\
  ((∃g L h qj m n1 c1 s o n2 r p q,e=.returned (.tuple #[.pointer (some ⟨g,0,none⟩),.nilIface])/\Dv w.1.size f g (Ae H H.length) (H.length:Int) m n1 c1 s o n2 r i h p q L qj/\Ok b h (L.map (·.1)) qj) \/
   (∃T x,j (.iface T x)/\e=.returned (.tuple #[.pointer none,.iface T x])))
structure iK(w0 w:World)(NF bb n:Nat)(D:DataW Unit)(fs:List Int)(mv fv:Value)(H:List (Dn×Ah))(U:List ByteArray)(tx:ByteArray):Prop where
 base:Ey w0 w NF bb n D fs mv fv
 inv:Inv D H U
 et:B.Ob w0
 Pw:S.Lp w0
 nf:NF<=w.1.size
 Iz:n<=80000
 O5:H.length<=40
 name:Bx tx=true
 short:tx.size<=12
 plain:Plain tx
 new:¬tx∈U
theorem iK.free{w0 w:Tw}{i bb n:Nat}{fs:List Int}{mv v:Tv}{s:Tb}(h:iK w0 w i bb n D fs mv v H U s)(k:Nat):Maps.has D (B.lit (Eh (Bw s k)))=false:=h.inv.used.fresh h.new h.plain h.inv.plain k
theorem iK.Of{w0 w:Tw}{k bb n:Nat}{fs:List Int}{mv v:Tv}{s:Tb}(h:iK w0 w k bb n D fs mv v H U s):Good Bv Cm (Ae H H.length):=(Jb h.inv.past (XB _)).1
def AIO(D:DataW Unit)(s:Ah)(a:ByteArray)(R:List (List V))(b:DataW Unit)(c:Bool)(A:List A5)(qj:Int):Prop :=
 s.qz≠[]/\De s.qz R=true/\b=D.put (B.lit (Eh (Bw a 0))) (Pa s.qz R)/\c=false/\A=[(1,Bw a 0,(R.length:Int),[],[],0)]/\qj=R.length
def AGF(s:Ah)(fs:List Int)(R:List (List V)):Prop:=s.qz=[]\/De s.qz R=false\/fs.headD 0=1
theorem AK7{b:Nat}{u f a e c d g j:Tv}{t:TypeId}(h:W.1[b]? = some (Zk #[u,f,a,e,c,d,g,j] t (0,0)))(v:Tv):(W.setCell (Zd b 7) v).heap[b]? = some (Zk #[u,f,a,e,c,d,g,v] t (0,0)):=by have i:=As W b 7 _ _ v h;simpa using i
theorem Dv.set{base:Nat}{w:Tw}{n:Nat}{v:Int}{g:To}{n1 c1:Nat}{y:Int}{j:To}{n2 k:Nat}{t:Tb}{R d:Bool}{l:To}{i:Nat}{L:List Gx}{qj a:Int}(h:Dv base w n s v g n1 c1 y j n2 k t R l i L qj)(N:w.grownBy W (some n))(M:W.1[n]? = some (Zk #[Zi v,Zs g n1 c1,Zi y,Zs j n2 k,Zt t,Zo d,Zs l L.length i,Zi a] 112 (0,0))):Dv base W n s v g n1 c1 y j n2 k t d l i L a:=by
 have c:∀{b z m:Nat}{T:TypeId}{u:Tv}{xs:List Tv},w.ownsRow b T z u m xs->T≠112->W.ownsRow b T z u m xs:=λO J=>Mk O h.box (λe=>J e.symm) N
 refine⟨M,?_,c h.row (by decide),λq o=>⟨c (h.own q o).1 (by decide),c (h.own q o).2 (by decide)⟩,h.Vv,h.low⟩;obtain⟨r,G,D,I,p,e,f⟩:=h.snap;exact⟨r,G,D,I,p,e,c f.qz (by decide),f.qx,c f.row (by decide),λx P=>c (f.Cl x P) (by decide)⟩
theorem wV(w0:Tw)(Y bb n:Nat)(D:Td)(fs:List Int)(mv fv:Tv)(H:List (Dn×Ah))(U:List Tb)(i:Tb)(rv:Tv)(R:List (List V))(w:Tw)(h:iK w0 w Y bb n D fs mv fv H U i)(hR:iJ w rv R)(ab:R.length<=100000)(u:∀r∈R,∀v∈r,v.2.2.size<=maxLen)(q:K9 R):
 Zc 39 #[Zp (some (Zd bb 0)),Zt i,rv] w (Kd w0 w Y bb n D mv H i (λ_=>AGF (Ae H H.length) fs R) (AIO D (Ae H H.length) i R)):=by
 have HS:=Aa h;have g:=Aa (fH bb n D mv H i w h.base.ground h.inv.Lm h.inv.past h.O5 h.name h.short)
 have P:=Aa (λ(f:Nat)(k:To)(n1 c1:Nat)(J:Int)(l:To)(n2 m:Nat)W(hW:Zb w W)(s:Dv w.1.size W f (Ae H H.length) (H.length:Int) k n1 c1 J l n2 m i false none 0 [] (R.length:Int))=>bK w0 Y w.1.size bb n D fs mv fv f (Ae H H.length) (H.length:Int) k n1 c1 J l n2 m i false none 0 [] (R.length:Int) rv R W (h.base.up hW) h.nf h.base.low.size (by have:=h.Iz;omega) h.inv.Lm.1 s hW.size h.Of h.et (hR.up hW) ab u q h.short (XC _) (h.free 0))
 obtain⟨ra,rc,rfl,_⟩:=hR.slice;clear h hR u q;generalize G:Ae H H.length=sn at *;have X:=Aa G;clear G;go_enter func39,ntmps39;go_wp2_with fail;apply g.o.mono;rintro e w1⟨d,⟨y,rfl⟩|⟨y,f,k,n1,c1,J,l,n2,m,rfl,s⟩⟩
 ·have j:=Aa (And.intro y d)
  clear y d g;go_wp2_with fail;go_ret2;exact⟨n,D,fs,mv,fv,HS.o.base.up j.o.2,by omega,B.A0.Ba j.o.2,λ_ e=>.inl e,.refl,.inr ⟨_,_,.inl j.o.1,rfl⟩⟩
 have L:=Aa d;have j:=Aa y;have N:=Aa s;obtain⟨y0,y1,y2,y3,y4,y5,y6,y7,yf⟩:=F2 s.box;clear d y s g;have HG:Hid (w1.grownBy (w1.setCell (Zd f 7) (Zi (R.length:Int))) (some f)):=Aa (Aq _ _ _ _);have O:=Aa (N.o.set HG.o (AK7 N.o.box _));have a:Hid (Zb w (w1.setCell (Zd f 7) (Zi (R.length:Int)))):=Aa (L.o.setCell (p:=Zd f 7) N.o.low _);go_wp2_with fail;refine(P.o f k n1 c1 J l n2 m _ a.o O.o).mono ?_;rintro e w3⟨n3,D3,ad,I,o,b,ae,c,⟨rfl,hm,hf,rfl,rfl,aa,ac,t⟩|⟨T,x,rfl,rfl,z⟩⟩
 ·have H3:=Zy b c hm t
  clear b c hm t hf;go_wp2_with fail;go_ret2;refine⟨n3,_,_,I,o,H3.o.1,by omega,((Mv.below a.o).trans H3.o.2.1).o (XB _),((Mv.below (base:=w.1.size) a.o).trans H3.o.2.1).link,.put 0 _ .refl (HS.o.free 0),.inl ⟨f,_,false,_,k,n1,c1,J,l,n2,m,aa,ac,rfl,by rw[X.o];exact H3.o.2.2.2,j.o,H3.o.2.2.1,rfl,rfl,rfl,rfl⟩⟩
 have H3:=Aa (And.intro b c);have M:Hid (AGF sn fs R):=Aa (z.elim (λh=>.inr (.inl h.1)) (λh=>.inr (.inr h.2.1)));clear b c z;go_wp2_with fail;go_ret2;exact⟨n3,_,_,I,o,H3.o.1,by omega,((Mv.below a.o).trans H3.o.2).o (XB _),((Mv.below (base:=w.1.size) a.o).trans H3.o.2).link,.refl,.inr ⟨_,_,M.o,rfl⟩⟩
theorem k9(x:Int):∀(l:List Aj)(k:Nat),k<l.length->(Av l).set (k*7) (Zi x)=Av (l.set k (x,l[k]!.2))
 | [],k,h=>absurd h (Yp _)
 | c :: l,0,_=>rfl
 | c :: l,k+1,h=>by
   have b:=k9 x l k (by simpa using h);have e:Av (c :: l)=Cc c++Av l:=rfl;have a:(c :: l)[k+1]! = l[k]! := by simp
   rw[e,a,XW,show Av (c :: l.set k (x,l[k]!.2))=Cc c++Av (l.set k (x,l[k]!.2)) from rfl,<-b];rw[YC _ _ (by rw[Gl];omega),Gl,show (k+1)*7-7=k*7 by omega]
def Qj:Nat->Nat->List Aj->List Aj
 | _,0,l=>l
 | _,_+1,[]=>[]
 | i,k+1,c :: l=>((i:Int),c.2) :: Qj (i+1) k l
theorem gN:∀(i k:Nat)(l:List Aj),(Qj i k l).length=l.length
 | _,0,l=>rfl
 | _,_+1,[]=>rfl
 | i,k+1,c :: l=>by simp[Qj,gN (i+1) k l]
theorem tM:∀(i:Nat)(l:List Aj),Qj i l.length l=Nl i l
 | _,[]=>rfl
 | i,c :: l=>by simp[Qj,Nl,tM (i+1) l]
theorem jO:∀(i k:Nat)(l:List Aj),k<l.length->Qj i (k+1) l=(Qj i k l).set k (((i+k:Nat):Int),(Qj i k l)[k]!.2)
 | i,0,c :: l,_=>by simp[Qj]
 | i,k+1,c :: l,h=>by
   have a:=jO (i+1) k l (by simpa using h);rw[show Qj i (k+1+1) (c :: l)=((i:Int),c.2) :: Qj (i+1) (k+1) l from rfl,a,show Qj i (k+1) (c :: l)=((i:Int),c.2) :: Qj (i+1) k l from rfl,XW];have e:i+1+k=i+(k+1):=by omega
   rw[e];simp
 | _,_,[],h=>absurd h (Yp _)
theorem Rh:∀(i:Nat)(l:List Aj),(∀x∈l,x.2.1.size<=maxLen/\x.2.2.2.2.2.2.size<=maxLen)->∀x∈Nl i l,x.2.1.size<=maxLen/\x.2.2.2.2.2.2.size<=maxLen
 | _,[],_,x,a=>by cases a
 | i,c :: l,h,x,a=>by
   rcases List.mem_cons.1 a with rfl|a
   ·exact h c (XF ..)
   exact Rh (i+1) l (λy b=>h y (Yf _ b)) x a
theorem qK(o:To)(d:Nat)(w:Tw):
 Zc 104 #[Zs o 0 d] w λe x=>∃a c,e=Zr (Zs a 0 c)/\Zb w x:=by
 have v:∀(w:Tw)(a:To)(n c n' h:Nat),(binOp .eql 34 (.slice a n c) (.slice none n' h)).run prog w=.ok (.bool a.isNone) w:=λw a n c n' h=>Lib.run_eql_slice_nil w _ _ a n c n' h underlying34
 obtain⟨u,r,j,l,m⟩:=info_parts Kh;cases o with
 | none=>go_enter func104,ntmps104;go_wp2;go_ret;exact⟨_,_,rfl,XA _ _⟩
 | some a=>
   go_enter func104,ntmps104;go_wp2_with (at_builtin;refine wpList_append_own _ rfl _ _ 34 rfl w.1.size 59 u L6 7 72 underlying34 r j l m rfl (by decide) _ _ _ rfl (YR w #[] 0 (XB _) (XC _) (by simp)) a 0 d [] rfl (by simp) (by simp) (by simp) (by decide) (by decide) (by simp) ?_);intro v' y f b p
   have t:∃g c,v'=Zs g 0 c:=by
    obtain⟨_,⟨i,_⟩|⟨g,c,q,i,_⟩⟩:=f
    ·exact⟨_,_,i⟩
    exact⟨_,_,i⟩
   obtain⟨g,c,rfl⟩:=t;go_wp2;go_ret;exact⟨_,_,rfl,((XA _ w).alloc (XB _) _).grown b (by simp) (by intro k s;simp[Value.ownBlock] at s;omega)⟩
theorem pD(a:To)(c:Nat)(l:List Aj)(w:Tw)(h:bH w (Zs a l.length c) l)(Y:l.length<=100):
 Zc 62 #[Zs a l.length c] w λe N=>∃J z,e=Zr (Zu #[Zs J l.length z,Zi (l.length+1:Nat)])/\Zb w N/\(l=[]\/N.ownsRow w.1.size 59 7 (Zs J l.length z) l.length (Av (Nl 1 l))):=by
 cases b:l with
 | nil=>
   have j:=Aa (qK a c w);go_enter func62,ntmps62;go_wp2_with fail;apply j.o.mono;rintro e O⟨P,c1,rfl,d⟩;have f:=Aa d;clear d j h b;go_wp2_with fail
   go_loopw [10] (λv wr=>v=Zi 0/\wr=O) (λ_ _=>0)
   case atStart=>exact⟨rfl,rfl⟩
   case round=>obtain⟨rfl,rfl⟩:=hrel;go_wp2;go_ret2;exact⟨P,c1,by simp,f.o,by simp⟩
 | cons c0 l0=>
   rw[<-b];have L:0<l.length:=by rw[b];simp
   rcases h with⟨_,e0⟩|⟨g,o,z,e,U,M⟩
   ·rw[e0] at L;simp at L
   injection e with R _ T;subst R T;have j:=Aa (P9 g o c l w M Y);clear b M U;go_enter func62,ntmps62;go_wp2_with fail;apply j.o.mono;rintro e O⟨x,c1,rfl,t,d⟩;have f:=Aa d;have r:=Aa t;clear d t j;go_wp2_with fail
   go_loopw [10] (λv wr=>∃k:Nat,k<=l.length/\v=Zi (k:Int)/\Hid (wr.ownsRow w.1.size 59 7 (Zs (some (Zd x 0)) l.length c1) l.length (Av (Qj 1 k l)))/\Hid (Zb w wr)) (λv _=>l.length-Ev v)
   case atStart=>exact⟨0,XC _,rfl,r,f⟩
   case round=>
    clear r f;obtain⟨k,hk,rfl,q,I⟩:=hrel
    rcases Yc k l.length with s|W
    ·have G:(k:Int)<(l.length:Int):=by omega
     have X:(0:Int)<=(k:Int):=by omega
     have hlen:(Av (Qj 1 k l)).length=l.length*7:=by rw[Hy,gN]
     obtain⟨u,hu⟩:∃u,wr.cell? (Zd x (k*7))=some u:=by rw[q.o.cellAt (k*7) (by omega)];exact⟨_,Y' (by omega)⟩
     have V:=q.o.frozenAt (k*7);have n:=Aa (jO 1 k l s);have m:=Aa (k9 ((1+k:Nat):Int) (Qj 1 k l) k (by rw[gN];exact s));have b:((1+k:Nat):Int)=(k:Int)+1:=by omega
     rw[b] at n m;clear hlen b;go_wp2;refine⟨⟨k+1,by omega,by simp,Aa ?_,Aa (WN (p:=Zd x (k*7)) I.o (q.o.lt x rfl).1 _)⟩,by simp only[Ev];omega⟩;rw[n.o,<-m.o];exact(q.o.stored _ _).1
    have G:¬(k:Int)<(l.length:Int):=by omega
    have D:k=l.length:=by omega
    subst D;have i:=q.o;rw[tM] at i;have y:=Aa i;clear i;have aa:IntKind.i64.wrap ((l.length:Int)+1)=(l.length:Int)+1:=by rw[IntKind.wrap_i64];omega
    go_wp2;go_ret2;exact⟨_,_,rfl,I.o,.inr y.o⟩
def AIP(D:DataW Unit)(s:Ah)(l:List Aj)(a:DataW Unit)(b:Bool)(A:List A5)(qj:Int):Prop :=
 s.qz=[]/\Go.Proofs.YthpcepcghakimaaGreatDoor.Be (Nl 1 l) (l.length+1:Nat)=true/\a=D/\b=false/\A=([(4,⟨#[]⟩,0,[],Nl 1 l,((l.length+1:Nat):Int))]:List A5)/\qj=0
def AIU(s:Ah)(l:List Aj):Prop:=Go.Proofs.YthpcepcghakimaaGreatDoor.Be (Nl 1 l) (l.length+1:Nat)=false\/s.qz≠[]
theorem AHG{b c:Nat}{a:To}(h:l=[]\/W.ownsRow b 59 7 (Zs a l.length c) l.length (Av l)):bH W (Zs a l.length c) l:=by
 rcases h with h|h
 ·subst h;exact .inl ⟨⟨a,c,rfl⟩,rfl⟩
 exact p8 (gL (k:=7) (en:=Cc) (λ_=>rfl) h)
theorem zI(w0:Tw)(NF bb n:Nat)(D:Td)(fs:List Int)(mv Y:Tv)(H:List (Dn×Ah))(U:List Tb)(X:Tb)(la:To)(lc:Nat)(l:List Aj)(w:Tw)(h:iK w0 w NF bb n D fs mv Y H U X)(hl:bH w (Zs la l.length lc) l)(ah:l.length<=100)(m:∀x∈l,x.2.1.size<=maxLen/\x.2.2.2.2.2.2.size<=maxLen):
 Zc 37 #[Zp (some (Zd bb 0)),Zt X,Zs la l.length lc] w (Kd w0 w NF bb n D mv H X (λ_=>AIU (Ae H H.length) l) (AIP D (Ae H H.length) l)):=by
 have J:=Aa h;have t:=Aa (kN bb n D mv H X w h.base.ground h.inv.Lm h.inv.past h.O5 h.name h.short);have v:=Aa (λW(hW:Zb w W)=>pD la lc l W (hl.below hW) ah);have I:=Aa (λ(a:To)(c:Nat)W(hW:Zb w W)(hL:bH W (Zs a l.length c) (Nl 1 l))=>Vs a l.length c (Nl 1 l) (l.length+1:Nat) W hL (h.base.ground.nc.below hW) (Rh 1 l m));have i:=Aa (dK 1 l);have af:=Aa (Rh 1 l m);clear h hl m;generalize V:Ae H H.length=sn at *;have ae:=Aa V;clear V;go_enter func37,ntmps37;go_wp2_with fail;apply t.o.mono;rintro e w1⟨pb,a1,n1,c1,x2,a2,n2,c2,rfl,hP,O⟩
 have ai:n1=sn.qz.length:=by obtain⟨_,_,_,_,_,e,_⟩:=hP.snap;unfold K4 at e;simp only[Value.agg.injEq,Array.mk.injEq,List.cons.injEq,Value.int.injEq,Value.slice.injEq] at e;exact e.2.1.2.1
 subst ai;have HP:=Aa hP;have r:=Aa O;clear hP O t;go_wp2_with fail;refine(v.o _ r.o).mono ?_;rintro e w2⟨L,M,rfl,k,p⟩;have s:=Aa (Ap r.o k);have z:=Aa (HP.o.up k)
 have u:Hid (bH w2 (Zs L l.length M) (Nl 1 l)):=Aa (by
  have:=AHG (W:=w2) (b:=w1.1.size) (a:=L) (c:=M) (l:=Nl 1 l) (by
   rw[i.o]
   rcases p with e|e
   ·left;rw[e];rfl
   exact .inr e)
  rw[i.o] at this;exact this)
 have y:=Aa p;clear k p v HP;generalize R:((l.length+1:Nat):Int)=nx at *;have j:=Aa R;clear R;go_wp2_with fail;refine(I.o L M _ s.o u.o).mono ?_;rintro e w3⟨rfl,f⟩;have d:=Aa (Ap s.o f);have G:=Aa (z.o.up f);have ab:Hid (l=[]\/w3.ownsRow w1.1.size 59 7 (Zs L l.length M) l.length (Av (Nl 1 l))):=Aa (y.o.imp id λo=>Bc o f);clear f I z y u;cases hrb:Go.Proofs.YthpcepcghakimaaGreatDoor.Be (Nl 1 l) nx with
 | false=>have HN:=Aa hrb;clear hrb;go_wp2_with fail;go_ret2;exact⟨n,D,fs,mv,Y,J.o.base.up d.o,by omega,B.A0.Ba d.o,λ_ e=>.inl e,.refl,.inr ⟨_,_,.inl (by rw[j.o];exact HN.o),rfl⟩⟩
 | true=>
   have ad:=Aa hrb
   have P:l≠[]:=by intro e;rw[e] at hrb;have:=((Go.Proofs.YthpcepcghakimaaGreatDoor.I9 _ _).1 hrb).1;simp[Nl] at this
   clear hrb;obtain⟨y0,y1,y2,y3,y4,y5,y6,y7,yf⟩:=F2 G.o.box
   by_cases hcc:sn.qz.length=0
   ·have HC:Hid (sn.qz=[]):=Aa (Yah.1 hcc)
    have ag:¬(0:Int)<((sn.qz.length:Nat):Int):=by omega
    have g:=ab.o.resolve_left P;have q:=Aa (N3 w.1.size pb sn (H.length:Int) a1 _ c1 x2 a2 n2 c2 X false none 0 [] 0 w3 G.o d.o.size 4 ⟨#[]⟩ 0 [] (Nl 1 l) nx none 0 0 L l.length M ⟨XI _ _ _ _,by rw[i.o];exact E.Ai g (XC _)⟩ ⟨XC _,XC _,af.o⟩ (XC _));clear hcc g P;go_wp2_with fail;apply q.o.mono;rintro e w4⟨rfl,⟨aa,ac,N⟩,T⟩;have H4:=Aa (And.intro N T);clear N T q y0 y1 y2 y3 y4 y5 y6 y7 yf;go_wp2_with fail;go_ret2;have hm:=(Mv.below (base:=w.1.size) (bb:=bb) (mv:=mv) d.o).trans (Mv.ACV H4.o.2);exact⟨n,D,fs,mv,Y,Kv (J.o.base.up d.o) J.o.nf J.o.base.low.size H4.o.2,by omega,hm.o (XB _),hm.link,.refl,.inl ⟨pb,_,false,_,a1,_,c1,x2,a2,n2,c2,aa,ac,rfl,by rw[ae.o];exact H4.o.1,HC.o,by rw[j.o];exact ad.o,rfl,rfl,by rw[j.o];rfl,rfl⟩⟩
   have ag:(0:Int)<((sn.qz.length:Nat):Int):=by omega
   have HN:Hid (sn.qz≠[]):=Aa (λe=>hcc (by rw[e];rfl));clear hcc;go_wp2_with fail;go_ret2;exact⟨n,D,fs,mv,Y,J.o.base.up d.o,by omega,B.A0.Ba d.o,λ_ e=>.inl e,.refl,.inr ⟨_,_,.inr HN.o,rfl⟩⟩
theorem Ry{s t:Ah}{n:Tb}{f:Bool}{r:Int}{m:List Int}{next:Int}(h:Bi s (n,f,[(4,p,r,m,l,next)]) t):t=⟨s.Eb+1,l,next,s.qx⟩/\Wc Bv Cm l next/\s.next<=next:=by
 obtain⟨_,u,d,e⟩:=h;simp only[Il] at e;subst e
 rcases d with⟨a,_⟩|⟨a,_⟩|⟨a,_⟩|⟨_,b,c⟩
 ·exact absurd a (by simp)
 ·exact absurd a (by simp)
 ·exact absurd a (by simp)
 exact⟨c,b.1,b.2⟩
theorem pH{nb:Tb->Bool}{cb:Tb->Bool}{fb:Int->Int->Int->Tb->Bool}:∀{es:List (Tb×Int)}{s t:Ah},Il nb cb fb s (es.map λe=>(1,e.1,e.2,[],[],0)) t->t=⟨s.Eb,s.qz,s.next,s.qx++es.map λe=>(e.1,e.2,[])⟩
 | [],s,t,h=>by simp only[WG,Il] at h;subst h;simp
 | e :: es,s,t,h=>by
   obtain⟨u,b,c⟩:=h
   rcases b with⟨_,_,rfl⟩|⟨a,_⟩|⟨a,_⟩|⟨a,_⟩
   ·rw[pH c]
    simp[oE]
   ·exact absurd a (by simp)
   ·exact absurd a (by simp)
   exact absurd a (by simp)
theorem eH{s t:Ah}{b:Tb}{a:Bool}(h:Bi s (b,a,[(1,p,n,[],[],0)]) t):t=⟨s.Eb+1,s.qz,s.next,s.qx++[(p,n,[])]⟩:=by have:=pH (es:=[(p,n)]) h.2;simpa[bump] using this
theorem zU{s t:Ah}{f:Bool}{xs:List A6}(c:xs.map (·.1)=s.qx)(d:(s.qx.map (·.1)).Nodup)(e:∀x∈xs,x.1.2.1=x.2.2.length)(h:Bi s (p,f,xs.flatMap (Vm s.qz T)) t):t=⟨s.Eb+1,s.qz,s.next,(xs.filterMap (pO s.qz T)).map (·.1)⟩:=by have a:=h.2;have b:=Sp (nb:=Bx) (cb:=Bv) (fb:=Cm) s.qz T xs [] [] (bump s) (by simp[bump,c]) d e;have:=K6 a b;rw[this];simp[bump]
theorem AAO{s t:Ah}{v:Tb}{r:Bool}{xs:List A6}(k:xs.map (·.1)=s.qx)(o:∀x∈xs,x.1.2.1=x.2.2.length)(m:¬p∈s.qx.map (·.1))(l:(s.qx.map (·.1)).Nodup)(h:Bi s (v,r,(1,p,n,[],[],0) :: xs.flatMap (Vm s.qz T)) t):t=⟨s.Eb+1,s.qz,s.next,(xs.filterMap (pO s.qz T)).map (·.1)++[(p,n,[])]⟩:=by
 obtain⟨_,u,j,d⟩:=h
 have q:u=⟨s.Eb+1,s.qz,s.next,s.qx++[(p,n,[])]⟩:=by
  rcases j with⟨_,_,rfl⟩|⟨c,_⟩|⟨c,_⟩|⟨c,_⟩
  ·rfl
  ·exact absurd c (by simp)
  ·exact absurd c (by simp)
  exact absurd c (by simp)
 subst q
 have g:=Sp (nb:=Bx) (cb:=Bv) (fb:=Cm) s.qz T xs [] [(p,n,[])] ⟨s.Eb+1,s.qz,s.next,s.qx++[(p,n,[])]⟩ (by simp[k]) (by simp only[XT,WO,WG];rw[YN];refine⟨l,by simp,λa i b f e=>?_⟩;simp at f;subst e f;exact m i) o
 have:=K6 d g;rw[this];simp
theorem tW{s t:Ah}{f:Bool}{es:List (Tb×Int)}(d:(s.qx.map (·.1)).Nodup)(h:Bi s (p,f,(s.qx.map λe=>(2,e.1,0,[],[],0))++es.map λe=>(1,e.1,e.2,[],[],0)) t):t=⟨s.Eb+1,s.qz,s.next,es.map λe=>(e.1,e.2,[])⟩:=by obtain⟨u,a,b⟩:=Go.Proofs.YthpcepcghakimaaGreatDoor.cE h.2;have c:=qO (nb:=Bx) (cb:=Bv) (fb:=Cm) s.qx [] (bump s) (by simp[bump]) d;have:=K6 a c;subst this;have:=pH b;rw[this];simp[bump]
theorem AHL{qz:List Aj}{next:Int}(g:qz.length<=8)(i:∀d∈qz,d.1<next)(Eb:Int):∀(f:List A6),(∀y∈f,Gt D y/\y.2.1=qz/\y.1.2=((y.2.2.length:Int),[]))->f.length<=1000->qz≠[]->qz.Pairwise (λa b=>a.1≠b.1)->C7 D ⟨Eb,qz,next,f.map (·.1)⟩ f:=λf h hl hc hp=>
 ⟨⟨rfl,λy c=>(h y c).1,hl,g,λe=>absurd e hc⟩,λy c=>by rw[(h y c).2.1];exact Lk.self hp,λy c=>by rw[(h y c).2.1];exact i,λy c=>by rw[(h y c).2.2]⟩
theorem ADC(h:Good Bv Cm s):s.qz.Pairwise (λa b=>a.1≠b.1):=by
 rcases h.qz with e|e
 ·rw[e];exact List.Pairwise.nil
 exact e.2.2.2.imp λx=>x.1
theorem We(h:Good Bv Cm s):∀d∈s.qz,d.1<s.next:=λd a=>by
 rcases h.qz with e|e
 ·rw[e] at a;cases a
 exact(e.2.2.1 d a).2
theorem M9(h:Good Bv Cm s):s.qz.length<=8:=by
 rcases h.qz with e|e
 ·rw[e];exact XC _
 exact e.2.1
theorem sM(h:Good Bv Cm s):∀c∈s.qz,Lx c (bP c)=true:=λc a=>by
 rcases h.qz with e|e
 ·rw[e] at a;cases a
 exact(e.2.2.1 c a).1.2.2.2
theorem rB{nm:Tb}(h:¬Ce l nm = -1):∃k:Nat,Ce l nm=k/\k<l.length:=by
 rcases Gz l nm with⟨e,_⟩|⟨k,a,e,_⟩
 ·exact absurd e h
 exact⟨k,e,a⟩
def ChP(w:World)(s:Ah)(f:Int)(c:Aj)(nm g:ByteArray)(e:Ending)(d:World):Prop :=
 Zb w d/\((∃l' next' a b,cI s.qz s.next f c nm g l' next'/\e=.returned (.tuple #[.slice a l'.length b,Zi next',.nilIface])/\d.ownsRow w.1.size 59 7 (.slice a l'.length b) l'.length (Av l'))\/(∃a n' b x T y,e=.returned (.tuple #[.slice a n' b,Zi x,.iface T y])))
theorem qB(s:Ah)(v:Int)(a1:To)(n1 c1:Nat)(x2:Int)(a2:To)(n2 c2:Nat)(L i:Int)(y:Tb)(k:Int)(mu:Bool)(M N:Int)(z:Tb)(nm m:Tb)(w:Tw)(hS:Dl w s (K4 v a1 n1 c1 x2 a2 n2 c2))(hg:Good Bv Cm s)(U:s.qz≠[])(ad:s.next<=1000000000000000)(hz:y.size<=maxLen/\z.size<=maxLen/\m.size<=maxLen)(hw:Lw w):
 Zc 66 #[Zg #[Zi v,Zs a1 n1 c1,Zi x2,Zs a2 n2 c2],Zg #[Zi L,Zi i,Zt y,Zi k,Zo mu,Zi M,Zi N,Zt z,Zt nm,Zt m]] w (ChP w s L (i,y,k,mu,M,N,z) nm m):=by
 obtain⟨b1,d1,b2,d2,Ls,P,W⟩:=hS;unfold K4 at P;simp only[Value.agg.injEq,Array.mk.injEq,List.cons.injEq,Value.int.injEq,Value.slice.injEq] at P;obtain⟨⟨-,-⟩,⟨e1,e2,e3⟩,⟨-,e4⟩,-⟩:=P;subst e1 e2 e3 e4;have R:=M9 hg;have h1:0<s.qz.length:=List.length_pos_iff.2 U
 obtain⟨g,ab⟩:∃g,a1=some (Zd g 0):=by
  rcases W.qz.2 with⟨_,h0⟩|⟨g,ae,af,P,_⟩
  ·omega
  injection P with aa _ _;exact⟨g,aa⟩
 subst ab
 have T:s.qz.length<=c1:=by obtain⟨a,c,e,hc⟩:=Au W.qz;injection e with _ _ e;omega
 have ac:1<=s.next:=by
  rcases hg.qz with e|e
  ·exact absurd e U
  have:=e.2.2.1 s.qz[0] (Yg h1);have:=this.1.2.1;omega
 have hs:I1 w g 0 s.qz:=I1.Fz W.qz rfl;obtain⟨t0,t1,t2,X⟩:=C1 w (Zk #[Zi v,Zs (some (Zd g 0)) s.qz.length c1,Zi s.next,Zs a2 n2 c2] 71) (Zk #[Zi L,Zi i,Zt y,Zi k,Zo mu,Zi M,Zi N,Zt z,Zt nm,Zt m] 100);have b:=Aa X;have h:=Aa t1;have n:=hs.below X;have p:Lw _:=AHr (hw.below X);unfold ChP;clear t0 t1 t2 X W hg hs hw
 by_cases c1':L=1
 ·subst c1'
  by_cases hok:AAg s.qz (s.next,y,k,mu,M,N,z)
  ·have f:=Aa (AFQ g 0 c1 s.qz s.next i y k mu M N z _ n hok.2.1 hok.1 hok.2.2.1 hok.2.2.2 ac ad p)
   have Y:=Aa hok;clear hok;go_enter func66,ntmps66;go_wp2_with fail;apply f.o.mono;rintro e V⟨g',c',rfl,t,d⟩;have H1:=Aa (And.intro t d);clear t d f;go_wp2_with fail;go_ret3;exact⟨Ap b.o H1.o.2,.inl ⟨_,_,some (Zd g' 0),c',.inl ⟨rfl,Y.o,rfl,rfl⟩,by rw[XH];rfl,by rw[XH];exact E.Ai H1.o.1 b.o.size⟩⟩
  have f:=Aa (AHP g 0 c1 s.qz s.next i y k mu M N z _ n R hz.1 hz.2.1 hok p);clear hok;go_enter func66,ntmps66;go_wp2_with fail;apply f.o.mono;rintro e V⟨x,rfl,d⟩;have H1:=Aa d;clear d f;go_wp2_with fail;go_ret3;exact⟨Ap b.o H1.o,.inr ⟨_,_,_,_,_,_,rfl⟩⟩
 by_cases c2':L=2
 ·subst c2'
  by_cases hf:Ce s.qz nm = -1\/s.qz.length=1
  ·have f:=Aa (AG7 g 0 c1 s.qz nm _ n hf R)
   clear hf c1';go_enter func66,ntmps66;go_wp2_with fail;apply f.o.mono;rintro e V⟨⟨x,rfl,_⟩,d⟩;have H1:=Aa d;obtain⟨_,_,z2,_,_⟩:=Go.Proofs.YthpcepcghakimaaGreatDoor.B3 ((d.block _ (Ac h.o)).trans h.o);clear d f;go_wp2_with fail
   go_region
   go_wp2;go_ret3;exact⟨Ap b.o H1.o.drew,.inr ⟨_,_,_,_,_,_,rfl⟩⟩
  obtain⟨j,I,l⟩:=rB (λe=>hf (.inl e));have J:s.qz.length≠1:=λe=>hf (.inr e)
  have f:=Aa (AFn g 0 c1 s.qz nm j _ n I l J R T);have r:=Aa (And.intro I (And.intro l J));clear hf I l J c1';generalize o:s.qz.take j++s.qz.drop (j+1)=l' at *;have u:=Aa o;clear o;go_enter func66,ntmps66;go_wp2_with fail;apply f.o.mono;rintro e V⟨g',c',rfl,t,d⟩;have H1:=Aa (And.intro t d);obtain⟨_,_,z2,_,_⟩:=Go.Proofs.YthpcepcghakimaaGreatDoor.B3 ((d.block _ (Ac h.o)).trans h.o);clear t d f;go_wp2_with fail
  go_region
  go_wp2;go_ret3;exact⟨Ap b.o H1.o.2.drew,.inl ⟨l',_,_,_,.inr (.inl ⟨rfl,j,r.o.1,r.o.2.1,r.o.2.2,u.o.symm,rfl⟩),rfl,E.Ai (Bc H1.o.1 ((XA _ _).drew)) b.o.size⟩⟩
 by_cases c3':L=3
 ·subst c3'
  by_cases hf:Ce s.qz nm = -1\/Bv m=false\/0<=Ce s.qz m
  ·have f:=Aa (ACv g 0 c1 s.qz nm m _ n hf hz.2.2 R p)
   clear hf c1' c2';go_enter func66,ntmps66;go_wp2_with fail;apply f.o.mono;rintro e V⟨x,rfl,d⟩;have H1:=Aa d;obtain⟨_,_,z2,_,_⟩:=Go.Proofs.YthpcepcghakimaaGreatDoor.B3 ((d.block _ (Ac h.o)).trans h.o);clear d f;go_wp2_with fail
   go_region
   go_wp2;go_ret3;exact⟨Ap b.o H1.o.drew,.inr ⟨_,_,_,_,_,_,rfl⟩⟩
  obtain⟨j,I,l⟩:=rB (λe=>hf (.inl e))
  have D:Bv m=true:=by
   cases e:Bv m with
   | true=>rfl
   | false=>exact absurd (.inr (.inl e)) hf
  have G:Ce s.qz m = -1:=by
   rcases Gz s.qz m with⟨e,_⟩|⟨q,_,e,_⟩
   ·exact e
   exact absurd (.inr (.inr (by omega))) hf
  have f:=Aa (yL g 0 c1 s.qz nm m j _ n I l D G R p);have r:=Zy I l D G;clear hf I l D G c1' c2';have O:Hid ((s.qz.set j (rR s.qz[j]! m)).length=s.qz.length):=Aa (WK ..);generalize o:s.qz.set j (rR s.qz[j]! m)=l' at *;have u:=Aa o;clear o;go_enter func66,ntmps66;go_wp2_with fail;apply f.o.mono;rintro e V⟨g',c',rfl,t,d⟩;have H1:=Aa (And.intro t d);obtain⟨_,_,z2,_,_⟩:=Go.Proofs.YthpcepcghakimaaGreatDoor.B3 ((d.block _ (Ac h.o)).trans h.o);clear t d f;go_wp2_with fail
  go_region
  go_wp2;go_ret3;exact⟨Ap b.o H1.o.2.drew,.inl ⟨l',_,_,_,.inr (.inr ⟨rfl,j,r.o.1,r.o.2.1,r.o.2.2.1,r.o.2.2.2,u.o.symm,rfl⟩),by rw[O.o];rfl,by rw[O.o];exact E.Ai (Bc H1.o.1 ((XA _ _).drew)) b.o.size⟩⟩
 go_enter func66,ntmps66;go_wp2_with fail;go_ret3;exact⟨b.o,.inr ⟨_,_,_,_,_,_,rfl⟩⟩
theorem AHI{b:Nat}{v u f a e c d g i j:Tv}{t:TypeId}(h:W.1[b]? = some (Zk #[v,u,f,a,e,c,d,g,i,j] t (0,0))):
 W.cell? (Zd b 0)=some v/\W.cell? (Zd b 1)=some u/\W.cell? (Zd b 2)=some f/\W.cell? (Zd b 3)=some a/\W.cell? (Zd b 4)=some e/\W.cell? (Zd b 5)=some c/\W.cell? (Zd b 6)=some d/\W.cell? (Zd b 7)=some g/\W.cell? (Zd b 8)=some i/\W.cell? (Zd b 9)=some j:=by
 simp[World.cell?,h]
theorem ADB{l l':List Aj}{next next' y i:Int}{s:Tb}{k:Int}{mu:Bool}{z t:Int}{p nm n:Tb}(b:∀x∈l,x.2.1.size<=maxLen/\x.2.2.2.2.2.2.size<=maxLen)(c:s.size<=maxLen/\p.size<=maxLen/\n.size<=maxLen)(h:cI l next y (i,s,k,mu,z,t,p) nm n l' next'):∀x∈l',x.2.1.size<=maxLen/\x.2.2.2.2.2.2.size<=maxLen:=λx a=>by
 rcases h with⟨_,_,rfl,_⟩|⟨_,j,_,_,_,rfl,_⟩|⟨_,j,_,d,_,_,rfl,_⟩
 ·rcases List.mem_append.1 a with a|a
  ·exact b x a
  simp at a;subst a;exact⟨c.1,c.2.1⟩
 ·rcases List.mem_append.1 a with a|a
  ·exact b x (Yk a)
  exact b x (WA a)
 rcases Ys a with a|rfl
 ·exact b x a
 exact⟨c.2.2,(b _ (Jj d)).2⟩
def AId(D:DataW Unit)(s:Ah)(b:Int)(c:Aj)(nm e:ByteArray)(a:DataW Unit)(d:Bool)(A:List A5)(qj:Int):Prop :=
 s.qz≠[]/\(∃l' next',cI s.qz s.next b c nm e l' next'/\A=([(4,⟨#[]⟩,0,[],l',next')]:List A5))/\a=D/\d=false/\qj=0
theorem kP(w0:Tw)(NF bb n:Nat)(D:Td)(fs:List Int)(mv fv:Tv)(H:List (Dn×Ah))(U:List Tb)(tx:Tb)(r i:Int)(l:Tb)(k:Int)(mu:Bool)(s t:Int)(m nm p:Tb)(w:Tw)(h:iK w0 w NF bb n D fs mv fv H U tx)(hz:l.size<=maxLen/\m.size<=maxLen/\p.size<=maxLen):
 Zc 38 #[Zp (some (Zd bb 0)),Zt tx,Zg #[Zi r,Zi i,Zt l,Zi k,Zo mu,Zi s,Zi t,Zt m,Zt nm,Zt p]] w (Kd w0 w NF bb n D mv H tx AnyE (AId D (Ae H H.length) r (i,l,k,mu,s,t,m) nm p)):=by
 have Y:=Aa h;have N:Zb w (w.alloc (Zk #[Zi r,Zi i,Zt l,Zi k,Zo mu,Zi s,Zi t,Zt m,Zt nm,Zt p] 100)):=Zal;have M:=Aa (Yad w (Zk #[Zi r,Zi i,Zt l,Zi k,Zo mu,Zi s,Zi t,Zt m,Zt nm,Zt p] 100));have I:=Aa N;have L:=Aa (fH bb n D mv H tx _ (h.base.ground.up N) h.inv.Lm h.inv.past h.O5 h.name h.short);have ad:(Ae H H.length).next<=1000000000000000:=by have:=h.inv.next H.length (XB _);have:=h.O5;omega
 have V:=Aa (λ(b:To)(n1 c1:Nat)(f:Int)(c:To)(n2 d:Nat)W(hW:Zb w W)(o:(Ae H H.length).qz≠[])(hS:Dl W (Ae H H.length) (K4 (H.length:Int) b n1 c1 f c n2 d))=>qB (Ae H H.length) (H.length:Int) b n1 c1 f c n2 d r i l k mu s t m nm p W hS h.Of o ad hz (h.base.ground.nc.below hW))
 have ak:=Aa (λl' next'(o:cI (Ae H H.length).qz (Ae H H.length).next r (i,l,k,mu,s,t,m) nm p l' next')=>ADB (fB h.Of) hz o);clear h N ad hz
 have u:Hid (∀(b:To)(n1 c1:Nat)(f:Int)(c:To)(n2 d:Nat)W,Zb w W->(Ae H H.length).qz≠[]->Dl W (Ae H H.length) (K4 (H.length:Int) b n1 c1 f c n2 d)->Zc 66 #[Zg #[Zi (H.length:Int),Zs b n1 c1,Zi f,Zs c n2 d],Zg #[Zi r,Zi i,Zt l,Zi k,Zo mu,Zi s,Zi t,Zt m,Zt nm,Zt p]] W λe w'=>∃z n' G x er,e=Zr (Zu #[Zs z n' G,Zi x,er])/\Hid (Zb W w'/\((er=Zn/\∃l',n'=l'.length/\cI (Ae H H.length).qz (Ae H H.length).next r (i,l,k,mu,s,t,m) nm p l' x/\w'.ownsRow W.1.size 59 7 (Zs z n' G) l'.length (Av l'))\/∃T y,er=Zf T y))):=Aa λb n1 c1 f c n2 d W hW o hS=>(V.o b n1 c1 f c n2 d W hW o hS).mono (by
  rintro e w'⟨hb,⟨l',al,z,G,h1,rfl,h2⟩|⟨z,n',G,x,T,y,rfl⟩⟩
  ·exact⟨z,l'.length,G,al,_,rfl,Aa ⟨hb,.inl ⟨rfl,l',rfl,h1,h2⟩⟩⟩
  exact⟨z,n',G,x,_,rfl,Aa ⟨hb,.inr ⟨T,y,rfl⟩⟩⟩)
 clear V;generalize af:Ae H H.length=sn at *;have aj:=Aa af;clear af;go_enter func38,ntmps38;go_wp2_with fail;apply L.o.mono;rintro e w1⟨g,⟨o,rfl⟩|⟨o,pb,b,n1,c1,f,c,n2,d,rfl,hP⟩⟩
 ·have R:=Aa (Ap I.o g)
  clear o g L;go_wp2_with fail;go_ret2;exact⟨n,D,fs,mv,fv,Y.o.base.up R.o,by omega,B.A0.Ba R.o,λ_ e=>.inl e,.refl,.inr ⟨_,_,trivial,rfl⟩⟩
 have J:=Aa (Ap I.o g);have R:=Aa o;have HP:=Aa hP;have ai:=Aa ((g.block _ (Ac M.o)).trans M.o);obtain⟨y0,y1,y2,y3,y4,y5,y6,y7,yf⟩:=F2 hP.box;obtain⟨z0,z1,z2,z3,z4,z5,z6,z7,z8,z9⟩:=AHI ai.o;clear g o hP L M;have X:Hid (∀args w,(callFunc 66 args).run prog w=.ok (.enter 66 args) w):=Aa (enters_of func66 (by kernel_rfl) rfl);have v:=Aa (u.o b n1 c1 f c n2 d w1.drew J.o.drew R.o (HP.o.snap.up ((XA _ _).drew)));clear u;go_wp2_with fail
 go_region_law
  (first
    | (refine Gc (by rfl) 66 (.tmp 25) (.tmp 26) 71 100 (by rfl) (Zg #[Zi (H.length:Int),Zs b n1 c1,Zi f,Zs c n2 d]) (Zg #[Zi r,Zi i,Zt l,Zi k,Zo mu,Zi s,Zi t,Zt m,Zt nm,Zt p]) (by rfl) (by rfl) X.o _ v.o ?_
       rintro e w2⟨z,n',G,x,er,rfl,H2⟩;refine⟨_,rfl,?_⟩)
    | fail)
 all_goals
  clear v X y0 y1 y2 y3 y4 y5 y6 y7 yf z0 z1 z2 z3 z4 z5 z6 z7 z8 z9;obtain⟨j,⟨rfl,l',rfl,O,ho⟩|⟨T,y,rfl⟩⟩:=H2.o
  ·have ah:=Aa O
   have a:=Aa (Ap J.o.drew j);have q:=Aa ((HP.o.up ((XA _ _).drew)).up j);have ag:=XJ I.o.size HP.o.low;have P:=Aa (N3 w.1.size pb sn (H.length:Int) b n1 c1 f c n2 d tx false none 0 [] 0 w2 ⟨q.o.box,q.o.snap,XI _ _ _ _,q.o.own,q.o.Vv,ag⟩ a.o.size 4 ⟨#[]⟩ 0 [] l' x none 0 0 z l'.length G ⟨XI _ _ _ _,E.Ai ho (XC _)⟩ ⟨XC _,XC _,ak.o l' x O⟩ (XC _));clear O j ho ag H2;go_wp2_with fail;apply P.o.mono;rintro e w4⟨rfl,⟨aa,ac,ab⟩,ae⟩;have H4:=Aa (And.intro ab ae);clear ab ae P;go_wp2_with fail;go_ret2;have hm:=(Mv.below (base:=w.1.size) (bb:=bb) (mv:=mv) a.o).trans (Mv.ACV H4.o.2);exact⟨n,D,fs,mv,fv,Kv (Y.o.base.up a.o) Y.o.nf Y.o.base.low.size H4.o.2,by omega,hm.o (XB _),hm.link,.refl,.inl ⟨pb,_,false,_,b,n1,c1,f,c,n2,d,aa,ac,rfl,by rw[aj.o];exact H4.o.1,R.o,⟨l',x,ah.o,rfl⟩,rfl,rfl,rfl⟩⟩
  have a:=Aa (Ap J.o.drew j);clear j H2;go_wp2_with fail;go_ret2;exact⟨n,D,fs,mv,fv,Y.o.base.up a.o,by omega,B.A0.Ba a.o,λ_ e=>.inl e,.refl,.inr ⟨_,_,trivial,rfl⟩⟩
def aJ(rs:List Px)(p:ByteArray):List Int:=(rs.filter λz=>decide (z.1=p)).map (·.2.1)
theorem AEw(rs:List Px)(z:Px)(p:Tb):aJ (rs++[z]) p=aJ rs p++if z.1=p then [z.2.1] else []:=by
 unfold aJ;rw[XS,XT];congr 1
 by_cases h:z.1=p
 ·simp[h]
 simp[h]
theorem yW(a b:List Px)(p:Tb):aJ (a++b) p=aJ a p++aJ b p:=by unfold aJ;rw[XS,XT]
theorem uP{rs:List Px}(h:∀z∈rs,z.1≠p):aJ rs p=[]:=by unfold aJ;rw[List.filter_eq_nil_iff.2 (λz a=>by simpa using h z a)];rfl
theorem AHm{rs:List Px}(h:∀z∈rs,z.1=p):aJ rs p=rs.map (·.2.1):=by unfold aJ;rw[List.filter_eq_self.2 (λz a=>by simpa using h z a)]
theorem N2:∀z∈E4 l x,z.1=x.1.1:=λz a=>((Pv x.1.1 x.1.2.2 l .nil (Cw (By x.2.1) l x.2.2) 0).1 z a).1
theorem Wm(l:List Aj)(q:Px->Bool):∀(xs:List A6),(xs.map (·.1.1)).Nodup->∀x∈xs,aJ ((xs.flatMap (E4 l)).filter q) x.1.1=((E4 l x).filter q).map (·.2.1)
 | [],_,x,a=>by cases a
 | y :: xs,hn,x,a=>by
   rw[WO,WL] at hn;rw[XX,XS,yW]
   rcases List.mem_cons.1 a with rfl|a
   ·rw[AHm (λz b=>N2 z (List.mem_filter.1 b).1),uP (λz b e=>?_),XR]
    obtain⟨u,d,c⟩:=List.mem_flatMap.1 (List.mem_filter.1 b).1;have:=N2 z c;exact hn.1 (List.mem_map.2 ⟨u,d,by rw[<-this,e]⟩)
   rw[uP (rs:=(E4 l y).filter q) (λz b e=>?_),Wm l q xs hn.2 x a,X'];have:=N2 z (List.mem_filter.1 b).1;exact hn.1 (List.mem_map.2 ⟨x,a,by rw[<-e,this]⟩)
theorem ADn(l:List Aj){xs:List A6}(a:(xs.map (·.1.1)).Nodup)(b:x∈xs):aJ (Bo l .nil xs).1 x.1.1=(E4 l x).map (·.2.1):=by have:=Wm l (λ_=>true) xs a x b;rw[List.filter_eq_self.2 (λ_ _=>rfl),List.filter_eq_self.2 (λ_ _=>rfl)] at this;rw[H9];exact this
variable{P:Program}{e k:TypeId}{W w:Tw}{q:IntKind}{D:Td}{v:Tv}
theorem Xe{base:Nat}{b n:Nat}(h:w.ownsGroups P k base e q b n D)(r:W.1[b]? = w.1[b]?)(o:∀v zs,w.ownsInts base e q v zs->W.ownsInts base e q v zs):W.ownsGroups P k base e q b n D:=by
 obtain⟨es,clock,s,F,t,rfl,f,hlen,d⟩:=h
 have i:∀x∈es.toList,∀z,rowElem (H:=Unit) w base e q x.val=some z->rowElem W base e q x.val=some z:=λx j z l=>by obtain⟨zs,g,rfl⟩:=rowElem_inv l;exact rowElem_mk (o _ _ g)
 obtain⟨p,a,_⟩:=F.stay i;refine⟨es,clock,r.trans s,p,t,by rw[a],f,λx j zs g=>?_,d⟩;obtain⟨y,u⟩:=F.reads x j;obtain⟨z,l,_⟩:=rd_val u;obtain⟨m,c,_⟩:=rowElem_inv l;rw[g.unique (o _ _ c)];exact hlen x j m c
theorem V9{base:Nat}{b n:Nat}(h:w.ownsGroups P k base e q b n D):b<w.1.size:=by obtain⟨es,clock,a,_⟩:=h;exact Ac a
theorem Vx{base:Nat}{b n:Nat}(h:w.ownsGroups P k base e q b n D)(a:Zb w W):W.ownsGroups P k base e q b n D :=
 Xe h (a.block b (V9 h)) λ_ _ c=>⟨Bc c.1 a,c.2⟩
def jE(B:Nat)(w:World)(v:Value)(rs:List Px):Prop:=∃xs:List (ByteArray×Int×Value),xs.length=rs.length/\w.ownsRow B 78 3 v rs.length (xs.flatMap Og)/\∀(j:Nat)x r,xs[j]? = some x->rs[j]? = some r->x.1=r.1/\x.2.1=r.2.1/\∃a n c,x.2.2=.slice a n c
theorem Fp.AJP{I B:Nat}{rs:List Px}(h:Fp I B w v rs):jE B w v rs:=by obtain⟨zs,b,d,f⟩:=h;refine⟨zs,b,d,λj x r i g=>?_⟩;obtain⟨k,l,m⟩:=f j x r i g;obtain⟨a,c,e,_⟩:=Au m;exact⟨k,l,a,_,c,e⟩
theorem jE.up{B:Nat}{rs:List Px}(h:jE B w v rs)(d:Zb w W):jE B W v rs:=by obtain⟨zs,a,b,c⟩:=h;exact⟨zs,a,Bc b d,c⟩
structure Told(W:World)(m n:Nat)(rs:List Px):Prop where
 ex:∃D:DataW Unit,W.ownsGroups prog 9 (m+1) 3 .i64 m n D/\IsMap D/\∀p,(D.atKey (lit p) .nil=.nil/\aJ rs p=[])\/D.atKey (lit p) .nil=DataW.slice (lits .i64 (aJ rs p)) []
theorem Told.up{m n:Nat}{rs:List Px}(h:Told w m n rs)(d:Zb w W):Told W m n rs:=by obtain⟨D,a,b,c⟩:=h.ex;exact⟨D,Vx a d,b,c⟩
theorem AGX{a b:List Int}(h:(lits .i64 a:List (Td))=lits .i64 b):a=b:=by simp only[lits] at h;have:=List.map_inj_right (f:=λn:Int=>(DataW.lit (Lit.int IntKind.i64 n):Td)) (λx y e=>by simpa using e) (l:=a) (l':=b);exact this.mp h
theorem Sd{rs:List Px}{p:Tb}{base:Nat}{zs:List Int}(h:(D.atKey (lit p) .nil=.nil/\aJ rs p=[])\/D.atKey (lit p) .nil=DataW.slice (lits .i64 (aJ rs p)) [])(a:D.atKey (lit p) .nil=rowDatum .i64 v zs)(b:w.ownsInts base 3 .i64 v zs):zs=aJ rs p:=by
 rcases b.datum (H:=Unit) with⟨e1,e2⟩|e1
 ·rw[a,e1] at h
  rcases h with⟨_,h⟩|h
  ·rw[e2,h]
  cases h
 rw[a,e1] at h
 rcases h with⟨h,_⟩|h
 ·cases h
 injection h with h;exact AGX h
section
variable {P : Program} {w : World} {o : Oper} {a : Act} {K : Act → World → Prop} {Q : Exit → Act → World → Prop}
theorem Ke{t k E e:TypeId}(p:Keyed P k)(s:P.underlying t=some (.map k E))(x:(zeroValue E).run P w=.ok (.slice none 0 0) w){base b n:Nat}(f:w.ownsGroups P k base e q b n D)(r:n<maxLen){u:Tv}{m:Lit}(d:_root_.Go.keyOf P k u=some m)(h:∀v zs,D.atKey m .nil=rowDatum q v zs->w.ownsInts base e q v zs->zs.length<=n->w.groupBack P t k base e q b n D u m v->K (a.put o.dst v) w):
 Oper.upon P o a K Q (((Instr.lookup t (.map (some b)) u false).run P w).andThen λa y=>Result.ok (Next.value a) y):=by
 obtain⟨v,zs,g,i,j,l,c⟩:=f.at p s x r d;rw[g];exact h v zs i j l c
theorem Xs{t:TypeId}{w0:Tw}{base:Nat}{b n:Nat}{p:Lit}{u v':Tv}{z:List Int}(c:w0.groupBack P t k base e q b n D v p u)(l:w0.grownBy w u.ownBlock)(d:w.ownsInts base e q v' z)(m:z.length<=n+1)(f:v'.ownBlock=u.ownBlock\/∃g,v'.ownBlock=some g/\w0.1.size<=g)(h:∀j,j.ownsGroups P k base e q b (n+1) (D.put p (rowDatum q v' z))->w.grownBy j (some b)->K (a.put o.dst undef) j):
 Oper.upon P o a K Q (((Instr.mapUpdate t (.map (some b)) v v').run P w).andThen λ_ x=>Result.ok Next.skip x):=by
 obtain⟨j,i,r,s⟩:=c w v' z l d m f;rw[i];exact h j r s
end
theorem U5(w:Tw):(zeroValue 27).run prog w=.ok (Zs none 0 0) w:=by kernel_rfl
theorem AGb:(prog.info? 3).map (λi=>(i.zero,i.size,i.bytes))=some (some (Zi 0),1,8):=by kernel_rfl
theorem sO{rs:List Px}{r:Px}{zs:List Int}(b:IsMap D)(a:∀p,(D.atKey (lit p) .nil=.nil/\aJ rs p=[])\/D.atKey (lit p) .nil=DataW.slice (lits .i64 (aJ rs p)) [])(d:zs=aJ rs r.1):∀p,((D.put (lit r.1) (DataW.slice (lits .i64 (zs++[r.2.1])) [])).atKey (lit p) .nil=.nil/\aJ (rs++[r]) p=[])\/(D.put (lit r.1) (DataW.slice (lits .i64 (zs++[r.2.1])) [])).atKey (lit p) .nil=DataW.slice (lits .i64 (aJ (rs++[r]) p)) []:=λp=>by
 rw[AEw]
 by_cases e:r.1=p
 ·subst e
  right;rw[A2 rfl,atKey_put_same b (AEF _) _ _,d]
 rw[A1 e,XR,atKey_put_other (λc=>e (Jr c).symm)];exact a p
theorem AHp{b:Nat}{v u f:Tv}{t:TypeId}(h:W.1[b]? = some (Zk #[v,u,f] t (0,0))):W.cell? (Zd b 0)=some v/\W.cell? (Zd b 1)=some u:=by simp[World.cell?,h]
theorem fE(B:Nat)(v:Tv)(rs:List Px)(w:Tw)(hF:jE B w v rs)(a1:rs.length<=100000)(ab:∀r∈rs,r.1.size<=maxLen)(aa:∀r∈rs,Lu r.2.1):
 Zc 113 #[v] w λe w'=>∃m,e=Zr (.map (some m))/\w.1.size<=m/\Told w' m rs.length rs/\Below w.1.size w w':=by
 obtain⟨zs,e1,e2,e3⟩:=hF;obtain⟨fa,fc,rfl,_⟩:=Au e2;have ag:=Aa e1;have ah:=Aa e2;have ai:=Aa e3;have aj:=Aa ab;have ad:=Aa aa;obtain⟨i0,hi,ac,n,o⟩:=info_parts AGb;have b:=Zy hi ac n o;have aq:=@run_makeMap prog;have X:Hid (Told (w.alloc (.map #[] 0)) w.1.size 0 (rs.take 0)):=Aa ⟨.map [],World.ownsGroups_made _ _ _ _ _,isMap_empty,λp=>.inl ⟨rfl,rfl⟩⟩;have U:Hid (Below w.1.size w (w.alloc (.map #[] 0))):=Aa (Zal);clear e1 e2 e3 ab aa hi ac n o;go_enter func113,ntmps113;go_wp2_with fail;clear aq
 go_loopw [9] (λvi wr=>∃k:Nat,k<=rs.length/\vi=Zi (k:Int)/\Hid (Told wr w.1.size k (rs.take k))/\Hid (Below w.1.size w wr)) (λvi _=>rs.length-Ev vi)
 case atStart=>exact⟨0,XC _,rfl,X,U⟩
 case round=>
  obtain⟨k,hk,rfl,HT,T⟩:=hrel;clear X U
  rcases Yc k rs.length with ap|az
  ·obtain⟨r,hr⟩:∃r,rs[k]? = some r:=⟨_,Y' ap⟩
   obtain⟨z,hz⟩:∃z,zs[k]? = some z:=⟨_,Y' (by have:=ag.o;omega)⟩;obtain⟨n,o,au⟩:=ai.o k z r hz hr;obtain⟨zp,zi,zv⟩:=z;obtain⟨G,J,I,ez⟩:=au;simp only at ez;subst ez;have l:=E.Ad ah.o T.o
   obtain⟨fb,am,ay,f0,f1,f2⟩:∃fb,fa=some (Zd fb 0)/\fb<wr.1.size/\wr.cell? (Zd fb (k*3))=some (Zt zp)/\wr.cell? (Zd fb (k*3+1))=some (Zi zi)/\wr.cell? (Zd fb (k*3+2))=some (Zs G J I):=by
    rcases l.2 with⟨_,h0⟩|⟨fb,aw,ax,ev,_,hh,_,_,_⟩
    ·omega
    injection ev with al _ _;subst al;have hc:=l.cells (g:=fb) rfl;simp only[E.addr_add] at hc
    have d:∀(i:Nat)u,(Og (zp,zi,Zs G J I))[i]? = some u->wr.cell? (Zd fb (k*3+i))=some u:=λi u P=>by have:=hc (k*3+i) u (Hi (k:=3) (enc:=Og) (λ_=>rfl) hz P);simpa using this
    exact⟨fb,rfl,E.Ac hh,d 0 _ rfl,d 1 _ rfl,d 2 _ rfl⟩
   subst am;simp only at n o;subst n o;have O:=XG hr;have ar:=aj.o r O;have c:=ad.o r O;have ao:(k:Int)<(rs.length:Int):=by omega
   have Y:Hid (rs.take (k+1)=rs.take k++[r]):=Aa (S.Cs hr);have HA:Hid (Below wr.1.size wr (wr.alloc (Zk #[Zt r.1,Zi r.2.1,Zs G J I] 78))):=Aa (Zal)
   have a0:w.1.size<wr.1.size:=by obtain⟨_,d0,_⟩:=HT.o.ex;exact V9 d0
   obtain⟨D,d1,d2,d3⟩:=(HT.o.up HA.o).ex;have V:=Aa d1;have s:=Aa d2;have t:=Aa d3;have y:=Aa (Mh ar);clear d1 d2 d3 l hr hz O HT;have c0:=Yad wr (Zk #[Zt r.1,Zi r.2.1,Zs G J I] 78);have q0:=S.cell_of_heap c0 0;have q1:=S.cell_of_heap c0 1;simp at q0 q1;clear c0;go_wp2_with fail;have ae:=Aa (Vx V.o ((XA _ _).drew));have af:=Aa (Vx V.o ((((XA _ _).alloc (XB _) (Zk #[Zi r.2.1] 3))).drew))
   have W:Hid (((wr.alloc (Zk #[Zt r.1,Zi r.2.1,Zs G J I] 78)).alloc (Zk #[Zi r.2.1] 3)).drew.heap[wr.1.size+1]? = some (Zk #[Zi r.2.1] 3)):=Aa (by have:=Yad (wr.alloc (Zk #[Zt r.1,Zi r.2.1,Zs G J I] 78)) (Zk #[Zi r.2.1] 3);rwa[X2] at this)
   have x:Hid (((wr.alloc (Zk #[Zt r.1,Zi r.2.1,Zs G J I] 78)).alloc (Zk #[Zi r.2.1] 3)).drew.heap[wr.1.size]? = some (Zk #[Zt r.1,Zi r.2.1,Zs G J I] 78 (0,0))):=Aa (((((XA _ _).alloc (XB _) (Zk #[Zi r.2.1] 3)).drew).block wr.1.size (by simp)).trans (Yad wr _));have a2:=T.o.size
   go_region_held3 (λw'=>w'.cell? (Zd wr.1.size 0)=some (Zt r.1)/\w'.cell? (Zd wr.1.size 1)=some (Zi r.2.1))
    (first
      | (go_keep;done)
      | exact AHp (Hq x.o (a.1.alloc _) (by decide) hg5)
      | exact AHp (Hq x.o a.1 (by decide) hg5)
      | exact AHp ((hgrow6.block _ (Ya (by simp;omega) hg5.size) (λe=>by injection e with e;omega)).trans (Hq x.o (a.1.alloc _) (by decide) hg5))
      | exact AHp ((hgrow6.block _ (Ya (by simp;omega) hg5.size) (λe=>by injection e with e;omega)).trans (Hq x.o a.1 (by decide) hg5))
      | fail)
    (first
      | (refine Ke Wl underlying207 (U5 _) ae.o (by unfold maxLen;omega) y.o ?_;intro v5 q d a av f)
      | (refine Ke Wl underlying207 (U5 _) af.o (by unfold maxLen;omega) y.o ?_;intro v5 q d a av f)
      | (refine step_append_lies _ (by rfl) (.tmp 19) (.tmp 22) 27 (by rfl) (w.1.size+1) 3 i0 (Zi 0) 1 8 underlying27 b.o.1 b.o.2.1 b.o.2.2.1 b.o.2.2.2 rfl (by decide) v5 q.length (q.map (Value.int .i64)) (by rfl) (a.1.alloc _) (Zd (wr.1.size+1) 0) 1 1 [Zi r.2.1] (by rfl) rfl (λj u hj=>XK W.o j u hj) (by intro u P;simp at P;subst P;rfl) (by omega) (by unfold maxLen;omega) (by omega) (by simp;omega) _ rfl ?_;intro g5 c5 w5 ho5 hg5 hat5 hlt5)
      | (refine step_append_lies _ (by rfl) (.tmp 19) (.tmp 22) 27 (by rfl) (w.1.size+1) 3 i0 (Zi 0) 1 8 underlying27 b.o.1 b.o.2.1 b.o.2.2.1 b.o.2.2.2 rfl (by decide) v5 q.length (q.map (Value.int .i64)) (by rfl) a.1 (Zd (wr.1.size+1) 0) 1 1 [Zi r.2.1] (by rfl) rfl (λj u hj=>XK W.o j u hj) (by intro u P;simp at P;subst P;rfl) (by omega) (by unfold maxLen;omega) (by omega) (by simp;omega) _ rfl ?_;intro g5 c5 w5 ho5 hg5 hat5 hlt5)
      | (refine Xs f ((WB _ _ _).trans hg5) (a.appended ho5 (WalkArith.wf_i64 (by have:=c.1;have:=c.2;omega))) (by simp;omega) (hat5.imp (λh=>h.symm) (λh=>⟨_,by rw[h];rfl,by simp⟩)) ?_;intro w6 hown6 hgrow6)
      | (refine Xs f hg5 (a.appended ho5 (WalkArith.wf_i64 (by have:=c.1;have:=c.2;omega))) (by simp;omega) (hat5.imp (λh=>h.symm) (λh=>⟨_,by rw[h];rfl,by simp⟩)) ?_;intro w6 hown6 hgrow6)
      | fail)
   ·have R:=Sd (t.o r.1) d a
    have N:=a.appended ho5 (WalkArith.wf_i64 (by have:=c.1;have:=c.2;omega));rw[N.datum_pos (by simp)] at hown6;have M:=Aa hown6;clear hown6;go_wp2;refine⟨⟨k+1,by omega,by simp,Aa ⟨_,M.o,s.o.put _ _,?_⟩,Aa ((Ap T.o (Ap HA.o ((XA _ _).drew))).groups a ((WB _ _ _).trans hg5) hgrow6 (by simp;omega) (WR _) (XB _))⟩,by simp only[Ev];omega⟩;rw[Y.o];exact sO s.o t.o R
   have R:=Sd (t.o r.1) d a;have N:=a.appended ho5 (WalkArith.wf_i64 (by have:=c.1;have:=c.2;omega));rw[N.datum_pos (by simp)] at hown6;have M:=Aa hown6;clear hown6;go_wp2;refine⟨⟨k+1,by omega,by simp,Aa ⟨_,M.o,s.o.put _ _,?_⟩,Aa ((Ap T.o (Ap HA.o (((XA _ _).alloc (XB _) (Zk #[Zi r.2.1] 3)).drew))).groups a hg5 hgrow6 (by simp;omega) (WR _) (XB _))⟩,by simp only[Ev];omega⟩;rw[Y.o];exact sO s.o t.o R
  have ao:¬((k:Int)<(rs.length:Int)):=by omega
  have an:k=rs.length:=by omega
  subst an;have L:=HT.o;rw[Ye] at L;have ak:=Aa L;clear L;go_wp2;go_ret;exact⟨w.1.size,rfl,XB _,ak.o,T.o⟩
def tK(w:World)(s:Ah)(Eb:Int)(g:ByteArray)(T:S.CT)(xs:List A6)(e:Ending)(a:World):Prop :=
 Zb w a/\((s.qz=[]/\e=.returned (.tuple #[.pointer none,.slice none 0 0,.iface 107 (Zi 6)])) \/
  (s.qz≠[]/\Ex s.qz T≠0/\e=.returned (.tuple #[.pointer none,.slice none 0 0,AEy (Ex s.qz T)])) \/
  (s.qz≠[]/\Ex s.qz T=0/\∃b v' c n1 c1 h d n2 f,e=.returned (.tuple #[.pointer (some ⟨b,0,none⟩),v',.nilIface])/\Dv w.1.size a b s Eb c n1 c1 h d n2 f g true none 0 [] ((Bo s.qz T xs).1.length:Int)/\Fp w.1.size w.1.size a v' (Bo s.qz T xs).1))
theorem Fp.base{B n:Nat}{w:Tw}{v:Tv}{rs:List Px}(h:Fp B B w v rs)(d:n<=B):Fp n n w v rs:=by obtain⟨zs,e,f,a⟩:=h;exact⟨zs,e,E.Ai f d,λj x r c b=>⟨(a j x r c b).1,(a j x r c b).2.1,E.Ai (a j x r c b).2.2 d⟩⟩
theorem Fp.far{w W:Tw}{I B b:Nat}{v:Tv}{rs:List Px}{cs:Array Tv}{t:TypeId}(h:Fp I B w v rs)(a:w.1[b]? = some (Zk cs t (0,0)))(g:t≠78)(i:t≠55)(c:w.grownBy W (some b)):Fp I B W v rs:=by obtain⟨zs,d,e,f⟩:=h;refine⟨zs,d,Mk e a g c,λj z r l k=>?_⟩;obtain⟨m,n,o⟩:=f j z r l k;exact⟨m,n,Mk o a i c⟩
theorem AKm{W:Tw}{b:Nat}{f a e c d k g l:Tv}{t:TypeId}(h:W.1[b]? = some (Zk #[f,a,e,c,d,k,g,l] t (0,0)))(u v:Tv):((W.setCell (Zd b 5) u).setCell (Zd b 7) v).heap[b]? = some (Zk #[f,a,e,c,d,u,g,v] t (0,0)):=by have i:=As W b 5 _ _ u h;have j:=As _ b 7 _ _ v i;simpa using j
theorem Wo(bb n:Nat)(D:Td)(mv:Tv)(H:List (Dn×Ah))(v:Tb)(xs:List A6)(T:S.CT)(G:Tv)(w:Tw)(h:Ground w bb n D mv)(O:B.Ob w)(t:S.Lp w)(R:U6 D H)(U:La H)(O5:H.length<=40)(u:Bx v=true)(I:v.size<=12)(x:Xh D (Ae H H.length) xs)(P:S.Gy w T G):
 Zc 68 #[Zp (some (Zd bb 0)),Zt v,G] w (tK w (Ae H H.length) H.length v T xs):=by
 have o:=Aa (fH bb n D mv H v w h R U O5 u I);have m:=Aa (λ(sv:Tv)W(y:Zb w W)(hS:Dl W (Ae H H.length) sv)=>oS bb n D mv (Ae H H.length) sv xs T G W (h.up y) (O.below y) (t.below y) hS x (P.up y));have ab:=Aa (L0 (Ae H H.length).qz T xs x.each);have ac:=x.Iz;have aa:Hid (∀W,Dl W (Ae H H.length)=Dl W (Ae H H.length)):=Aa λ_=>rfl
 unfold tK;unfold qP at m;generalize Ae H H.length=L at *;clear h O t R U x P u;go_enter func68,ntmps68;go_wp2_with fail;apply o.o.mono;rintro e w1⟨g,⟨r,rfl⟩|⟨r,l,a1,n1,c1,x2,a2,n2,c2,rfl,J⟩⟩
 ·have q:=Aa (And.intro r g)
  clear r g;go_wp2_with fail;go_ret3;exact⟨q.o.2,.inl ⟨q.o.1,rfl⟩⟩
 have f:=Aa g;have q:=Aa r;have M:=Aa J;obtain⟨Y,y1,y2,y3,y4,y5,y6,y7,yf⟩:=F2 J.box;clear g r J o;go_wp2_with fail;refine(m.o _ _ f.o M.o.snap).mono ?_;rintro e X⟨d,⟨s,rfl⟩|⟨V,v2,rfl,k⟩⟩
 ·have j:=Aa s
  have i:=Aa d;clear s d;rw[Et j.o];go_wp2_with fail;go_ret3;exact⟨Ap f.o i.o,.inr (.inl ⟨q.o,j.o,by rw[Et j.o];rfl⟩)⟩
 have HZ:=Aa V;have i:=Aa d;have z:=Aa k;have b:=Aa (M.o.up d)
 obtain⟨fa,fc,rfl,_⟩:∃a c,v2=Zs a (Bo L.qz T xs).1.length c/\(Bo L.qz T xs).1.length<=c:=by obtain⟨zs,_,e2,_⟩:=k;exact Au e2
 clear V d k Y y1 y2 y3 y4 y5 y6 y7 yf;obtain⟨Y,y1,y2,y3,y4,y5,y6,y7,yf⟩:=F2 b.o.box;go_wp2_with fail;go_ret3;have N:X.grownBy ((X.setCell (Zd l 5) (Zo true)).setCell (Zd l 7) (Zi ((Bo L.qz T xs).1.length:Int))) (some l):=Gp (Aq _ _ _ _) (Aq _ _ _ _);exact⟨((Ap f.o i.o).setCell (p:=Zd l 5) b.o.low _).setCell (p:=Zd l 7) b.o.low _,.inr (.inr ⟨q.o,HZ.o,l,_,a1,n1,c1,x2,a2,n2,c2,rfl,b.o.set N (AKm b.o.box _ _),(z.o.base f.o.size).far b.o.box (by decide) (by decide) N⟩)⟩
theorem Told.pa{w W:Tw}{base m n:Nat}{rs:List Px}(h:Told w m n rs)(l:B.A0 (PA w base) w W):Told W m n rs:=by
 obtain⟨D,d,p,q⟩:=h.ex;refine⟨D,Xe d (l.block m (V9 d) ?_) λv zs j=>⟨?_,j.2⟩,p,q⟩
 ·rintro⟨_,cs,T,e,_⟩
  obtain⟨es,clock,r,_⟩:=d;rw[r] at e;cases e
 refine⟨j.1.1,?_⟩
 rcases j.1.2 with o|⟨g,c,b,s,f,i,k⟩
 ·exact .inl o
 refine .inr ⟨g,c,b,s,f,(l.block g (Ac i) ?_).trans i,k⟩;rintro⟨_,cs,T,e,a⟩;rw[i] at e;injection e with e;injection e with _ e;subst e
 rcases a with a|a <;> exact absurd a (by decide)
theorem dC{base:Nat}{a b c:Tw}(h:B.A0 (PA a base) a b)(k:B.A0 (PA b base) b c):B.A0 (PA a base) a c :=
 h.trans k λi j e=>by
  by_cases hs:PA a base i
  ·exact hs
  obtain⟨d,cs,T,f,g⟩:=e;exact⟨d,cs,T,(h.block i j hs).symm.trans f,g⟩
theorem AGu(l:List Aj)(T:S.CT)(x:A6):(Vm l T x).length<=1:=by
 unfold Vm;split
 ·exact XC _
 split <;> exact XB _
theorem rV(l:List Aj)(T:S.CT):∀xs:List A6,(xs.flatMap (Vm l T)).length<=xs.length
 | []=>XB _
 | x :: xs=>by have:=rV l T xs;have:=AGu l T x;rw[XX,XH,XM];omega
theorem AK0(qk:Tb)(qv:List Int)(l:List Aj)(T:S.CT)(rs:List (List V))(b:rs.length<=1000):∀z∈Jw qk qv l T 0 rs,Lu z.2.1:=λz a=>by
 have:=(Pv qk qv l T rs 0).1 z a;exact⟨by omega,by omega⟩
theorem AJ0{D:Td}{l:List Aj}{xs:List A6}(c:∀x∈xs,Gt D x):∀z∈(Bo l .nil xs).1,Lu z.2.1/\z.1.size<=maxLen:=λz a=>by
 rw[H9] at a;obtain⟨x,b,a⟩:=List.mem_flatMap.1 a;have h:=c x b;refine⟨AK0 _ _ _ _ _ ?_ z a,?_⟩
 ·rw[J2]
  have:=(B4.mp h.ok).2.2.1;omega
 rw[N2 z a];have:=h.name;unfold maxLen;omega
theorem mL(base bb n:Nat)(D:Td)(mv:Tv)(pb:Nat)(s:Ah)(v:Int)(a1:To)(n1 c1:Nat)(x2:Int)(a2:To)(n2 c2:Nat)(tx:Tb)(rd:Bool)(aa:To)(ac:Nat)(L:List Gx)(qj:Int)(Bf:Nat)(rv:Tv)(T:S.CT)(xs:List A6)(w:Tw)(h:Ground w bb n D mv)(he:B.Ob w)(b4:S.Lp w)(hP:Dv base w pb s v a1 n1 c1 x2 a2 n2 c2 tx rd aa ac L qj)(cl:base<=w.1.size)(V:Xh D s xs)(hg:Good Bv Cm s)(hF:jE Bf w rv (Bo s.qz T xs).1)(W:(Bo s.qz T xs).1=(Bo s.qz .nil xs).1.filter (Q9 s.qz T))(hL:L.length<=10):
 Zc 69 #[Zp (some (Zd bb 0)),Zp (some (Zd pb 0)),rv] w λe w'=>e=Zr Zn/\(∃f j t,Dv base w' pb s v a1 n1 c1 x2 a2 n2 c2 tx rd f j (L++t) qj/\t.map (·.1)=xs.flatMap (Vm s.qz T))/\B.A0 (PA w base) w w':=by
 have O5:=hg.Iz;have c7:xs.length<=40:=by have:=congrArg List.length V.qx;rw[XL] at this;omega
 have b3:(xs.map (·.1.1)).Nodup:=by have:=hg.once;rw[<-V.qx,List.map_map] at this;exact this
 have ct:n2=xs.length:=by obtain⟨b1,d1,b2,d2,Ls,ev,hV⟩:=hP.snap;unfold K4 at ev;simp only[Value.agg.injEq,Array.mk.injEq,List.cons.injEq,Value.int.injEq,Value.slice.injEq] at ev;have h1:=congrArg List.length hV.qx;have h2:=congrArg List.length V.qx;rw[XL] at h1 h2;omega
 subst ct;have M:=Aa (AJ0 (l:=s.qz) V.each);have av:=Aa (L0 s.qz .nil xs V.each);have aw:=Aa (L0 s.qz T xs V.each)
 have ak:Hid (∀z∈(Bo s.qz T xs).1,Lu z.2.1/\z.1.size<=maxLen):=Aa λz hz=>by rw[W] at hz;exact M.o z (List.mem_filter.1 hz).1
 have ce:Hid (∀x∈xs,aJ (Bo s.qz T xs).1 x.1.1=Ct s.qz T x/\(aJ (Bo s.qz .nil xs).1 x.1.1).length=(E4 s.qz x).length):=Aa λx hx=>by refine⟨?_,by rw[ADn s.qz b3 hx,XL]⟩;rw[W,H9];exact Wm s.qz _ xs b3 x hx
 have J:=Aa (oS bb n D mv s _ xs .nil (Zp none) w h he b4 hP.snap V rfl);unfold qP at J;simp only[dB] at J;have cc:=Aa V.qx;have HP:=Aa hP;have HF:=Aa hF;have cb:=Aa (λx(hx:x∈xs)=>And.intro (V.each x hx).name (V.each x hx).qv);obtain⟨y0,y1,y2,y3,y4,y5,y6,y7,yf⟩:=F2 hP.box
 obtain⟨fa,fc,rfl,_⟩:∃a c,rv=Zs a (Bo s.qz T xs).1.length c/\(Bo s.qz T xs).1.length<=c:=by obtain⟨zs,_,e2,_⟩:=hF;exact Au e2
 clear h he b4 V hg hF W hP;unfold K4 at J;go_enter func69,ntmps69;go_wp2_with fail;apply J.o.mono;rintro e w1⟨bw,⟨q,_⟩|⟨_,v1,rfl,bd⟩⟩
 ·exact absurd rfl q
 obtain⟨va,vc,rfl,_⟩:∃a c,v1=Zs a (Bo s.qz .nil xs).1.length c/\(Bo s.qz .nil xs).1.length<=c:=by obtain⟨zs,_,e2,_⟩:=bd;exact Au e2
 have bh:=Aa bw;have bl:=Aa (fE _ _ _ w1 bd.AJP (by have:=av.o.2;omega) (λr hr=>(M.o r hr).2) (λr hr=>(M.o r hr).1));clear bw bd J y0 y1 y2 y3 y4 y5 y6 y7 yf;go_wp2_with fail;apply bl.o.mono;rintro e w2⟨m1,rfl,c5,bu,bx⟩;have aq:=Aa (Ap bh.o bx);have bn:=Aa bu;have bm:=Aa (fE _ _ _ w2 (HF.o.up aq.o) (by have:=aw.o.2;omega) (λr hr=>(ak.o r hr).2) (λr hr=>(ak.o r hr).1));clear bx bu bl;go_wp2_with fail;apply bm.o.mono;rintro e w3⟨m2,rfl,c6,bv,bc⟩;have ar:=Aa (Ap aq.o bc);have al:=Aa (bn.o.up bc);have bo:=Aa bv;have az:=Aa (HP.o.up ar.o);clear bc bv bm bn;obtain⟨y0,y1,y2,y3,y4,y5,y6,y7,yf⟩:=F2 az.o.box;go_wp2_with fail;clear y0 y1 y2 y3 y4 y5 y6 y7 yf;have bk:Hid (B.A0 (PA w base) w w3):=Aa (B.A0.Ba ar.o)
 go_loopw [37] (λvi wr=>∃(k:Nat)(f:To)(j:Nat)(t:List Gx),k<=xs.length/\vi=Zi (k:Int)/\t.length<=k/\Hid (Dv base wr pb s v a1 n1 c1 x2 a2 xs.length c2 tx rd f j (L++t) qj)/\Hid (t.map (·.1)=(xs.take k).flatMap (Vm s.qz T))/\Hid (Told wr m1 (Bo s.qz .nil xs).1.length (Bo s.qz .nil xs).1)/\Hid (Told wr m2 (Bo s.qz T xs).1.length (Bo s.qz T xs).1)/\Hid (B.A0 (PA w base) w wr)) (λvi _=>xs.length-Ev vi)
 case atStart=>exact⟨0,aa,ac,[],XC _,rfl,XB _,Aa (by rw[XR];exact az.o),Aa rfl,al,bo,bk⟩
 case round=>
  clear az al bo bk ar aq bh;obtain⟨k,f,j,t,hk,rfl,c0,ah,HM,a5,a6,HO⟩:=hrel
  rcases Yc k xs.length with cs|c4
  ·obtain⟨x,ai⟩:∃x,xs[k]? = some x:=⟨_,Y' cs⟩
   obtain⟨b1,d1,b2,d2,Ls,ev,hV⟩:=ah.o.snap;unfold K4 at ev;simp only[Value.agg.injEq,Array.mk.injEq,List.cons.injEq,Value.int.injEq,Value.slice.injEq] at ev;obtain⟨-,-,-,⟨e1,e2,e3⟩,-⟩:=ev;subst e1 e3;obtain⟨y,bg⟩:∃y,Ls[k]? = some y:=⟨_,Y' (by omega)⟩
   have a9:y.1=x.1:=by
    have h1:(xs.map (·.1))[k]? = some x.1:=by simp[ai]
    rw[cc.o,hV.qx,XN,bg] at h1;simpa using h1
   have b5:=XG ai;obtain⟨⟨⟨b,m,qv⟩,l0,xr⟩,ex⟩:∃q,q=x:=⟨_,rfl⟩;obtain⟨ye,⟨ma,mn,mc⟩⟩:=y;have bt:ye=(b,m,qv):=by rw[<-ex] at a9;exact a9
   subst bt ex;have ae:=hV.row
   obtain⟨fb,co,c3,e0,e1,cz⟩:∃fb,a2=some (Zd fb 0)/\fb<wr.1.size/\wr.cell? (Zd fb (k*3))=some (Zt b)/\wr.cell? (Zd fb (k*3+1))=some (Zi m)/\wr.cell? (Zd fb (k*3+2))=some (Zs ma mn mc):=by
    rcases ae.2 with⟨_,h0⟩|⟨fb,cx,cy,ev,_,hh,_,_,_⟩
    ·omega
    injection ev with ch _ _;subst ch;have hc:=ae.cells (g:=fb) rfl;simp only[E.addr_add] at hc
    have ba:∀(i:Nat)u,(Lv ((b,m,qv),ma,mn,mc))[i]? = some u->wr.cell? (Zd fb (k*3+i))=some u:=λi u hu=>by have:=hc (k*3+i) u (Hi (k:=3) (enc:=Lv) (λ_=>rfl) bg hu);simpa using this
    exact⟨fb,rfl,E.Ac hh,ba 0 _ rfl,ba 1 _ rfl,ba 2 _ rfl⟩
   subst co;obtain⟨ab,ad⟩:=ce.o _ b5;have cq:(k:Int)<(xs.length:Int):=by omega
   have a4:Hid ((xs.take (k+1)).flatMap (Vm s.qz T)=(xs.take k).flatMap (Vm s.qz T)++Vm s.qz T ((b,m,qv),l0,xr)):=Aa (by rw[S.Cs ai];simp);have bf:b.size<=maxLen:=by have:=(cb.o _ b5).1;unfold maxLen;simp only at this;omega
   have O:=Aa (Mh bf);have o:Hid (Zb wr (wr.alloc (Zk #[Zt b,Zi m,Zs ma mn mc] 122))):=Aa (Zal);have cw:=Aa (Yad wr (Zk #[Zt b,Zi m,Zs ma mn mc] 122));obtain⟨Da,bp,cf,bq⟩:=(a5.o.up o.o).ex;obtain⟨Df,br,cg,bs⟩:=(a6.o.up o.o).ex;have bj:=Aa (And.intro bp (bq b));have ag:=Aa (And.intro br (bs b));have cr:(Bo s.qz .nil xs).1.length<maxLen:=by have:=av.o.2;unfold maxLen;omega
   have b0:(Bo s.qz T xs).1.length<maxLen:=by have:=aw.o.2;unfold maxLen;omega
   simp only at ab ad;have a0:=Aa (And.intro ab ad);clear bp cf bq br cg bs hV ae a9 bg ai ab ad e2;go_wp2_with fail;have au:Hid (Vm s.qz T ((b,m,qv),l0,xr)=if Ct s.qz T ((b,m,qv),l0,xr)=[] then [] else if (Ct s.qz T ((b,m,qv),l0,xr)).length=(E4 s.qz ((b,m,qv),l0,xr)).length then [(2,b,0,[],[],0)] else [(3,b,0,Ct s.qz T ((b,m,qv),l0,xr),[],0)]):=Aa rfl;generalize Ct s.qz T ((b,m,qv),l0,xr)=PL at *;generalize (E4 s.qz ((b,m,qv),l0,xr)).length=NP at *;generalize Vm s.qz T ((b,m,qv),l0,xr)=GA at *;refine Ke Wl underlying207 (U5 _) ag.o.1 b0 O.o ?_;intro v5 d am ap b6 _;have cu:d=PL:=(Sd ag.o.2 am ap).trans a0.o.1;subst cu;obtain⟨da,dc,ci,_⟩:=Au ap.1;subst ci;have c8:d.length<=100000:=by have:=aw.o.2;omega
   have a3:=Aa (ah.o.up o.o);have P:=Aa (a5.o.up o.o);have R:=Aa (a6.o.up o.o);have ay:Hid (B.A0 (PA w base) w (wr.alloc (Zk #[Zt b,Zi m,Zs ma mn mc] 122))):=Aa (dC HO.o (B.A0.Ba o.o));have bz:base<=(wr.alloc (Zk #[Zt b,Zi m,Zs ma mn mc] 122)).1.size:=XJ (XJ cl HO.o.size) o.o.size;have bi:=Aa bz;clear am b6 bz HO ah a5 a6
   by_cases hq1:d=[]
   ·have N:Hid (GA=[]):=Aa (by rw[au.o,A2 hq1])
    have cm:((d.length:Nat):Int)=0:=by rw[hq1];rfl
    clear hq1;go_wp2
    go_roundw
    case rel=>refine⟨k+1,f,j,t,by omega,by simp,by omega,a3,Aa ?_,P,R,ay⟩;rw[HM.o,a4.o,N.o,XR]
    case measure=>simp only[Ev];omega
   have cm:¬((d.length:Nat):Int)=0:=λe=>hq1 (Yah.1 (by omega))
   go_wp2_with fail;refine Ke Wl underlying207 (U5 _) bj.o.1 cr O.o ?_;intro v6 af an Y b7 _;have aj:af.length=NP:=by rw[Sd bj.o.2 an Y];exact a0.o.2
   obtain⟨db,dd,cj,_⟩:=Au Y.1;subst cj;have c9:af.length<=100000:=by have:=av.o.2;omega
   clear an b7 Y
   by_cases hq2:d.length=af.length
   ·have N:Hid (GA=[(2,b,0,[],[],0)]):=Aa (by rw[au.o,A1 hq1,A2 (by rw[hq2,aj])])
    have cn:((d.length:Nat):Int)=((af.length:Nat):Int):=by omega
    have I:=Aa (N3 base pb s v a1 n1 c1 x2 _ xs.length c2 tx rd f j (L++t) qj _ a3.o bi.o 2 b 0 [] [] 0 none 0 0 none 0 0 ⟨XI _ _ _ _,XI _ _ _ _⟩ ⟨bf,XC _,(λx hx=>by cases hx)⟩ (by rw[XH];omega));clear hq1 hq2 aj;go_wp2_with fail;apply I.o.mono;rintro e w6⟨rfl,⟨a7,a8,U⟩,X⟩;have H6:=Aa (And.intro U X);clear U X I;go_wp2
    go_roundw
    case rel=>refine⟨k+1,a7,a8,t++[((2,b,0,[],[],0),(none,0,0),(none,0,0))],by omega,by simp,by simp;omega,Aa (by rw[<-XZ];exact H6.o.1),Aa ?_,Aa (P.o.pa H6.o.2),Aa (R.o.pa H6.o.2),Aa (dC ay.o H6.o.2)⟩;rw[XT,HM.o,a4.o,N.o];rfl
    case measure=>simp only[Ev];omega
   have N:Hid (GA=[(3,b,0,d,[],0)]):=Aa (by rw[au.o,A1 hq1,A1 (λe=>hq2 (by rw[e,aj]))]);have cn:¬((d.length:Nat):Int)=((af.length:Nat):Int):=by omega
   clear hq1 hq2 aj;go_wp2_with fail;refine Ke Wl underlying207 (U5 _) ag.o.1 b0 O.o ?_;intro v7 G ao p b8 _;have cv:G=d:=(Sd ag.o.2 ao p).trans a0.o.1;subst cv;obtain⟨b9,ca,ck,_⟩:=Au p.1;subst ck;have I:=Aa (N3 base pb s v a1 n1 c1 x2 _ xs.length c2 tx rd f j (L++t) qj _ a3.o bi.o 3 b 0 G [] 0 b9 G.length ca none 0 0 ⟨E.Ai p.1 (XC _),XI _ _ _ _⟩ ⟨bf,by show G.length<=600000;omega,(λx hx=>by cases hx)⟩ (by rw[XH];omega));clear ao b8 p;go_wp2_with fail;apply I.o.mono;rintro e w6⟨rfl,⟨a7,a8,U⟩,X⟩;have H6:=Aa (And.intro U X);clear U X I;go_wp2
   go_roundw
   case rel=>refine⟨k+1,a7,a8,t++[((3,b,0,G,[],0),(b9,G.length,ca),(none,0,0))],by omega,by simp,by simp;omega,Aa (by rw[<-XZ];exact H6.o.1),Aa ?_,Aa (P.o.pa H6.o.2),Aa (R.o.pa H6.o.2),Aa (dC ay.o H6.o.2)⟩;rw[XT,HM.o,a4.o,N.o];rfl
   case measure=>simp only[Ev];omega
  have cq:¬((k:Int)<(xs.length:Int)):=by omega
  have cp:k=xs.length:=by omega
  subst cp;have ax:=HM.o;rw[Ye] at ax;have cd:=Aa ax;clear ax;go_wp2;go_ret;exact⟨rfl,⟨f,j,t,ah.o,cd.o⟩,HO.o⟩
variable{w:Tw}{v:Tv}{L c r:List V}{l:List Aj}{s:Ah}{I k m:Nat}
def SlJ(I B:Nat)(w:World)(v:Value)(qj:List (List V)):Prop:=∃a:List Value,a.length=qj.length/\w.ownsRow B 61 1 v qj.length a/\∀(j:Nat)x r,a[j]? = some x->qj[j]? = some r->w.ownsRow I 55 3 x r.length (E.AHk r)
theorem AHj(I B:Nat)(w:Tw):SlJ I B w (Zs none 0 0) []:=⟨[],rfl,XI _ _ _ _,λj x r a=>by simp at a⟩
theorem SlJ.o{I B:Nat}{qj:List (List V)}(h:SlJ I B w v qj):Sc B w v qj:=by obtain⟨f,a,b,c⟩:=h;exact⟨f,a,b,λj x r e d=>E.Ai (c j x r e d) (XC _)⟩
theorem SlJ.snoc{I B:Nat}{W:Tw}{v v':Tv}{qj:List (List V)}{X:List Tv}{x:Tv}(g:X.length=qj.length)(i:w.ownsRow B 61 1 v qj.length X)(l:∀(j:Nat)x r,X[j]? = some x->qj[j]? = some r->w.ownsRow I 55 3 x r.length (E.AHk r))(s:w.ownsRow I 55 3 x r.length (E.AHk r))(o:w.grownBy W v.ownBlock)(p:W.ownsRow B 61 1 v' (qj.length+1) (X++[x])):SlJ I B W v' (qj++[r]):=by
 have c:∀{y:Tv}{n:Nat}{h:List Tv},w.ownsRow I 55 3 y n h->W.ownsRow I 55 3 y n h:=λa=>Az a o λk c e=>a8 i a (by decide) k e c
 refine⟨X++[x],by simp[g],?_,λj y q a b=>?_⟩
 ·simpa using p
 rcases Yc j X.length with f|d
 ·rw[XE f] at a
  rw[XE (by omega)] at b;exact c (l j y q a b)
 rw[XD d] at a;rw[XD (by omega)] at b;rw[g] at a;cases hj:j-qj.length with
 | zero=>rw[hj] at a b;simp at a b;subst a b;exact c s
 | succ m=>rw[hj] at a;simp at a
theorem X7(I B:Nat)(v:Tv)(rs:List Px)(w:Tw)(hF:Fp I B w v rs)(ao:rs.length<=100000):
 Zc 72 #[v] w λe w'=>∃v',e=Zr v'/\SlJ I w.1.size w' v' (rs.map (·.2.2))/\Zb w w':=by
 obtain⟨zs,e1,e2,e3⟩:=hF;obtain⟨fa,fc,rfl,_⟩:=Au e2;have W:=Aa e1;have X:=Aa e2;have Y:=Aa e3;obtain⟨iC,N,O,P,R⟩:=info_parts eI;have h:=Zy N O P R;clear e1 e2 e3 N O P R;go_enter func72,ntmps72;go_wp2_with fail
 go_loopw [3,8] (λvo vi wr=>∃(k:Nat)(a:To)(c:Nat),k<=rs.length/\vi=Zi (k:Int)/\vo=Zs a k c/\Hid (SlJ I w.1.size wr (Zs a k c) ((rs.take k).map (·.2.2)))/\Hid (Zb w wr)) (λ_ vi _=>rs.length-Ev vi)
 case atStart=>exact⟨0,none,0,XC _,rfl,rfl,Aa (AHj _ _ _),Aa (XA _ _)⟩
 case round=>
  obtain⟨k,a,c,hk,rfl,rfl,HO,p⟩:=hrel
  rcases Yc k rs.length with aj|an
  ·obtain⟨r,hr⟩:∃r,rs[k]? = some r:=⟨_,Y' aj⟩
   obtain⟨z,hz⟩:∃z,zs[k]? = some z:=⟨_,Y' (by have:=W.o;omega)⟩;obtain⟨_,_,o⟩:=Y.o k z r hz hr;obtain⟨zp,zi,zv⟩:=z;obtain⟨T,U,ez,_⟩:=Au o;simp only at ez;subst ez;have f:=E.Ad X.o p.o
   obtain⟨fb,ag,am,f0,f1,f2⟩:∃fb,fa=some (Zd fb 0)/\fb<wr.1.size/\wr.cell? (Zd fb (k*3))=some (Zt zp)/\wr.cell? (Zd fb (k*3+1))=some (Zi zi)/\wr.cell? (Zd fb (k*3+2))=some (Zs T r.2.2.length U):=by
    rcases f.2 with⟨_,h0⟩|⟨fb,ak,al,ev,_,hh,_,_,_⟩
    ·omega
    injection ev with af _ _;subst af;have hc:=f.cells (g:=fb) rfl;simp only[E.addr_add] at hc
    have n:∀(i:Nat)u,(Og (zp,zi,Zs T r.2.2.length U))[i]? = some u->wr.cell? (Zd fb (k*3+i))=some u:=λi u V=>by have:=hc (k*3+i) u (Hi (k:=3) (enc:=Og) (λ_=>rfl) hz V);simpa using this
    exact⟨fb,rfl,E.Ac hh,n 0 _ rfl,n 1 _ rfl,n 2 _ rfl⟩
   subst ag;have ai:(k:Int)<(rs.length:Int):=by omega
   have M:rs.take (k+1)=rs.take k++[r]:=S.Cs hr;have ae:Hid ((rs.take (k+1)).map (·.2.2)=(rs.take k).map (·.2.2)++[r.2.2]):=Aa (by rw[M];simp);have J:((rs.take k).map (·.2.2)).length=k:=by rw[XL,XQ];omega
   have HX:=Aa (E.Ad o p.o);obtain⟨vs,o1,o2,o3⟩:=HO.o;have ab:=Aa o1;have m:=Aa o2;have ac:=Aa o3;have t:=Aa J;obtain⟨t0,t1,t2,t3⟩:=C1 wr (Zk #[Zt zp,Zi zi,Zs T r.2.2.length U] 78) (Zk #[Zs T r.2.2.length U] 61);have b:=Aa t3;have aa:=Aa t2;have L:=p.o.size;clear M J o1 o2 o3 o f t0 t1 t2 t3
   go_wp2_with (first
    | (at_builtin;refine wpList_append_own _ rfl _ _ 35 rfl w.1.size 61 iC (.slice none 0 0) 1 24 underlying35 h.o.1 h.o.2.1 h.o.2.2.1 h.o.2.2.2 rfl (by decide) (.slice a k c) k vs rfl (by have q:=E.Ad m.o b.o;rw[t.o] at q;exact q) (Zd (wr.1.size+1) 0) 1 1 [.slice T r.2.2.length U] rfl rfl (λj u hj=>XK aa.o j u hj) (by intro u V;simp at V;subst V;rfl) (by unfold maxLen;omega) (by omega) (XJ L b.o.size) ?_
       intro v5 w5 d G _;have y:=Aa d;have s:=Aa G;clear d G))
   obtain⟨a',c',rfl,_⟩:=Au y.o;have D:=Ap p.o b.o;refine⟨⟨k+1,a',c',by omega,by simp,rfl,Aa ?_,Aa ?_⟩,by simp only[Ev];omega⟩
   ·rw[ae.o]
    refine SlJ.snoc ab.o (E.Ad m.o b.o) (λj x q hx hq=>E.Ad (ac.o j x q hx hq) b.o) (E.Ad HX.o b.o) s.o ?_;rw[t.o];exact y.o
   exact D.grown s.o D.size (λj hj=>Fu m.o hj)
  have ai:¬((k:Int)<(rs.length:Int)):=by omega
  have ah:k=rs.length:=by omega
  subst ah;have l:=HO.o;rw[Ye] at l;have ad:=Aa l;clear l;go_wp2;go_ret;exact⟨_,rfl,ad.o,p.o⟩
abbrev Vi:=ByteArray×V
def Wu(s:Vi):List Value:=[.string s.1,Zi s.2.1,Zi s.2.2.1,.string s.2.2.2]
structure Tgt(l:List Aj)(A3:List Vi)(ts:List Nat):Prop where
 len:ts.length=A3.length
 find:∀(j:Nat)(t:Nat)(s:Vi),ts[j]? = some t->A3[j]? = some s->Ce l s.1=t/\t<l.length
 once:ts.Nodup
theorem Tgt.nil(l:List Aj):Tgt l [] []:=⟨rfl,(λj t s h=>by simp at h),List.nodup_nil⟩
theorem Tgt.snoc{A3:List Vi}{ts:List Nat}(h:Tgt l A3 ts){s:Vi}{t:Nat}(n:Ce l s.1=t)(p:t<l.length)(o:¬t∈ts):Tgt l (A3++[s]) (ts++[t]):=by
 refine⟨by simp[h.len],λj t' s' c d=>?_,?_⟩
 ·rcases Yc j ts.length with g|f
  ·rw[XE g] at c
   rw[XE (by rw[<-h.len];exact g)] at d;exact h.find j t' s' c d
  rw[XD f] at c;rw[XD (by rw[<-h.len];exact f)] at d;rw[<-h.len] at d;cases hj:j-ts.length with
  | zero=>rw[hj] at c d;simp at c d;subst c d;exact⟨n,p⟩
  | succ m=>rw[hj] at c;simp at c
 rw[YN];exact⟨h.once,by simp,λa k b i e=>by simp at i;subst e i;exact o k⟩
def ints(ts:List Nat):List Int:=ts.map λ(t:Nat)=>(t:Int)
theorem uA(g cp:Nat)(l:List Aj)(sa:To)(sc:Nat)(A3:List Vi)(w:Tw)(hs:I1 w g 0 l)(h8:l.length<=8)(hS:F7 4 Wu w (Zs sa A3.length sc) A3)(ap:A3.length<=100):
 Zc 71 #[Zs (some (Zd g 0)) l.length cp,Zs sa A3.length sc] w λe w'=>Zb w w'/\((∃a c ts,e=Zr (Zu #[Zs a A3.length c,Zn])/\w'.ownsRow w.1.size 3 1 (Zs a A3.length c) A3.length ((ints ts).map (.int .i64))/\Tgt l A3 ts)\/(∃a n c T y,e=Zr (Zu #[Zs a n c,Zf T y]))):=by
 have aa:=Aa (λnm W(hW:Zb w W)=>E8 g 0 cp l nm W (hs.below hW) h8);have ae:=Aa hS;obtain⟨i0,hi,O,P,R⟩:=info_parts AGb;have o:=Zy hi O P R;clear hs hS hi O P R;go_enter func71,ntmps71;go_wp2_with fail
 go_loopw [6,12] (λvo vi wr=>∃(k:Nat)(a:To)(c:Nat)(ts:List Nat),k<=A3.length/\vi=Zi (k:Int)/\vo=Zs a k c/\Hid (wr.ownsRow w.1.size 3 1 (Zs a k c) k ((ints ts).map (.int .i64)))/\Hid (Tgt l (A3.take k) ts)/\Hid (Zb w wr)) (λ_ vi _=>A3.length-Ev vi)
 case atStart=>exact⟨0,none,0,[],XC _,rfl,rfl,Aa (XI _ _ _ _),Aa (Tgt.nil l),Aa (XA _ _)⟩
 case round=>
  obtain⟨k,a,c,ts,hk,rfl,rfl,HO,HT,U⟩:=hrel
  rcases Yc k A3.length with ak|an
  ·obtain⟨x,D⟩:∃x,A3[k]? = some x:=⟨_,Y' ak⟩
   obtain⟨b,off,cc,ev,_,am,d⟩:=(ae.o.up U.o).cons (by omega);injection ev with e1 _ e3;subst e1 e3;obtain⟨nm,vk,vn,vt⟩:=x;have q0:=d k _ D 0 _ rfl;have q1:=d k _ D 1 _ rfl;have q2:=d k _ D 2 _ rfl;have q3:=d k _ D 3 _ rfl;have aj:(k:Int)<(A3.length:Int):=by omega
   have N:ts.length=k:=by rw[HT.o.len,XQ];omega
   have L:=Aa N;have af:Hid (A3.take (k+1)=A3.take k++[(nm,vk,vn,vt)]):=Aa (S.Cs D);have X:Hid (Zb wr (wr.alloc (Zk #[Zt nm,Zi vk,Zi vn,Zt vt] 57))):=Aa (Zal);have p:=Aa (aa.o nm _ (Ap U.o X.o));have m:=Aa (Gz l nm);clear d D N;simp only[Nat.add_zero] at q0;obtain⟨fi,z⟩:∃fi,Ce l nm=fi:=⟨_,rfl⟩;rw[z] at p m;have Y:=Aa z;clear z;go_wp2_with fail;apply p.o.mono;rintro e w1⟨rfl,t⟩;have f:=Aa (Ap U.o (Ap X.o t));have r:=Aa (Bc HO.o (Ap X.o t));clear t p
   rcases m.o with⟨hf,_⟩|⟨j,V,hf,_⟩
   ·subst hf
    clear m;go_wp2_with fail;go_ret2;exact⟨f.o,.inr ⟨_,_,_,_,_,rfl⟩⟩
   subst hf;have ao:¬(j:Int)<0:=by omega
   have I:Hid (Ph w1 (Zs a k c) (ints ts)):=Aa (by have:=Ph.Fz (l:=ints ts) (v:=Zs a k c) (w:=w1) (base:=w.1.size) (by rw[show (ints ts).length=k by simp[ints,L.o]];exact r.o);exact this)
   have G:=Aa (Nc (Zs a k c) (ints ts) (j:Int) w1 I.o (by simp[ints,L.o];unfold maxLen;omega));clear m;go_wp2_with fail;apply G.o.mono;rintro e w2⟨rfl,rfl⟩;clear G I;cases hany:(ints ts).any λy=>(j:Int)==y with
   | true=>clear hany;go_wp2_with fail;go_ret2;exact⟨f.o,.inr ⟨_,_,_,_,_,rfl⟩⟩
   | false=>
     have ad:Hid (¬j∈ts):=Aa (λhm=>by have:=List.any_eq_false.1 hany (j:Int) (List.mem_map.2 ⟨j,hm,rfl⟩);simp at this)
     clear hany;have i:Hid (Zb w2 (w2.alloc (Zk #[Zi (j:Int)] 3))):=Aa (Zal);have al:=f.o.size;have ac:=Aa V;clear V
     go_wp2_with (first
      | (at_builtin;refine wpList_append_own _ rfl _ _ 27 rfl w.1.size 3 i0 (Zi 0) 1 8 underlying27 o.o.1 o.o.2.1 o.o.2.2.1 o.o.2.2.2 rfl (by decide) (.slice a k c) k _ rfl (Bc r.o i.o) (Zd w2.1.size 0) 1 1 [Zi (j:Int)] rfl rfl (λj u V=>XK (Yad _ _) j u V) (by intro u hu;simp at hu;subst hu;rfl) (by unfold maxLen;omega) (by omega) (XJ al i.o.size) ?_
         intro v5 w5 h M _;have J:=Aa h;have ab:=Aa M;clear h M))
     obtain⟨a',c',rfl,_⟩:=Au J.o;have ah:=(Ap f.o i.o).grown ab.o (Ap f.o i.o).size (λq hq=>Fu r.o hq)
     go_roundw
     case rel=>
      refine⟨k+1,a',c',ts++[j],by omega,by simp,rfl,Aa ?_,Aa ?_,Aa ah⟩
      ·simpa[ints] using J.o
      rw[af.o];exact HT.o.snoc Y.o ac.o ad.o
     case measure=>simp only[Ev];omega
  have aj:¬(k:Int)<(A3.length:Int):=by omega
  have ai:k=A3.length:=by omega
  subst ai;have s:=HT.o;rw[Ye] at s;have ag:=Aa s;clear s;go_wp2;go_ret2;exact⟨U.o,.inl ⟨a,c,rfl,ts,HO.o,ag.o⟩⟩
def Ly(ts:List Nat)(a:List V)(t:Nat):Option V:=((ts.zip a).find? λp=>p.1==t).map (·.2)
def tU(f:Nat->Option V)(r:List V):List V:=r.mapIdx λt x=>(f t).getD x
theorem AD5:∀{ts:List Nat}{L:List V}{i t:Nat}{v:V},ts.Nodup->ts[i]? = some t->L[i]? = some v->Ly ts L t=some v
 | [],_,_,_,_,_,h,_=>by simp at h
 | _ :: _,[],_,_,_,_,_,h=>by simp at h
 | a :: ts,b :: L,0,t,v,_,h1,h2=>by simp at h1 h2;subst h1 h2;simp[Ly]
 | a :: ts,b :: L,i+1,t,v,hn,h1,h2=>by
   rw[WL] at hn;simp at h1 h2;have d:=AD5 hn.2 h1 h2;have c:¬a=t:=λe=>hn.1 (e ▸ XG h1)
   unfold Ly at d ⊢;simp[c,d]
theorem bI:∀{ts:List Nat}{L:List V}{t:Nat}{v:V},Ly ts L t=some v->∃i:Nat,ts[i]? = some t/\L[i]? = some v
 | [],_,_,_,h=>by simp[Ly] at h
 | _ :: _,[],_,_,h=>by simp[Ly] at h
 | a :: ts,b :: L,t,v,h=>by
   by_cases e:a=t
   ·subst e
    simp[Ly] at h;exact⟨0,rfl,by simp[h]⟩
   have:Ly ts L t=some v:=by unfold Ly at h ⊢;simpa[e] using h
   obtain⟨i,c,d⟩:=bI this;exact⟨i+1,by simpa using c,by simpa using d⟩
def oI(f:Nat->Option V)(r c:List V):Prop:=∀t,t<r.length->c[t]? = r[t]? \/ ∃v,f t=some v/\c[t]? = some v
def fQ(f:Nat->Option V)(r c:List V):Prop:=∀t,t<r.length->c[t]? = some ((f t).getD (r[t]?.getD zV))
theorem oI.refl(f:Nat->Option V)(r:List V):oI f r r:=λ_ _=>.inl rfl
theorem oI.set{f:Nat->Option V}{r c:List V}(h:oI f r c){t:Nat}{v:V}(a:f t=some v)(d:c.length=r.length):oI f r (c.set t v):=λs b=>by
 by_cases e:t=s
 ·subst e
  exact .inr ⟨v,a,by rw[Yi (by omega)]⟩
 rw[Yo e];exact h s b
theorem fQ.set{f:Nat->Option V}{r c:List V}(h:fQ f r c){t:Nat}{v:V}(a:f t=some v)(d:c.length=r.length):fQ f r (c.set t v):=λs b=>by
 by_cases e:t=s
 ·subst e
  rw[Yi (by omega),a];rfl
 rw[Yo e];exact h s b
theorem fQ.eq{f:Nat->Option V}(h:fQ f r c)(d:c.length=r.length):c=tU f r:=by
 apply List.ext_getElem?;intro t;unfold tU;rw[List.getElem?_mapIdx]
 rcases Yc t r.length with a|b
 ·rw[h t a,Y' a]
  simp
 rw[Yb (by omega),Yb b];rfl
theorem oI.done{ts:List Nat}(h:oI (Ly ts L) r c)(f:∀(i t:Nat)v,ts[i]? = some t->L[i]? = some v->c[t]? = some v):fQ (Ly ts L) r c:=λt a=>by
 cases e:Ly ts L t with
 | some v=>obtain⟨i,b,d⟩:=bI e;rw[f i t v b d];rfl
 | none=>
   rcases h t a with q|⟨v,q,_⟩
   ·rw[q,Y' a]
    rfl
   rw[e] at q;cases q
theorem Ku(k n:Int)(a:Tb):∀(l:List V)(t:Nat),t<l.length->(((E.AHk l).set (t*3) (Zi k)).set (t*3+1) (Zi n)).set (t*3+2) (Zt a)=E.AHk (l.set t (k,n,a))
 | [],t,h=>absurd h (Yp _)
 | c :: l,0,_=>rfl
 | c :: l,t+1,h=>by
   have d:=Ku k n a l t (by simpa using h);have e:∀(y:V)(z:List V),E.AHk (y :: z)=[Zi y.1,Zi y.2.1,Zt y.2.2]++E.AHk z:=λ_ _=>rfl
   rw[e,XW,e,<-d];have b:(t+1)*3=t*3+3:=by omega
   rw[b];rfl
def vK(I:Nat)(w:World)(xs:List Value)(rs:List (List V))(f:Nat->Option V)(m k:Nat)(P:List V->Prop):Prop :=
 ∀(j:Nat)x r,xs[j]? = some x->rs[j]? = some r->∃c:List V,w.ownsRow I 55 3 x m (E.AHk c)/\c.length=m/\r.length=m/\oI f r c/\(j<k->fQ f r c)/\(j=k->P c)
def aL(w:World)(g i:Nat)(a b c:Value):World:=((w.setCell ⟨g,i,none⟩ a).setCell ⟨g,i+1,none⟩ b).setCell ⟨g,i+2,none⟩ c
theorem vR(w:Tw)(g i:Nat)(a b c:Tv):w.grownBy (aL w g i a b c) (some g):=Gp (Gp (Aq _ _ _ _) (Aq _ _ _ _)) (Aq _ _ _ _)
theorem AF9{base g m i:Nat}(h:w.ownsRow base 55 3 (Zs (some (Zd g 0)) m i) m (E.AHk c))(b:c.length=m){t:Nat}(d:t<m)(k n:Int)(a:Tb):(aL w g (t*3) (Zi k) (Zi n) (Zt a)).ownsRow base 55 3 (Zs (some (Zd g 0)) m i) m (E.AHk (c.set t (k,n,a))):=by rw[<-Ku k n a c t (by omega)];exact(((h.stored _ _).1.stored _ _).1.stored _ _).1
theorem vK.store{xs:List Tv}{rs:List (List V)}{f:Nat->Option V}{P P':List V->Prop}(h:vK I w xs rs f m k P){g n t:Nat}{y z:Int}{s:Tb}(W:xs[k]? = some (Zs (some (Zd g 0)) m n))(U:t<m)(G:f t=some (y,z,s))(O:∀c,c.length=m->P c->P' (c.set t (y,z,s))):vK I (aL w g (t*3) (Zi y) (Zi z) (Zt s)) xs rs f m k P':=λj x r b T=>by
 obtain⟨c,i,l,u,v,D,N⟩:=h j x r b T
 by_cases e:x.ownBlock=some g
 ·obtain⟨a,Y,M,_⟩:=Au i
  subst M
  have L:a=some (Zd g 0):=by
   rcases i.2 with⟨q,_⟩|⟨g',X,J,q,_⟩
   ·injection q with p _ _
    subst p;simp[Value.ownBlock] at e
   injection q with p _ _;subst p;simp[Value.ownBlock] at e;rw[e]
  subst L;exact⟨c.set t (y,z,s),AF9 i l U y z s,by rw[WK];exact l,u,v.set G (by omega),λd=>(D d).set G (by omega),λd=>O c l (N d)⟩
 refine⟨c,Az i (vR _ _ _ _ _ _) (λq R o=>?_),l,u,v,D,λd=>?_⟩
 ·injection o with o
  exact e (by rw[R,o])
 subst d;rw[W] at b;injection b with b;subst b;exact absurd rfl e
theorem vK.next{xs:List Tv}{rs:List (List V)}{ts:List Nat}{P':List V->Prop}(h:vK I w xs rs (Ly ts L) m k (λc=>∀(i t:Nat)v,ts[i]? = some t->L[i]? = some v->c[t]? = some v))(n:∀c,P' c):vK I w xs rs (Ly ts L) m (k+1) P':=λj x r hj hr=>by
 obtain⟨c,d,e,f,b,g,l⟩:=h j x r hj hr;refine⟨c,d,e,f,b,λp=>?_,λ_=>n c⟩
 rcases Yc j k with a|o
 ·exact g a
 exact b.done (l (by omega))
theorem vK.imp{xs:List Tv}{rs:List (List V)}{f:Nat->Option V}{P P':List V->Prop}(h:vK I w xs rs f m k P)(l:∀c,P c->P' c):vK I w xs rs f m k P':=λj x r n p=>by
 obtain⟨c,a,b,d,e,g,i⟩:=h j x r n p;exact⟨c,a,b,d,e,g,λo=>l c (i o)⟩
theorem vK.qj{I B:Nat}{xs:List Tv}{rs:List (List V)}{f:Nat->Option V}{P:List V->Prop}(h:vK I w xs rs f m rs.length P)(i:xs.length=rs.length)(k:w.ownsRow B 61 1 v rs.length xs):Sc B w v (rs.map (tU f)):=by
 refine⟨xs,by simp[i],by rw[XL];exact k,λj x r l a=>?_⟩;rw[XN] at a;cases hrj:rs[j]? with
 | none=>rw[hrj] at a;cases a
 | some q=>rw[hrj] at a;simp at a;obtain⟨c,b,d,n,o,g,p⟩:=h j x q l hrj;have e:=(g (Ax hrj)).eq (by omega);rw[<-a,<-e,d];exact E.Ai b (XC _)
theorem uI(h:Good Bv Cm s):∀c∈s.qz,Nz (bP c):=λc b=>by
 rcases h.qz with e|e
 ·rw[e] at b;cases b
 have d:=(e.2.2.1 c b).1.2.2.2;simp only[Cm,XY] at d;have a:=d.1;unfold A9 at a;unfold Nz bP;split at a
 ·rename_i h;exact .inl h
 split at a
 ·rename_i h;exact .inr (.inl h)
 split at a
 ·rename_i h;exact .inr (.inr h)
 cases a
def AIX(D:DataW Unit)(s:Ah)(xs:List A6)(T:S.CT)(a:DataW Unit)(b:Bool)(A:List A5)(qj:Int):Prop :=
 s.qz≠[]/\Ex s.qz T=0/\a=D/\b=true/\A=xs.flatMap (Vm s.qz T)/\qj=(Bo s.qz T xs).1.length
def AIV(s:Ah)(T:S.CT):Prop:=s.qz=[]\/Ex s.qz T≠0
theorem Lo(w0:Tw)(V bb n:Nat)(D:Td)(fs:List Int)(mv I:Tv)(H:List (Dn×Ah))(U:List Tb)(k:Tb)(O:Tv)(T:S.CT)(xs:List A6)(w:Tw)(h:iK w0 w V bb n D fs mv I H U k)(J:C7 D (Ae H H.length) xs)(P:S.Gy w T O):
 Zc 40 #[Zp (some (Zd bb 0)),Zt k,O] w (Kd w0 w V bb n D mv H k (λ_=>AIV (Ae H H.length) T) (AIX D (Ae H H.length) xs T)):=by
 have o:=Aa h;have d:=Aa (Wo bb n D mv H k xs T O w h.base.ground (h.et.below h.base.low) (h.Pw.below h.base.low) h.inv.Lm h.inv.past h.O5 h.name h.short J.Lz P)
 have m:=Aa (λ(z:Nat)(p:To)(n1 c1:Nat)(G:Int)(q:To)(n2 r:Nat)(qj:Int)(Y:Tv)W(L:Zb w W)(f:Ex (Ae H H.length).qz T=0)(u:Dv w.1.size W z (Ae H H.length) (H.length:Int) p n1 c1 G q n2 r k true none 0 [] qj)(s:Fp w.1.size w.1.size W Y (Bo (Ae H H.length).qz T xs).1)=>mL w.1.size bb n D mv z (Ae H H.length) (H.length:Int) p n1 c1 G q n2 r k true none 0 [] qj w.1.size Y T xs W (h.base.ground.up L) ((h.et.below h.base.low).below L) ((h.Pw.below h.base.low).below L) u L.size J.Lz h.Of s.AJP (all_filter _ T (uI h.Of) P.ok f xs J.Lz.each).1 (XC _))
 clear h J P;unfold tK at d;generalize y:Ae H H.length=sn at *;have N:=Aa y;clear y;go_enter func40,ntmps40;go_wp2_with fail;apply d.o.mono;rintro e w1⟨b,⟨f,rfl⟩|⟨f,j,rfl⟩|⟨f,R,z,v1,p,n1,c1,G,q,n2,r,rfl,u,s⟩⟩
 ·have g:=Aa b
  have M:=Aa f;clear f b d;go_wp2_with fail;go_ret2;exact⟨n,D,fs,mv,I,o.o.base.up g.o,by omega,B.A0.Ba g.o,λ_ e=>.inl e,.refl,.inr ⟨_,_,.inl M.o,rfl⟩⟩
 ·have g:=Aa b
  have M:=Aa j;rw[Et j];clear f b j d;go_wp2_with fail;go_ret2;exact⟨n,D,fs,mv,I,o.o.base.up g.o,by omega,B.A0.Ba g.o,λ_ e=>.inl e,.refl,.inr ⟨_,_,.inr M.o,rfl⟩⟩
 have l:=Aa b;have g:=Aa (And.intro f R);have HP:=Aa u;have i:=Aa (m.o z p n1 c1 G q n2 r _ v1 w1 b R u s)
 obtain⟨fa,fc,rfl,_⟩:∃a c,v1=Zs a (Bo sn.qz T xs).1.length c/\(Bo sn.qz T xs).1.length<=c:=by obtain⟨zs,_,e2,_⟩:=s;exact Au e2
 clear b f R u s d m;go_wp2_with fail;apply i.o.mono;rintro e w2⟨rfl,⟨aa,ac,Lq,v,t⟩,x⟩;have H2:=Aa (And.intro v (And.intro t x));clear v t x i;go_wp2_with fail;go_ret2;have X:=(Mv.below (base:=w.1.size) (bb:=bb) (mv:=mv) l.o).trans (Mv.ACV H2.o.2.2);refine⟨n,D,fs,mv,I,Kv (o.o.base.up l.o) o.o.nf o.o.base.low.size H2.o.2.2,by omega,X.o (XB _),X.link,.refl,.inl ⟨z,Lq,true,_,p,n1,c1,G,q,n2,r,aa,ac,rfl,by rw[N.o];exact H2.o.1,g.o.1,g.o.2,rfl,rfl,H2.o.2.1,rfl⟩⟩
theorem iD(qk:Tb)(qv:List Int)(l:List Aj)(T:S.CT):∀(rs:List (List V))(p:Int),∀z∈Jw qk qv l T p rs,z.2.2∈rs
 | [],_,z,a=>by cases a
 | r :: rs,p,z,a=>by
   simp only[Jw] at a;split at a
   ·rcases List.mem_cons.1 a with rfl|a
    ·exact XF ..
    exact Yf _ (iD qk qv l T rs _ z a)
   exact Yf _ (iD qk qv l T rs _ z a)
theorem ADa{x:A6}{z:Px}(a:z∈E4 l x):z.2.2.length=l.length:=by obtain⟨q,_,e⟩:=List.mem_map.1 (iD _ _ _ _ _ _ z a);rw[<-e,XL]
theorem AC5{s t:Ah}{a:A5}(h:pQ Bx Bv Cm s a t)(d:Fh a)(b:∀c∈s.qz,Ib c):∀c∈t.qz,Ib c:=by
 rcases h with⟨_,_,rfl⟩|⟨_,_,rfl⟩|⟨_,_,rfl⟩|⟨_,_,rfl⟩
 ·exact b
 ·exact b
 ·exact b
 exact d.qz
theorem AMk:∀{l:List A5}{s t:Ah},Il Bx Bv Cm s l t->(∀a∈l,Fh a)->(∀c∈s.qz,Ib c)->∀c∈t.qz,Ib c
 | [],_,_,h,_,hs=>by simp only[Il] at h;subst h;exact hs
 | a :: l,s,t,⟨u,h1,h2⟩,hl,hs=>AMk h2 (λb d=>hl b (Yf _ d)) (AC5 h1 (hl a (XF ..)) hs)
theorem gH:∀{s:Ah}{H:List (Dn×Ah)},Xv s H->(∀c∈s.qz,Ib c)->∀k,k<=H.length->∀c∈(Ic s (H.take k)).qz,Ib c
 | _,_,_,hs,0,_=>by simpa[Ic] using hs
 | _,x :: l,h,hs,k+1,hk=>by have:=gH (s:=x.2) (H:=l) h.2.2 (AMk h.1.2 h.2.1.lines hs) k (by simpa using hk);simpa[Ic] using this
theorem Mq{H:List (Dn×Ah)}(h:La H)(b:k<=H.length):∀c∈(Ae H k).qz,Ib c:=gH h (λc a=>by cases a) k b
theorem AFe{c:Aj}{v:V}(h:Lx c v=true):v.2.2.size<=40:=by unfold Lx Cm at h;simp only[XY] at h;exact Go.Proofs.YthpcepcghakimaaGreatDoor.gA (k:=v.1) (n:=v.2.1) h.1
theorem AIe{L:List Aj}(d:∀v∈r,Ks v)(f:r.length=L.length)(b:∀c∈l,Ks (bP c)):∀v∈l.map (pick (By L) r),Ks v:=λv e=>by
 obtain⟨c,a,rfl⟩:=List.mem_map.1 e;rw[eV];unfold pick
 by_cases hp:pos L c.1<L.length
 ·rw[A2 hp,Y' (by omega)]
  exact d _ (Yg _)
 rw[A1 hp];exact b c a
theorem No{D:Td}{xs:List A6}(m:C7 D s xs)(t:Good Bv Cm s)(r:∀c∈s.qz,Ib c):∀z∈(Bo s.qz .nil xs).1,∀v∈z.2.2,Ks v/\v.2.2.size<=40:=λz p v i=>by
 rw[H9] at p;obtain⟨x,o,k⟩:=List.mem_flatMap.1 p;have d:=m.Lz.each x o;obtain⟨q,g,e⟩:=List.mem_map.1 (iD _ _ _ _ _ _ z k);have a:=kA (m.link x o) ((B4.mp d.ok).2.2.2 q g) (sM t);have h:=(O7.mp ((B4.mp d.ok).2.2.2 q g)).1;rw[<-e] at i;refine⟨AIe (d.i64 q g) h (λc b=>(r c b).num) v i,?_⟩;obtain⟨j,n,rfl⟩:=List.mem_iff_getElem.mp i;have f:j<s.qz.length:=by simpa using n
 have l:=((O7.mp a).2 j f).1;rw[Y' n] at l;exact AFe l
