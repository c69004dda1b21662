/- WHO WRITES AT ONCE WRITES ONE AFTER THE OTHER, proved: at every list of steps and every list of faults millpondkeep.TableSerial returns true and leaves its arguments as they were; its condition: the lists, the tables of the library, the two errors of strconv and the handle of the type error that the row names start as the text of the program lays them. -/
import Derived.Test.YthafikkkjfielaaGreatDoorZHl
import Derived.Test.YthafikkkjfielaaGreatDoorCards
import Derived.Test.YthafikkkjfielaaGreatDoorTie
import Derived.Deep.DeepHandedRow
import Derived.LaidMore
import Derived.Lay
import Derived.Stop.LaidErr
set_option maxHeartbeats 40000000
set_option maxRecDepth 100000
open Nat renaming le_refl->Y',zero_le->XA,le_trans->XI,le_succ->XT,zero_mul->XU,add_zero->XV
open List renaming length_map->XB,not_mem_nil->XD,length_append->XG,getElem?_append_right->XK,getElem?_append_left->XL,append_assoc->XM,getElem?_eq_getElem->XN,getElem?_toArray->XO,mem_of_mem_drop->XP,mem_of_getElem?->XQ
open Go.World renaming putObj_heap_other->XC,block_lt_of_cell?->XE,var?_cell->XH,ownsRow_nil->XR
open Go.RowKit.Below renaming refl->XF,heap_setCell->XJ,trod->XW
namespace Go.Proofs.YthafikkkjfielaaGreatDoor
open _root_.Go.Proofs.Tryz RowKit Shelf Joins Lib Deep ChangeShapes WideShapes ChangeAt
open ChangeMaps (open_string shut_string)
namespace F
variable{W w:Tw}{n:Nat}{u v:Tv}
attribute [local go_sem] Oper.semAt_some
theorem one_cell{b:Nat}{x:Tv}{T:TypeId}(h:W.1[b]? = some (Zk #[x] T)):W.cell? (Zd b 0)=some x:=by simp[World.cell?,h]
theorem Dv.far{base:Nat}{w:Tw}{n:Nat}{s:Ah}{v:Int}{f:To}{n1 c1:Nat}{y:Int}{g:To}{n2 k:Nat}{p:Tb}{D:Bool}{j:To}{i:Nat}{L:List Gx}{qj:Int}{W:Tw}{b:Nat}{cs:Array Tv}{t:TypeId}(h:Dv base w n s v f n1 c1 y g n2 k p D j i L qj)(a:w.1[b]? = some (Zk cs t (0,0)))(o:w.grownBy W (some b))(O:t≠58)(P:t≠111)(R:t≠69)(U:t≠143)(V:t≠3):Dv base W n s v f n1 c1 y g n2 k p D j i L qj:=by
 have c:∀{l z m:Nat}{T:TypeId}{u:Tv}{xs:List Tv},w.ownsRow l T z u m xs->t≠T->W.ownsRow l T z u m xs:=λY X=>Mk Y a X o
 refine⟨(o.block n (Ac h.box) ?_).trans h.box,?_,c h.row P,λq r=>⟨c (h.own q r).1 (by assumption),c (h.own q r).2 (by assumption)⟩,h.Vv,h.low⟩
 ·intro e
  injection e with e;subst e;rw[h.box] at a;injection a with a;injection a with _ a;exact O a.symm
 obtain⟨I,M,J,N,G,e,d⟩:=h.snap;exact⟨I,M,J,N,G,e,c d.qz R,d.qx,c d.row U,λx hx=>c (d.Cl x hx) V⟩
theorem AGq{P:Program}{c:Code}{K:Act->Tw->Prop}{Q:Exit->Act->Tw->Prop}{a:Act}(h:c.wp P (Exit.then K (λ_ _ _=>False)) a w):c.wp P (Exit.then K Q) a w :=
 wp_mono h λe _ _ q=>by
  cases e with
  | normal=>exact q
  | _=>exact q.elim
theorem AKh{b:Nat}{u f a e c d j g:Tv}{t:TypeId}(h:W.1[b]? = some (Zk #[u,f,a,e,c,d,j,g] t (0,0)))(v:Tv):(W.setCell (Zd b 6) v).heap[b]? = some (Zk #[u,f,a,e,c,d,v,g] t (0,0)):=by have i:=As W b 6 _ _ v h;simpa using i
theorem Dv.Bz{base:Nat}{s:Ah}{v:Int}{l:To}{n1 c1:Nat}{y:Int}{o:To}{n2 k:Nat}{t:Tb}{r:Bool}{G:To}{i:Nat}{L:List Gx}{qj:Int}{g m c:Nat}{a:List Gx}(h:Dv base w n s v l n1 c1 y o n2 k t r G i L qj)(V:w.ownsRow base 111 6 (Zs (some (Zd g 0)) m c) m (Ci a))(U:m=a.length)(p:∀q∈a,pC 0 w q)(P:∀q∈a,pM q.1):Dv base (w.setCell (Zd n 6) (Zs (some (Zd g 0)) m c)) n s v l n1 c1 y o n2 k t r (some (Zd g 0)) c a qj:=by
 subst U;have R:=E.Ar w n 6 (Zs (some (Zd g 0)) a.length c);have d:∀{b z m:Nat}{T:TypeId}{u:Tv}{xs:List Tv},w.ownsRow b T z u m xs->T≠58->(w.setCell (Zd n 6) (Zs (some (Zd g 0)) a.length c)).ownsRow b T z u m xs:=λW O=>Mk W h.box (λe=>O e.symm) R
 refine⟨AKh h.box _,?_,d V (by decide),λq f=>⟨d (p q f).1 (by decide),d (p q f).2 (by decide)⟩,P,h.low⟩;obtain⟨I,M,J,N,D,e,j⟩:=h.snap;exact⟨I,M,J,N,D,e,d j.qz (by decide),j.qx,d j.row (by decide),λx X=>d (j.Cl x X) (by decide)⟩
theorem AEx(h:w.cell? (Zd n 3)=some u):(w.setCell (Zd n 6) v).cell? (Zd n 3)=some u:=by rw[YF _ _ _ _ (by simp)];exact h
theorem Ei{n b:Nat}(a:b≠n)(h:w.cell? (Zd b 0)=some u):(w.setCell (Zd n 6) v).cell? (Zd b 0)=some u:=by rw[World.cell?_setCell_far _ _ _ _ (Ne.symm a)];exact h
def ldA:Oper:={ dst:=some 52,op:=Op.load 51 (Operand.tmp 51),type:=51,pos := "rows.go:83",after:=#[{ on:=10,ground:=Ground.data }],guard:=none }
theorem AGS:ldA={ dst:=some 52,op:=Op.load 51 (Operand.tmp 51),type:=51,pos := "rows.go:83",after:=#[{ on:=10,ground:=Ground.data }],guard:=none }:=rfl
theorem rK(w0:Tw)(NF bb n:Nat)(D:Td)(fs:List Int)(mv fv:Tv)(H:List (Dn×Ah))(U:List Tb)(tx:Tb)(xs:List A6)(w:Tw)(h:iK w0 w NF bb n D fs mv fv H U tx)(hT:C7 D (Ae H H.length) xs):
 Zc 26 #[Zp (some (Zd bb 0)),Zt tx] w (Kd w0 w NF bb n D mv H tx (AMN (Ae H H.length) NF) (AEz D (Ae H H.length) xs tx)):=by
 have O:=Aa h;have HT:=Aa hT;obtain⟨es,hX,hY,hZ,bp⟩:=Jl w (Zk #[Zp (some (Zd bb 0))] 25) (Zk #[Zp none] 30) (Zk #[Zn] 45);have h3:=h.up bp;have a6:=Aa (Wo bb n D mv H tx xs .nil (Zp none) _ h3.base.ground (h3.et.below h3.base.low) (h3.Pw.below h3.base.low) h3.inv.Lm h3.inv.past h3.O5 h3.name h3.short hT.Lz rfl);have bh:=aN hT h.Of .nil;have ed:=h.Of.Iz;have a5:=Aa bp;have HX:=Aa (And.intro hX (And.intro hY hZ));have ag:=Aa h3;clear h hT h3 hX hY hZ bp;unfold tK at a6;generalize de:Ae H H.length=l at *;have ao:=Aa de;clear de;refine(callsIn_wide (n:=5)).1 ?_;refine callsIn_of_wp_marks func26 rfl trivial ?_ rfl;simp only[ntmps26,List.size_toArray,List.length_cons,List.length_nil,Nat.reduceAdd,Nat.reduceSub,Array.replicate_succ,Array.replicate_zero,List.push_toArray,List.append_toArray,List.nil_append,List.cons_append];refine wpIn_wide.2 ?_;go_wp2_with fail;generalize ((w.alloc (Zk #[Zp (some (Zd bb 0))] 25)).alloc (Zk #[Zp none] 30)).alloc (Zk #[Zn] 45)=W3 at *;apply a6.o.mono;rintro e w1⟨ap,⟨hc,rfl⟩|⟨hc,d5,rfl⟩|⟨hc,hz,g,v1,a1,n1,c1,x2,a2,n2,c2,rfl,hP,hF⟩⟩
 ·have r1:=(ap.block (w.1.size+1) (by omega)).trans HX.o.2.1
  have r2:=(ap.block (w.1.size+2) (by omega)).trans HX.o.2.2;have b9:=Aa (Ap a5.o ap);have hA:Zb w1 (w1.alloc (Zk #[Zp none] 30)):=Zal;have HA:=Aa hA;have dh:=(hA.block _ (Ac r1)).trans r1;have bg:=(hA.block _ (Ac r2)).trans r2;have f1:=one_cell dh;have f2:=one_cell bg;have g1:=Yaf _ (w.1.size+1) 0 _ _ dh;have g2:=Yaf _ (w.1.size+2) 0 _ _ bg;have dk:=Aa hc;clear hc ap a6 hA r1 r2;go_wp2;refine⟨Zu #[Zp none,Zf 91 (Zi 6)],by simp[results,results26,go_sem,f1,f2],?_⟩;have a0:=((Ap b9.o HA.o).setCell (p:=Zd (w.1.size+1) 0) (XT _) (Zp none)).setCell (p:=Zd (w.1.size+2) 0) (by show w.1.size<=w.1.size+2;omega) (Zf 91 (Zi 6));exact⟨n,D,fs,mv,fv,O.o.base.up a0,by omega,B.A0.Ba a0,λ_ e=>.inl e,.refl,.inr ⟨_,_,.inl ⟨dk.o,rfl⟩,rfl⟩⟩
 ·exact absurd (dB _) d5
 have b9:=Aa ap;have HC:=Aa hc;have HP:=Aa hP;have HF:=Aa hF
 obtain⟨fa,fc,rfl,_⟩:∃a c,v1=Zs a (Bo l.qz .nil xs).1.length c/\(Bo l.qz .nil xs).1.length<=c:=by obtain⟨zs,_,e2,_⟩:=hF;exact Au e2
 have hA:Zb w1 (w1.alloc (Zk #[Zp (some (Zd g 0))] 30)):=Zal;have HA:=Aa hA;have b0:=Yac w1 (Zk #[Zp (some (Zd g 0))] 30);have N:=Aa b0;have p0:=one_cell b0;have cp:=Aa (hP.up hA);obtain⟨y0,y1,y2,y3,y4,y5,y6,y7,yf⟩:=F2 (hP.up hA).box;have a8:=Aa (nW l (H.length:Int) a1 n1 c1 x2 a2 n2 c2 (Bo l.qz .nil xs).1.length _ (hP.up hA).snap (by omega) (by omega));have ds:=Aa (Ap ap hA);clear ap hc hz hP hF a6 hA b0;generalize c9:(Bo l.qz .nil xs).1.length=m at *;have aw:=Aa c9;clear c9;go_wp2_with fail;apply a8.o.mono;rintro e w6⟨q,rfl,hq,bd⟩;have HQ:=Aa hq;have M:=Aa bd;have ax:=Aa (Ap ds.o bd);have p6:=Ag bd p0;clear bd hq a8 y0 y1 y2 y3 y4 y5 y6 y7 yf p0;cases q with
 | true=>have a8:=Aa (HQ.o.1 rfl);clear HQ;have r1:=(ax.o.block (w.1.size+1) (by omega)).trans HX.o.2.1;have r2:=(ax.o.block (w.1.size+2) (by omega)).trans HX.o.2.2;have f1:=one_cell r1;have f2:=one_cell r2;have g1:=Yaf w6 (w.1.size+1) 0 _ _ r1;have g2:=Yaf w6 (w.1.size+2) 0 _ _ r2;go_wp2;refine⟨Zu #[Zp (some (Zd g 0)),Zn],by simp[results,results26,go_sem,f1,f2],?_⟩;have a0:Zb w ((w6.setCell (Zd (w.1.size+1) 0) (Zp (some (Zd g 0)))).setCell (Zd (w.1.size+2) 0) Zn):=((Ap a5.o ax.o).setCell (p:=Zd (w.1.size+1) 0) (XT _) _).setCell (p:=Zd (w.1.size+2) 0) (by show w.1.size<=w.1.size+2;omega) _;have q1:=(cp.o.up M.o).far r1 (E.Ar w6 (w.1.size+1) 0 (Zp (some (Zd g 0)))) (by decide) (by decide) (by decide) (by decide) (by decide);have bg:=((E.Ar w6 (w.1.size+1) 0 (Zp (some (Zd g 0)))).block (w.1.size+2) (Ac r2) (by simp)).trans r2;have q2:=q1.far bg (E.Ar _ (w.1.size+2) 0 Zn) (by decide) (by decide) (by decide) (by decide) (by decide);exact⟨n,D,fs,mv,fv,O.o.base.up a0,by omega,B.A0.Ba a0,λ_ e=>.inl e,.refl,.inl ⟨g,[],true,(m:Int),a1,n1,c1,x2,a2,n2,c2,none,0,rfl,by rw[ao.o];exact⟨q2.box,q2.snap,E.Ai q2.row (by omega),q2.own,q2.Vv,by have:=q2.low;omega⟩,HC.o,rfl,(by rw[aw.o]),.inl ⟨(by rw[aw.o];exact a8.o),rfl,rfl⟩⟩⟩
 | false=>
   have ck:Hid (¬Tog l m):=Aa (λh=>by cases HQ.o.2 h);clear HQ;obtain⟨R,hR⟩:∃R,R=Fc l.qz xs:=⟨_,rfl⟩
   have dn:Hid (∀k,k<n60 R.length->De l.qz (Gg R k)=true):=Aa (λk hk=>by have ae:=O.o.Of;have d7:=O.o.inv.next H.length (Y' _);have O5:=O.o.O5;rw[ao.o] at ae d7;refine ALD (ALu (ae.qz.resolve_left HC.o) (by show _<=(1099511627777:Int);omega)) (λr hr=>?_) (List.mem_map.2 ⟨k,List.mem_range.2 hk,rfl⟩);rw[hR] at hr;exact HT.o.right (sM ae) r hr)
   have dw:R.length=m:=by rw[hR];unfold Fc;rw[XB];exact aw.o
   have cr:=Aa (X7 W3.1.size W3.1.size (Zs fa m fc) (Bo l.qz .nil xs).1 w6 ((HF.o.up HA.o).up M.o) (by rw[aw.o];omega));have HR:=Aa hR;clear hR;subst dw;go_wp2_with fail;apply cr.o.mono;rintro e w7⟨v7,rfl,hJ,c6⟩;have bw:Sc w6.1.size w7 v7 R:=by rw[HR.o];exact hJ.o
   have c3:=bw.slr;obtain⟨ra,rc,rfl,d8⟩:=c3.slice;have cn:=Aa bw;have av:=Aa c6;have cc:=Aa (qS ra R.length rc w7);clear cr hJ c6 bw c3;go_wp2_with fail;apply cc.o.mono;rintro e w8⟨rfl,rfl⟩;clear cc;obtain⟨ew,c4,cy,bx⟩:=Kt w7 (Zk #[Zs ra R.length rc] 33) (Zk #[Zi 60] 3);have u:=Aa (Ap (Ap ax.o av.o) bx);go_wp2_with fail;generalize (w7.alloc (Zk #[Zs ra R.length rc] 33)).alloc (Zk #[Zi 60] 3)=W9 at *
   have cs:Hid (∀r∈R,∀v∈r,Ks v/\v.2.2.size<=40):=Aa (λr hr v hv=>by rw[HR.o] at hr;obtain⟨z,hz,rfl⟩:=List.mem_map.1 hr;exact No HT.o (by rw[<-ao.o];exact O.o.Of) (by rw[<-ao.o];exact Mq O.o.inv.past (Y' _)) z hz v hv)
   obtain⟨k0,d2,el⟩:=AGz O.o (by rw[ao.o];exact HC.o);subst d2;have ev:=av.o.size;have eu:=ax.o.size;have ai:=Aa bx;have d1:W9.cell? (Zd w7.1.size 0)=some (Zs ra R.length rc):=one_cell c4;have dz:W9.cell? (Zd (w7.1.size+1) 0)=some (Zi 60):=one_cell cy
   obtain⟨rb,ro,dd⟩:∃rb ro,0<R.length->ra=some (Zd rb ro):=by
    by_cases h0:0<R.length
    ·obtain⟨vs,ea,ex,ey⟩:=cn.o.slr
     obtain⟨rb,ro,e3,er,_,_,_⟩:=ea.cons (by omega);injection er with du _ _;exact⟨rb,ro,λ_=>du⟩
    exact⟨0,0,λh=>absurd h h0⟩
   have dr:=Aa (((cp.o.up M.o).up av.o).up ai.o);have b:=Aa (ag.o.base.up u.o);clear bx;refine(wpIn_wide (n:=5)).1 ?_
   refine wpIn_rangeFunc_ownG (w0:=W9) rfl (by decide) (gf:=88) (lb:=#[Zp (some (Zd w7.1.size 0)),Zp (some (Zd (w7.1.size+1) 0))]) (by rfl) trivial (enters_of func88 (by kernel_rfl) rfl)
    (jC _ (by decide) w7.1.size (w7.1.size+1) rb ro R.length rc ra dd (by omega) d8 W9 (by omega) (by omega) d1 dz) KpC.t ?hKb (XF _ _) (λ_=>rfl) (CmI w0 NF bb n D k0 W3.1.size g l (H.length:Int) a1 n1 c1 x2 a2 n2 c2 tx (R.length:Int) R W9) (λc _ W=>c=.ret/\NF≠0/\∃T x n' D' ah al,Ey w0 W NF bb n' D' ah (.map (some k0)) al/\n'<=n+50/\Grown tx D D'/\B.A0 (B.Own bb (.map (some k0))) w W/\W.1[w.1.size+1]? = some (Zk #[Zp none] 30)/\W.1[w.1.size+2]? = some (Zk #[Zf T x] 45)) (CmI.own (by omega) (XI ag.o.base.low.size u.o.size) (Y' _)) ?ownX ⟨n,fs,fv,none,0,[],b.o,Y' _,dr.o,rfl,(λk hk=>by cases hk),Mv.refl⟩ ?a1 ?assign ?body ?done ?stop
   case hKb=>
    intro W q o1 o2 hq ep _ _;constructor
    ·unfold World.cell?;rw[XC (by show w7.1.size≠q;omega)]
    unfold World.cell?;rw[XC (by show w7.1.size+1≠q;omega)]
   case ownX=>
    intro c s A C row hs hg hr;obtain⟨e,bv,T,x,n',D',ah,al,h1,h2,h3,h4,h5,h6⟩:=hs;have dc:∀r,row=some r->∃o:Obj,A.1[r]? = some o/\o.isCells=false:=λr e=>(hr r e).2
    exact⟨e,bv,T,x,n',D',ah,al,bF h1 (by omega) (XI ag.o.base.low.size u.o.size) hg hr,h2,h3,h4.grown hg (λm e hm=>by have:=(hr m e).1;omega),vX h5 hg dc,vX h6 hg dc⟩
   case assign=>intro q x W K hK;gi_wp2;exact hK
   case stop=>rintro D1 c pre W bq _⟨rfl,bv,T,x,n',D',ah,al,h1,h2,h3,h4,h5,h6⟩hK;gi_wp2;have b5:=(XC (w:=W) (r:=D1) (k:=w.1.size+1) (o:=.deferred none) (by omega)).trans h5;have b6:=(XC (w:=W) (r:=D1) (k:=w.1.size+2) (o:=.deferred none) (by omega)).trans h6;have f1:=one_cell b5;have f2:=one_cell b6;refine⟨by simp,.inl ⟨_,_,rfl,run_takeDeferred hK,?_⟩⟩;refine⟨Zu #[Zp none,Zf T x],by simp[results,results26,go_sem,f1,f2],?_⟩;have ae:=grownBy_putObj' W D1 (.deferred none);exact⟨n',D',ah,_,al,bF (B0:=W9.1.size) h1 (by omega) (XI ag.o.base.low.size u.o.size) ae (λr e=>by cases e;exact⟨bq,_,hK,rfl⟩),h2,h4.grown ae (λm e hm=>by cases e;omega),λ_ e=>.inl e,h3,.inr ⟨T,x,.inr bv,rfl⟩⟩
   case body=>
    rintro q pre k W⟨n',ah,al,aa,ac,L,ab,an,G,hL,am,d⟩eo;have em:=k.2;have c8:k.1<n60 R.length:=by unfold n60;omega
    have a3:n60 R.length<=40:=nH bh
    have bt:L.length=pre.length:=by have:=congrArg List.length hL;rw[XB,eQ,XB] at this;exact this
    have bz:=d.zG b.o.bu ((u.o.block w.1.size (by omega)).trans HX.o.1) (by decide) (by decide) (by decide);have X:=d.zG b.o.bu ((ai.o.block w1.1.size (by have:=Ac N.o;have:=M.o.size;omega)).trans ((av.o.block w1.1.size (by have:=Ac N.o;have:=M.o.size;omega)).trans ((M.o.block w1.1.size (Ac N.o)).trans N.o))) (by decide) (by decide) (by decide);have c0:=one_cell bz;have ej:=one_cell X;have b7:=(d.slO b.o.bu (cn.o.up ai.o)).slr;rw[dd (by omega)] at b7;have c7:=qF b7 rfl k;have dx:=d.only.size;have en:=bU c8
    have a7:=Aa (bK w0 NF W3.1.size bb n' _ ah (.map (some k0)) al g l (H.length:Int) a1 n1 c1 x2 a2 n2 c2 tx true aa ac L (R.length:Int) (ACt rb ro R.length k) (Gg R k.1) W ab ag.o.nf ag.o.base.low.size (by have:=O.o.Iz;omega) (uX _ _ _ _ _ O.o.inv.Lm.1) G (by omega) (by rw[<-ao.o];exact O.o.Of) O.o.et c7 (by omega) (λr hr v hv=>by have:=cs.o r (XP (Ym hr)) v hv;unfold maxLen;omega) (λr hr v hv=>(cs.o r (XP (Ym hr)) v hv).1) O.o.short (by omega) (lC tx O.o.plain _ _ _ _ _ (by rw[XB];omega) (by omega) (O.o.free _)))
    have cj:Hid (ah.headD 0=1->NF≠0):=Aa (λh1 e0=>by subst e0;rw[bJ ab] at h1;exact absurd h1 (by decide))
    have ci:=Aa (dn.o k.1 c8);unfold AIr at a7;have HI:=Aa (And.intro ab (And.intro an (And.intro G (And.intro hL (And.intro am d)))));have dj:=Aa (And.intro bz X);clear ab an G hL am d bz X b7 c7;generalize ek:ACt rb ro R.length k=cv at *;gi_wp2_with fail;refine⟨trivial,(CallsIn.inRound q (callsIn_wide.2 a7.o)).mono ?_⟩;rintro e W'⟨ec,eg,ct,ef,cu,bc,da,ad,h⟩;have dt:=ad.stay k0 rfl;subst dt;have HM:=Aa ad;have di:=Aa bc
    rcases h with⟨rfl,db,_,rfl,rfl,eh,ei,cz⟩|⟨T,x,rfl,rfl,bk⟩
    ·have bi:=CmI.step (W8:=W9) (n:=n) HI.o.2.1 HI.o.2.2.2.1 HI.o.2.2.2.2.1 HI.o.2.2.2.2.2 bc da ad db cz
     have cd:=Aa bi;have bm:=Aa (CmI.keeps (B0:=W9.1.size) HI.o.1 (by omega) ad)
     have dl:Hid (KpC w7.1.size (w7.1.size+1) W W'):=Aa (by have e1:=HI.o.2.2.2.2.2.zG b.o.bu c4 (by decide) (by decide) (by decide);have e2:=HI.o.2.2.2.2.2.zG b.o.bu cy (by decide) (by decide) (by decide);exact⟨by rw[one_cell e1,one_cell (ad.zG HI.o.1.bu e1 (by decide) (by decide) (by decide))],by rw[one_cell e2,one_cell (ad.zG HI.o.1.bu e2 (by decide) (by decide) (by decide))]⟩)
     clear bi bc ad cz db a7;gi_wp2;exact⟨bm.o,dl.o,cd.o⟩
    have dq:Hid (NF≠0):=Aa (by
     rcases bk with⟨h1,_⟩|⟨_,h1,_⟩
     ·rw[ci.o] at h1;cases h1
     exact cj.o h1)
    clear bk cj ci;have bf:=HI.o.2.2.2.2.2.trans ad;have r1:=bf.zG b.o.bu ((u.o.block (w.1.size+1) (by omega)).trans HX.o.2.1) (by decide) (by decide) (by decide);have r2:=bf.zG b.o.bu ((u.o.block (w.1.size+2) (by omega)).trans HX.o.2.2) (by decide) (by decide) (by decide);have f1:=one_cell r1;have f2:=one_cell r2;have g1:=Yaf W' (w.1.size+1) 0 _ _ r1;have g2:=Yaf W' (w.1.size+2) 0 _ _ r2;have dm:=Aa bf;have bm:=Aa (CmI.keeps (B0:=W9.1.size) HI.o.1 (by omega) ad);have Y:=Aa (And.intro r1 r2);clear bc ad a7 bf r1 r2;gi_wp2;have dy:bb<w.1.size:=Ac O.o.base.bu.1;have eb:=O.o.base.low.size;have b1:=Uu di.o Y.o.1 (λi e=>by cases e) (by omega) (by omega) (by omega) (Zp none);have y:=((E.Ar W' (w.1.size+1) 0 (Zp none)).block (w.1.size+2) (Ac Y.o.2) (by simp)).trans Y.o.2;have b2:=Uu b1 y (λi e=>by cases e) (by omega) (by omega) (by omega) (Zf T x);have I:=heap_setCell_same W' (w.1.size+1) 0 _ _ (Zp none) Y.o.1;have b3:=((E.Ar (W'.setCell (Zd (w.1.size+1) 0) (Zp none)) (w.1.size+2) 0 (Zf T x)).block (w.1.size+1) (Ac I) (by simp)).trans I;have b4:=heap_setCell_same _ (w.1.size+2) 0 _ _ (Zf T x) y;have hO:B.A0 (B.Own bb (.map (some k0))) w W':=(B.A0.Ba (Ap a5.o u.o)).trans dm.o.only (λi hi e=>e.elim id λe=>by have:=e.1;omega);refine⟨(bm.o.trans (KeepsFrom.of_grownBy (E.Ar W' (w.1.size+1) 0 (Zp none)) (λj e=>by cases e;omega))).trans (KeepsFrom.of_grownBy (E.Ar _ (w.1.size+2) 0 (Zf T x)) (λj e=>by cases e;omega)),rfl,dq.o,T,x,ec,_,ct,cu,b2,by have:=HI.o.2.1;omega,fM tx O.o.plain _ _ O.o.free _ (by rw[XB];omega),?_,b3,b4⟩;exact(hO.grown (E.Ar W' (w.1.size+1) 0 (Zp none)) (λm e hm=>by cases e;omega)).grown (E.Ar _ (w.1.size+2) 0 (Zf T x)) (λm e hm=>by cases e;omega)
   case done=>
    rintro D1 ys W bq b8⟨n',ah,al,aa,ac,L,ab,an,G,hL,am,d⟩hK;have dx:=d.only.size;have br:=E.Ac hK;have a3:n60 R.length<=40:=nH bh;have df:ys.length=n60 R.length:=by have:=congrArg List.length b8;simpa using this
    have dg:(ys.map λk=>Gg R k.1)=Gd R:=by unfold Gd;rw[<-b8];simp[AG1]
    have bt:L.length=ys.length:=by have:=congrArg List.length hL;rw[XB,eQ,XB] at this;exact this
    have X:=d.zG b.o.bu ((ai.o.block w1.1.size (by have:=Ac N.o;have:=M.o.size;omega)).trans ((av.o.block w1.1.size (by have:=Ac N.o;have:=M.o.size;omega)).trans ((M.o.block w1.1.size (Ac N.o)).trans N.o))) (by decide) (by decide) (by decide);have I:=d.zG b.o.bu ((u.o.block (w.1.size+1) (by omega)).trans HX.o.2.1) (by decide) (by decide) (by decide);have y:=d.zG b.o.bu ((u.o.block (w.1.size+2) (by omega)).trans HX.o.2.2) (by decide) (by decide) (by decide);have p0:=one_cell X;obtain⟨y0,y1,y2,y3,y4,y5,y6,y7,yf⟩:=F2 G.box;have hd:=(XF W.1.size W).drew
    have ce:Hid (∀e∈l.qx,e.1.size<=maxLen):=Aa (λe he=>by have c5:=HT.o;rw[<-c5.Lz.qx] at he;obtain⟨x,hx,rfl⟩:=List.mem_map.1 he;have:=(c5.Lz.each x hx).name;unfold maxLen;omega)
    have ee:1<=l.qx.length:=by
     rcases Yx l.qx.length with h0|h0
     ·refine absurd (show Tog l R.length from⟨λe he=>?_,by omega⟩) ck.o
      rw[Yag.1 h0] at he;cases he
     exact h0
    have cq:=Aa (sL l (H.length:Int) a1 n1 c1 x2 a2 n2 c2 W.drew (G.snap.up hd) (by omega) ce.o);have HI:=Aa (And.intro ab (And.intro an (And.intro G (And.intro hL (And.intro am d)))));have dj:=Aa (And.intro X (And.intro I y));have cf:=Aa hK;have bo:=Aa dg;have ch:=Aa (And.intro bt (And.intro df a3));have bl:=Aa hd
    have dp:Hid (w1.1.size≠g):=Aa (λe=>by have:=G.box;rw[<-e,X] at this;injection this with this;injection this with _ this;exact absurd this (by decide))
    have d0:W.drew.cell? (Zd w1.1.size 0)=some (Zp (some (Zd g 0))):=p0;have d3:W.drew.cell? (Zd g 3)=some (Zs a2 n2 c2):=y3;have d6:W.drew.cell? (Zd g 6)=some (Zs aa L.length ac):=y6;have aj:Hid (∀W',Zb W W'->(W'.cell? (Zd w1.1.size 0)=some (Zp (some (Zd g 0)))/\W'.cell? (Zd g 3)=some (Zs a2 n2 c2))/\W'.cell? (Zd g 6)=some (Zs aa L.length ac)):=Aa λW' hb=>⟨⟨Ag hb p0,Ag hb y3⟩,Ag hb y6⟩
    have cb:Hid (∀(af:Tw)(qa:To)(qc:Nat),Zb W af->af.ownsRow W.1.size 111 6 (Zs qa l.qx.length qc) l.qx.length (Ci (l.qx.map mO))->Zc 52 #[Zs (some (Zd af.1.size 0)) 2 2] (af.alloc (Zk #[Zs qa l.qx.length qc,Zs aa L.length ac] 51)) λe w'=>∃g' c',e=Zr (Zs (some (Zd g' 0)) (l.qx.length+L.length) c')/\Hid (w'.ownsRow W.1.size 111 6 (Zs (some (Zd g' 0)) (l.qx.length+L.length) c') (l.qx.length+L.length) (Ci (l.qx.map mO++L)))/\Zb W w'):=Aa (λaf qa qc J au=>by have bj:=Yac af (Zk #[Zs qa l.qx.length qc,Zs aa L.length ac] 51);have ar:Zb af (af.alloc (Zk #[Zs qa l.qx.length qc,Zs aa L.length ac] 51)):=Zal;have hc:=uO af.1.size qa aa qc ac (l.qx.map mO) L W.1.size w.1.size _ (by rw[XB];exact(Hg bj).1) (Hg bj).2 (by simp) (by rw[XB];exact Bc au ar) (E.Ai (Bc (Bc G.row J) ar) (by omega)) (by rw[XB];omega) (by rw[XB];omega);rw[XB] at hc;apply hc.mono;rintro e w'⟨g',c',rfl,h1,h2⟩;exact⟨g',c',rfl,Aa (E.Ai h1 (Ap J ar).size),Ap (Ap J ar) h2⟩)
    clear ab an G hL am d X I y hK b8 dg y0 y1 y2 y3 y4 y5 y6 y7 yf p0 bt df a3 hd;gi_wp2;go_wp2_with fail;refine AGq ?_;rw[<-AGS];have d4:=AGS
    go_region_held3 (λw'=>w'.cell? (Zd w1.1.size 0)=some (Zp (some (Zd g 0)))/\w'.cell? (Zd g 3)=some (Zs a2 n2 c2))
     (first
       | (go_keep;done)
       | exact(aj.o _ bl.o).1
       | exact(aj.o _ J).1
       | exact(aj.o _ (Ap J (Zal))).1
       | exact(aj.o _ f).1
       | exact⟨Ei dp.o (aj.o _ f).1.1,AEx (aj.o _ f).1.2⟩
       | fail)
     (first
       | (go_at_call 53
          apply cq.o.mono;rintro e af⟨qa,qc,rfl,au,az⟩;have J:=Ap bl.o az;have cl:=Aa au;have e6:=(aj.o _ J).2;clear au az)
       | (go_at_call 52
          refine(cb.o _ _ _ J cl.o).mono ?_;rintro e a4⟨g',c',rfl,cm,f⟩;obtain⟨t0,t1,t2,t3,t4,t5,t6,t7,tf⟩:=F2 (HI.o.2.2.1.up f).box;have t8:=tf 6;clear t0 t1 t2 t3 t4 t5 t7 tf)
       | fail)
    all_goals
     obtain⟨ab,an,G,hL,am,d⟩:=HI.o;have P:=G.up f;have V:=E.Ar a4 g 6 (Zs (some (Zd g' 0)) (l.qx.length+L.length) c');have ay:B.A0 (PA a4 W3.1.size) a4 (a4.setCell (Zd g 6) (Zs (some (Zd g' 0)) (l.qx.length+L.length) c')):=⟨V.os,V.tape,V.output,V.size,λk hk hn=>V.block k hk (λe=>hn (by cases e;exact⟨P.low,_,_,P.box,.inl rfl⟩))⟩;have ca:=Aa (Kv (ab.up f) ag.o.nf ag.o.base.low.size ay);have aq:=Aa ((d.trans (Mv.below f)).trans (Mv.ACV ay))
     have co:=Aa (P.Bz (E.Ai cm.o (by omega)) (by simp) (λq hq=>by
      rcases List.mem_append.1 hq with hq|hq
      ·obtain⟨e,_,rfl⟩:=List.mem_map.1 hq
       exact⟨XR _ _ _ _,XR _ _ _ _⟩
      ·exact P.own q hq) (λq hq=>by
      rcases List.mem_append.1 hq with hq|hq
      ·obtain⟨e,he,rfl⟩:=List.mem_map.1 hq
       exact⟨ce.o e he,XA _,λx hx=>by cases hx⟩
      exact P.Vv q hq))
     have I:=aq.o.zG b.o.bu ((u.o.block (w.1.size+1) (by omega)).trans HX.o.2.1) (by decide) (by decide) (by decide);have y:=aq.o.zG b.o.bu ((u.o.block (w.1.size+2) (by omega)).trans HX.o.2.2) (by decide) (by decide) (by decide);have X:=aq.o.zG b.o.bu ((ai.o.block w1.1.size (by have:=Ac N.o;have:=M.o.size;omega)).trans ((av.o.block w1.1.size (by have:=Ac N.o;have:=M.o.size;omega)).trans ((M.o.block w1.1.size (Ac N.o)).trans N.o))) (by decide) (by decide) (by decide)
     have cx:=(V.block D1 (Ya br f.size) (λe=>by
      cases e;have:=(f.block _ br).trans cf.o;rw[P.box] at this;cases this)).trans ((f.block D1 br).trans cf.o)
     have bn:=Aa (And.intro an (And.intro hL am));have Y:=Aa (And.intro I y);have cg:=Aa cx;clear ab an G hL am d P ay V t6 t8 d4 cq cb aj bl;generalize a4.setCell (Zd g 6) (Zs (some (Zd g' 0)) (l.qx.length+L.length) c')=ak at *;have f1:=one_cell I;have f2:=one_cell y;have ez:=one_cell X;have g1:=Yaf ak (w.1.size+1) 0 _ _ I;have g2:=Yaf ak (w.1.size+2) 0 _ _ y;clear I y X cx;go_wp2;have dy:bb<w.1.size:=Ac O.o.base.bu.1;have eb:=O.o.base.low.size;have b1:=Uu ca.o Y.o.1 (λi e=>by cases e) (by omega) (by omega) (by omega) (Zp (some (Zd g 0)));have a9:=E.Ar ak (w.1.size+1) 0 (Zp (some (Zd g 0)));have y:=(a9.block (w.1.size+2) (Ac Y.o.2) (by simp)).trans Y.o.2;have b2:=Uu b1 y (λi e=>by cases e) (by omega) (by omega) (by omega) Zn;have I:=heap_setCell_same ak (w.1.size+1) 0 _ _ (Zp (some (Zd g 0))) Y.o.1;have ba:=E.Ar (ak.setCell (Zd (w.1.size+1) 0) (Zp (some (Zd g 0)))) (w.1.size+2) 0 Zn;have b3:=(ba.block (w.1.size+1) (Ac I) (by simp)).trans I;have b4:=heap_setCell_same _ (w.1.size+2) 0 _ _ Zn y;have q1:=co.o.far Y.o.1 a9 (by decide) (by decide) (by decide) (by decide) (by decide);have q2:=q1.far y ba (by decide) (by decide) (by decide) (by decide) (by decide);have cw:=(a9.block D1 (E.Ac cg.o) (λe=>by have:=Yt e;omega)).trans cg.o;have bs:=(ba.block D1 (E.Ac cw) (λe=>by have:=Yt e;omega)).trans cw;have hO:B.A0 (B.Own bb (.map (some k0))) w ak:=(B.A0.Ba (Ap a5.o u.o)).trans aq.o.only (λi hi e=>e.elim id λe=>by have:=e.1;omega);have dv:=(hO.grown a9 (λm e hm=>by cases e;omega)).grown ba (λm e hm=>by cases e;omega);have b5:=(XC (r:=D1) (k:=w.1.size+1) (o:=.deferred none) (by omega)).trans b3;have b6:=(XC (r:=D1) (k:=w.1.size+2) (o:=.deferred none) (by omega)).trans b4;have k1:=one_cell b5;have k2:=one_cell b6;refine⟨by simp,.inl ⟨_,_,rfl,run_takeDeferred bs,?_⟩⟩;refine⟨Zu #[Zp (some (Zd g 0)),Zn],by simp[results,results26,go_sem,k1,k2],?_⟩;have ae:=grownBy_putObj' ((ak.setCell (Zd (w.1.size+1) 0) (Zp (some (Zd g 0)))).setCell (Zd (w.1.size+2) 0) Zn) D1 (.deferred none);have d9:∀r,some D1=some r->∃o:Obj,((ak.setCell (Zd (w.1.size+1) 0) (Zp (some (Zd g 0)))).setCell (Zd (w.1.size+2) 0) Zn).heap[r]? = some o/\o.isCells=false:=λr e=>by cases e;exact⟨_,bs,rfl⟩
     have q3:=q2.no ae d9;refine⟨_,_,_,_,_,bF (B0:=W9.1.size) b2 (by omega) (XI ag.o.base.low.size u.o.size) ae (λr e=>by cases e;exact⟨bq,_,bs,rfl⟩),?_,dv.grown ae (λm e hm=>by cases e;omega),λ_ e=>.inl e,?_,.inl ⟨g,_,true,(R.length:Int),a1,n1,c1,x2,a2,n2,c2,_,_,rfl,by rw[ao.o];exact⟨q3.box,q3.snap,E.Ai q3.row (by omega),q3.own,q3.Vv,by have:=q3.low;omega⟩,HC.o,rfl,by rw[aw.o],.inr ⟨by rw[aw.o];exact ck.o,?_,?_,?_⟩⟩⟩
     ·have:=bn.o.1
      have:=ch.o;omega
     ·exact fM tx O.o.plain _ _ O.o.free _ (by rw[XB];have:=ch.o;omega)
     ·rw[<-HR.o,<-bo.o]
      intro p hp;obtain⟨k,hk,rfl⟩:=List.mem_map.1 hp;exact bn.o.2.2 k hk
     ·rw[<-HR.o,<-bo.o]
     rw[<-HR.o,<-bo.o,List.map_append,bn.o.2.1,List.map_map];rfl
end F
namespace S
theorem AE9(b:Nat)(c f g:Int)(Bl d:Tb)(w:Tw)(p:1<=c/\c<=6)(t:d.size<=100)(s:E.A9 f g d=true)(h:w.1[b]? = some (Zk #[Zi c,Zt Bl,Zi f,Zi g,Zt d] 73)):
 Zc 24 #[Zs (some (Zd b 0)) 1 1] w λe n=>∃v,e=Zr v/\Gy n (.node 0 0 ⟨c,Bl,f,g,d⟩ .nil .nil) v/\Zb w n:=by
 have m:b<w.1.size:=by
  rcases Yc b w.1.size with l|l
  ·exact l
  rw[Array.getElem?_eq_none l] at h;cases h
 have k:∀j i:Nat,j<1->w.cell? (Zd b (0+j*5+i))=#[Value.int .i64 c,Zt Bl,Zi f,Zi g,Zt d][i]? := λj i a=>by
  obtain rfl:j=0:=by omega
  have:=cell_of_heap h i;simpa using this
 have q:AMS 1 (λ_=>c) (λ_=>f) (λ_=>g) (λ_=>Bl) (λ_=>d)=.node 0 0 ⟨c,Bl,f,g,d⟩ .nil .nil:=by show AMi (stp c Bl f g d [])=_;rw[ANi p.1 p.2 (by omega) s];rfl
 refine(ANX b 0 1 1 (λ_=>c) (λ_=>f) (λ_=>g) (λ_=>Bl) (λ_=>d) w (Y' _) (by decide) (λ_=>by unfold maxLen;omega) m (λj a=>k j 0 a) (λj a=>k j 1 a) (λj a=>k j 2 a) (λj a=>k j 3 a) λj a=>k j 4 a).mono ?_;rintro e n⟨v,rfl,o,_,r⟩;rw[q] at o;exact⟨v,rfl,o,r⟩
end S
namespace F
variable{d g i j k m n:Nat}{W:Tw}{T:TypeId}{D:Td}{H:List (Dn×Ah)}{a:Nat->List Tv}{P:Nat->Option PlS}{e:List (List A6)}
theorem Qf:Mw:=rK
theorem Sy(n:Int)(w:Tw):
 Zc 16 #[Zi n] w λe a=>e=Zr (Zg #[Zi 1,Zi n,Zt ⟨#[]⟩])/\Zb w a:=by
 go_enter func16,ntmps16;go_wp2;exact bodyPost_ret (v:=Zg #[Zi 1,Zi n,Zt ⟨#[]⟩]) (by simp[results,results16,go_sem]) rfl ⟨rfl,Zal⟩
theorem AAo{α:Type}{en:α->List Tv}{b:Nat}{cs:Array Tv}{x:α}(h:W.1[b]? = some (Zk cs T (0,0)))(a:en x=cs.toList):F7 k en W (Zs (some (Zd b 0)) 1 1) [x]:=by
 refine⟨some (Zd b 0),1,rfl,Y' _,λ_=>⟨b,0,rfl,Ac h,λj y hj i u hu=>?_⟩⟩
 have c:j=0:=by
  rcases Yx j with d|d
  ·exact d
  rw[Yb (by simp;omega)] at hj;cases hj
 subst c;have e:x=y:=by simpa using hj
 subst e;rw[show 0+0*k+i=i by omega,S.cell_of_heap h i];rw[a] at hu;simpa using hu
theorem AH9{α:Type}{en:α->List Tv}{b:Nat}{f a:Tv}{x y:α}(h:W.1[b]? = some (Zk #[f,a] T (0,0)))(l:en x=[f])(m:en y=[a]):F7 1 en W (Zs (some (Zd b 0)) 2 2) [x,y]:=by
 refine⟨some (Zd b 0),2,rfl,Y' _,λ_=>⟨b,0,rfl,Ac h,λj z hj i u hu=>?_⟩⟩
 have n:j<2:=by
  rcases Yc j 2 with c|c
  ·exact c
  rw[Yb (by simp;omega)] at hj;cases hj
 have d:∀v,en z=[v]->i=0/\v=u:=λv e=>by
  rw[e] at hu
  rcases Yx i with c|c
  ·subst c;exact⟨rfl,by simpa using hu⟩
  rw[Yb (by simp;omega)] at hu;cases hu
 rcases Yx j with g|o
 ·subst g
  have k:x=z:=by simpa using hj
  subst k;obtain⟨rfl,rfl⟩:=d _ l;rw[S.cell_of_heap h];rfl
 obtain rfl:j=1:=by omega
 have k:y=z:=by simpa using hj
 subst k;obtain⟨rfl,rfl⟩:=d _ m;rw[S.cell_of_heap h];rfl
theorem AKC{x y:Nat}(n:W.1[g]? = some (Zk #[Zs (some (Zd x 0)) 1 1,Zs (some (Zd y 0)) 1 1] 71 (0,0)))(q:W.1[x]? = some (Zk #[Zi 1,Zi 1,Zt ⟨#[]⟩] 67 (0,0)))(t:W.1[y]? = some (Zk #[Zi 1,Zi 2,Zt ⟨#[]⟩] 67 (0,0))):K8 W dU none 0 (some (Zd g 0)) 2 none 0 0 none 0:=by
 refine⟨.inl ⟨⟨_,_,rfl⟩,rfl⟩,(λc f=>by cases f),⟨[Zs (some (Zd x 0)) 1 1,Zs (some (Zd y 0)) 1 1],AH9 n rfl rfl,rfl,λj v r hv hr=>?_⟩,λr hr v hv=>?_,⟨_,_,rfl,XA _,λh=>absurd rfl h⟩,XA _,(λs hs=>by cases hs),λV hV=>?_,XA _,⟨(λc f=>by cases f),XA _,AEL,by decide,λs hs=>by cases hs⟩⟩
 ·have o:j<2:=by
   rcases Yc j 2 with k|k
   ·exact k
   rw[Yb (by simp;omega)] at hv;cases hv
  rcases Yx j with i|p
  ·subst i
   have b:Value.slice (some (Zd x 0)) 1 1=v:=by simpa using hv
   have d:[(1,1,⟨#[]⟩)]=r:=by simpa[dU,R2] using hr
   subst b d;exact mW (AAo q rfl)
  obtain rfl:j=1:=by omega
  have b:Value.slice (some (Zd y 0)) 1 1=v:=by simpa using hv
  have d:[(1,2,⟨#[]⟩)]=r:=by simpa[dU,R2] using hr
  subst b d;exact mW (AAo t rfl)
 ·have a:r∈R2:=hr
  simp only[R2,List.mem_cons,XD,or_false] at a
  rcases a with rfl|rfl <;> (simp at hv;subst hv;decide)
 refine(S.V8 none 0 V).mono ?_;rintro e u⟨v,rfl,l,m⟩;exact⟨v,_,rfl,l,trivial,m⟩
theorem AJp(b:W.1[g]? = some (Zk #[Zi 1,Zt ⟨#[97]⟩,Zi 1,Zi 1,Zt ⟨#[]⟩] 73 (0,0))):K8 W dV none 0 none 0 (some (Zd g 0)) 1 1 none 0:=by refine⟨.inl ⟨⟨_,_,rfl⟩,rfl⟩,(λc a=>by cases a),⟨[],⟨_,_,rfl,XA _,λh=>absurd rfl h⟩,rfl,λj x r hx _=>by simp at hx⟩,(λr hr=>by cases hr),⟨_,_,rfl,XA _,λh=>absurd rfl h⟩,XA _,(λs hs=>by cases hs),λV hV=>?_,XA _,⟨(λc a=>by cases a),XA _,(λr hr=>by cases hr),XA _,λs hs=>by cases hs⟩⟩;refine(S.AE9 g 1 1 1 ⟨#[97]⟩ ⟨#[]⟩ V ⟨by decide,by decide⟩ (by decide) (by kernel_rfl) ((hV.block _ (Ac b)).trans b)).mono ?_;rintro e i⟨v,rfl,d,f⟩;exact⟨v,tV,rfl,d,rfl,f⟩
theorem AJi:Plain iL:=λx a=>by simp[iL] at a;subst a;decide
theorem AJh:Plain Pz:=λx a=>by simp[Pz] at a;subst a;decide
theorem AGr:Plain txV:=λx a=>by simp[txV] at a;subst a;decide
theorem AKG{i k x y:Int}{s t:Tb}{mu:Bool}(h:W.1[g]? = some (Zk #[Zi i,Zt s,Zi k,Zo mu,Zi x,Zi y,Zt t] 69 (0,0))):bH W (Zs (some (Zd g 0)) 1 1) [(i,s,k,mu,x,y,t)]:=by
 refine .inr ⟨g,0,1,rfl,Y' _,Ac h,λj c n v d=>?_⟩;have a:j=0:=by have:j<1:=c;omega
 subst a;rw[show 0+0*7+n=n by omega,S.cell_of_heap h n];have b:[Value.int .i64 i,Zt s,Zi k,Zo mu,Zi x,Zi y,Zt t][n]? = some v:=d;simpa using b
theorem AJ7(h:W.1[g]? = some (Zk #[Zi 0,Zt ⟨#[97]⟩,Zi 1,Zo false,Zi 0,Zi 0,Zt ⟨#[]⟩] 69 (0,0))):K8 W dT (some (Zd g 0)) 1 none 0 none 0 0 none 0:=by
 refine⟨AKG h,λc a=>?_,⟨[],⟨_,_,rfl,XA _,λh=>absurd rfl h⟩,rfl,λj x r hx _=>by simp at hx⟩,(λr hr=>by cases hr),⟨_,_,rfl,XA _,λh=>absurd rfl h⟩,XA _,(λs hs=>by cases hs),λV hV=>?_,XA _,⟨λc a=>?_,by decide,(λr hr=>by cases hr),XA _,λs hs=>by cases hs⟩⟩
 ·have:c=(0,⟨#[97]⟩,1,false,0,0,⟨#[]⟩):=by simpa[dT] using a
  subst this;exact⟨by decide,by decide⟩
 ·refine(S.V8 none 0 V).mono ?_
  rintro e f⟨v,rfl,b,d⟩;exact⟨v,_,rfl,b,trivial,d⟩
 have:c=(0,⟨#[97]⟩,1,false,0,0,⟨#[]⟩):=by simpa[dT] using a
 subst this;exact⟨⟨by decide,by decide⟩,⟨by decide,by decide⟩,⟨by decide,by decide⟩⟩
theorem AAS(w:Tw)(he:Ik w)(hw:Lw w)(ht:Jp w)(hg:B.Ob w)(ho:S.Lp w):Zc 4 #[] w λe w'=>e=Zr (Zo true)/\Zb w w':=by
 have z:=Aa ((uF w he hw ht).up ((XF _ _).alloc (Y' _) (Zk #[Zi 0,Zt ⟨#[97]⟩,Zi 1,Zo false,Zi 0,Zi 0,Zt ⟨#[]⟩] 69)));have ag:=Yac (w.alloc (Zk #[.map none,Zs none 0 0] 28)) (Zk #[Zi 0,Zt ⟨#[97]⟩,Zi 1,Zo false,Zi 0,Zi 0,Zt ⟨#[]⟩] 69);have D:=Aa (V1 Qf w 0 w.1.size 0 (.map []) [] _ _ [] [] iL [] dT (some (Zd (w.1.size+1) 0)) 1 none 0 none 0 0 none 0 _ ⟨z.o,Inv.nil,hg,ho,XA _,by decide,by decide,by kernel_rfl,by decide,AJi,λh=>by cases h⟩ (by decide) (vA _) (AJ7 (by simpa using ag)));have u:=Aa (And.intro hg ho);clear he hw ht hg ho ag;go_enter func4,ntmps4;go_wp2_with fail;apply D.o.mono;intro e w2 ah;obtain⟨rfl,n2,D2,M,an,O,R,a1,au,_,U⟩:=AJW ah;have H2:=Aa (And.intro R U);clear ah R au U D z;go_wp2_with fail;refine(Sy 1 w2).mono ?_;rintro e w3⟨rfl,ad⟩;have ak:=Yac w3 (Zk #[Zi 1,Zi 1,Zt ⟨#[]⟩] 67);have x:=Aa (Ap ad ((XF _ w3).alloc (Y' _) (Zk #[Zi 1,Zi 1,Zt ⟨#[]⟩] 67)));have o:=Aa ak;clear ad ak;go_wp2_with fail;refine(Sy 2 _).mono ?_;rintro e v⟨rfl,q⟩;obtain⟨ax,Y,X,s⟩:=Kt v (Zk #[Zi 1,Zi 2,Zt ⟨#[]⟩] 67) (Zk #[Zs (some (Zd w3.1.size 0)) 1 1,Zs (some (Zd v.1.size 0)) 1 1] 71);have L:=Aa ((Ap q s).block _ (Ac o.o) |>.trans o.o);have ap:=Aa (Ap x.o (Ap q s));have n:Hid (iK w ((v.alloc (Zk #[Zi 1,Zi 2,Zt ⟨#[]⟩] 67)).alloc (Zk #[Zs (some (Zd w3.1.size 0)) 1 1,Zs (some (Zd v.1.size 0)) 1 1] 71)) 0 w.1.size n2 D2 M an O H1 [iL] Pz):=Aa ⟨H2.o.1.up ap.o,H2.o.2,u.o.1,u.o.2,XA _,by omega,by decide,by kernel_rfl,by decide,AJh,λh=>by simp[Pz,iL] at h⟩;have G:=Aa (V1 Qf w 0 w.1.size n2 D2 M an O H1 [iL] Pz [] dU none 0 (some (Zd (v.1.size+1) 0)) 2 none 0 0 none 0 _ n.o (by decide) (AKO _) (AKC X L.o Y));clear ax Y X s q o L x;go_wp2_with fail;apply G.o.mono;intro e w6 ai;obtain⟨rfl,n6,D6,N,ao,P,T,a2,av,_,V,ab⟩:=AI4 (bJ H2.o.1) H2.o.2 (n.o.free 0) ai;have t:=Aa (And.intro T (And.intro V ab));clear ai T av V ab G n H2;go_wp2_with fail;refine(Sy 1 w6).mono ?_;rintro e w7⟨rfl,ae⟩;have al:=Yac w7 (Zk #[Zi 1,Zt ⟨#[97]⟩,Zi 1,Zi 1,Zt ⟨#[]⟩] 73);have y:=Aa (Ap ae ((XF _ w7).alloc (Y' _) (Zk #[Zi 1,Zt ⟨#[97]⟩,Zi 1,Zi 1,Zt ⟨#[]⟩] 73)));have J:Hid (iK w (w7.alloc (Zk #[Zi 1,Zt ⟨#[97]⟩,Zi 1,Zi 1,Zt ⟨#[]⟩] 73)) 0 w.1.size n6 D6 N ao P H2 [Pz,iL] txV):=Aa ⟨t.o.1.up y.o,t.o.2.1,u.o.1,u.o.2,XA _,by omega,by decide,by kernel_rfl,by decide,AGr,λh=>by simp[Pz,iL,txV] at h⟩;have I:=Aa (V1 Qf w 0 w.1.size n6 D6 N ao P H2 [Pz,iL] txV xU dV none 0 none 0 (some (Zd w7.1.size 0)) 1 1 none 0 _ J.o (by decide) t.o.2.2 (AJp al));clear al ae;go_wp2_with fail;apply I.o.mono;intro e w8 aj;obtain⟨rfl,n8,D8,az,ay,a0,c,a3,aw,_,p,ac⟩:=AI9 t.o.2.1 t.o.2.2 aj;have m:=Aa (ABH w.1.size n8 D8 ay H3 (-1) 3 xV w8 c.ground (u.o.1.below c.low) (u.o.2.below c.low) p.Lm p.past (by decide) (by decide) (.inl ⟨by decide,rfl⟩) ac.Lz);have H8:=Aa c.low;clear aj c aw p ac I J t y;rw[show (Ae H3 3).qz=[cA] from rfl,AKF] at m;go_wp2_with fail;apply m.o.mono;rintro e w9⟨v9,rfl,aa,af⟩;obtain⟨rb,ro,rc,xv,er,a4,a,ar⟩:=aa.slr.at (k:=0) (r:=[(1,2,⟨#[]⟩)]) rfl;obtain⟨xa,xc,rfl,a6,am⟩:=ar;obtain⟨i,j,rfl,a5,b⟩:=am (by simp);obtain⟨y0,y1,y2⟩:=b 0 _ rfl;simp only[XU,XV] at a y0 y1 y2;subst er;have f:Hid (∀W,Zb w9 W->W.cell? (Zd rb ro)=some (Zs (some (Zd i j)) 1 xc)/\W.cell? (Zd i j)=some (Zi 1)/\W.cell? (Zd i (j+1))=some (Zi 2)/\W.cell? (Zd i (j+2))=some (Zt ⟨#[]⟩)):=Aa λW hb=>⟨Ag hb a,Ag hb y0,Ag hb y1,Ag hb y2⟩
 have l:=Aa ((XF w9.1.size w9).drew);have aq:=Aa (Ap H8.o af);clear aa am b af m a y0 y1 y2;obtain⟨a,y0,y1,y2⟩:=f.o _ l.o;go_wp2_with fail
 go_region_held3 (λW=>W.cell? (Zd rb ro)=some (Zs (some (Zd i j)) 1 xc)/\W.cell? (Zd i j)=some (Zi 1)/\W.cell? (Zd i (j+1))=some (Zi 2)/\W.cell? (Zd i (j+2))=some (Zt ⟨#[]⟩))
  (first
    | exact f.o _ l.o
    | exact f.o _ g
    | (go_keep;done)
    | fail)
  (first
    | (go_at_call 16
       refine(Sy 2 _).mono ?_;rintro e a7⟨rfl,d⟩;have g:=Ap l.o d;clear d)
    | fail)
 all_goals
  clear a y0 y1 y2 f;go_wp2;go_ret;exact⟨rfl,Ap aq.o g⟩
def AGA:Prop:=∀w:World,Ik w->Lw w->Jp w->B.Ob w->S.Lp w->Zc 4 #[] w λe a=>e=.returned (.bool true)/\Zb w a
abbrev AM8:=Bool×Int×DdS
def AMx(s:AM8):List Value:=[.bool s.1,Zi s.2.1]++AGa s.2.2
structure APW(w0 w:World)(NF b1 b2:Nat)(fs:List Int)(fv:Value):Prop where
 base:Ey w0 w NF b1 0 (.map []) fs (.map none) fv
 ALx:Ey w0 w 0 b2 0 (.map []) [] (.map none) (.slice none 0 0)
 nf:NF<=w.1.size
 ne:b2≠b1
theorem AO2:Twin id (.map []) (.map []) F6:=⟨λ_ a=>absurd a XD,rfl,λ_ he=>absurd he XD,λ_ he=>absurd he XD,λ_ he=>absurd he XD⟩
theorem APJ:AMh (.map []) (.map []) [] [] [] [] [] id [[]] :=
 ⟨Inv.nil,Inv.nil,λh b=>absurd b XD,rfl,λk xs hk=>by
  have:k=0:=by
   rcases Yc k 1 with q|q
   ·omega
   rw[Yb (by simpa using q)] at hk;cases hk
  subst this;obtain rfl:[]=xs:=by simpa using hk
  exact vA _,(AN7 F6).symm,AO2,λe a=>absurd a XD,λu hu=>hu⟩
theorem APW.start{w0 w:Tw}{fs:List Int}{v:Tv}(h:APW w0 w n i j fs v):LwS w0 w n i j 0 0 0 (.map []) (.map []) fs [] (.map none) v (.map none) (Zs none 0 0) [] [] [] [] [] id [[]] :=
 ⟨h.base,h.ALx,APJ,λu a=>absurd a XD,λu a=>absurd a XD,Y' _,Y' _,Y' _,Y' _,h.nf,h.ne,λk e=>by cases e⟩
theorem ANR(h:List Int)(G:Tv)(w:Tw)(X:B.Fs w G h)(s:h.length<=1000)(u:Ik w)(D:Lw w)(z:Jp w):
 Zc 5 #[Zp (some (Zd w.1.size 0)),G] ((w.alloc (Zk #[.map none,Zs none 0 0] 28)).alloc (Zk #[.map none,Zs none 0 0] 28)) λe n=>e=Zr (Zu #[])/\∃r,APW w n n.1.size w.1.size (w.1.size+1) h r:=by
 have o:Zb w (w.alloc (Zk #[.map none,Zs none 0 0] 28)):=Zal;have U:=uF w u D z;generalize V:w.alloc (Zk #[.map none,Zs none 0 0] 28)=W at *;have y:W.1.size=w.1.size+1:=by rw[<-V];simp
 have t:=B.AJj W;have m:Zb W (W.alloc (Zk #[.map none,Zs none 0 0] 28)):=Zal;have d:=U.up m;refine(B.ANq w.1.size 0 (.map []) [] h (.map none) (Zs none 0 0) G _ d.bu (X.keep λp v hp j=>(m.cell (p:=p) (XE _ p ((o.cell (p:=p) (XE w p j)).trans j))).trans ((o.cell (p:=p) (XE w p j)).trans j)) s).mono ?_;rintro e n⟨rfl,r,L,M⟩;have f:Zb w n:=M.below (Ap o m) (by have:=m.size;omega) (λi Y=>Nat.le_of_eq Y.symm);refine⟨rfl,r,⟨L,f,Y' _,λk e=>(by cases e),u,D,z,λb off l c e=>?_⟩,⟨?_,f,by omega,λk e=>(by cases e),u,D,z,λb off l c e=>(by cases e)⟩,Y' _,by omega⟩
 ·obtain⟨a,O,I,_,R⟩:=L.2.2
  rw[e] at I;injection I with P J e5;obtain⟨b',N,g,T⟩:=R (λq=>by rw[q] at J;simp at J);rw[<-P] at g;injection g with g;injection g with g e7 e8;subst g;have hx:h[0]? = some h[0]:=XN (by omega);exact XE _ _ (T 0 _ hx)
 rw[<-y];exact t.only M (by omega) (λk e=>by cases e) λp x j=>B.Fs.far d.bu.1 d.bu.2.1 d.bu.2.2 j
def AMg(w0 w:World)(f h j p k i:Nat):Prop:=∃m o D e fs a mv n c b H H2 U g V σ d P l,LwS w0 w f h j i m o D e fs a mv n c b H H2 U g V σ d/\ALI w0 w p k i D H U V d P l
def AMG:List Value:=[Zi 0,.slice none 0 0,.slice none 0 0,.slice none 0 0,.slice none 0 0,Zi 0,.string ⟨#[]⟩,.string ⟨#[]⟩]
theorem AOR(w0 w:Tw)(g:w0.1.size<=w.1.size)(D:Td)(H:List (Dn×Ah))(U V:List Tb)(b:List (List A6)):ALI w0 ((w.alloc (Zk #[Zp none,Zp none,Zp none] 31)).alloc (Zk (AMG++AMG++AMG).toArray 38)) w.1.size (w.1.size+1) 0 D H U V b (λ_=>none) (λ_=>AMG):=by
 have c:=Yac w (Zk #[Zp none,Zp none,Zp none] 31);have f:(w.alloc (Zk #[Zp none,Zp none,Zp none] 31)).1.size=w.1.size+1:=by simp
 generalize w.alloc (Zk #[Zp none,Zp none,Zp none] 31)=W at *;have a:=Yac W (Zk (AMG++AMG++AMG).toArray 38);have d:Zb W (W.alloc (Zk (AMG++AMG++AMG).toArray 38)):=Zal;rw[f] at a;exact⟨(d.block _ (by omega)).trans c,a,λ_ _=>rfl,by omega,⟨g,by omega⟩,(λk s _ e=>by cases e),(λk s _ e=>by cases e),λk k' s s' _ _ e=>by cases e⟩
theorem Nf.up{w W:Tw}{q:DdS}(h:Nf w q)(a:Zb w W):Nf W q :=
 { h with qz:=h.qz.up a,qj:=h.qj.up a,A3:=h.A3.up a,cnd:=λV b=>h.cnd V (Ap a b) }
theorem AOS(q:DdS)(w W:Tw)(p:Nf w q)(o:Zb w W):Zc 6 #[Zs (some (Zd W.1.size 0)) 1 1] (W.alloc (Zk (AGa q).toArray 37)) λe i=>∃b,e=Zr (Zo b)/\(b=true->U8 q)/\Zb W i:=by
 have f:=Yac W (Zk (AGa q).toArray 37);have a:Zb W (W.alloc (Zk (AGa q).toArray 37)):=Zal;generalize W.alloc (Zk (AGa q).toArray 37)=Y at *
 have n:F7 8 AGa Y (Zs (some (Zd W.1.size 0)) [q].length 1) [q]:=by
  refine⟨_,_,rfl,Y' _,λ_=>⟨W.1.size,0,rfl,Ac f,λj x hj k u hk=>?_⟩⟩
  have c:j=0:=by
   rcases Yc j 1 with e|e
   ·omega
   rw[Yb (by simpa using e)] at hj;cases hj
  subst c;obtain rfl:q=x:=by simpa using hj
  have d:(AGa q).toArray[k]? = some u:=by rw[XO];exact hk
  simp[World.cell?,f,d]
 refine(Py _ [q] Y n λz g=>?_).mono ?_
 ·rw[List.mem_singleton] at g
  subst g;exact p.up (Ap o a)
 rintro e i⟨b,rfl,l,m⟩;exact⟨b,rfl,λh=>(l h).2 q (List.mem_singleton.2 rfl),Ap a m⟩
theorem ALI.ANB{w0 w:Tw}{U V:List Tb}{a:List (List A6)}{b:Nat->List Tv}(h:ALI w0 w n m i D H U V a P b)(d:k<3):w.cell? (Zd n k)=some (pvS (P k))/\∀j,w.frozen? (Zd n j)=false:=by
 have c:=h.AMb;have:k=0\/k=1\/k=2:=by omega
 rcases this with rfl|rfl|rfl <;> simp[World.cell?,World.frozen?,c]
theorem ANW{w0 w W:Tw}{d bb n p:Nat}{fs:List Int}{mv v:Tv}{cs:Array Tv}(h:Ey w0 w d bb n D fs mv v)(u:w.1[p]? = some (Zk cs T (0,0)))(J:T≠28)(R:d<=p)(O:w0.1.size<=p)(q:B.A0 (λi=>i=p) w W):Ey w0 W d bb n D fs mv v:=by
 obtain⟨r,f,I⟩:=h.bu
 have s:¬bb=p:=λe=>by have c:w.1[bb]? = _:=r;rw[e,u] at c;injection c with c;injection c with _ c;exact J c
 refine⟨⟨r.keep (q.block bb r.lt s),f.keep λm e=>q.block m (f.lt e) (λe2=>?_),?_⟩,q.below h.low h.low.size (λi hi=>by rw[hi];exact O),h.hb,h.hm,h.er,h.nc,h.tb,h.hf⟩
 ·rcases f with⟨G,_⟩|⟨U,y,es,clock,o,_⟩
  ·rw[G] at e;cases e
  rw[y] at e;cases e;rw[e2,u] at o;cases o
 obtain⟨a,l,e,M,P⟩:=I;refine⟨a,l,e,M,λt=>?_⟩;obtain⟨b,off,rfl,g⟩:=P t
 have L:b<d:=by have:∃k,fs.length=k+1:=⟨fs.length-1,by have:=List.length_pos_iff.2 t;omega⟩;obtain⟨k,z⟩:=this;rw[z] at e;exact h.hf b off k l e
 exact⟨b,off,rfl,λj x N=>q.cell (g j x N) (by show ¬b=p;omega)⟩
theorem LwS.set{w0 w W:Tw}{p:Nat}{D b:Td}{fs z:List Int}{mv v u f:Tv}{H H2:List (Dn×Ah)}{U c V:List Tb}{σ:Tb->Tb}{cs:Array Tv}(h:LwS w0 w n k j i m d D b fs z mv v u f H H2 U c V σ e)(o:w.1[p]? = some (Zk cs T (0,0)))(g:T≠28)(q:n<=p)(l:w0.1.size<=p)(a:B.A0 (λi=>i=p) w W):LwS w0 W n k j i m d D b fs z mv v u f H H2 U c V σ e :=
 ⟨ANW h.base o g q l a,ANW h.ALx o g (XA _) l a,h.ser,h.sub,h.ANU,h.Iz,h.ADp,h.AFx,h.AMu,XI h.nf a.size,h.ne,h.maps⟩
theorem ALf.box{w0 w W:Tw}{D:Td}{H:List (Dn×Ah)}{U V:List Tb}{i:List (List A6)}{s:PlS}{p:Nat}{cs:Array Tv}{T:TypeId}(h:ALf w0 w D H U V i s)(k:w.1[p]? = some (Zk cs T (0,0)))(j:w.grownBy W (some p))(t1:T≠58)(t2:T≠111)(l:T≠3)(n:T≠69)(t5:T≠143):ALf w0 W D H U V i s:=by
 obtain⟨R,base,G,n1,c1,x2,I,n2,N,rd,J,M,L,qj,a,X⟩:=h;have keep:∀{b z m:Nat}{g:TypeId}{u:Tv}{xs:List Tv},w.ownsRow b g z u m xs->T≠g->W.ownsRow b g z u m xs:=λY P=>Mk Y k P j
 refine⟨R,base,G,n1,c1,x2,I,n2,N,rd,J,M,L,qj,⟨?_,?_,keep a.row t2,λq d=>⟨keep (a.own q d).1 l,keep (a.own q d).2 n⟩,a.Vv,a.low⟩,X⟩
 ·refine(j.block _ (Ac a.box) (λe=>?_)).trans a.box
  injection e with e;have c:=a.box;rw[e,k] at c;injection c with c;injection c with _ c;exact t1 c
 obtain⟨o,t,r,v,y,O,f⟩:=a.snap;exact⟨o,t,r,v,y,O,keep f.qz n,f.qx,keep f.row t5,λx hx=>keep (f.Cl x hx) l⟩
theorem Ar(w:Tw)(p k:Nat)(v:Tv):w.grownBy (w.setCell ⟨p,k,none⟩ v) (some p):=⟨rfl,rfl,rfl,by simp[World.setCell],λj b a=>XJ _ _ _ _ (λe=>a (by rw[e]))⟩
theorem ALI.AOi{w0 w:Tw}{U V:List Tb}(h:ALI w0 w n j i D H U V e P a)(m:k<3){f:Nat}{u:Tv}(b:(a k)[f]? = some u):w.cell? (Zd j (k*8+f))=some u:=by
 have g:=h.AMy;have o:=h.AMm 0 (by omega);have p:=h.AMm 1 (by omega);have r:=h.AMm k m
 have l:f<8:=by
  rcases Yc f 8 with q|q
  ·exact q
  rw[Yb (by omega)] at b;cases b
 have d:(a 0++a 1++a 2)[k*8+f]? = some u:=by
  have:k=0\/k=1\/k=2:=by omega
  rcases this with rfl|rfl|rfl
  ·rw[XM,XL (by omega),XU,Nat.zero_add];exact b
  ·rw[XM,XK (by omega),XL (by omega)]
   rw[show 1*8+f-(a 0).length=f by omega];exact b
  rw[XK (by rw[XG];omega),XG];rw[show 2*8+f-((a 0).length+(a 1).length)=f by omega];exact b
 have c:(a 0++a 1++a 2).toArray[k*8+f]? = some u:=by rw[XO];exact d
 unfold World.cell?;rw[g];exact c
def AMC(W:World)(b o:Nat):List Value->World
 | []=>W
 | v :: vs=>AMC (W.setCell ⟨b,o,none⟩ v) b (o+1) vs
theorem AMQ(b:Nat):∀(a:List Tv)(W:Tw)(o:Nat),W.grownBy (AMC W b o a) (some b)
 | [],W,_=>World.grownBy.refl W _
 | v :: a,W,o=>(Ar W b o v).trans (AMQ b a _ (o+1))
theorem AMv(b:Nat):∀(a:List Tv)(W:Tw)(o:Nat),B.A0 (λi=>i=b) W (AMC W b o a)
 | [],W,_=>B.A0.refl _ W
 | v :: a,W,o=>((B.A0.refl (λi=>i=b) W).setCell (p:=Zd b o) (λ_=>rfl) v).trans (AMv b a _ (o+1)) λ_ _ h=>h
theorem AL4{b:Nat}{T:TypeId}:∀(a:List Tv)(W:Tw)(p q r:List Tv),q.length=a.length->W.1[b]? = some (Zk (p++q++r).toArray T (0,0))->(AMC W b p.length a).heap[b]? = some (Zk (p++a++r).toArray T (0,0))
 | [],W,p,q,r,hq,h=>by obtain rfl:q=[]:=Yag.1 hq;exact h
 | v :: a,W,p,q,r,hq,h=>by
   cases q with
   | nil=>simp at hq
   | cons f q=>
     have c:=As W b p.length _ T v h
     have e:(p++(f :: q)++r).toArray.setIfInBounds p.length v=((p++[v])++q++r).toArray:=by rw[List.setIfInBounds_toArray];congr 1;rw[XM,YA _ _ (Y' _),YO];simp
     rw[e] at c;have d:=AL4 a _ (p++[v]) q r (by simpa using hq) c;rw[XG] at d;simpa[AMC] using d
theorem AOH{w0 w:Tw}{n j d i m g b o:Nat}{T:Td}{fs z:List Int}{mv v u f:Tv}{H H2:List (Dn×Ah)}{U X V:List Tb}{σ:Tb->Tb}{t:List (List A6)}(Y:LwS w0 w n j d i m g D T fs z mv v u f H H2 U X V σ t)(h:ALI w0 w b o i D H U V t P a){c:Nat}(aa:c<3)(s:PlS)(hs:ALf w0 w D H U V t s)(ho:s.tx∈nms i)(I:∀k s',k<3->P k=some s'->s'.tx≠s.tx)(hN:n<=b)(N:n<=o):
 AMg w0 (AMC (w.setCell (Zd b c) (Zp (some (Zd s.pb 0)))) o (c*8) s.cells) n j d b o i:=by
 have O:=Ar w b c (Zp (some (Zd s.pb 0)));have J:=As w b c _ _ (Zp (some (Zd s.pb 0))) h.AMb;have l:(w.setCell (Zd b c) (Zp (some (Zd s.pb 0)))).1[o]? = some (Zk (a 0++a 1++a 2).toArray 38 (0,0)):=(XJ _ _ _ _ (λe=>h.ne e.symm)).trans h.AMy;have L:=Y.set h.AMb (by decide) hN h.low.1 ((B.A0.refl (λi=>i=b) w).setCell (p:=Zd b c) (λ_=>rfl) (Zp (some (Zd s.pb 0))));have hb:∀s',ALf w0 w D H U V t s'->ALf w0 (w.setCell (Zd b c) (Zp (some (Zd s.pb 0)))) D H U V t s':=λs' x=>x.box h.AMb O (by decide) (by decide) (by decide) (by decide) (by decide)
 generalize w.setCell (Zd b c) (Zp (some (Zd s.pb 0)))=W at *;have M:=L.set l (by decide) N h.low.2 (AMv o s.cells W (c*8));have G:=AMQ o s.cells W (c*8);have y:∀s',ALf w0 w D H U V t s'->ALf w0 (AMC W o (c*8) s.cells) D H U V t s':=λs' x=>(hb s' x).box l G (by decide) (by decide) (by decide) (by decide) (by decide)
 have R:=h.AMm 0 (by omega);have l1:=h.AMm 1 (by omega);have l2:=h.AMm 2 (by omega);have lc:s.cells.length=8:=rfl;refine⟨_,_,_,_,_,_,_,_,_,_,_,_,_,_,_,_,_,λk=>if k=c then some s else P k,λk=>if k=c then s.cells else a k,M,?_,?_,λk hk=>?_,h.ne,h.low,λk s' hk e=>?_,λk s' hk e=>?_,λk k' s1 s2 hk hk' e r hn=>?_⟩
 ·refine(G.block _ (Ac J) (λe=>?_)).trans ?_
  ·injection e with e
   exact h.ne e
  rw[J];have:c=0\/c=1\/c=2:=by omega
  rcases this with rfl|rfl|rfl <;> rfl
 ·have:c=0\/c=1\/c=2:=by omega
  rcases this with rfl|rfl|rfl
  ·have:=AL4 s.cells W [] (a 0) (a 1++a 2) (by omega) (by simpa using l)
   simpa using this
  ·have:=AL4 s.cells W (a 0) (a 1) (a 2) (by omega) l
   rw[R] at this;simpa using this
  have:=AL4 s.cells W (a 0++a 1) (a 2) [] (by omega) (by simpa using l);rw[XG,R,l1] at this;simpa using this
 ·show (if k=c then s.cells else a k).length=8
  split
  ·rfl
  exact h.AMm k hk
 ·have e:(if k=c then some s else P k)=some s':=e
  show _/\(if k=c then s.cells else a k)=s'.cells;split at e
  ·injection e with e
   subst e;rename_i hk;rw[Yae hk];exact⟨y _ hs,rfl⟩
  rename_i hk';rw[Yad hk'];exact⟨y _ (h.each k s' hk e).1,(h.each k s' hk e).2⟩
 ·have e:(if k=c then some s else P k)=some s':=e
  split at e
  ·injection e with e
   subst e;exact ho
  exact h.old k s' hk e
 have e:(if k=c then some s else P k)=some s1:=e;have r:(if k'=c then some s else P k')=some s2:=r;split at e
 ·injection e with e
  subst e;split at r
  ·rename_i q1 q2
   exact absurd (q1.trans q2.symm) hn
  exact λq=>I k' s2 hk' r q.symm
 split at r
 ·injection r with r
  subst r;exact I k s1 hk e
 exact h.apart k k' s1 s2 hk hk' e r hn
theorem AMw{o:Option Obj}(h:W.1[i]? = o):W.drew.1[i]? = o:=h
theorem APK(W:Tw)(b o:Nat)(l j:Nat)(m:Tb)(a:J4)(c:To)(d:Nat)(g:To)(h:Nat)(pa:To)(f e:Nat)(i:To)(k:Nat):AMC W b o (PlS.cells ⟨l,j,m,a,c,d,g,h,pa,f,e,i,k⟩)=(((((((W.setCell (Zd b o) (Zi a.Qk)).setCell (Zd b (o+1)) (Zs c a.qz.length d)).setCell (Zd b (o+2)) (Zs g a.qj.length h)).setCell (Zd b (o+3)) (Zs pa f e)).setCell (Zd b (o+4)) (Zs i a.A3.length k)).setCell (Zd b (o+5)) (Zi a.change)).setCell (Zd b (o+6)) (Zt a.name)).setCell (Zd b (o+7)) (Zt a.tw):=rfl
theorem APC{w0 w W:Tw}(h:AMg w0 w n k j m d i)(a:Zb w W):AMg w0 W n k j m d i:=by obtain⟨_,_,_,_,_,_,_,_,_,_,_,_,_,_,_,_,_,_,_,b,c⟩:=h;exact⟨_,_,_,_,_,_,_,_,_,_,_,_,_,_,_,_,_,_,_,b.up a,c.up a⟩
theorem ALI.APo{w0 w W:Tw}{U V:List Tb}{v:List (List A6)}{r:Nat->List Tv}(h:ALI w0 w n m i D H U V v P r)(t:k<3)(s:W.1[m]? = w.1[m]?):
 ∃a b d e g o p q,(W.cell? (Zd m (k*8))=some a/\W.cell? (Zd m (k*8+1))=some b/\W.cell? (Zd m (k*8+2))=some d/\W.cell? (Zd m (k*8+3))=some e/\W.cell? (Zd m (k*8+4))=some g/\W.cell? (Zd m (k*8+5))=some o/\W.cell? (Zd m (k*8+6))=some p/\W.cell? (Zd m (k*8+7))=some q)/\∀j,W.frozen? (Zd m j)=false:=by
 have c:∀f u,(r k)[f]? = some u->W.cell? (Zd m (k*8+f))=some u:=λf u x=>by have:=h.AOi t x;unfold World.cell? at this ⊢;rw[show ((Zd m (k*8+f)):Addr).block=m from rfl] at this ⊢;rw[s];exact this
 have y:=h.AMm k t;have z:∀j,W.frozen? (Zd m j)=false:=λj=>by simp[World.frozen?,s,h.AMy]
 generalize r k=l at *
 match l,y with
 | [a,b,d,e,g,o,p,q],_=>exact⟨a,b,d,e,g,o,p,q,⟨c 0 _ rfl,c 1 _ rfl,c 2 _ rfl,c 3 _ rfl,c 4 _ rfl,c 5 _ rfl,c 6 _ rfl,c 7 _ rfl⟩,z⟩
theorem APU{W:Tw}{b:Nat}{v u f a e c d g j k:Tv}{T:TypeId}(h:W.1[b]? = some (Zk #[v,u,f,a,e,c,d,g,j,k] T (0,0))):
 (W.cell? (Zd b 0)=some v/\W.cell? (Zd b 1)=some u/\W.cell? (Zd b 2)=some f/\W.cell? (Zd b 3)=some a/\W.cell? (Zd b 4)=some e/\W.cell? (Zd b 5)=some c/\W.cell? (Zd b 6)=some d/\W.cell? (Zd b 7)=some g/\W.cell? (Zd b 8)=some j/\W.cell? (Zd b 9)=some k)/\∀i,W.frozen? (Zd b i)=false:=by
 simp[World.cell?,World.frozen?,h]
theorem API(b0:Mw)(c3:AGA)(lv:Tv)(l:List AM8)(fa:To)(fc:Nat)(fl:List Int)(w:Tw)(hl:F7 10 AMx w lv l)(hr:∀q∈l,Nf w q.2.2)(cf:∀q∈l,∃T,q.2.2.x.tree=λT'=>T'=T)(hf:B.Fs w (Zs fa fl.length fc) fl)(he:Ik w)(hw:Lw w)(ht:Jp w)(hg:B.Ob w)(ho:S.Lp w):
 Zc 3 #[lv,Zs fa fl.length fc] w λe w'=>e=Zr (Zo true)/\Below w.1.size w w':=by
 have HL:=Aa hl;have HR:=Aa hr;have cr:=Aa cf;have HF:=Aa hf;have HV:=Aa (And.intro he (And.intro hw (And.intro ht (And.intro hg ho))));have bw:=Aa (c3 w he hw ht hg ho);obtain⟨la,lc,rfl,_⟩:=hl.slice;clear hl hr he hw ht hg ho hf cf
 by_cases h1:l.length<=30
 rotate_left
 ·have bz:(l.length:Int) > 30:=by omega
  go_enter func3,ntmps3;go_wp2_with fail;go_ret;exact⟨rfl,XF _ _⟩
 by_cases h2:fl.length<=30
 rotate_left
 ·have bz:¬(l.length:Int) > 30:=by omega
  have c2:(fl.length:Int) > 30:=by omega
  go_enter func3,ntmps3;go_wp2_with fail;go_ret;exact⟨rfl,XF _ _⟩
 have bz:¬(l.length:Int) > 30:=by omega
 have c2:¬(fl.length:Int) > 30:=by omega
 go_enter func3,ntmps3;go_wp2_with fail;apply bw.o.mono;rintro e o⟨rfl,Y⟩;have a2:=Aa Y;have J:Hid (Ik o/\Lw o/\Jp o/\B.Ob o/\S.Lp o):=Aa ⟨HV.o.1.below Y,HV.o.2.1.below Y,HV.o.2.2.1.below Y,HV.o.2.2.2.1.below Y,HV.o.2.2.2.2.below Y⟩;have bs:=Aa (ANR fl (Zs fa fl.length fc) o (HF.o.keep λp v _ hc=>(Y.cell (p:=p) (XE w p hc)).trans hc) (by omega) J.o.1 J.o.2.1 J.o.2.2.1);clear Y bw HV;go_wp2_with fail;apply bs.o.mono;rintro e w2⟨rfl,fv,h0⟩;have hz:=h0.base.low.size
 have bo:Hid (AMg o ((w2.alloc (Zk #[Zp none,Zp none,Zp none] 31)).alloc (Zk (AMG++AMG++AMG).toArray 38)) w2.1.size o.1.size (o.1.size+1) w2.1.size (w2.1.size+1) 0) :=
  Aa ⟨_,_,_,_,_,_,_,_,_,_,_,_,_,_,_,_,_,_,_,h0.start.up ((Zal).alloc (by simp) _),AOR o w2 hz _ _ _ _ _⟩
 clear h0 bs hz;go_wp2_with fail;generalize w2.1.size=d at *
 go_loopw [9] (λvi wr=>∃i:Nat,i<=l.length/\vi=Zi i/\Hid (AMg o wr d o.1.size (o.1.size+1) d (d+1) i)) (λvi _=>l.length-(intOf vi).toNat)
 case atStart=>exact⟨0,XA _,rfl,bo⟩
 case round=>
  obtain⟨i,hi,rfl,HI⟩:=hrel;clear bo
  have bp:Hid (Below o.1.size o wr):=Aa (by obtain⟨_,_,_,_,_,_,_,_,_,_,_,_,_,_,_,_,_,_,_,h,_⟩:=HI.o;exact h.base.low)
  by_cases hlt:i<l.length
  ·obtain⟨q,hq⟩:∃q,l[i]? = some q:=⟨_,XN hlt⟩
   have t:=Aa (Ap a2.o bp.o);obtain⟨lb,lo,dw,el,_,dt,c⟩:=HL.o.cons (by omega);injection el with cu _ cv;subst cu cv;have bj:=Aa (HR.o q (XQ hq));have ck:=Aa (cr.o q (XQ hq));have q0:=Ag t.o (c i q hq 0 _ rfl);have q1:=Ag t.o (c i q hq 1 _ rfl);have q2:=Ag t.o (c i q hq 2 _ rfl);have q3:=Ag t.o (c i q hq 3 _ rfl);have q4:=Ag t.o (c i q hq 4 _ rfl);have q5:=Ag t.o (c i q hq 5 _ rfl);have q6:=Ag t.o (c i q hq 6 _ rfl);have q7:=Ag t.o (c i q hq 7 _ rfl);have q8:=Ag t.o (c i q hq 8 _ rfl);have q9:=Ag t.o (c i q hq 9 _ rfl);simp only[XV] at q0;have c5:(i:Int)<(l.length:Int):=by omega
   clear c hq;obtain⟨ah,ab,q⟩:=q;have bt:=Aa (λW(hW:Below w.1.size w W)=>AOS q w W bj.o hW);obtain⟨a,ca,cc,ra,rc,pa,pn,pc,sa,sc⟩:=q;have bb:Below wr.1.size wr (wr.alloc (Zk #[Zo ah,Zi ab,Zi a.Qk,Zs ca a.qz.length cc,Zs ra a.qj.length rc,Zs pa pn pc,Zs sa a.A3.length sc,Zi a.change,Zt a.name,Zt a.tw] 40)):=Zal;have bf:=Yac wr (Zk #[Zo ah,Zi ab,Zi a.Qk,Zs ca a.qz.length cc,Zs ra a.qj.length rc,Zs pa pn pc,Zs sa a.A3.length sc,Zi a.change,Zt a.name,Zt a.tw] 40);have ce:(wr.alloc (Zk #[Zo ah,Zi ab,Zi a.Qk,Zs ca a.qz.length cc,Zs ra a.qj.length rc,Zs pa pn pc,Zs sa a.A3.length sc,Zi a.change,Zt a.name,Zt a.tw] 40)).1.size=wr.1.size+1:=by simp
   go_wp2_with fail;generalize wr.alloc (Zk #[Zo ah,Zi ab,Zi a.Qk,Zs ca a.qz.length cc,Zs ra a.qj.length rc,Zs pa pn pc,Zs sa a.A3.length sc,Zi a.change,Zt a.name,Zt a.tw] 40)=wx at *;have c9:wx.1.size=wr.1.size+1:=ce;rw[<-c9];refine(bt.o wx (Ap t.o bb)).mono ?_;rintro e w3⟨bq,rfl,a0,a8⟩;have HX:=Aa ((a8.block _ (Ac bf)).trans bf);have ai:=Aa (Ap bb a8);have bl:=Aa a0;clear bb bf a8 a0 bt q0 q1 q2 q3 q4 q5 q6 q7 q8 q9;cases bq with
   | false=>go_wp2_with fail;go_ret;exact⟨rfl,Ap t.o ai.o⟩
   | true=>
     have cj:=Aa ((bj.o.up a2.o).at (bl.o rfl));have cn:=Aa (AOv ab 3 (by omega) (by omega));obtain⟨⟨x0,x1,x2,x3,x4,x5,x6,x7,x8,x9⟩,_⟩:=(APU HX.o);go_wp2_with fail;refine(cn.o _).mono ?_;rintro e w4⟨k,R,rfl,rfl⟩;cases ah with
     | true=>
       have aj:=Aa (λW=>ADi i (by omega) W);obtain⟨m,m2,D,D2,fs,cw,mv,cy,db,cz,H,H2,U,U2,V,σ,XS,P,dv,al,am⟩:=HI.o;have M:=Aa (al.up ai.o);have G:=Aa (am.up ai.o);clear al am HI;have br:=Aa (λW(hW:Below w4.1.size w4 W)=>AO1 b0 (M.o.up hW) (by omega) J.o.2.2.2.1 J.o.2.2.2.2 ⟨0,0,⟨#[]⟩,a,ca,cc,ra,rc,pa,pn,pc,sa,sc⟩ cj.o ck.o (λu hu=>M.o.sub u (M.o.ser.sub u hu)));have n:=Aa (λ(W:Tw)(hb:W.1[wr.1.size]? = some (Zk #[Zo true,Zi ab,Zi a.Qk,Zs ca a.qz.length cc,Zs ra a.qj.length rc,Zs pa pn pc,Zs sa a.A3.length sc,Zi a.change,Zt a.name,Zt a.tw] 40 (0,0)))=>(APU hb).1.2.2)
       have L:=Aa ((XF w4.1.size w4).drew);have ak:=Aa (λ(W:Tw)(hb:Below w4.1.size w4 W)=>(hb.block _ (Ac HX.o)).trans HX.o)
       clear x1 x2 x3 x4 x5 x6 x7 x8 x9;obtain⟨x2,x3,x4,x5,x6,x7,x8,x9⟩:=n.o _ (ak.o _ L.o);clear HX;go_wp2_with fail
       go_region_held3 (λW=>W.cell? (Zd wr.1.size 2)=some (Zi a.Qk)/\W.cell? (Zd wr.1.size 3)=some (Zs ca a.qz.length cc)/\W.cell? (Zd wr.1.size 4)=some (Zs ra a.qj.length rc)/\W.cell? (Zd wr.1.size 5)=some (Zs pa pn pc)/\W.cell? (Zd wr.1.size 6)=some (Zs sa a.A3.length sc)/\W.cell? (Zd wr.1.size 7)=some (Zi a.change)/\W.cell? (Zd wr.1.size 8)=some (Zt a.name)/\W.cell? (Zd wr.1.size 9)=some (Zt a.tw))
        (first
          | exact n.o _ (ak.o _ L.o)
          | exact n.o _ (ak.o _ I)
          | exact n.o _ ae
          | fail)
        (first
          | (go_at_call 9
             refine(aj.o _).mono ?_;rintro e w6⟨rfl,aa⟩;have I:=Ap L.o aa;clear aa)
          | (go_at_call 8
             refine(br.o _ I).mono ?_;rintro e w7⟨m7,D7,cx,dc,c0,ad,ag,b4,v1,v2,rfl,h7⟩;have N:=Aa (((G.o.up I).put (M.o.base.up I).bu ag).grown b4).skip;have ae:=Ut (M.o.base.up I).bu ag (ak.o _ I) (by decide);have b:=Aa ad;have H7:=Aa h7;clear ad ag b4 h7)
          | fail)
       clear br aj ak L x2 x3 x4 x5 x6 x7 x8 x9
       rcases H7.o with⟨pb,rfl,rfl,cd⟩|⟨Ty,y,rfl,rfl⟩
       ·have cq:=Aa cd
        have c4:(0:Int)<=(k:Int):=by omega
        have b5:(k:Int)<3:=by omega
        obtain⟨bx,bg⟩:=N.o.ANB R;have dk:w7.drew.cell? (Zd d k)=some (pvS (P k)):=bx;have dj:∀j,w7.drew.frozen? (Zd d j)=false:=bg;obtain⟨d0,d1,d2,d3,d4,d5,d6,d7,⟨e0,e1,e2,e3,e4,e5,e6,e7⟩,du⟩:=N.o.APo (W:=w7) R rfl
        have bd:wr.1.size≠d:=λe=>by have h1:=N.o.AMb;rw[<-e,ae] at h1;injection h1 with h1;injection h1 with _ h1;exact absurd h1 (by decide)
        have b6:wr.1.size≠d+1:=λe=>by have h1:=N.o.AMy;rw[<-e,ae] at h1;injection h1 with h1;injection h1 with _ h1;exact absurd h1 (by decide)
        have cs:=Aa ae;have a5:=Aa ((XJ w7 (Zd d k) (Zp (some (Zd pb 0))) _ bd).trans ae);have a7:=((AMQ (d+1) (PlS.cells ⟨pb,H.length,wK i,a,ca,cc,ra,rc,pa,pn,pc,sa,sc⟩) (w7.setCell (Zd d k) (Zp (some (Zd pb 0)))) (k*8)).block _ (Ac a5.o) (λe=>b6 (by injection e))).trans a5.o;simp only[APK] at a7;have ct:=Aa a7;obtain⟨x2,x3,x4,x5,x6,x7,x8,x9⟩:=n.o w7.drew ae;clear bx bg cd H7 ae a7;go_wp2_with fail
        go_region_held3 (λW=>W.cell? (Zd wr.1.size 2)=some (Zi a.Qk)/\W.cell? (Zd wr.1.size 3)=some (Zs ca a.qz.length cc)/\W.cell? (Zd wr.1.size 4)=some (Zs ra a.qj.length rc)/\W.cell? (Zd wr.1.size 5)=some (Zs pa pn pc)/\W.cell? (Zd wr.1.size 6)=some (Zs sa a.A3.length sc)/\W.cell? (Zd wr.1.size 7)=some (Zi a.change)/\W.cell? (Zd wr.1.size 8)=some (Zt a.name)/\W.cell? (Zd wr.1.size 9)=some (Zt a.tw))
         (first
           | with_reducible exact n.o _ (AMw cs.o)
           | with_reducible exact n.o _ (AMw a5.o)
           | with_reducible exact n.o _ (AMw ct.o)
           | fail)
         (fail)
        have HF:=AOH b.o N.o R ⟨pb,H.length,wK i,a,ca,cc,ra,rc,pa,pn,pc,sa,sc⟩ cq.o (Ye ..) (λk' s' bc e' q=>AD3 i i (Y' _) (by omega) (by have:=G.o.old k' s' bc e';rw[q] at this;exact this)) (Y' _) (XT _);simp only[APK] at HF;have g:=Aa (APC HF (XF _ _).drew);clear HF;go_wp2_with fail;exact⟨⟨i+1,by omega,rfl,g⟩,by simp only[intOf];omega⟩
       have g:Hid (AMg o w7 d o.1.size (o.1.size+1) d (d+1) (i+1)):=Aa ⟨_,_,_,_,_,_,_,_,_,_,_,_,_,_,_,_,_,_,_,b.o,N.o⟩;go_wp2_with fail;exact⟨⟨i+1,by omega,rfl,g⟩,by simp only[intOf];omega⟩
     | false=>
       obtain⟨m,m2,D,D2,fs,cw,mv,cy,db,cz,H,H2,U,U2,V,σ,XS,P,dv,al,am⟩:=HI.o;have M:=Aa (al.up ai.o);have G:=Aa (am.up ai.o);obtain⟨au,bg⟩:=G.o.ANB R;have c4:(0:Int)<=(k:Int):=by omega
       have b5:(k:Int)<3:=by omega
       clear al am HI;cases hP:P k with
       | none=>rw[hP] at au;simp only[pvS] at au;go_wp2_with fail;exact⟨⟨i+1,by omega,rfl,Aa ⟨_,_,_,_,_,_,_,_,_,_,_,_,_,_,_,_,_,_,_,M.o.skip,G.o.skip⟩⟩,by simp only[intOf];omega⟩
       | some s=>
         rw[hP] at au;simp only[pvS] at au;have a1:=Aa (G.o.each k s R hP);have bv:=Aa (G.o.drop R);have a4:=Aa (M.o.set G.o.AMb (by decide) (Y' _) G.o.low.1 ((B.A0.refl (λi=>i=d) w4).setCell (p:=Zd d k) (λ_=>rfl) (Zp none)));have bh:Hid (ALf o (w4.setCell (Zd d k) (Zp none)) D H U V XS s):=Aa (a1.o.1.box G.o.AMb (Ar w4 d k _) (by decide) (by decide) (by decide) (by decide) (by decide));have bi:=Aa (APu a4.o (by omega) s bh.o);go_wp2_with fail;apply bi.o.mono;rintro e w5⟨v5,dn,m',dp,dx,dq,dl,ch,dm,rfl,b8,ds,h5⟩;have ar:=Aa (bv.o.put a4.o.base.bu b8);have bk:=Aa a1.o.2
         have cm:Hid (∀k' s',k'<3->(if k'=k then none else P k')=some s'->s'.tx≠s.tx):=Aa λk' s' bc e'=>by
          split at e'
          ·cases e'
          rename_i bd;exact G.o.apart k' k s' s bc R e' hP bd
         clear bi bv G M a1 b8
         rcases h5 with⟨b7,b1⟩|⟨rfl,di,X,A5,t5,a6⟩
         ·have g:Hid (AMg o w5 d o.1.size (o.1.size+1) d (d+1) (i+1)):=Aa ⟨_,_,_,_,_,_,_,_,_,_,_,_,_,_,_,_,_,_,_,b1,ar.o.skip⟩
          clear b1 ar a4 bh
          rcases b7 with⟨Ty,y,rfl⟩|⟨rfl,rfl⟩
          ·by_cases c6:(ch:Int)=0
           ·go_wp2_with fail
            exact⟨⟨i+1,by omega,rfl,g⟩,by simp only[intOf];omega⟩
           go_wp2_with fail;exact⟨⟨i+1,by omega,rfl,g⟩,by simp only[intOf];omega⟩
          go_wp2_with fail;exact⟨⟨i+1,by omega,rfl,g⟩,by simp only[intOf];omega⟩
         have bm:=Aa a6;have c6:¬(ch:Int)=0:=by omega
         have av:=Aa (λW(hW:Below w5.1.size w5 W)=>AO0 b0 (a6.up hW) (by omega) J.o.2.2.2.1 J.o.2.2.2.2);have O:∀f u,s.cells[f]? = some u->w5.cell? (Zd (d+1) (k*8+f))=some u:=λf u hf=>ar.o.AOi R (by rw[bk.o];exact hf)
         have n:Hid (∀W,Below w5.1.size w5 W->W.cell? (Zd (d+1) (k*8))=some (Zi s.x.Qk)/\W.cell? (Zd (d+1) (k*8+1))=some (Zs s.ca s.x.qz.length s.cc)/\W.cell? (Zd (d+1) (k*8+2))=some (Zs s.ra s.x.qj.length s.rc)/\W.cell? (Zd (d+1) (k*8+3))=some (Zs s.pa s.pn s.pc)/\W.cell? (Zd (d+1) (k*8+4))=some (Zs s.sa s.x.A3.length s.sc)/\W.cell? (Zd (d+1) (k*8+5))=some (Zi s.x.change)/\W.cell? (Zd (d+1) (k*8+6))=some (Zt s.x.name)/\W.cell? (Zd (d+1) (k*8+7))=some (Zt s.x.tw)):=Aa λW hb=>⟨Ag hb (O 0 _ rfl),Ag hb (O 1 _ rfl),Ag hb (O 2 _ rfl),Ag hb (O 3 _ rfl),Ag hb (O 4 _ rfl),Ag hb (O 5 _ rfl),Ag hb (O 6 _ rfl),Ag hb (O 7 _ rfl)⟩
         have aj:=Aa (λW=>ADi i (by omega) W);have L:=Aa ((XF w5.1.size w5).drew);clear a6 O;obtain⟨y0,y1,y2,y3,y4,y5,y6,y7⟩:=n.o _ L.o;go_wp2_with fail
         go_region_held3 (λW=>W.cell? (Zd (d+1) (k*8))=some (Zi s.x.Qk)/\W.cell? (Zd (d+1) (k*8+1))=some (Zs s.ca s.x.qz.length s.cc)/\W.cell? (Zd (d+1) (k*8+2))=some (Zs s.ra s.x.qj.length s.rc)/\W.cell? (Zd (d+1) (k*8+3))=some (Zs s.pa s.pn s.pc)/\W.cell? (Zd (d+1) (k*8+4))=some (Zs s.sa s.x.A3.length s.sc)/\W.cell? (Zd (d+1) (k*8+5))=some (Zi s.x.change)/\W.cell? (Zd (d+1) (k*8+6))=some (Zt s.x.name)/\W.cell? (Zd (d+1) (k*8+7))=some (Zt s.x.tw))
          (first
            | exact n.o _ L.o
            | exact n.o _ I
            | exact⟨O 0 _ rfl,O 1 _ rfl,O 2 _ rfl,O 3 _ rfl,O 4 _ rfl,O 5 _ rfl,O 6 _ rfl,O 7 _ rfl⟩
            | fail)
          (first
            | (go_at_call 9
               refine(aj.o _).mono ?_;rintro e w6⟨rfl,aa⟩;have I:=Ap L.o aa;clear aa)
            | (go_at_call 11
               refine(av.o _ I).mono ?_;rintro e w7⟨rfl,ag,ad⟩;have N:=Aa ((ar.o.up I).put (bm.o.ALx.up I).bu ag);have O:∀f u,s.cells[f]? = some u->w7.cell? (Zd (d+1) (k*8+f))=some u:=λf u hf=>N.o.AOi R (by rw[bk.o];exact hf)
               obtain⟨m7,D7,cx,dc,c0,H7,σ7,ys,ad⟩:=ad;have b:=Aa ad;clear ad ag)
            | fail)
         clear O I n av aj L y0 y1 y2 y3 y4 y5 y6 y7;obtain⟨ac,_,an,aw⟩:=b.o.ser.last;have f7:=b.o.Iz;have f8:=b.o.ADp;have bn:=Aa (λW(hW:Below w7.1.size w7 W)=>ABH o.1.size _ _ _ _ (-1) _ ac W ((b.o.base.up hW).ground) (J.o.2.2.2.1.below (b.o.base.up hW).low) (J.o.2.2.2.2.below (b.o.base.up hW).low) b.o.ser.inv.Lm b.o.ser.inv.past (by omega) (Y' _) (.inl ⟨by omega,rfl⟩) an.Lz);have a3:=Aa (λW(hW:Below w7.1.size w7 W)=>ABH (o.1.size+1) _ _ _ _ (-1) _ (ac.map (ALj σ7)) W ((b.o.ALx.up hW).ground) (J.o.2.2.2.1.below (b.o.ALx.up hW).low) (J.o.2.2.2.2.below (b.o.ALx.up hW).low) b.o.ser.inv2.Lm b.o.ser.inv2.past (by omega) (Y' _) (.inl ⟨by omega,rfl⟩) aw.Lz)
         have ap:Fc (Ae H7 H7.length).qz (ac.map (ALj σ7))=Fc (Ae (H++[((s.tx,X,A5),t5)]) (H++[((s.tx,X,A5),t5)]).length).qz ac:=by rw[b.o.ser.snap];exact AMr σ7 _ ac
         rw[ap] at a3;have cl:=Aa (L0 (Ae (H++[((s.tx,X,A5),t5)]) (H++[((s.tx,X,A5),t5)]).length).qz .nil ac an.Lz.each);have c1:=an.Lz.Iz;have dr:=an.Lz.eight;clear f7 f8 an aw ap
         have cg:H7.length=(H++[((s.tx,X,A5),t5)]).length:=by have e1:=(Jb b.o.ser.inv2.past (Y' _)).2.2;have e2:=(Jb b.o.ser.inv.past (Y' _)).2.2;rw[b.o.ser.snap] at e1;have e3:=e1.symm.trans e2;omega
         go_wp2_with fail;refine(bn.o _ (XF _ _)).mono ?_;rintro e w8⟨r1,rfl,b9,a9⟩;go_wp2_with fail;refine(a3.o _ a9).mono ?_;rintro e w9⟨r2,rfl,cb,ba⟩;have co:=Aa (b9.up ba);have cp:=Aa cb;have ci:=Aa (Ap a9 ba);clear b9 cb a9 ba a3 bn
         have hlen:(Fc (Ae (H++[((s.tx,X,A5),t5)]) (H++[((s.tx,X,A5),t5)]).length).qz ac).length<=1000000:=by have:=cl.o.2;unfold Fc;rw[XB];omega
         have aq:∀r∈Fc (Ae (H++[((s.tx,X,A5),t5)]) (H++[((s.tx,X,A5),t5)]).length).qz ac,r.length<=1000:=λr hr=>by rw[sW] at hr;obtain⟨z,hz,rfl⟩:=List.mem_map.1 hr;obtain⟨x,_,da⟩:=List.mem_flatMap.1 hz;have:=ADa da;omega
         go_wp2_with fail;refine(AM6 _ _ _ w9 co.o hlen aq).mono ?_;rintro e dd⟨v1,rfl,c7,ax⟩;go_wp2_with fail;refine(AM6 _ _ _ dd (cp.o.up ax) hlen aq).mono ?_;rintro e de⟨v2,rfl,c8,ay⟩;go_wp2_with fail;refine(ACk _ _ _ de (c7.up ay) c8 (by rw[Ml];exact hlen) (λr hr=>aq r (AOJ hr))).mono ?_;rintro e df⟨rfl,b2⟩;have af:=Ap ci.o (Ap ax (Ap ay b2));have g7:=b.o.Iz;have g8:=b.o.ADp;go_wp2_with fail;refine(qQ _ _ _ _ _ df ((b.o.base.up af).ground) b.o.ser.inv.Lm b.o.ser.inv.past (by omega)).mono ?_;rintro e dg⟨rfl,az⟩;go_wp2_with fail;refine(qQ _ _ _ _ _ dg ((b.o.ALx.up (Ap af az)).ground) b.o.ser.inv2.Lm b.o.ser.inv2.past (by omega)).mono ?_;rintro e dh⟨rfl,b3⟩;have ao:=Ap af (Ap az b3);have g:Hid (AMg o dh d o.1.size (o.1.size+1) d (d+1) (i+1)):=Aa ⟨_,_,_,_,_,_,_,_,_,_,_,_,_,_,_,_,_,_,_,b.o.up ao,((N.o.up ao).AJO bm.o.ser.len cm.o).skip⟩;rw[cg];go_wp2_with fail;exact⟨⟨i+1,by omega,rfl,g⟩,by simp only[intOf];omega⟩
  have c5:¬(i:Int)<(l.length:Int):=by omega
  go_wp2_with fail;go_ret;exact⟨rfl,Ap a2.o bp.o⟩
variable{H:Type}{W:Tw}{n:Nat}{v:Tv}{d:DataW H}{p:List MemPlace}
theorem ANC:prog.cellsOf 40=10:=by kernel_rfl
def AOe(W:World)(s:AM8):Prop:=Nf W s.2.2/\∃T,s.2.2.x.tree=λa=>a=T
section
variable {H : Type} {enc : TypeId × Value → H} {W : World} {sp : Nat → Bool} {held : Bool} {n : Nat} {cs : List Value} {x : DataW H × List MemPlace}
theorem AOL(h:DataW.trod enc prog W 0 sp held n 40 cs=some x):∃s:AM8,cs=AMx s/\AOe W s:=by
 obtain⟨k,l,m,n1,_,e,b,c,d⟩:=trod_struct3 underlying40 h;rw[ANC] at e
 match cs,e with
 | [v0,v1,v2,v3,v4,v5,v6,v7,v8,v9],_=>simp only[Db,B3,kM,List.drop_zero,List.drop_succ_cons,List.take_succ_cons,List.take_zero] at b c d;obtain⟨f,e0,_⟩:=DataW.trod_bool underlying4 b;obtain⟨g,a,_,_⟩:=DataW.trod_int underlying3 c;obtain⟨q,i,j⟩:=ADH d;simp at e0 a;subst e0 a;exact⟨(f,g,q),by rw[i];rfl,j⟩
end
theorem ANu{enc:TypeId×Tv->H}(j:Value.okWide prog W .any n 22 v)(h:DataW.Trod enc prog W 0 (λ_=>true) true 22 v d p):
 ∃l:List AM8,F7 10 AMx W v l/\∀s∈l,AOe W s:=by
 haveI:Inhabited AM8:=⟨(false,0,⟨⟨0,[],[],[],0,⟨#[]⟩,⟨#[]⟩,λ_=>True⟩,none,0,none,0,none,0,0,none,0⟩)⟩
 obtain⟨b,len,a,rfl⟩:=okWide_slice underlying22 j;obtain⟨fuel,f⟩:=h;obtain⟨v',e,l,g,i⟩:=M0 (k:=10) (en:=AMx) (P:=AOe W) (by decide) (λ_=>rfl) underlying22 ANC (λh=>AOL h) f;have c:v'=Zs b len a:=by simpa[Value.cells] using e.symm
 subst c;exact⟨l,g,i⟩
theorem APF{enc:TypeId×Tv->H}(G:Value.okWide prog W .any n 23 v)(h:DataW.Trod enc prog W 0 (λ_=>true) true 23 v d p):
 ∃(a:To)(c:Nat)(l:List Int),v=Zs a l.length c/\B.Fs W (Zs a l.length c) l:=by
 obtain⟨m,len,g,rfl⟩:=okWide_slice underlying23 G;obtain⟨fuel,y⟩:=h
 obtain⟨v',e,l,z,_⟩:=M0 (k:=1) (en:=λx:Int=>[Value.int .i64 x]) (P:=λ_=>True) (by decide) (λ_=>rfl) underlying23 Db (λh=>by obtain⟨a,e,_,_⟩:=DataW.trod_int underlying3 h;exact⟨a,e,trivial⟩) y
 have o:v'=Zs m len g:=by simpa[Value.cells] using e.symm
 subst o;obtain⟨a,c,q,w,i⟩:=z;injection q with r s t;subst r s t
 exact⟨_,_,l,rfl,_,_,rfl,w,λD=>by obtain⟨b,off,u,J,f⟩:=i D;exact⟨b,off,u,λj x I=>by simpa using f j x I 0 _ rfl⟩⟩
end F
namespace tableSerial
theorem k10:(Rows.tableSerialRow.inPlace==prog.inPlace 3)=true:=by kernel_rfl
theorem k11:(Rows.tableSerialRow.unfollowed==prog.unfollowed 3)=true:=by kernel_rfl
theorem k12:(Rows.tableSerialRow.recurses==prog.recurses 3)=true:=by kernel_rfl
theorem k13:(Rows.tableSerialRow.named==prog.varsNamed 3)=true:=by kernel_rfl
theorem closed:joinedFacts prog 3 f3 (OpenSpec.ofChange Rows.tableSerialSpec).bare Rows.tableSerialRow=true:=by
 unfold joinedFacts;rw[k10,k11,k12,k13]
 kernel_rfl
variable{W:Tw}{H:Type}{P:Program}
theorem own:ownKnob prog.godebug=none:=by kernel_rfl
theorem laidOut:laidOutB prog=true:=by kernel_rfl
theorem gNc:prog.globalNamed "millpond/schema.notColumns"=some 0:=by kernel_rfl
theorem AIH:(prog.globals[0]?).map (·.type)=some 277:=by kernel_rfl
theorem gPw:prog.globalNamed "internal/strconv.uint64pow10"=some 2:=by kernel_rfl
theorem AG3:(prog.globals[2]?).map (·.type)=some 375:=by kernel_rfl
theorem AIt:prog.cellsOf 277=5:=by kernel_rfl
theorem AIF:prog.cellsOf 375=20:=by kernel_rfl
theorem AJX:prog.cellsOf 223=1:=by kernel_rfl
def Pg:List (String×DataW Unit):=[("math/bits.deBruijn32tab",Rows.laid_math_bits_deBruijn32tab),("math/bits.deBruijn64tab",Rows.laid_math_bits_deBruijn64tab),("internal/strconv.uint64pow10",Rows.laid_internal_strconv_uint64pow10),("unicode/utf8.acceptRanges",Rows.laid_unicode_utf8_acceptRanges),("strconv.ErrRange",Rows.laid_strconv_ErrRange),("strconv.ErrSyntax",Rows.laid_strconv_ErrSyntax),("millpond/schema.notColumns",Rows.laid_millpond_schema_notColumns),("millpond/stats.opposites",Rows.laid_millpond_stats_opposites),("unicode/utf8.first",Rows.laid_unicode_utf8_first)]
theorem gEt:prog.globalNamed "errors.errorType"=some 1:=by kernel_rfl
theorem rt:(prog.cutTypes.find? (·.1 == "internal/reflectlite.rtype")).map (·.2)=some 359:=by kernel_rfl
theorem AKK:prog.types.size+100=563:=by kernel_rfl
theorem AJB:((List.range (563-100)).filter λt=>prog.rowNamed t [101,114,114,111,114])=[45]:=by kernel_rfl
theorem handle(h:laidMetH prog Rows.tableSerialRow.laid W):B.Ob W:=by
 have f:laidMet prog Pg W/\handlesMet prog [("errors.errorType",Rows.laid_errors_errorType)] W:=h;obtain⟨name,u,i,c,d,j,e,a⟩:=f.2 _ (List.mem_singleton.2 rfl);have en:name=[101,114,114,111,114]:=(Yt c).symm;subst en;obtain rfl:=Yt (rt.symm.trans d);have b:i∈(List.range (563-100)).filter λt=>prog.rowNamed t [101,114,114,111,114]:=List.mem_filter.2 ⟨List.mem_range.2 (by have:=AKK;omega),e⟩
 rw[AJB] at b;obtain rfl:=List.mem_singleton.1 b;have g:typeHandle prog 45=Zp (some (Zd 11 45)):=by kernel_rfl
 rw[g] at a;exact XH gEt a 0
theorem jD{enc:TypeId×Tv->H}{w:Tw}{base:Nat}{G:Nat->Bool}{held:Bool}{fuel:Nat}{t e:TypeId}{n:Nat}{cs:List Tv}{zs:List (List UInt8)}{p:List MemPlace}(v:P.underlying t=some (.array n e))(q:P.underlying e=some .string)(d:P.cellsOf e=1)(f:P.cellsOf t=n)(h:DataW.trod enc P w base G held fuel t cs=some (DataW.agg (zs.map λz=>DataW.lit (Lit.string z)),p)):∀(i:Nat)(z:List UInt8),zs[i]? = some z->cs[i]? = some (Value.string ⟨z.toArray⟩):=by
 cases fuel with
 | zero=>simp[DataW.trod] at h
 | succ fuel=>
   simp only[DataW.trod,v,d,f,Nat.mul_one] at h;split at h
   ·rename_i hl
    obtain⟨xs,k,x⟩:=Option.map_eq_some_iff.1 h
    have a:xs.map (·.1)=zs.map λz=>(DataW.lit (.string z):DataW H):=by have:=congrArg Prod.fst x;simpa using this
    have y:xs.length=n:=by simpa using Lib.mapM_length k
    have D:zs.length=n:=by have:=congrArg List.length a;simp at this;omega
    intro i z g
    have u:i<n:=by
     rcases Yc i n with j|j
     ·exact j
     rw[Yb (by omega)] at g;cases g
    obtain⟨b,m,r⟩:=Lib.mapM_at k i i (by simp[u]);obtain⟨s,o,rfl,_⟩:=DataW.trod_string q r
    have l:cs[i]? = some (Zt s):=by have:=congrArg (·[0]?) o;simpa[List.getElem?_take,List.getElem?_drop] using this
    have c:(xs.map (·.1))[i]? = some (DataW.lit (.string s.1.toList):DataW H):=by simp[m]
    rw[a,List.getElem?_map,g] at c;simp only[Option.map_some,Option.some.injEq,DataW.lit.injEq,Lit.string.injEq] at c;rw[l,c]
   cases h
theorem words(h:laidMetH prog Rows.tableSerialRow.laid W):Lw W:=by
 have e:laidMet prog Pg W:=(show laidMet prog Pg W/\handlesMet prog [("errors.errorType",Rows.laid_errors_errorType)] W from h).1;obtain⟨n,⟨m,t',cs,fuel,p,q,c,d,b,k,_,_⟩,_⟩:=laidMet.tail (laidMet.tail (laidMet.tail (laidMet.tail (laidMet.tail (laidMet.tail e)))));obtain rfl:=Yt (gNc.symm.trans c);obtain rfl:=Yt (AIH.symm.trans d);have j:=jD (zs:=[[97,110,100],[105,115],[110,111,116],[110,117,108,108],[111,114]]) underlying277 underlying9 AEW AIt k
 have a:∀(i:Nat)(z:List UInt8),([[97,110,100],[105,115],[110,111,116],[110,117,108,108],[111,114]]:List (List UInt8))[i]? = some z->W.cell? (Zd 0 i)=some (Value.string ⟨z.toArray⟩):=λi z l=>by have f:=XH gNc b i;have g:=j i z l;rw[f];simpa using g
 exact⟨a 0 _ rfl,a 1 _ rfl,a 2 _ rfl,a 3 _ rfl,a 4 _ rfl⟩
theorem table(h:laidMetH prog Rows.tableSerialRow.laid W):Jp W:=by have a:laidMet prog Pg W:=(show laidMet prog Pg W/\handlesMet prog [("errors.errorType",Rows.laid_errors_errorType)] W from h).1;exact Lib.tabIs_of_head (rest:=[("unicode/utf8.acceptRanges",Rows.laid_unicode_utf8_acceptRanges),("strconv.ErrRange",Rows.laid_strconv_ErrRange),("strconv.ErrSyntax",Rows.laid_strconv_ErrSyntax),("millpond/schema.notColumns",Rows.laid_millpond_schema_notColumns),("millpond/stats.opposites",Rows.laid_millpond_stats_opposites),("unicode/utf8.first",Rows.laid_unicode_utf8_first)]) (zs:=Lib.pow10Tab) gPw AG3 underlying375 underlying223 AJX AIF (laidMet.tail (laidMet.tail a))
theorem AEQ:(prog.globals[4]?).map (·.type)=some 408:=by kernel_rfl
theorem AHd:prog.cellsOf 408=9:=by kernel_rfl
theorem AIw:prog.cellsOf 3=1:=by kernel_rfl
theorem ADA(h:laidMetH prog Rows.tableSerialRow.laid W):S.Lp W:=by have a:laidMet prog Pg W:=(show laidMet prog Pg W/\handlesMet prog [("errors.errorType",Rows.laid_errors_errorType)] W from h).1;exact Lib.tabIs_of_head (rest:=[("unicode/utf8.first",Rows.laid_unicode_utf8_first)]) (zs:=S.AE2) S.iO AEQ underlying408 underlying3 AIw AHd (laidMet.tail (laidMet.tail (laidMet.tail (laidMet.tail (laidMet.tail (laidMet.tail (laidMet.tail a)))))))
theorem gEr:prog.globalNamed "strconv.ErrRange"=some 8:=by kernel_rfl
theorem AH2:(prog.globals[8]?).map (·.type)=some 45:=by kernel_rfl
theorem gEs:prog.globalNamed "strconv.ErrSyntax"=some 7:=by kernel_rfl
theorem AHa:(prog.globals[7]?).map (·.type)=some 45:=by kernel_rfl
theorem star: "*" ++ "errors.errorString" = "*errors.errorString":=by decide
theorem AEh(u:TypeId)(h:prog.typeName? 3 u=some "*errors.errorString"):u=428 :=
 typeName_ptr_named (nm := "errors.errorString") (by rw[star];kernel_rfl) (by kernel_rfl) (by decide) u (by rw[star];exact h)
theorem ABp(h:laidMetH prog Rows.tableSerialRow.laid W):Ik W:=by have d:laidMet prog Pg W:=(show laidMet prog Pg W/\handlesMet prog [("errors.errorType",Rows.laid_errors_errorType)] W from h).1;have c:=laidMet.tail (laidMet.tail (laidMet.tail (laidMet.tail d)));obtain⟨e,s1,a,_⟩:=laid_sentinel (tp:=428) (te:=430) (ts:=9) c gEr AH2 underlying45 AEh underlying428 underlying430 rfl rfl underlying9 (by kernel_rfl) (by kernel_rfl);obtain⟨f,s2,b,_⟩:=laid_sentinel (tp:=428) (te:=430) (ts:=9) (laidMet.tail c) gEs AHa underlying45 AEh underlying428 underlying430 rfl rfl underlying9 (by kernel_rfl) (by kernel_rfl);exact⟨⟨_,_,by simpa using XH gEs b 0⟩,_,_,by simpa using XH gEr a 0⟩
theorem AEr(H:Type)(enc:TypeId×Tv->H)(W:Tw)(base:Nat)(args:Array Tv)(m gs:List (DataW H))(before:List MemPlace)(a:∀(j:Nat)t v,f3.params[j]? = some t->args[j]? = some v->Value.okWide prog W .any base t v)(s:DataW.Whole enc prog f3.params.toList Rows.tableSerialSpec.vars false W args.toList m gs before)(d:laidMetH prog Rows.tableSerialRow.laid W):
 Zc 3 args W λe k=>∃v,e=Zr v/\Rows.tableSerialSpec.post enc prog f3 false true false false W args v k:=by
 have b:=s;obtain⟨p,q,c,I,rfl,L,N⟩:=s;have r:DataW.TrodAll enc prog W 0 (λ_=>true) true f3.params.toList args.toList m p:=c;rw[params3] at r a;obtain⟨y,O,P,R,p0,w,rfl,rfl,rfl,n,o⟩:=trodAll_two r;obtain⟨rfl,rfl⟩:=trodVars_none I;clear c;simp only[List.append_nil] at b;have f:∀x∈p0++w,x.block<W.1.size:=λx g=>b.lt x (by simpa using g)
 obtain⟨l,M,u⟩:=F.ANu (a 0 22 y rfl rfl) n;obtain⟨z,D,G,rfl,J⟩:=F.APF (a 1 23 O rfl rfl) o;refine(F.API F.Qf F.AAS y l z D G W M (λq i=>(u q i).1) (λq i=>(u q i).2) J (ABp d) (words d) (table d) (handle d) (ADA d)).mono λe k⟨he,hb⟩=>?_
 subst he;refine⟨_,rfl,_,_,_,[],p0++w,[],b,?_,?_,rfl,hb.frame _,λh=>by cases h⟩
 ·exact trodAll_mk1 (shut_bool underlying4 _)
 exact trodAll_mk2 (XW laidOut (by kernel_rfl) (of_decide_eq_true (by kernel_rfl)) n hb (λx g=>f x (by simp[g]))) (XW laidOut (by kernel_rfl) (of_decide_eq_true (by kernel_rfl)) o hb (λx g=>f x (by simp[g])))
theorem o6{w0:Tw}{laid:List (String×Td)}(args:Array Tv)(c:w0.layFits P laid []=true)(d:w0.layIfaces P laid (w0.layVars P laid)=true):laidMet P laid ((w0.layVars P laid).forCall (λ_ _=>0) ⟨#[],args,[]⟩).memory:=by
 have a:(laid.filter λx=>(laid.map (·.1)).contains x.1)=laid:=List.filter_eq_self.2 λx hx=>List.contains_iff_mem.2 (List.mem_map.2 ⟨x,hx,rfl⟩)
 have b:(laid.filter λx=>!(laid.map (·.1)).contains x.1)=[]:=List.filter_eq_nil_iff.2 λx hx=>by rw[List.contains_iff_mem.2 (List.mem_map.2 ⟨x,hx,rfl⟩)];simp
 have h:laidMet P laid (w0.layVars P laid):=laidMet_layVars (w0:=w0) (laid.map (·.1)) [] (by rw[a]) (by rw[a];exact c) (by rw[a];exact d) (by rw[b];exact LaidIn.none);exact h.of_heap (by simp[World.memory,World.forCall,Input.heap])
noncomputable def w00 (os:Os):World:=(World.holding prog os ⟨#[],#[],[]⟩).setCell ⟨1,0,none⟩ (.iface 359 (.agg #[.pointer (some ⟨11,45,none⟩)]))
noncomputable def wit (os:Os):World:=(w00 os).layVars prog Pg
theorem AIq(os:Os):(wit os).os=os:=World.layVars_os _ _ _
theorem AEH(os:Os):laidMetH prog Rows.tableSerialRow.laid ((wit os).forCall (λ_ _=>0) ⟨#[],#[Zs none 0 0,Zs none 0 0],[]⟩).memory :=
 laidMetH_of_parts (o6 (w0:=w00 os) (laid:=Pg) _ (by kernel_rfl) (by kernel_rfl)) (by kernel_rfl)
theorem reads(os:Os)(enc:TypeId×Tv->H):∃a places,DataW.whole enc prog ((wit os).forCall (λ_ _=>0) ⟨#[],#[Zs none 0 0,Zs none 0 0],[]⟩).memory f3.params.toList Rows.tableSerialSpec.vars false #[Value.slice none 0 0,Zs none 0 0].toList 8=some (a,[],places) :=
 ⟨[.nil,.nil],[],by kernel_rfl⟩
theorem lifted(os:Os)(started:os.Started)(H:Type)(enc:TypeId×Tv->H)(F:Stop.Interp):
 ReturnsInHanded {} checked os 3 .any ((OpenSpec.ofChange Rows.tableSerialSpec).preRow enc prog f3 Rows.tableSerialRow.domain false Rows.tableSerialRow.laid) (((OpenSpec.ofChange Rows.tableSerialSpec).at F).post enc prog f3 false true false false):=by
 obtain⟨b,places,f⟩:=reads os enc
 refine returnsInHanded_of_row (C:=checked) (s:=OpenSpec.ofChange Rows.tableSerialSpec) own started (by kernel_rfl) func3
  (witness_row_at (enc:=enc) (C:=checked) false (wit os) #[Zs none 0 0,Zs none 0 0] (AIq os) (by kernel_rfl) (by kernel_rfl) (by kernel_rfl)
    (OpenSpec.preRow_of_cond 8 f (by kernel_rfl) (λk e=>by cases e) (by kernel_rfl) (AEH os))) ?_
 intro W base args b gs before a d _ _ _ c _ _;exact AEr H enc W base args b gs before a d c
theorem s1:Tryz.pinned.checked.prog.funcNamed Rows.tableSerialRow.func=some 3:=by kernel_rfl
theorem s2:f3.isWrapper Tryz.pinned.checked.prog Rows.tableSerialRow.wrapper Rows.tableSerialRow.mainSum:=by
 unfold Func.isWrapper
 first|(rw[Yae (by decide +kernel)];kernel_rfl)|(rw[Yad (by decide +kernel)];exact⟨rfl,rfl⟩)
theorem s3:f3.isInstance Tryz.pinned.checked.prog Rows.tableSerialRow.origin Rows.tableSerialRow.targs:=of_decide_eq_true (by kernel_rfl)
theorem said:Rows.TableSerialSaid :=
 OpenClaim.holds_of_cond 3 f3 rfl rfl rfl rfl rfl rfl rfl ⟨rfl,rfl,rfl,rfl,rfl⟩ rfl rfl rfl rfl rfl s1 func3 closed s3 s2
  (λos started H enc _ F=>by rw[OpenClaim.pre_eq_preRow];exact lifted os started H enc F)
theorem plain(f:FuncId)(b:Func)(e:Tryz.pinned.checked.prog.funcNamed "millpond/millpondkeep.TableSerial"=some f)(c:Tryz.pinned.checked.prog.funcs[f]? = some b):
 true=Tryz.pinned.checked.prog.looks []/\∀(j:Nat)t,b.params[j]? = some t->Tryz.pinned.checked.prog.wantsStandIn t=false:=by
 obtain rfl:f=3:=Yt ((show prog.funcNamed "millpond/millpondkeep.TableSerial"=some 3 by kernel_rfl).symm.trans e) |>.symm;obtain rfl:b=f3:=(Yt (func3.symm.trans c)).symm;refine⟨by kernel_rfl,λj t d=>?_⟩;rw[params3] at d;have g:t∈[22,23]:=by simpa using Array.mem_of_getElem? d
 have a:([22,23].all λu=>!prog.wantsStandIn u)=true:=by kernel_rfl
 exact(show prog.wantsStandIn t=false by simpa using List.all_eq_true.1 a t g)
end tableSerial
theorem tableSerial_card:Rows.TableSerialCardSaid :=
 Claim7.holds_tied_plain_at .later [] _ _ _ _ tableSerial.said (λ_ h=>by cases h) (by kernel_rfl) (λ_ h=>by cases h) tableSerial_row_tie rfl ⟨rfl,rfl⟩ (by kernel_rfl) rfl tableSerial.plain (by kernel_rfl)
