import Derived.Test.YthafikkkjfielaaGreatDoorCF
import Derived.Lib.VarintDec
import Derived.Lib.VarintMem
import Derived.Lib.VarintBits
import Derived.Lib.Zigzag
import Derived.Laws.AppendOwnNone
set_option maxHeartbeats 40000000
set_option maxRecDepth 100000
open Nat renaming le_refl->Y',le_trans->XF,zero_le->XI,add_assoc->XT,add_zero->XZ,add_comm->X4,zero_add->WE,div_eq_of_lt->WJ,mul_assoc->WN,pow_succ->WS
open List renaming length_append->XA,getElem?_eq_getElem->XB,append_assoc->XD,length_cons->XE,mem_of_getElem?->XH,cons_append->XO,length_replicate->XP,mem_of_mem_drop->XU,flatMap_cons->XY,take_succ_cons->X6,drop_succ_cons->X',filter_eq_self->Wb,set_cons_succ->WB,any_eq_false->WH,mem_append->WK,drop_drop->WL,mem_cons->WM,lt_asymm->WO,lt_trans->WQ,mem_map->WR
open Go.World renaming ownsRow_nil->XC,cell?_alloc_mark->XK,news_of_block->XM,cell?_alloc_at->XV,cell?_drewN->XX,grownBy_alloc->WA,drewN_drewN->WD
open Go.RowKit.Below renaming refl->XG,heap_alloc->XQ
open Option renaming getD_some->XJ
open Bool renaming and_eq_true->XL,false_eq_true->XS,or_eq_true->XW,not_eq_false'->WC,not_eq_true'->WG,not_eq_true->WI
open Array renaming getElem?_eq_none->XN,length_toList->XR
namespace Go.Proofs.YthafikkkjfielaaGreatDoor
open Tryz RowKit Lib Joins Shelf Go.Sort
open Go.Sort (grow)
theorem AJa(w:Tw):(binOp .eql 45 (Zf 91 (Zi 9)) (Zf 91 (Zi 14))).run prog w=.ok (Zo false) w:=by kernel_rfl
theorem AFK(w:Tw):(binOp .eql 45 (Zf 91 (Zi 14)) (Zf 91 (Zi 14))).run prog w=.ok (Zo true) w:=by kernel_rfl
theorem AE7{s:Ah}{y:Int}{G:To}{n k:Nat}{z:Int}{I:To}{i j:Nat}{C:Dn}{l:To}{m d:Nat}{w:Tw}(h:Dl w s (K4 y G n k z I i j))(P:Good Bv Cm s)(u:0<=s.Eb)(v:s.Eb<=1000)(O:Dt w (Zs l m d) C.2.2)(p:C.2.2.length<=1000)(r:C.1.size<=maxLen)(R:Lw w):
 Zc 56 #[Zg #[Zi y,Zs G n k,Zi z,Zs I i j],Zg #[Zt C.1,Zo C.2.1,Zs l m d]] w λe M=>Zb w M/\((∃t a n1 c1 f b n2 c,e=Zr (Zu #[Zg #[Zi (s.Eb+1),Zs a n1 c1,Zi f,Zs b n2 c],Zn])/\Bi s C t)\/(∃g a n1 c1 f b n2 c D x,e=Zr (Zu #[Zg #[Zi g,Zs a n1 c1,Zi f,Zs b n2 c],Zf D x])/\∀t,¬Bi s C t)):=by
 obtain⟨V,U,A⟩:=C;refine(kJ s _ V U A l m d w h P u v O p r R).mono ?_;rintro e M⟨g,a,n1,c1,f,b,n2,c,W,rfl,L,⟨rfl,t,J,N⟩|⟨D,x,rfl,q⟩⟩
 ·obtain⟨_,_,_,_,_,_,_,o⟩:=Nv N
  unfold K4 at o;simp only[Value.agg.injEq,Array.mk.injEq,List.cons.injEq,Value.int.injEq,Value.slice.injEq] at o;have T:g=s.Eb+1:=by rw[o.1.2,aB J]
  subst T;exact⟨L,.inl ⟨t,a,n1,c1,f,b,n2,c,rfl,J⟩⟩
 exact⟨L,.inr ⟨g,a,n1,c1,f,b,n2,c,D,x,rfl,q⟩⟩
theorem AHx(w0:Tw)(NF bb n:Nat)(D:Td)(fs:List Int)(mv fv:Tv)(p:Tb)(r:Bool)(A:List ADV)(aa:To)(an ac:Nat)(H:List (Dn×Ah))(j:Nat)(a1:To)(n1 c1:Nat)(x2:Int)(a2:To)(n2 c2:Nat)(w:Tw)(h:Ey w0 w NF bb n D fs mv fv)(ce:NF<=w.1.size)(hn:n<=90000)(hl:U6 D H)(hp:La H)(O5:H.length<=40)(hj:j<=H.length)(hs:Dl w (Ae H j) (K4 j a1 n1 c1 x2 a2 n2 c2))(hA:Dt w (Zs aa an ac) A)(cd:A.length<=100)(bz:Cv (p,r,A)=true->0<(C6 (p,r,A)).size/\(C6 (p,r,A)).size<=1000000)(cr:p.size<=60)(ap:∀a∈A,Ch a=true->Fh a):
 Zc 27 #[Zp (some (Zd bb 0)),K4 j a1 n1 c1 x2 a2 n2 c2,Zg #[Zt p,Zo r,Zs aa an ac]] w (Jy w0 w NF bb n D fs mv (p,r,A) H j):=by
 have b3:p.size<=maxLen:=by unfold maxLen;omega
 obtain⟨t0,t1,t2,t3⟩:=ALM w (Zk #[Zi j,Zs a1 n1 c1,Zi x2,Zs a2 n2 c2] 56) (Zk #[Zt p,Zo r,Zs aa an ac] 53);have M:=Aa (lW p r A aa an ac _ (hA.below t3) (by omega) b3 ap (h.ground.nc.below t3) (h.ground.tb.below t3));unfold K4;cases hpo:Cv (p,r,A) with
 | false=>unfold Hz at M;rw[hpo] at M;have b9:Hid (∀W,Below w.1.size w W->Jy w0 w NF bb n D fs mv (p,r,A) H j (Zr (Zu #[Zi 0,Zf 91 (Zi 1)])) W):=Aa (λW hb=>⟨n,D,fs,mv,fv,h.up hb,by omega,B.A0.Ba hb,λk hk=>.inl hk,.inr ⟨_,_,rfl,rfl,.inl hpo⟩⟩);have cb:=Aa t3;clear h hl hp hs hA ap hpo t0 t1 t2 t3;go_enter func27,ntmps27;go_wp2_with fail;apply M.o.mono;rintro e w1⟨rfl,al⟩;clear M;go_wp2_with fail;go_ret2;exact b9.o _ (Below.Ap cb.o al)
 | true=>
   unfold Hz at M;rw[hpo] at M
   have ax:Hid (Lay (p,r,A)):=Aa ⟨hpo,λa ha=>by simp only[Cv,XL,List.all_eq_true] at hpo;exact ap a ha (hpo.2 a ha),cd,bz hpo⟩
   have cq:=bz hpo
   have bi:Hid (∀W,Below ((w.alloc (Zk #[Zi j,Zs a1 n1 c1,Zi x2,Zs a2 n2 c2] 56)).alloc (Zk #[Zt p,Zo r,Zs aa an ac] 53)).1.size ((w.alloc (Zk #[Zi j,Zs a1 n1 c1,Zi x2,Zs a2 n2 c2] 56)).alloc (Zk #[Zt p,Zo r,Zs aa an ac] 53)) W->TrI w0 w NF bb n D fs mv (p,r,A) aa an ac H j W.1.size (W.alloc (Zk #[Zp (some (Zd bb 0))] 25)) j a1 n1 c1 x2 a2 n2 c2 mv fv):=Aa (λW hb=>by have ak:=Below.Ap (Below.Ap t3 hb) ((XG _ W).alloc (Y' _) (Zk #[Zp (some (Zd bb 0))] 25));have U:=Below.Ap hb ((XG _ W).alloc (Y' _) (Zk #[Zp (some (Zd bb 0))] 25));refine⟨by rw[YO];exact h.up ak,B.A0.Ba ak,λk hk=>.inl hk,(U.block _ (Ac t1)).trans t1,hs.up ak,(U.block _ (Ac t2)).trans t2,Yac _ _,G3.Ba ak,λx c h1 h2=>by omega⟩)
   have HL:=Aa hl;have HP:=Aa hp;have b7:=Aa h.low.size;have a7:=Aa hA;clear h hl hp hs hA ap t0 t1 t2 t3 hpo;have q1:=AFH;have q2:=AEV;have q3:=AJa;have q4:=AFK;go_enter func27,ntmps27;go_wp2_with fail;apply M.o.mono;rintro e w1⟨rfl,al⟩;have bj:=Aa (bi.o w1 al);clear M bi al;go_wp2_with (go_at_call 55;refine(mM _ _).mono ?_;rintro e w2⟨rfl,rfl⟩);generalize w1.alloc (Zk #[Zp (some (Zd bb 0))] 25)=wa at *;generalize w1.1.size=kb at *;generalize bw:C6 (p,r,A)=pb at *;have az:=Aa bw;clear bw
   go_loopw [11,12,13,14] (λ_ _ _ _ wr=>∃k a1 n1 c1 x2 a2 n2 c2 b4 bm,k<=H.length/\j<=k/\Hid (TrI w0 w NF bb n D fs mv (p,r,A) aa an ac H j kb wr k a1 n1 c1 x2 a2 n2 c2 b4 bm)) (λ_ _ _ _ wr=>H.length-ABf w.1.size wr)
   case atStart=>exact⟨j,a1,n1,c1,x2,a2,n2,c2,mv,fv,hj,Y' _,bj⟩
   case round=>
    obtain⟨k,a1,n1,c1,x2,a2,n2,c2,b4,bm,bs,br,HI⟩:=hrel;clear bj;obtain⟨a5,cf,af⟩:=Jb HP.o (i:=k) bs;have ab:=Aa (AE7 (C:=(p,r,A)) HI.o.snap a5 (by rw[af];omega) (by rw[af];omega) (a7.o.stays HI.o.st) (by show A.length<=1000;omega) b3 HI.o.base.ground.nc);rw[af] at ab;simp only at ab;have HG:=Aa (And.intro a5 af);have cs:(k:Int)+1<=41:=by omega
    have ct:(0:Int)<=(k:Int):=by omega
    have cu:¬(200:Int)<=(k:Int):=by omega
    clear a5 cf af;obtain⟨X,Y,x3,x4,xf⟩:=B3 HI.o.box;have ci:=Aa (Pm X);obtain⟨y0,y1,y2,yf⟩:=Db HI.o.com;go_wp2_with fail;apply ab.o.mono;rintro e w2⟨U,⟨t,b1,m1,d1,z2,b2,m2,d2,rfl,bo⟩|⟨z0,b1,m1,d1,z2,b2,m2,d2,ty,x,rfl,bv⟩⟩
    ·have bd:Hid (Below wr.1.size wr (w2.alloc (Zk #[Zi ((k:Int)+1),Zs b1 m1 d1,Zi z2,Zs b2 m2 d2] 56))):=Aa (Below.Ap U (Zal))
     have ah:=Aa (HI.o.up bd.o);have ay:=Aa (Yac w2 (Zk #[Zi ((k:Int)+1),Zs b1 m1 d1,Zi z2,Zs b2 m2 d2] 56));have HT:=Aa bo;have aw:=Aa (ABK (k+1) (w2.alloc (Zk #[Zi ((k:Int)+1),Zs b1 m1 d1,Zi z2,Zs b2 m2 d2] 56)) (by omega) ah.o.base.ground.tb);have e1:((k+1:Nat):Int)=(k:Int)+1:=by omega
     rw[e1] at aw;have X2:=Aa ah.o.box;clear X Y x3 x4 xf y0 y1 y2 yf U bo ab;obtain⟨X,Y,x3,x4,xf⟩:=B3 X2.o;go_wp2_with fail;apply aw.o.mono;rintro e w3⟨rfl,a4⟩;have b:=Aa (ah.o.up a4);have L:=Aa ((a4.block _ (Ac ay.o)).trans ay.o);clear X Y x3 x4 xf a4 aw ah ay bd X2
     by_cases bt:k<H.length
     ·obtain⟨c,hc,aq,ag⟩:=AA8 HP.o bt
      obtain⟨hh,bp⟩:=(HL.o.2 k (by omega)).1 c hc;have f:=Aa (Ub b.o.base (by omega) (k+1) pb (by unfold maxLen;omega) (9,D,fs) (wF hh));rw[show B.L8 ((9:Int),D,fs).1=Value.iface 91 (Zi 9) from rfl] at f;go_wp2_with fail;apply f.o.mono;rintro e R⟨rfl,P,ae,d,l,z⟩;obtain⟨o1,l1,bx,sn,cm,G,N⟩:=b.o.put d l z;have y:=Aa (Ut b.o.base.bu l L.o (by decide));have en:n+(k-j)+1=n+1+(k-j):=by omega
      have bk:Hid (TrI w0 w NF bb (n+1) D fs mv (p,r,A) aa an ac H j kb R k a1 n1 c1 x2 a2 n2 c2 P ae):=Aa ⟨en ▸ d,o1,l1,bx,sn,cm,G,N,b.o.quiet⟩;have u:=Aa (AAJ bb kb _ D P (k+1) c R (by omega) d.ground G hh bp ag);rw[e1] at u;obtain⟨O,T,cA⟩:=c;simp only at u;have HC:=Aa (And.intro hc (And.intro aq ag));clear d l z o1 l1 bx sn cm G N f hh bp aq ag hc b L;obtain⟨X,Y,x3,x4,xf⟩:=B3 y.o;go_wp2_with fail;apply u.o.mono;rintro e w5⟨ba,bn,bc,rfl,aj,V⟩;generalize C6 (O,T,cA)=a3 at *;have ad:Hid (Below R.1.size R (w5.alloc (Zk #[Zt a3,Zt O,Zo T,Zs ba bn bc] 138))):=Aa (Below.Ap V (Zal));have ai:=Aa (bk.o.up ad.o);have ar:=Aa (aj.below ((XG _ _).alloc (Y' _) (Zk #[Zt a3,Zt O,Zo T,Zs ba bn bc] 138)));have av:=Aa (Yac w5 (Zk #[Zt a3,Zt O,Zo T,Zs ba bn bc] 138));have ck:cA.length<=100:=HC.o.2.2.Iz;have bh:=Aa (ANs p r aa an ac A O T ba bn bc cA _ (a7.o.stays ai.o.st) ar.o (by omega) (by omega));clear X Y x3 x4 xf aj V u y;obtain⟨y0,y1,y2,yf⟩:=Db ai.o.com;go_wp2_with fail;apply bh.o.mono;rintro e w6⟨rfl,am⟩;have I:=Aa (ai.o.up am);have a8:=Aa (ar.o.below am);have bf:=Aa ((am.block _ (Ac av.o)).trans av.o);clear y0 y1 y2 yf am bh ai ar av ad bk;cases hf:Nt (p,r,A) (O,T,cA) with
      | true=>have J:Hid (Jy w0 w NF bb n D fs mv (p,r,A) H j (Zr (Zu #[Zi 0,Zf 91 (Zi 6)])) w6):=Aa ⟨_,_,_,_,_,I.o.base,by omega,I.o.only,I.o.link,.inr ⟨_,_,rfl,rfl,.inr (.inr (.inl ⟨k,_,br,HC.o.1,hf,rfl⟩))⟩⟩;clear hf;go_wp2_with fail;go_ret2;exact J.o
      | false=>
        have b0:O.size<=maxLen:=by have hh:=HC.o.2.2.ok;simp only[Cv,XL] at hh;have:=Hh hh.1;unfold maxLen;omega
        have au:=Aa (bN _ _ k a1 n1 c1 x2 a2 n2 c2 O T cA ba bn bc w6 I.o.snap HG.o.1 (by rw[HG.o.2];omega) (by rw[HG.o.2];omega) a8.o (by omega) b0 I.o.base.ground.nc HC.o.2.1);have HQ:=Aa (oR I.o.quiet HC.o.1 hf);have cc:=Aa (Jb HP.o (i:=k+1) (by omega)).2.2;unfold K4 at au;obtain⟨X,Y,x3,x4,xf⟩:=B3 I.o.box;obtain⟨y0,y1,y2,y3,yf⟩:=B3 bf.o;clear hf b0;go_wp2_with fail;apply au.o.mono;rintro e w7⟨u0,g1,p1,b5,u2,g2,p2,b6,rfl,a6,bq⟩;obtain⟨_,_,_,_,_,_,_,ev⟩:=Nv a6;unfold K4 at ev;simp only[Value.agg.injEq,Array.mk.injEq,List.cons.injEq,Value.int.injEq,Value.slice.injEq] at ev;have ch:u0=((k+1:Nat):Int):=by rw[ev.1.2,cc.o]
        clear ev;subst ch;have ca:=Aa a6;have q:=Aa (I.o.up bq);clear X Y x3 x4 xf y0 y1 y2 y3 yf a6 bq au I a8 bf;obtain⟨_,_,_,_,gf⟩:=B3 q.o.box;have cl:=gf 0;have cn:=gf 1;have co:=gf 2;have cp:=gf 3;clear gf e1;generalize cg:((k+1:Nat):Int)=ki at *;go_wp2_with fail;subst cg;obtain⟨hP,hG⟩:=sF _ _ _ _ _ _ (Zi ((k+1:Nat):Int)) (Zs g1 p1 b5) (Zi u2) (Zs g2 p2 b6) _ q.o.box;have cj:w0.1.size<=w.1.size:=b7.o;have en:n+1+(k-j)=n+(k+1-j):=by omega
        refine⟨⟨k+1,g1,p1,b5,u2,g2,p2,b6,P,ae,by omega,by omega,Aa ⟨en ▸ q.o.base.store q.o.box (by decide) ce cj hG,q.o.only.grown hG (λm hm bt=>by injection hm with hm;omega),q.o.link,hP,ca.o.put q.o.box hG,?_,?_,?_,HQ.o⟩⟩,?_⟩
        ·exact(hG.block _ (Ac q.o.com) (λe=>by injection e with e;omega)).trans q.o.com
        ·exact AIC q.o.kb q.o.box (by decide) hG
        ·exact⟨XF q.o.st.size hG.size,λg o x hc=>(hG.block g (Ya (Fv hc) q.o.st.size) (λe=>by injection e with e;have:=Fv hc;omega)).trans (q.o.st.same g o x hc)⟩
        have e1:=Pm (B3 hP).1;rw[ci.o,e1];omega
     have ao:k=H.length:=by omega
     have hh:=(HL.o.2 k (by omega)).2 (by omega);have v:=AEG (fs:=fs) (s:=pb) hh;have a9:=Aa (ao ▸ HT.o);have a0:=Aa (ao ▸ b.o.quiet);have bg:Hid (((H.length+1:Nat):Int)=(k:Int)+1):=Aa (by omega);have bl:Hid (D.put (B.lit (Ek (k+1))) (B.Gw pb)=D.put (B.lit (Ek (H.length+1))) (B.Gw (C6 (p,r,A)))):=Aa (by rw[az.o,ao]);clear ao
     by_cases f1:fs.headD 0=1
     ·have f:=Aa (Ub b.o.base (by omega) (k+1) pb (by unfold maxLen;omega) (14,D,fs.tail) (by rw[v,Yae f1]))
      rw[show B.L8 ((14:Int),D,fs.tail).1=Value.iface 91 (Zi 14) from rfl] at f;have F1:=Aa f1;clear f1 v;go_wp2_with fail;apply f.o.mono;rintro e R⟨rfl,P,ae,d,l,z⟩;obtain⟨o1,l1,bx,sn,cm,G,N⟩:=b.o.put d l z;have y:=Aa (Ut b.o.base.bu l L.o (by decide));have u:=Aa (AIL bb kb _ D P (k+1) R (by omega) d.ground G hh);rw[e1] at u;have J:Hid (∀W,Below R.1.size R W->Jy w0 w NF bb n D fs mv (p,r,A) H j (Zr (Zu #[Zi 0,Zf 91 (Zi 14)])) W):=Aa (λW hb=>⟨_,_,_,_,_,d.up hb,by omega,o1.trans (B.A0.Ba (S:=λ_=>False) hb) (λ_ _ h=>h.elim),l1,.inr ⟨_,_,rfl,rfl,.inr (.inr (.inr ⟨a0.o,F1.o⟩))⟩⟩);clear d l z o1 l1 bx sn cm G N f hh b L;obtain⟨X,Y,x3,x4,xf⟩:=B3 y.o;go_wp2_with fail;apply u.o.mono;rintro e w5⟨rfl,V⟩;clear u;go_wp2_with fail;go_ret2;exact J.o _ (Below.Ap V (Zal))
     by_cases f2:fs.headD 0=2
     ·have f:=Aa (Ub b.o.base (by omega) (k+1) pb (by unfold maxLen;omega) (14,D.put (B.lit (Ek (k+1))) (B.Gw pb),fs.tail) (by rw[v,Yad f1,Yae f2]))
      rw[show B.L8 ((14:Int),D.put (B.lit (Ek (k+1))) (B.Gw pb),fs.tail).1=Value.iface 91 (.int .i64 14) from rfl] at f;clear f1 f2 v;go_wp2_with fail;apply f.o.mono;rintro e R⟨rfl,P,ae,d,l,z⟩;obtain⟨o1,l1,bx,sn,cm,G,N⟩:=b.o.put d l z;have y:=Aa (Ut b.o.base.bu l L.o (by decide));have u:=Aa (AAJ bb kb _ _ P (k+1) (p,r,A) R (by omega) d.ground G (Maps.has_put_same HL.o.1 L4 _) (by rw[Maps.atKey_put_same HL.o.1 L4,az.o]) ax.o);rw[e1,az.o] at u;simp only at u;have J:Hid (∀W,Below R.1.size R W->Jy w0 w NF bb n D fs mv (p,r,A) H j (Zr (Zu #[Zi ((k:Int)+1),Zn])) W):=Aa (λW hb=>⟨_,_,_,_,_,d.up hb,by omega,o1.trans (B.A0.Ba (S:=λ_=>False) hb) (λ_ _ h=>h.elim),l1,.inl ⟨t,by rw[bg.o],a9.o,ax.o.ok,a0.o,bl.o⟩⟩);clear d l z o1 l1 bx sn cm G N f hh b L;obtain⟨X,Y,x3,x4,xf⟩:=B3 y.o;go_wp2_with fail;apply u.o.mono;rintro e w5⟨ba,bn,bc,rfl,aj,V⟩;have ad:Hid (Below R.1.size R (w5.alloc (Zk #[Zt pb,Zt p,Zo r,Zs ba bn bc] 138))):=Aa (Below.Ap V (Zal));have b8:=Aa ((ad.o.block _ (Ac y.o)).trans y.o);clear u X Y x3 x4 xf aj V y;obtain⟨X,Y,x3,x4,xf⟩:=B3 b8.o;go_wp2_with fail;go_ret2;exact J.o _ ad.o
     have f:=Aa (Ub b.o.base (by omega) (k+1) pb (by unfold maxLen;omega) (0,D.put (B.lit (Ek (k+1))) (B.Gw pb),fs.tail) (by rw[v,Yad f1,Yad f2]));rw[show B.L8 ((0:Int),D.put (B.lit (Ek (k+1))) (B.Gw pb),fs.tail).1=Value.nilIface from rfl] at f;clear f1 f2 v;go_wp2_with fail;apply f.o.mono;rintro e R⟨rfl,P,ae,d,l,z⟩;obtain⟨o1,l1,bx,sn,cm,G,N⟩:=b.o.put d l z;have y:=Aa (Ut b.o.base.bu l L.o (by decide));have J:Hid (Jy w0 w NF bb n D fs mv (p,r,A) H j (Zr (Zu #[Zi ((k:Int)+1),Zn])) R):=Aa ⟨_,_,_,_,_,d,by omega,o1,l1,.inl ⟨t,by rw[bg.o],a9.o,ax.o.ok,a0.o,bl.o⟩⟩;clear d l z o1 l1 bx sn cm G N f hh b L;obtain⟨X,Y,x3,x4,xf⟩:=B3 y.o;go_wp2_with fail;go_ret2;exact J.o
    have J:Hid (Jy w0 w NF bb n D fs mv (p,r,A) H j (Zr (Zu #[Zi 0,Zf ty x])) (w2.alloc (Zk #[Zi z0,Zs b1 m1 d1,Zi z2,Zs b2 m2 d2] 56))):=by have hI:=HI.o.up (Below.Ap U ((XG _ _).alloc (Y' _) (Zk #[Zi z0,Zs b1 m1 d1,Zi z2,Zs b2 m2 d2] 56)));exact Aa ⟨_,_,_,_,_,hI.base,by omega,hI.only,hI.link,.inr ⟨_,_,rfl,rfl,.inr (.inl ⟨k,br,bs,hI.quiet,bv⟩)⟩⟩
    clear X Y x3 x4 xf y0 y1 y2 yf U bv ab;go_wp2_with fail;go_ret2;exact J.o
namespace E
abbrev V:Type:=Int×Int×ByteArray
def str(l:List UInt8):ByteArray:=⟨l.toArray⟩
theorem Ux(s:Tb):str s.1.toList=s:=by cases s;simp[str]
theorem Eo(l:List UInt8):(str l).1.toList=l:=by simp[str]
theorem Ds(l:List UInt8):(str l).size=l.length:=by show (str l).1.size=_;simp[str]
def Pp(x:Int):Int:=(x+9223372036854775808) % 18446744073709551616-9223372036854775808
def J3(v:V):List UInt8:=if v.1=1 then uvarint (zigzag v.2.1) else uvarint v.2.2.size++v.2.2.1.toList
def Fx(l:List V):List UInt8:=l.flatMap J3
def same(v:V):List V->Nat
 | []=>0
 | x :: l=>if x=v then same v l+1 else 0
theorem Ue(v:V):∀l,same v l<=l.length
 | []=>Y' _
 | x :: l=>by unfold same;split <;> simp;exact Ue v l
def El:Nat->List V->List UInt8
 | 0,_=>[]
 | _+1,[]=>[]
 | f+1,v :: l=>uvarint (same v l+1)++J3 v++El f (l.drop (same v l))
def place(v:V):List V->Nat
 | []=>0
 | x :: l=>if x=v then 0 else place v l+1
def Ff(s:List V×List UInt8)(v:V):List V×List UInt8 :=
 (if place v s.1<s.1.length then s.1 else s.1++[v],s.2++uvarint (place v s.1))
def Pd(l:List V):List UInt8 :=
 uvarint (l.foldl Ff ([],[])).1.length++Fx (l.foldl Ff ([],[])).1++(l.foldl Ff ([],[])).2
def G5(a:Int):List V->List UInt8
 | []=>[]
 | v :: l=>uvarint (zigzag (Pp (v.2.1-a)))++G5 v.2.1 l
def I0(a:Nat)(l:List V):List UInt8:=if a=1 then El l.length l else if a=2 then Pd l else if a=3 then G5 0 l else Fx l
def better(a b:List UInt8):List UInt8:=if b.length<a.length then b else a
def Hp(kind:Int)(l:List V):Nat->List UInt8
 | 0=>[]
 | 1=>0 :: I0 0 l
 | w+2=>if w+1=3/\kind≠1 then Hp kind l (w+1) else better (Hp kind l (w+1)) ((w+1).toUInt8 :: I0 (w+1) l)
def AEn(kind:Int)(l:List V):List UInt8:=Hp kind l 4
def Qi(v:V):Bool:=v.1==0
def Cb(l:List V)(m:Nat):Nat->List Nat
 | 0=>List.replicate m 0
 | k+1=>if (l[k]?.map Qi)=some true then (Cb l m k).set (k / 8) (((Cb l m k)[k / 8]?.getD 0)+2 ^ (k % 8)) else Cb l m k
def Q8(l:List V):List Nat:=Cb l ((l.length+7) / 8) l.length
def Gq(l:List V):List UInt8:=(Q8 l).map Nat.toUInt8
def known(l:List V):List V:=l.filter λv=>!Qi v
def Hv(kind:Int)(l:List V):List UInt8:=uvarint l.length++Gq l++AEn kind (known l)
abbrev St:Type:=List UInt8×Bool
def Nu(full:List UInt8):Nat->List UInt8->Nat->Nat×List UInt8×Bool
 | _,[],_=>(0,full,false)
 | i,c :: r,acc=>
   if i=10 then (0,full,false)
   else if c.toNat<128 then (acc+c.toNat % 128*2 ^ (7*i) % 18446744073709551616,r,decide (uvarint (acc+c.toNat % 128*2 ^ (7*i) % 18446744073709551616)=full.take (i+1)))
   else Nu full (i+1) r (acc+c.toNat % 128*2 ^ (7*i) % 18446744073709551616)
def rdNum(l:List UInt8):Nat×List UInt8×Bool:=Nu l 0 l 0
def Fg(s:St):Nat×St:=((rdNum s.1).1,((rdNum s.1).2.1,s.2 || !(rdNum s.1).2.2))
def Ra(most:Int)(s:St):Bool:=(Fg s).2.2 || decide (most<0) || decide (most<((Fg s).1:Int))
def Am(most:Int)(s:St):Nat×St:=if Ra most s then (0,((Fg s).2.1,true)) else Fg s
def C8(n:Nat)(s:St):List UInt8×St:=if s.1.length<n then ([],(s.1,true)) else (s.1.take n,(s.1.drop n,s.2))
def Dy(kind:Int)(s:St):V×St :=
 if kind=1 then ((1,unzigzag (Fg s).1,str []),(Fg s).2)
 else ((2,0,str (C8 (Am 40 s).1 (Am 40 s).2).1),(C8 (Am 40 s).1 (Am 40 s).2).2)
def Cn(kind:Int):Nat->St->List V×St
 | 0,s=>([],s)
 | n+1,s=>((Dy kind s).1 :: (Cn kind n (Dy kind s).2).1,(Cn kind n (Dy kind s).2).2)
def Qy(kind:Int)(n:Nat)(l:List V)(s:St):St:=(Dy kind (Am (n-l.length:Nat) s).2).2
def rM(kind:Int)(n:Nat)(l:List V)(s:St):List V:=l++List.replicate (Am (n-l.length:Nat) s).1 (Dy kind (Am (n-l.length:Nat) s).2).1
def G7(kind:Int)(n:Nat):Nat->List V->St->List V×St
 | 0,l,s=>(l,s)
 | f+1,l,s=>if l.length<n/\s.2=false then G7 kind n f (rM kind n l s) (Qy kind n l s) else (l,s)
def Ec(d:List V):Nat->List V->St->List V×St
 | 0,a,s=>(a,s)
 | n+1,a,s=>
   if (Am ((d.length:Int)-1) s).2.2 then ([],(Am ((d.length:Int)-1) s).2)
   else Ec d n (a++[d[(Am ((d.length:Int)-1) s).1]?.getD (0,0,str [])]) (Am ((d.length:Int)-1) s).2
def Nw(kind:Int)(n:Nat)(s:St):List V×St :=
 Ec (Cn kind (Am n s).1 (Am n s).2).1 n [] (Cn kind (Am n s).1 (Am n s).2).2
def E5:Nat->Int->St->List V×St
 | 0,_,s=>([],s)
 | n+1,a,s=>((1,Pp (a+unzigzag (Fg s).1),str []) :: (E5 n (Pp (a+unzigzag (Fg s).1)) (Fg s).2).1,(E5 n (Pp (a+unzigzag (Fg s).1)) (Fg s).2).2)
def Gs(kind:Int)(a:Nat)(n:Nat)(s:St):List V×St :=
 if a=0 then Cn kind n s else if a=1 then G7 kind n (s.1.length+2) [] s else if a=2 then Nw kind n s
 else if a=3 then E5 n 0 s else ([],(s.1,true))
def gF(b:List UInt8)(i:Nat):Nat:=(b[i / 8]?.getD 0).toNat / 2 ^ (i % 8) % 2
def B8(b:List UInt8):Nat->List Nat
 | 0=>[]
 | k+1=>if gF b k=0 then B8 b k++[k] else B8 b k
def F0(l:List V):List Nat->List V->List V
 | p :: ps,v :: vs=>F0 (l.set p v) ps vs
 | _,_=>l
def V6(s:List UInt8):Nat×St:=Am 60 (s,false)
def Bv(s:List UInt8):List UInt8×St:=C8 (((V6 s).1+7) / 8) (V6 s).2
def cB(s:List UInt8):List UInt8×St:=C8 1 (Bv s).2
def xX(s:List UInt8):List Nat:=B8 (Bv s).1 (V6 s).1
def nS(kind:Int)(s:List UInt8):List V×St:=Gs kind ((cB s).1[0]?.getD 0).toNat (xX s).length (cB s).2
def Lr(kind:Int)(s:List UInt8):List V×Bool :=
 if (cB s).2.2 then ([],true) else if (nS kind s).2.2 then ([],true)
 else (F0 (List.replicate (V6 s).1 (0,0,str [])) (xX s) (nS kind s).1,false)
variable{k:Nat}{W w:Tw}{T:TypeId}{v:Tv}{l:List V}{x:V}
theorem Ab{p:Prop}(h:p):Hid p:=h
theorem Bd{k:IntKind}{a b:Int}(h:a=b):Ending.returned (.int k a)=Zr (.int k b):=by rw[h]
theorem Af{a b:Bool}(h:a=b):Ending.returned (Zo a)=Zr (Zo b):=by rw[h]
theorem bX:(prog.info? 5).map (λi=>(i.zero,i.size,i.bytes))=some (some (.int .u8 0),1,1):=by kernel_rfl
def Wr(B:Nat)(w b:World):Prop:=Below B w b/\∀k,k<w.1.size->(∀a fr,w.1[k]? ≠some (.cells a 5 fr))->b.1[k]? = w.1[k]?
theorem Wr.refl(B:Nat)(w:Tw):Wr B w w:=⟨XG _ _,λ_ _ _=>rfl⟩
theorem Wr.trans{B:Nat}{a b c:Tw}(h:Wr B a b)(k:Wr B b c):Wr B a c :=
 ⟨h.1.trans k.1,λi f g=>by have e:=h.2 i f g;exact(k.2 i (Ya f h.1.size) (λd fr=>by rw[e];exact g d fr)).trans e⟩
theorem Wr.Ba{B:Nat}(h:Zb w W)(a:B<=w.1.size):Wr B w W:=⟨h.mono a,λk b _=>h.block k b⟩
theorem Wr.alloc{B:Nat}{a w:Tw}(h:Wr B a w)(b:B<=w.1.size)(o:Obj):Wr B a (w.alloc o) :=
 h.trans (Wr.Ba (Zal) b)
theorem Wr.drew{B:Nat}{a w:Tw}(h:Wr B a w):Wr B a w.drew:=⟨h.1.drew,h.2⟩
theorem Wr.grown{B n:Nat}{a w W:Tw}{v:Tv}{xs:List Tv}(h:Wr B a w)(d:w.ownsRow B 5 1 v n xs)(c:w.grownBy W v.ownBlock)(j:B<=w.1.size):Wr B a W :=
 h.trans ⟨(XG _ _).grown c j (λk b=>(d.lt k b).1),λk b hn=>c.block k b (λe=>by
  rcases d.2 with⟨rfl,_⟩|⟨g,f,i,rfl,_,l,_⟩
  ·cases e
  cases e;exact hn _ _ l)⟩
theorem Dq(B n x:Nat)(O:x<18446744073709551616)(sv:Tv)(xs:List Tv)(w:Tw)(k:w.ownsRow B 5 1 sv n xs)(J:B<=w.1.size)(v:n+10<=140737488355328):
 Zc 138 #[sv,.int .u64 x] w λe D=>∃v',e=Zr v'/\D.ownsRow B 5 1 v' (n+(Lib.uvarint x).length) (xs++Lib.byteCells (Lib.uvarint x))/\Wr B w D:=by
 obtain⟨z,t,m,o,p⟩:=info_parts bX;have hlen:=Lib.uvarint_length64 O;go_enter func138,ntmps138;go_wp2
 go_loopw [0,1] (λvb r wr=>∃(y:Nat)(pre:List UInt8),r=.int .u64 y/\y<=x/\Lib.uvarint x=pre++Lib.uvarint y/\wr.ownsRow B 5 1 vb (n+pre.length) (xs++Lib.byteCells pre)/\Wr B w wr)
  (λ_ r _=>(intOf r).toNat)
 case atStart=>exact⟨x,[],rfl,Y' _,rfl,by simpa[Lib.byteCells] using k,Wr.refl _ _⟩
 case round=>
  obtain⟨y,pre,rfl,R,b,a,h⟩:=hrel
  have M:pre.length+(Lib.uvarint y).length<=10:=by have I:=congrArg List.length b;rw[XA] at I;omega
  have P:=Lib.uvarint_pos y;have N:=h.1.size;have i:B<=wr.1.size:=by omega
  by_cases h128:128<=y
  ·have L:bits .or .u8 ((y:Int) % 256) 128=((y % 128+128:Nat):Int):=by
    rw[Lib.u8_or128_any _ (by omega) (by omega)];omega
   go_wp2_with (at_builtin;refine wpList_append_own _ rfl _ _ 90 rfl B 5 z (.int .u8 0) 1 1 underlying90 t m o p rfl (by decide) _ _ _ rfl (a.alloc _) (Zd wr.1.size 0) 1 1 [Value.int .u8 ((y % 128+128:Nat):Int)] rfl rfl ?c1 ?c2 ?c3 ?c4 ?c5 ?_)
   case c1=>
    intro j u g
    match j,g with
    | 0,g=>simp at g;subst g;simp[Addr.add]
   case c2=>intro u l;simp at l;subst l;rfl
   case c3=>unfold maxLen;omega
   case c4=>omega
   case c5=>simp;omega
   intro v' s d c _;have f:Wr B w s:=(h.alloc i _).grown (a.alloc _) c (by simp;omega);go_wp2
   go_roundw
   case rel=>
    refine⟨y / 128,pre++[(y % 128+128).toUInt8],by go_num,by omega,by rw[b,Lib.uvarint_big h128];simp,?_,f⟩;have G:((y % 128+128:Nat):Int)=(y:Int) % 128+128:=by omega
    rw[Lib.byteCells_snoc pre (by omega),XA,YE,<-XT,G];exact d
   case measure=>simp[intOf];omega
  have q:Lib.uvarint y=[y.toUInt8]:=Lib.uvarint_small (by omega);go_wp2_with (at_builtin;refine wpList_append_own _ rfl _ _ 90 rfl B 5 z (.int .u8 0) 1 1 underlying90 t m o p rfl (by decide) _ _ _ rfl (a.alloc _) (Zd wr.1.size 0) 1 1 [Value.int .u8 (y:Int)] rfl rfl ?c1 ?c2 ?c3 ?c4 ?c5 ?_)
  case c1=>
   intro j u g
   match j,g with
   | 0,g=>simp at g;subst g;simp[Addr.add]
  case c2=>intro u l;simp at l;subst l;rfl
  case c3=>unfold maxLen;omega
  case c4=>omega
  case c5=>simp;omega
  intro v' s d c _;have f:Wr B w s:=(h.alloc i _).grown (a.alloc _) c (by simp;omega);go_wp2;go_ret;refine⟨v',rfl,?_,f⟩;rw[b,q,Lib.byteCells_snoc pre (by omega),XA,YE,<-XT];exact d
theorem oG(a b:Int):bits .xor .i64 a b=bits .xor .i64 b a:=by show IntKind.i64.wrap ((BitVec.ofInt 64 a ^^^ BitVec.ofInt 64 b).toNat:Int)=IntKind.i64.wrap ((BitVec.ofInt 64 b ^^^ BitVec.ofInt 64 a).toNat:Int);rw[BitVec.xor_comm]
theorem pB(a b:Int):bits .xor .u64 a b=bits .xor .u64 b a:=by show IntKind.u64.wrap ((BitVec.ofInt 64 a ^^^ BitVec.ofInt 64 b).toNat:Int)=IntKind.u64.wrap ((BitVec.ofInt 64 b ^^^ BitVec.ofInt 64 a).toNat:Int);rw[BitVec.xor_comm]
theorem oM(x:Nat)(c:x<9223372036854775808):bits .xor .i64 (x:Int) 0=x:=by
 show IntKind.i64.wrap ((BitVec.ofInt 64 (x:Int) ^^^ BitVec.ofInt 64 0).toNat:Int)=_
 have b:(BitVec.ofInt 64 (x:Int)).toNat=x:=by rw[BitVec.ofInt_natCast,BitVec.toNat_ofNat];exact YV (by omega)
 have a:(BitVec.ofInt 64 0).toNat=0:=by decide
 rw[BitVec.toNat_xor,a,b,Nat.xor_zero,IntKind.wrap_i64];omega
theorem mU(x:Nat)(a:x<18446744073709551616):bits .xor .u64 (x:Int) 0=x:=by have:=bits_xor_u64_nat x 0 (by simpa using a) (by decide);simpa using this
theorem Ms(B n:Nat)(x:Int)(c : -9223372036854775808<=x)(h:x<=9223372036854775807)(sv:Tv)(xs:List Tv)(w:Tw)(b:w.ownsRow B 5 1 sv n xs)(d:B<=w.1.size)(a:n+10<=140737488355328):
 Zc 332 #[sv,Zi x] w λe j=>∃v',e=Zr v'/\j.ownsRow B 5 1 v' (n+(Lib.uvarint (Lib.zigzag x)).length) (xs++Lib.byteCells (Lib.uvarint (Lib.zigzag x)))/\Wr B w j:=by
 have i:=Ab (Dq B n (Lib.zigzag x) (Lib.zigzag_lt c h) sv xs w b d a)
 by_cases hneg:x<0
 ·have E:Hid (bits .xor .u64 (IntKind.u64.wrap (IntKind.u64.wrap x*2)) (IntKind.u64.wrap (x / 9223372036854775808))=((Lib.zigzag x:Nat):Int)):=by
   have e:x / 9223372036854775808 = -1:=by omega
   rw[e,pB,<-Lib.zigzag_neg c hneg];rfl
  go_enter func332,ntmps332;go_wp2_with fail;rw[E.o];apply i.o.mono;rintro e l⟨v',rfl,g,f⟩;go_wp2;go_ret;exact⟨v',rfl,g,f⟩
 have E:Hid (bits .xor .u64 (x*2) (x / 9223372036854775808)=((Lib.zigzag x:Nat):Int)):=by
  have e:x / 9223372036854775808=0:=by omega
  have k:x*2=((Lib.zigzag x:Nat):Int):=(Lib.zigzag_nonneg (by omega)).symm;rw[e,k];exact mU _ (Lib.zigzag_lt c h)
 go_enter func332,ntmps332;go_wp2_with fail;rw[E.o];apply i.o.mono;rintro e l⟨v',rfl,g,f⟩;go_wp2;go_ret;exact⟨v',rfl,g,f⟩
theorem gV(x:Nat)(c:x<18446744073709551616)(w:Tw):
 Zc 343 #[.int .u64 x] w λe b=>e=Zr (Zi (Lib.unzigzag x))/\b=w:=by
 have H:Hid (bits .xor .i64 ((x:Int) / 2) (wrap64 (-wrap64 (bits .and .u64 (x:Int) 1)))=Lib.unzigzag x):=by
  rw[Lib.u64_and1 _ (by omega) (by omega)];have a:((x:Int) / 2)=((x / 2:Nat):Int):=by omega
  rw[a];unfold Lib.unzigzag
  by_cases h:x % 2=0
  ·rw[Yae h,show ((x:Int) % 2)=0 by omega]
   rw[show wrap64 (-wrap64 0)=0 by unfold wrap64;omega];exact oM (x / 2) (by omega)
  rw[Yad h,show ((x:Int) % 2)=1 by omega,oG];rw[show wrap64 (-wrap64 1) = -1 by unfold wrap64;omega];exact Lib.i64_not (x / 2) (by omega)
 go_enter func343,ntmps343;go_wp2;go_ret;exact⟨Bd H.o,rfl⟩
theorem aH{P:Program}{g:Array Oper}{o:Oper}{a:Act}{K:Act->Tw->Prop}{Q:Exit->Act->Tw->Prop}{E:Prop}(m:o.guard=none)(p x:Operand)(t u:TypeId)(z:o.op=.call { callee:=.builtin .append,args:=#[p,x],argTypes:=#[t,u] })(base:Nat)(e:TypeId)(i:TypeInfo)(I:P.underlying t=some (.slice e))(J:P.underlying u=some .string)(y:P.info? e=some i)(N:i.zero=some (.int .u8 0))(d:i.size=1)(l:i.bytes=1)(v:Tv)(n:Nat)(xs:List Tv)(G:a.eval p=v)(f:w.ownsRow base e 1 v n xs)(s:Tb)(M:a.eval x=Zt s)(k:n+s.size<=maxLen)(b:n+s.size<=140737488355328)(c:base<=w.1.size)(h:∀v' j,j.ownsRow base e 1 v' (n+s.size) (xs++Lib.strCells s)->w.grownBy j v.ownBlock->K (a.put o.dst v') j):
 if Region.wanted o (yielded g a.tmps)=true then Oper.wp P o a w K Q else E:=by
 have L:Region.wanted o (yielded g a.tmps)=true:=by simp[Region.wanted,m]
 rw[Yae L];obtain⟨v',j,D,q,r,O⟩:=Lib.run_append_own_string (P:=P) w base t u o.type e i I J y N d l v n xs f s k b c;unfold Oper.wp execOp;simp only[z,resolve,invoke,builtin,Sem.run_bind,Sem.run_pure,Result.andThen_ok,List.map_toArray,List.map_cons,List.map_nil,G,M,D];exact h v' j q r
theorem Bg(a b:List UInt8):Lib.byteCells (a++b)=Lib.byteCells a++Lib.byteCells b:=Lib.byteCells_append a b
theorem fU(t:Tb):Lib.strCells t=Lib.byteCells t.1.toList:=rfl
theorem Hw{B:Nat}(h:Wr B w W){b:Nat}{cs:Array Tv}{fr:Nat×Nat}(a:w.1[b]? = some (Zk cs T fr))(g:T≠5):W.1[b]? = some (Zk cs T fr):=by
 rw[h.2 b (by
  rcases Yc b w.1.size with c|c
  ·exact c
  rw[XN c] at a;cases a) (λd f e=>by rw[a] at e;injection e with e;injection e with _ e;exact g e)]
 exact a
theorem ADw{B n b:Nat}{xs:List Tv}{cs:Array Tv}{fr:Nat×Nat}(j:w.grownBy W v.ownBlock)(c:w.1[b]? = some (Zk cs T fr))(k:w.ownsRow B 5 1 v n xs)(i:T≠5:=by decide):W.1[b]? = some (Zk cs T fr):=by
 rw[j.block b (by
  rcases Yc b w.1.size with d|d
  ·exact d
  ·rw[XN d] at c;cases c) (λe=>by
  rcases k.2 with⟨rfl,_⟩|⟨g,f,h,rfl,_,a,_⟩
  ·cases e
  cases e;rw[c] at a;injection a with a;injection a with _ a;exact i a)]
 exact c
theorem N8(B n:Nat)(k x:Int)(t:Tb)(N : -9223372036854775808<=x)(O:x<=9223372036854775807)(X:t.size<=1000000)(sv:Tv)(xs:List Tv)(w:Tw)(b:w.ownsRow B 5 1 sv n xs)(i:B<=w.1.size)(M:n<=1000000):
 Zc 330 #[sv,Zg #[Zi k,Zi x,Zt t]] w λe a=>∃v',e=Zr v'/\a.ownsRow B 5 1 v' (n+(J3 (k,x,t)).length) (xs++Lib.byteCells (J3 (k,x,t)))/\Wr B w a:=by
 obtain⟨R,L,l,m,p⟩:=info_parts bX;have q:=Zy L l m p;clear L l m p;have J:=Ab b;clear b
 by_cases hk:k=1
 ·have u:Hid (J3 (k,x,t)=Lib.uvarint (Lib.zigzag x)):=by unfold J3;rw[Yae hk];exact rfl
  have y:(k==1)=true:=by simpa using hk
  have s:Hid (∀o,Zc 332 #[sv,Zi x] (w.alloc o) λe a=>∃v',e=Zr v'/\a.ownsRow B 5 1 v' (n+(Lib.uvarint (Lib.zigzag x)).length) (xs++Lib.byteCells (Lib.uvarint (Lib.zigzag x)))/\Wr B w a):=λo=>(Ms B n x N O sv xs (w.alloc o) (J.o.alloc o) (by simp;omega) (by omega)).mono λe a⟨v',z,v,r⟩=>⟨v',z,v,((Wr.refl B w).alloc i o).trans r⟩
  clear hk;rw[u.o];go_enter func330,ntmps330;go_wp2_with (go_at_call 332;refine(s.o _).mono ?_;rintro e V⟨v',rfl,D,y⟩);go_ret;exact⟨v',rfl,D,y⟩
 have u:Hid (J3 (k,x,t)=Lib.uvarint t.size++t.1.toList):=by unfold J3;rw[Yad hk];exact rfl
 have y:(k==1)=false:=by simpa using hk
 have s:Hid (∀W,W.1[w.1.size]? = some (Zk #[Zi k,Zi x,Zt t] 67)->Wr B w W->W.ownsRow B 5 1 sv n xs->Zc 138 #[sv,.int .u64 (IntKind.u64.wrap (t.size:Int))] W λe a=>∃v',e=Zr v'/\a.ownsRow B 5 1 v' (n+(Lib.uvarint t.size).length) (xs++Lib.byteCells (Lib.uvarint t.size))/\Wr B w a/\a.1[w.1.size]? = some (Zk #[Zi k,Zi x,Zt t] 67)):=λW hh hw D=>by rw[show IntKind.u64.wrap (t.size:Int)=((t.size:Nat):Int) by rw[IntKind.wrap_u64];omega];exact(Dq B n t.size (by omega) sv xs W D (by have:=hw.1.size;omega) (by omega)).mono λe a⟨v',z,v,r⟩=>⟨v',z,v,hw.trans r,Hw r hh (by decide)⟩
 have I:Hid (∀W:Tw,W.1[w.1.size]? = some (Zk #[Zi k,Zi x,Zt t] 67)->W.cell? (Zd w.1.size 2)=some (Zt t)):=λW h=>by simp[World.cell?,h]
 have P:(Lib.uvarint t.size).length<=10:=Lib.uvarint_length64 (by omega);clear hk;rw[u.o];go_enter func330,ntmps330;go_wp2_with fail
 go_region_held3 (λa=>a.cell? (Zd w.1.size 2)=some (Zt t))
  (first
    | (go_keep;done)
    | exact I.o _ f
    | exact I.o _ (g))
  (first
    | (go_at_call 138;refine(s.o _ ?_ ?_ ?_).mono ?_;exact Yac _ _;exact((Wr.refl B w).alloc i _).drew;exact J.o.alloc _;rintro e V⟨T,rfl,c,d,f⟩)
    | (refine aH (by rfl) (.tmp 17) (.tmp 19) 90 9 (by rfl) B 5 R underlying90 underlying9 q.o.1 q.o.2.1 q.o.2.2.1 q.o.2.2.2 T _ _ (by rfl) c t (by rfl) (by unfold maxLen;omega) (by omega) (by have:=d.1.size;omega) ?_;intro U Y G j;have g:=ADw j f c))
 go_wp2;go_ret;rw[XA,<-XT,Bg,<-XD];exact⟨U,rfl,G,d.grown c j (by have:=d.1.size;omega)⟩
def Sl(w:World)(v:Value)(l:List V):Prop :=
 ∃a c,v=.slice a l.length c/\l.length<=c/\(l≠[]->∃b off,a=some ⟨b,off,none⟩/\b<w.1.size /\
  ∀j x,l[j]? = some x->w.cell? ⟨b,off+j*3,none⟩=some (Zi x.1)/\w.cell? ⟨b,off+j*3+1,none⟩=some (Zi x.2.1)/\w.cell? ⟨b,off+j*3+2,none⟩=some (.string x.2.2))
theorem Sl.up(h:Sl w v l)(f:Zb w W):Sl W v l:=by obtain⟨a,c,e,g,s⟩:=h;refine⟨a,c,e,g,λi=>?_⟩;obtain⟨b,off,k,d,q⟩:=s i;refine⟨b,off,k,Ya d f.size,λj x r=>?_⟩;obtain⟨m,n,o⟩:=q j x r;exact⟨(f.cell (p:=Zd b (off+j*3)) d).trans m,(f.cell (p:=Zd b (off+j*3+1)) d).trans n,(f.cell (p:=Zd b (off+j*3+2)) d).trans o⟩
def Vd(l:List V):Prop:=l.length<=60/\∀x∈l,-9223372036854775808<=x.2.1/\x.2.1<=9223372036854775807/\x.2.2.size<=40
theorem Vd.get(h:Vd l){j:Nat}(a:l[j]? = some x):-9223372036854775808<=x.2.1/\x.2.1<=9223372036854775807/\x.2.2.size<=40:=h.2 x (XH a)
theorem rL(h : -9223372036854775808<=x.2.1/\x.2.1<=9223372036854775807/\x.2.2.size<=40):(J3 x).length<=50:=by
 unfold J3;split
 ·have:=Lib.uvarint_length64 (Lib.zigzag_lt h.1 h.2.1);omega
 have:=Lib.uvarint_length64 (x:=x.2.2.size) (by omega);have e:x.2.2.1.toList.length=x.2.2.size:=by rw[XR];rfl
 rw[XA,e];omega
theorem Br{α:Type}{l:List α}{x:α}(h:l[k]? = some x):l.take (k+1)=l.take k++[x]:=by
 have b:k<l.length:=by
  rcases Yc k l.length with a|a
  ·exact a
  rw[Yb a] at h;cases h
 rw[Ys b];rw[XB b] at h;injection h with h;rw[h]
theorem pP(h:l[k]? = some x):Fx (l.take (k+1))=Fx (l.take k)++J3 x:=by rw[Br h];simp[Fx]
theorem N0(h:∀x∈l,-9223372036854775808<=x.2.1/\x.2.1<=9223372036854775807/\x.2.2.size<=40):(Fx l).length<=l.length*50:=by
 induction l with
 | nil=>simp[Fx]
 | cons v l ih=>have b:=rL (h v (by simp));have c:=ih (λx a=>h x (by simp[a]));have e:Fx (v :: l)=J3 v++Fx l:=rfl;rw[e,XA,XE];omega
theorem Vd.take{l:List V}(h:Vd l)(k:Nat):Vd (l.take k):=⟨by have:=h.1;simp;omega,λx a=>h.2 x (Ym a)⟩
theorem Hk{α:Type}{l:List α}(h:k<l.length):∃x,l[k]? = some x:=⟨_,XB h⟩
theorem Xm(v:Tv)(l:List V)(w:Tw)(U:Sl w v l)(j:Vd l):
 Zc 306 #[v] w λe f=>∃v',e=Zr v'/\f.ownsRow w.1.size 5 1 v' (Fx l).length (Lib.byteCells (Fx l))/\Wr w.1.size w f:=by
 obtain⟨a,c,rfl,_,L⟩:=U;have N:=Ab L;have h:=Ab j;have R:=j.1;clear L j;go_enter func306,ntmps306;go_wp2
 go_loopw [3,8] (λvb y wr=>∃k:Nat,k<=l.length/\y=Zi k/\Hid (wr.ownsRow w.1.size 5 1 vb (Fx (l.take k)).length (Lib.byteCells (Fx (l.take k))))/\Hid (Wr w.1.size w wr)) (λ_ y _=>l.length-(intOf y).toNat)
 case atStart=>exact⟨0,XI _,rfl,XC _ _ _ _,Wr.refl _ _⟩
 case round=>
  obtain⟨k,Y,rfl,m,d⟩:=hrel
  by_cases hlt:k<l.length
  ·obtain⟨b,off,rfl,i,J⟩:=N.o (by intro e;rw[e] at hlt;simp at hlt)
   obtain⟨⟨t,u,x⟩,s⟩:=Hk hlt;obtain⟨z,D,G⟩:=J k _ s;have c0:wr.cell? (Zd b (off+k*3))=some (Zi t):=(d.o.1.cell (p:=Zd b (off+k*3)) i).trans z;have c1:wr.cell? (Zd b (off+k*3+1))=some (Zi u):=(d.o.1.cell (p:=Zd b (off+k*3+1)) i).trans D;have W:wr.cell? (Zd b (off+k*3+2))=some (Zt x):=(d.o.1.cell (p:=Zd b (off+k*3+2)) i).trans G;have g:=h.o.get s;have q:=d.o.1.size;have O:=Ab (pP s)
   have M:Hid (∀o,Zc 330 #[_,Zg #[Zi t,Zi u,Zt x]] (wr.alloc o) λe f=>∃v',e=Zr v'/\f.ownsRow w.1.size 5 1 v' _ _/\Wr w.1.size w f):=λo=>(N8 w.1.size _ t u x g.1 g.2.1 (by have:=g.2.2;simp at this;omega) _ _ (wr.alloc o) (m.o.alloc o) (by simp;omega) (by have X:=N0 (h.o.take k).2;have I:=(h.o.take k).1;omega)).mono λe f⟨v',T,I,P⟩=>⟨v',T,I,(d.o.alloc q o).trans P⟩
   clear z D G J g;go_wp2_with (go_at_call 330;refine(M.o _).mono ?_;rintro e w1⟨v1,rfl,n,r⟩)
   go_roundw
   case rel=>exact⟨k+1,by omega,by go_num,Ab (by rw[O.o,XA,Bg];exact n),Ab r⟩
   case measure=>simp[intOf];omega
  have e:l.take k=l:=Yf (by omega);rw[e] at m;go_wp2;go_ret;exact⟨_,rfl,m.o,d.o⟩
theorem Ww{a:Int}:∀{l:List V}{k:Nat}{x:V},l[k]? = some x->G5 a (l.take (k+1))=G5 a (l.take k)++Lib.uvarint (Lib.zigzag (Pp (x.2.1-(if k=0 then a else (l[k-1]?.map (·.2.1)).getD 0))))
 | [],k,x,h=>by simp at h
 | v :: l,0,x,h=>by simp at h;subst h;simp[G5]
 | v :: l,k+1,x,h=>by
   have b:l[k]? = some x:=by simpa using h
   have c:=Ww (a:=v.2.1) b;simp only[X6,G5,c,XD];congr 3;cases k with
   | zero=>simp
   | succ k=>simp
theorem N1(x:Int):-9223372036854775808<=Pp x/\Pp x<=9223372036854775807:=by unfold Pp;omega
theorem bQ{a:Int}:(G5 a l).length<=l.length*10:=by
 induction l generalizing a with
 | nil=>simp[G5]
 | cons v l ih=>have b:=Lib.uvarint_length64 (Lib.zigzag_lt (N1 (v.2.1-a)).1 (N1 (v.2.1-a)).2);have c:=ih (a:=v.2.1);simp only[G5,XA,XE];omega
theorem AAw(x:Int):wrap64 x=Pp x:=by unfold wrap64 Pp;rfl
def P7(l:List V)(k:Nat):Int:=if k=0 then 0 else (l[k-1]?.map (·.2.1)).getD 0
theorem rD(v:Tv)(l:List V)(w:Tw)(W:Sl w v l)(j:Vd l):
 Zc 305 #[v] w λe f=>∃v',e=Zr v'/\f.ownsRow w.1.size 5 1 v' (G5 0 l).length (Lib.byteCells (G5 0 l))/\Wr w.1.size w f:=by
 obtain⟨a,c,rfl,_,L⟩:=W;have P:=Ab L;have O:=Ab j;have R:=j.1;clear L j;go_enter func305,ntmps305;go_wp2
 go_loopw [3,4,9] (λvb X u wr=>∃k:Nat,k<=l.length/\u=Zi k/\X=Zi (P7 l k)/\Hid (wr.ownsRow w.1.size 5 1 vb (G5 0 (l.take k)).length (Lib.byteCells (G5 0 (l.take k))))/\Hid (Wr w.1.size w wr)) (λ_ _ u _=>l.length-(intOf u).toNat)
 case atStart=>exact⟨0,XI _,rfl,rfl,XC _ _ _ _,Wr.refl _ _⟩
 case round=>
  obtain⟨k,hk,rfl,rfl,m,h⟩:=hrel
  by_cases hlt:k<l.length
  ·obtain⟨b,off,rfl,i,J⟩:=P.o (by intro e;rw[e] at hlt;simp at hlt)
   obtain⟨⟨s,d,t⟩,r⟩:=Hk hlt;obtain⟨y,z,D⟩:=J k _ r;have c0:wr.cell? (Zd b (off+k*3))=some (Zi s):=(h.o.1.cell (p:=Zd b (off+k*3)) i).trans y;have c1:wr.cell? (Zd b (off+k*3+1))=some (Zi d):=(h.o.1.cell (p:=Zd b (off+k*3+1)) i).trans z;have Y:wr.cell? (Zd b (off+k*3+2))=some (Zt t):=(h.o.1.cell (p:=Zd b (off+k*3+2)) i).trans D;have o:=h.o.1.size;have x:Hid (G5 0 (l.take (k+1))=G5 0 (l.take k)++Lib.uvarint (Lib.zigzag (Pp (d-P7 l k)))):=Ww r
   have M:Hid (P7 l (k+1)=d):=by show P7 l (k+1)=d;unfold P7;rw[Yad (by omega),Nat.add_sub_cancel,r];rfl
   generalize P7 l k=g at x
   have N:Hid (Zc 332 #[_,Zi (wrap64 (d-g))] (wr.alloc (Zk #[Zi s,Zi d,Zt t] 67)) λe f=>∃v',e=Zr v'/\f.ownsRow w.1.size 5 1 v' _ _/\Wr w.1.size w f/\f.cell? (Zd wr.1.size 1)=some (Zi d)) :=
    (Ms w.1.size _ (wrap64 (d-g)) (AAw (d-g) ▸ (N1 (d-g)).1) (AAw (d-g) ▸ (N1 (d-g)).2) _ _ (wr.alloc (.cells #[.int .i64 s,.int .i64 d,.string t] 67)) (m.o.alloc _) (by simp;omega) (by have h1:=bQ (a:=0) (l:=l.take k);have G:=(O.o.take k).1;omega)).mono λe f⟨v',U,G,I⟩=>⟨v',U,G,(h.o.alloc o _).trans I,by have:=Hw I (Yac _ _) (by decide);simp[World.cell?,this]⟩
   clear y z D J;go_wp2_with (go_at_call 332;apply N.o.mono;rintro e w1⟨v1,rfl,n,q,T⟩)
   go_roundw
   case rel=>exact⟨k+1,by omega,by go_num,by rw[M.o],Ab (by rw[x.o,XA,Bg,<-AAw];exact n),Ab q⟩
   case measure=>simp[intOf];omega
  have e:l.take k=l:=Yf (by omega);rw[e] at m;go_wp2;go_ret;exact⟨_,rfl,m.o,h.o⟩
variable{k:Nat}{W w:Tw}{u v:Tv}{l:List V}{X Y:List Tv}{x:V}{s:List V×List UInt8}
abbrev ADW(x:V):Value:=.agg #[Zi x.1,Zi x.2.1,.string x.2.2]
def B7(p:V->Bool):List V->Nat
 | []=>0
 | x :: l=>if p x then 0 else B7 p l+1
def Kk(p:V->Bool)(l:List V):Int:=if B7 p l<l.length then (B7 p l:Int) else -1
theorem ABD{α:Type}{l:List α}{x:α}(h:l[k]? = some x):l.drop k=x :: l.drop (k+1):=by
 have b:k<l.length:=by
  rcases Yc k l.length with a|a
  ·exact a
  rw[Yb a] at h;cases h
 rw[Yl b];rw[XB b] at h;injection h with h;rw[h]
def Pr(g:Nat)(lb:Array Value)(p:V->Bool)(l:List V)(w:World):Prop :=
 ∀(W:World)(x:V),x∈l->Zb w W->Zc g (#[ADW x]++lb) W λe a=>e=.returned (.bool (p x))/\Zb w a
theorem Md(g:Nat)(lb:Array Tv)(p:V->Bool)(P:∀args w,(callFunc g args).run prog w=.ok (.enter g args) w)(v:Tv)(l:List V)(w:Tw)(N:Sl w v l)(M:l.length<=1000)(I:Pr g lb p l w):
 Zc 302 #[v,.func (.func g) #[] lb] w λe t=>e=Zr (Zi (Kk p l))/\Zb w t:=by
 obtain⟨a,c,rfl,_,G⟩:=N;have J:=Ab G;have L:=Ab I;clear G I;go_enter func302,ntmps302;go_wp2
 go_loopw [8] (λs wr=>∃k:Nat,k<=l.length/\s=Zi k/\Hid (B7 p l=k+B7 p (l.drop k))/\Hid (Zb w wr)) (λs _=>l.length-(intOf s).toNat)
 case atStart=>exact⟨0,XI _,rfl,Ab (by simp),XG _ _⟩
 case round=>
  obtain⟨k,R,rfl,m,i⟩:=hrel
  by_cases hlt:k<l.length
  ·obtain⟨b,off,rfl,j,D⟩:=J.o (by intro e;rw[e] at hlt;simp at hlt)
   obtain⟨⟨o,q,r⟩,n⟩:=Hk hlt;obtain⟨x,y,z⟩:=D k _ n;have c0:wr.cell? (Zd b (off+k*3))=some (Zi o):=(i.o.cell (p:=Zd b (off+k*3)) j).trans x;have c1:wr.cell? (Zd b (off+k*3+1))=some (Zi q):=(i.o.cell (p:=Zd b (off+k*3+1)) j).trans y;have O:wr.cell? (Zd b (off+k*3+2))=some (Zt r):=(i.o.cell (p:=Zd b (off+k*3+2)) j).trans z;have d:=L.o wr (o,q,r) (XH n) i.o;have u:=Ab (ABD n);clear x y z D;cases hq:p (o,q,r) with
   | true=>
     rw[hq] at d
     have h:Hid ((k:Int)=Kk p l):=by
      have:B7 p l=k:=by rw[m.o,u.o];simp[B7,hq]
      show (k:Int)=Kk p l;unfold Kk;rw[this,Yae hlt]
     go_wp2_with (go_at_fn g;apply d.mono;rintro e t⟨rfl,f⟩);go_ret;exact⟨Bd h.o,f⟩
   | false=>
     rw[hq] at d
     have h:Hid (B7 p l=k+1+B7 p (l.drop (k+1))):=by show B7 p l=k+1+B7 p (l.drop (k+1));rw[m.o,u.o];simp[B7,hq];omega
     go_wp2_with (go_at_fn g;apply d.mono;rintro e t⟨rfl,f⟩)
     go_roundw
     case rel=>exact⟨k+1,by omega,by go_num,h,Ab f⟩
     case measure=>simp[intOf];omega
  have h:Hid (-1=Kk p l):=by
   have:B7 p l=l.length:=by rw[m.o,Yw (by omega)];simp[B7];omega
   show -1=Kk p l;unfold Kk;rw[Yad (by omega)]
  go_wp2;go_ret;exact⟨Bd h.o,i.o⟩
theorem l7(p:V->Bool):∀l,l.any p=decide (B7 p l<l.length)
 | []=>by simp[B7]
 | x :: l=>by
   by_cases h:p x=true
   ·simp[B7,h]
   simp[B7,h,l7 p l]
theorem AIB(p:V->Bool)(l:List V):decide (0<=Kk p l)=l.any p:=by
 rw[l7];unfold Kk
 by_cases h:B7 p l<l.length
 ·rw[Yae h];simp[h]
 rw[Yad h];simp[h]
theorem Wp(g:Nat)(lb:Array Tv)(p:V->Bool)(j:∀args w,(callFunc g args).run prog w=.ok (.enter g args) w)(v:Tv)(l:List V)(w:Tw)(d:Sl w v l)(a:l.length<=1000)(c:Pr g lb p l w):
 Zc 266 #[v,.func (.func g) #[] lb] w λe f=>e=Zr (Zo (l.any p))/\Zb w f:=by
 have h:=Ab (Md g lb p j v l w d a c);have i:=Ab (AIB p l);clear d c;go_enter func266,ntmps266;go_wp2_with (go_at_call 302;apply h.o.mono;rintro e f⟨rfl,b⟩);go_ret;exact⟨Af i.o,b⟩
theorem AH0(x y:V)(w:Tw):(Op.equalIn 10000 67 (ADW x) (ADW y)).run prog w=.ok (decide (x=y)) w:=by
 have c:prog.underlying 67=some (.struct (prog.fieldsOf 67)):=by kernel_rfl
 rw[show (10000:Nat)=9999+1 from rfl,run_equalIn_agg w 9999 67 _ _ c (by kernel_rfl)];simp only[Program.fieldsOf,underlying67];go_simp;obtain⟨d,g,a⟩:=x;obtain⟨f,nb,b⟩:=y;have e:(a.toList=b.toList)↔a=b:=⟨λh=>by simp[ByteArray.toList_eq] at h;exact ByteArray.ext h,λh=>by rw[h]⟩
 by_cases h1:d=f <;> by_cases h2:g=nb <;> by_cases h3:a.toList=b.toList <;> simp[h1,h2,h3,Prod.ext_iff,e.symm]
theorem zL(a c b d:Int)(e f:Tb)(w:Tw):(Op.equalIn 10000 67 (Zg #[Zi a,Zi c,Zt e]) (Zg #[Zi b,Zi d,Zt f])).run prog w=.ok (decide (((a,c,e):V)=(b,d,f))) w:=AH0 (a,c,e) (b,d,f) w
theorem ADg(v:Tv)(l:List V)(d f:Int)(g:Tb)(w:Tw)(U:Sl w v l)(P:l.length<=1000):
 Zc 331 #[v,Zg #[Zi d,Zi f,Zt g]] w λe X=>e=Zr (Zi (Kk (λx=>decide (((d,f,g):V)=x)) l))/\Zb w X:=by
 obtain⟨a,c,rfl,_,M⟩:=U;have O:=Ab M;clear M;go_enter func331,ntmps331;go_wp2
 go_loopw [8] (λz wr=>∃k q:Nat,k<=l.length/\z=Zi k/\Hid (B7 (λx=>decide (((d,f,g):V)=x)) l=k+B7 (λx=>decide (((d,f,g):V)=x)) (l.drop k))/\Hid (wr=(w.alloc (Zk #[Zi d,Zi f,Zt g] 67)).drewN q)) (λz _=>l.length-(intOf z).toNat)
 case atStart=>exact⟨0,0,XI _,rfl,Ab (by simp),Ab rfl⟩
 case round=>
  obtain⟨k,q,hk,rfl,h,y⟩:=hrel
  have j:Hid (∀m,Zb w (wr.drewN m)):=λm=>by rw[y.o];exact⟨rfl,rfl,rfl,by show _<=(w.alloc _).heap.size;simp,λi R=>XQ _ _ _ R⟩
  have t:Hid (∀m i,(wr.drewN m).cell? (Zd w.1.size i)=(#[Zi d,Zi f,Zt g]:Array Tv)[i]?):=λm i=>by rw[y.o,XX,XX];exact XK w _ 67 (0,0) i
  by_cases hlt:k<l.length
  ·obtain⟨b,off,rfl,u,L⟩:=O.o (by intro e;rw[e] at hlt;simp at hlt)
   obtain⟨⟨o,r,s⟩,N⟩:=Hk hlt;obtain⟨G,I,J⟩:=L k _ N;have c0:∀m,(wr.drewN m).cell? (Zd b (off+k*3))=some (Zi o):=λm=>((j.o m).cell (p:=Zd b (off+k*3)) u).trans G
   have c1:∀m,(wr.drewN m).cell? (Zd b (off+k*3+1))=some (Zi r):=λm=>((j.o m).cell (p:=Zd b (off+k*3+1)) u).trans I
   have Y:∀m,(wr.drewN m).cell? (Zd b (off+k*3+2))=some (Zt s):=λm=>((j.o m).cell (p:=Zd b (off+k*3+2)) u).trans J
   have d0:∀m,(wr.drewN m).cell? (Zd w.1.size 0)=some (Zi d):=λm=>t.o m 0
   have d1:∀m,(wr.drewN m).cell? (Zd w.1.size 1)=some (Zi f):=λm=>t.o m 1
   have d2:∀m,(wr.drewN m).cell? (Zd w.1.size 2)=some (Zt g):=λm=>t.o m 2
   have D:=Ab (ABD N);clear G I J L
   by_cases hq:((d,f,g):V)=(o,r,s)
   ·have T:∀W,(Op.equalIn 10000 67 (Zg #[Zi d,Zi f,Zt g]) (Zg #[Zi o,Zi r,Zt s])).run prog W=.ok true W:=λW=>by rw[zL];simp[hq]
    have n:Hid ((k:Int)=Kk (λx=>decide (((d,f,g):V)=x)) l):=by
     have:B7 (λx=>decide (((d,f,g):V)=x)) l=k:=by rw[h.o,D.o];simp[B7,hq]
     show (k:Int)=Kk _ l;unfold Kk;rw[this,Yae hlt]
    clear hq h;go_wp2_with fail
    go_quiet (fail)
    go_wp2;go_ret;exact⟨Bd n.o,j.o _⟩
   have T:∀W,(Op.equalIn 10000 67 (Zg #[Zi d,Zi f,Zt g]) (Zg #[Zi o,Zi r,Zt s])).run prog W=.ok false W:=λW=>by rw[zL];simp[hq]
   have n:Hid (B7 (λx=>decide (((d,f,g):V)=x)) l=k+1+B7 (λx=>decide (((d,f,g):V)=x)) (l.drop (k+1))):=by show B7 _ l=k+1+B7 _ (l.drop (k+1));rw[h.o,D.o];simp[B7,hq];omega
   clear hq h;go_wp2_with fail
   go_quiet (fail)
   go_wp2
   go_roundw
   case rel=>exact⟨k+1,q+nq,by omega,by go_num,n,Ab (by rw[y.o,WD])⟩
   case measure=>simp[intOf];omega
  have n:Hid (-1=Kk (λx=>decide (((d,f,g):V)=x)) l):=by
   have:B7 (λx=>decide (((d,f,g):V)=x)) l=l.length:=by rw[h.o,Yw (by omega)];simp[B7];omega
   show -1=Kk _ l;unfold Kk;rw[Yad (by omega)]
  clear h;go_wp2;go_ret;exact⟨Bd n.o,j.o 0⟩
theorem AGk{α:Type}{l m:List α}{x y:α}(h:l.take k=m.take k)(a:l[k]? = some x)(b:m[k]? = some y)(e:x=y):l.take (k+1)=m.take (k+1):=by rw[Br a,Br b,h,e]
theorem AKX{α:Type}{l m:List α}{x y:α}(b:l[k]? = some x)(a:m[k]? = some y)(e:x≠y):l≠m:=by rintro rfl;rw[b] at a;exact e (Yt a)
theorem AJA(v1 v2:Tv)(l m:List V)(w:Tw)(R:Sl w v1 l)(T:Sl w v2 m)(P:l.length<=1000)(_h61:m.length<=1000):
 Zc 32 #[v1,v2] w λe w'=>e=Zr (Zo (decide (l=m)))/\Zb w w':=by
 obtain⟨a1,aa,rfl,_,u⟩:=R;obtain⟨a2,ab,rfl,_,v⟩:=T;have N:=Ab u;have O:=Ab v;clear u v
 by_cases hn:l.length=m.length
 ·generalize hN:m.length=n at *
  have h:Hid (l.length=n/\m.length=n):=⟨hn,hN⟩;rw[hn];rw[hn] at P;clear hn hN;go_enter func32,ntmps32;go_wp2
  go_loopw [13] (λU wr=>∃k q:Nat,k<=n/\U=Zi k/\Hid (l.take k=m.take k)/\Hid (wr=w.drewN q)) (λU _=>n-(intOf U).toNat)
  case atStart=>exact⟨0,0,XI _,rfl,Ab (by simp),Ab rfl⟩
  case round=>
   obtain⟨k,q,hk,rfl,t,hw⟩:=hrel
   have c:Hid (∀m,Zb w (wr.drewN m)):=λm=>by rw[hw.o];exact⟨rfl,rfl,rfl,Y' _,λi hh=>rfl⟩
   by_cases hlt:k<n
   ·obtain⟨j,a,rfl,f,r⟩:=N.o (by intro e;have:=h.o.1;rw[e] at this;simp at this;omega)
    obtain⟨o,b,rfl,g,s⟩:=O.o (by intro e;have:=h.o.2;rw[e] at this;simp at this;omega);obtain⟨⟨D,I,L⟩,y⟩:=Hk (l:=l) (k:=k) (by have:=h.o.1;omega);obtain⟨⟨G,J,M⟩,z⟩:=Hk (l:=m) (k:=k) (by have:=h.o.2;omega);obtain⟨g0,g1,g2⟩:=r k _ y;obtain⟨X,Y,f2⟩:=s k _ z;have c0:∀m,(wr.drewN m).cell? (Zd j (a+k*3))=some (Zi D):=λm=>((c.o m).cell (p:=Zd j (a+k*3)) f).trans g0
    have c1:∀m,(wr.drewN m).cell? (Zd j (a+k*3+1))=some (Zi I):=λm=>((c.o m).cell (p:=Zd j (a+k*3+1)) f).trans g1
    have c2:∀m,(wr.drewN m).cell? (Zd j (a+k*3+2))=some (Zt L):=λm=>((c.o m).cell (p:=Zd j (a+k*3+2)) f).trans g2
    have d0:∀m,(wr.drewN m).cell? (Zd o (b+k*3))=some (Zi G):=λm=>((c.o m).cell (p:=Zd o (b+k*3)) g).trans X
    have d1:∀m,(wr.drewN m).cell? (Zd o (b+k*3+1))=some (Zi J):=λm=>((c.o m).cell (p:=Zd o (b+k*3+1)) g).trans Y
    have d2:∀m,(wr.drewN m).cell? (Zd o (b+k*3+2))=some (Zt M):=λm=>((c.o m).cell (p:=Zd o (b+k*3+2)) g).trans f2
    clear g0 g1 g2 r X Y f2 s
    by_cases hq:((D,I,L):V)=(G,J,M)
    ·have hr:∀W,(Op.equalIn 10000 67 (Zg #[Zi D,Zi I,Zt L]) (Zg #[Zi G,Zi J,Zt M])).run prog W=.ok true W:=λW=>by rw[zL];simp[hq]
     have d:Hid (l.take (k+1)=m.take (k+1)):=AGk t.o y z hq;clear hq t y z;go_wp2_with fail
     go_quiet (fail)
     go_wp2
     go_roundw
     case rel=>exact⟨k+1,q+nq,by omega,by go_num,d,Ab (by rw[hw.o,WD])⟩
     case measure=>simp[intOf];omega
    have hr:∀W,(Op.equalIn 10000 67 (Zg #[Zi D,Zi I,Zt L]) (Zg #[Zi G,Zi J,Zt M])).run prog W=.ok false W:=λW=>by rw[zL];simp[hq]
    have d:Hid (false=decide (l=m)):=by have:=AKX y z hq;show false=decide (l=m);simp[this]
    clear hq t y z;go_wp2_with fail
    go_quiet (fail)
    go_wp2;go_ret;exact⟨Af d.o,c.o _⟩
   have d:Hid (true=decide (l=m)):=by have h1:=t.o;rw[Yf (by have:=h.o.1;omega),Yf (by have:=h.o.2;omega)] at h1;show true=decide (l=m);simp[h1]
   clear t;go_wp2;go_ret;exact⟨Af d.o,c.o 0⟩
 have d:Hid (false=decide (l=m)):=by
  show false=decide (l=m);have:l≠m:=λe=>hn (by rw[e])
  simp[this]
 have x:¬(l.length:Int)=(m.length:Int):=by omega
 have ac:((l.length:Int)==(m.length:Int))=false:=by simpa using x
 clear hn x;go_enter func32,ntmps32;go_wp2;go_ret;exact⟨Af d.o,XG _ _⟩
theorem jH(a c b d:Int)(f g:Tb)(bx:Nat)(w:Tw)(n:bx<w.1.size)(k:w.cell? (Zd bx 0)=some (Zi b))(l:w.cell? (Zd bx 1)=some (Zi d))(m:w.cell? (Zd bx 2)=some (Zt g)):
 Zc 329 #[Zg #[Zi a,Zi c,Zt f],Zp (some (Zd bx 0))] w λe j=>e=Zr (Zo (!decide (((a,c,f):V)=(b,d,g))))/\Zb w j:=by
 have h:¬w.1.size=bx:=by omega
 have i:=zL a c b d f g;generalize decide (((a,c,f):V)=(b,d,g))=q at i;go_enter func329,ntmps329;go_wp2;go_ret;exact⟨rfl,Zal⟩
def lenOf:Value->Nat
 | .slice _ n _=>n
 | _=>0
theorem Ro:∀(f:Nat)(l:List V),l.length<=f->El f l=El l.length l
 | 0,[],_=>rfl
 | 0,_ :: _,h=>by simp at h
 | f+1,[],_=>rfl
 | f+1,v :: l,h=>by
   have c:=Ue v l;have a:(l.drop (same v l)).length<=f:=by simp at h ⊢;omega
   have b:(l.drop (same v l)).length<=l.length:=by simp
   simp only[XE,El];rw[Ro f _ a,Ro l.length _ b]
theorem mG(v:V):∀l:List V,B7 (λy=>!decide (y=v)) l=same v l
 | []=>rfl
 | x :: l=>by
   unfold B7 same
   by_cases h:x=v
   ·simp[h,mG v l]
   simp[h]
theorem cC(v:V)(l:List V):El (v :: l).length (v :: l)=Lib.uvarint (same v l+1)++J3 v++El (l.drop (same v l)).length (l.drop (same v l)):=by simp only[XE,El];rw[Ro _ _ (by simp)]
theorem AC7(v:V)(l:List V):same v (v :: l)=same v l+1:=by simp[same]
theorem Ad{B e z n:Nat}{xs:List Tv}(h:w.ownsRow B e z v n xs)(k:Zb w W):W.ownsRow B e z v n xs:=by
 refine⟨h.1,?_⟩
 rcases h.2 with a|⟨g,b,c,f,i,d,j⟩
 ·exact .inl a
 refine .inr ⟨g,b,c,f,i,?_,j⟩
 rw[k.block g (by
  rcases Yc g w.1.size with a|a
  ·exact a
  rw[XN a] at d;cases d)]
 exact d
theorem Ai{B k e z n:Nat}{xs:List Tv}(h:w.ownsRow B e z v n xs)(j:k<=B):w.ownsRow k e z v n xs:=by
 refine⟨h.1,?_⟩
 rcases h.2 with i|⟨g,a,b,c,d,f⟩
 ·exact .inl i
 exact .inr ⟨g,a,b,c,XF j d,f⟩
theorem Vd.drop{l:List V}(h:Vd l)(k:Nat):Vd (l.drop k):=⟨by have:=h.1;simp;omega,λx a=>h.2 x (XU a)⟩
theorem Ac{b:Nat}{o:Obj}(h:w.1[b]? = some o):b<w.1.size:=by
 rcases Yc b w.1.size with a|a
 ·exact a
 rw[XN a] at h;cases h
theorem Wf{b:Nat}{o:Obj}(h:w.1[b]? = some o)(a:Zb w W):W.1[b]? = some o:=(a.block b (Ac h)).trans h
theorem jM(l:List V)(h:∀x∈l,-9223372036854775808<=x.2.1/\x.2.1<=9223372036854775807/\x.2.2.size<=40)(a:l.length<=1000):∀f,(El f l).length<=f*60:=by
 intro f
 induction f generalizing l with
 | zero=>simp[El]
 | succ f ih=>
   cases l with
   | nil=>simp[El]
   | cons v l=>have c:=rL (h v (by simp));have g:=Ue v l;have d:=ih (l.drop (same v l)) (λx b=>h x (by simp[XU b])) (by simp at a ⊢;omega);have e:=Lib.uvarint_length64 (x:=same v l+1) (by simp at a;omega);simp only[El,XA];omega
theorem vS{B bx n:Nat}{vb:Tv}{cs:Array Tv}{xs:List Tv}(x:Nat)(W:Tw)(k:x<9223372036854775808)(i:B<=w.1.size)(h:W.ownsRow B 5 1 vb n xs)(j:n<=1000000)(c:Wr B w W)(f:W.1[bx]? = some (Zk cs 67)):
 Zc 138 #[vb,.int .u64 (IntKind.u64.wrap (x:Int))] W λe a=>∃v',e=Zr v'/\a.ownsRow B 5 1 v' (n+(Lib.uvarint x).length) (xs++Lib.byteCells (Lib.uvarint x))/\Wr B w a/\a.1[bx]? = some (Zk cs 67):=by
 rw[show IntKind.u64.wrap (x:Int)=((x:Nat):Int) by rw[IntKind.wrap_u64];omega];exact(Dq B n x (by omega) vb xs W h (by have:=c.1.size;omega) (by omega)).mono λe a⟨v',g,d,b⟩=>⟨v',g,d,c.trans b,Hw b f (by decide)⟩
theorem ADL{B bx n:Nat}{vb:Tv}{cs:Array Tv}{xs:List Tv}(k x:Int)(t:Tb)(W:Tw)(c : -9223372036854775808<=x/\x<=9223372036854775807/\t.size<=40)(l:B<=w.1.size)(j:W.ownsRow B 5 1 vb n xs)(i:n<=1000000)(d:Wr B w W)(g:W.1[bx]? = some (Zk cs 67)):
 Zc 330 #[vb,Zg #[Zi k,Zi x,Zt t]] W λe a=>∃v',e=Zr v'/\a.ownsRow B 5 1 v' (n+(J3 (k,x,t)).length) (xs++Lib.byteCells (J3 (k,x,t)))/\Wr B w a/\a.1[bx]? = some (Zk cs 67) :=
 (N8 B n k x t c.1 c.2.1 (by omega) vb xs W j (by have:=d.1.size;omega) i).mono λe a⟨v',h,f,b⟩=>⟨v',h,f,d.trans b,Hw b g (by decide)⟩
theorem Ei{bx:Nat}{k n:Int}{t:Tb}(h:W.1[bx]? = some (Zk #[Zi k,Zi n,Zt t] 67)):
 W.cell? (Zd bx 0)=some (Zi k)/\W.cell? (Zd bx 1)=some (Zi n)/\W.cell? (Zd bx 2)=some (Zt t):=by
 simp[World.cell?,h]
theorem AJ6{w wr:Tw}{L:List V}{b off c:Nat}(d f:Int)(g:Tb)(r:Sl w (Zs (some (Zd b off)) L.length c) L)(n:Zb w wr)(s:L.length<=1000):
 Zc 302 #[Zs (some (Zd b off)) L.length c,.func (.func 329) #[] #[Zp (some (Zd wr.1.size 0))]] (wr.alloc (Zk #[Zi d,Zi f,Zt g] 67)) λe j=>e=Zr (Zi (Kk (λy=>!decide (y=((d,f,g):V))) L))/\Below (wr.alloc (Zk #[Zi d,Zi f,Zt g] 67)).1.size (wr.alloc (Zk #[Zi d,Zi f,Zt g] 67)) j/\j.1[wr.1.size]? = some (Zk #[Zi d,Zi f,Zt g] 67):=by
 have m:Zb w (wr.alloc (Zk #[Zi d,Zi f,Zt g] 67)):=n.alloc n.size _;have h:(wr.alloc (Zk #[Zi d,Zi f,Zt g] 67)).1[wr.1.size]? = some (Zk #[Zi d,Zi f,Zt g] 67):=Yac _ _;refine(Md 329 #[Zp (some (Zd wr.1.size 0))] (λy=>!decide (y=((d,f,g):V))) (enters_of func329 (by kernel_rfl) rfl) _ L _ (r.up m) s ?_).mono λe j⟨l,i⟩=>⟨l,i,Wf h i⟩
 intro W x _ k;have a:=Wf h k;obtain⟨o,p,q⟩:=Ei a;exact(jH x.1 x.2.1 d f x.2.2 g wr.1.size W (Ac a) o p q).mono λe j⟨l,i⟩=>⟨l,k.trans (i.mono k.size)⟩
theorem AAA(v:Tv)(l:List V)(w:Tw)(hs:Sl w v l)(hf:Vd l):
 Zc 303 #[v] w λe u=>∃v',e=Zr v'/\u.ownsRow w.1.size 5 1 v' (El l.length l).length (Lib.byteCells (El l.length l))/\Wr w.1.size w u:=by
 have HS:=Ab hs;have HF:=Ab hf;have HN:Hid ((El l.length l).length<=3600):=by have J:=jM l hf.2 (by have:=hf.1;omega) l.length;have P:=hf.1;show (El l.length l).length<=3600;omega
 obtain⟨a,c,rfl,_,_⟩:=hs;clear hf;have aw:∀args w,(callFunc 329 args).run prog w=.ok (.enter 329 args) w:=enters_of func329 (by kernel_rfl) rfl;go_enter func303,ntmps303;go_wp2
 go_loopw [0,3] (λv0 vb wr=>∃(L:List V)(pre:List UInt8),Hid (Sl w v0 L)/\Hid (Vd L)/\Hid (El l.length l=pre++El L.length L)/\Hid (wr.ownsRow w.1.size 5 1 vb pre.length (Lib.byteCells pre))/\Hid (Wr w.1.size w wr)) (λv0 _ _=>lenOf v0)
 case atStart=>exact⟨l,[],HS,HF,Ab rfl,XC _ _ _ _,Wr.refl _ _⟩
 case round=>
  obtain⟨L,pre,hS,hF,hR,ho,X⟩:=hrel;obtain⟨a,c,rfl,an,hl⟩:=hS.o;cases L with
  | nil=>have HE:Hid (El l.length l=pre):=Ab (by rw[hR.o];simp[El]);have ap:([]:List V).length=0:=rfl;clear hl;rw[ap];go_wp2;go_ret;exact⟨_,rfl,by rw[HE.o];exact ho.o,X.o⟩
  | cons x R=>
    obtain⟨d,f,g⟩:=x;obtain⟨b,off,rfl,hb,hc⟩:=hl (by simp);obtain⟨g0,g1,g2⟩:=hc 0 _ rfl;simp only[Nat.zero_mul,XZ] at g0 g1 g2;have c0:wr.cell? (Zd b off)=some (Zi d):=(X.o.1.cell (p:=Zd b off) hb).trans g0;have c1:wr.cell? (Zd b (off+1))=some (Zi f):=(X.o.1.cell (p:=Zd b (off+1)) hb).trans g1;have c2:wr.cell? (Zd b (off+2))=some (Zt g):=(X.o.1.cell (p:=Zd b (off+2)) hb).trans g2;have au:=X.o.1.size;have HI:=Ab (AJ6 (w:=w) (wr:=wr) (L:=(d,f,g) :: R) (c:=c) (b:=b) (off:=off) d f g hS.o X.o.1 (by have:=hF.o.1;omega));have aq:=Ue (d,f,g) R;have ao:=hF.o.1;have am:=Ab (cC (d,f,g) R);have HV:=hF.o.get (j:=0) (x:=(d,f,g)) rfl;have z:Hid (pre.length<=3600):=by have J:=congrArg List.length hR.o;rw[XA] at J;have P:=HN.o;show pre.length<=3600;omega
    have ae:=Ab (λW ac n' xs' J P h3 h4=>ADL (w:=w) (B:=w.1.size) (bx:=wr.1.size) (n:=n') (vb:=ac) (cs:=#[Zi d,Zi f,Zt g]) (xs:=xs') d f g W HV (Y' _) J P h3 h4);have ad:=Ab (λW x ac n' xs' h0 J P h3 h4=>vS (w:=w) (B:=w.1.size) (bx:=wr.1.size) (n:=n') (vb:=ac) (cs:=#[Zi d,Zi f,Zt g]) (xs:=xs') x W h0 (Y' _) J P h3 h4);simp only[XE] at HI an ao ⊢;generalize hn:R.length=n at *;obtain⟨r,al⟩:∃r,r=same (d,f,g) R+1:=⟨_,rfl⟩;have D:=Ab al;have ag:=Ab hn;have ax:1<=r:=by omega
    have ay:r<=n+1:=by omega
    have av:w.1.size<=wr.1.size+1:=by omega
    have ak:Hid (Wr w.1.size w (wr.alloc (Zk #[Zi d,Zi f,Zt g] 67))):=X.o.alloc au _;have ah:Hid ((wr.alloc (Zk #[Zi d,Zi f,Zt g] 67)).ownsRow w.1.size 5 1 _ pre.length (Lib.byteCells pre)):=Ab (ho.o.alloc _);have I:Hid (∀(ab:Tv)(w4:Tw),w4.ownsRow w.1.size 5 1 ab (pre.length+(Lib.uvarint r).length+(J3 (d,f,g)).length) (Lib.byteCells pre++Lib.byteCells (Lib.uvarint r)++Lib.byteCells (J3 (d,f,g)))->∃i,El l.length l=i++El (R.drop (same (d,f,g) R)).length (R.drop (same (d,f,g) R))/\w4.ownsRow w.1.size 5 1 ab i.length (Lib.byteCells i)):=λab w4 h4=>⟨pre++Lib.uvarint r++J3 (d,f,g),by rw[hR.o,am.o,D.o];simp,by rw[XA,XA,Bg,Bg];exact h4⟩
    have aj:Hid ((Lib.uvarint r).length<=10):=Lib.uvarint_length64 (by omega)
    have ai:Hid (∀a' c',n+1-r<=c'->(r<n+1->a'=some (Zd b (off+r*3)))->Sl w (Zs a' (n+1-r) c') (R.drop (same (d,f,g) R))/\(R.drop (same (d,f,g) R)).length=n+1-r):=λa' c' J P=>by
     have hlen:(R.drop (same (d,f,g) R)).length=n+1-r:=by simp;have:=ag.o;have:=D.o;omega
     refine⟨⟨a',c',by rw[hlen],by rw[hlen];exact J,λar=>⟨b,off+r*3,P ?_,hb,λj x hj=>?_⟩⟩,hlen⟩
     ·rcases Yc r (n+1) with h'|h'
      ·exact h'
      exact absurd (Yz (by omega)) ar
     have:=hc (r+j) x (by rw[D.o,Nat.add_right_comm,List.getElem?_cons_succ];rwa[List.getElem?_drop] at hj);rw[show off+r*3+j*3=off+(r+j)*3 by omega];exact this
    have af:Hid (Vd (R.drop (same (d,f,g) R))):=by have:=hF.o.drop (same (d,f,g) R+1);rw[X'] at this;exact this
    clear hn al g0 g1 g2 hl HV aq
    have M:Kk (λy=>!decide (y=((d,f,g):V))) ((d,f,g) :: R)=if r<n+1 then ((r:Nat):Int) else -1:=by unfold Kk;rw[mG,AC7,<-D.o,XE,ag.o]
    rw[M] at HI;clear M
    by_cases hA:r<n+1
    ·rw[Yae hA] at HI
     go_wp2_with (go_at_call 302;apply HI.o.mono;rintro e w2⟨rfl,q,k⟩);have HA:=Ab (ad.o w2.drew r _ _ _ (by omega) (Ad ah.o q.drew) (by have:=z.o;omega) (ak.o.trans (Wr.Ba q (by simp;omega))).drew k)
     go_region_held3 (λu=>u.cell? (Zd wr.1.size 0)=some (Zi d)/\u.cell? (Zd wr.1.size 1)=some (Zi f)/\u.cell? (Zd wr.1.size 2)=some (Zt g))
      (first
        | (go_keep;done)
        | exact Ei k
        | exact Ei m
        | exact Ei s)
      (first
        | (go_at_call 138;apply HA.o.mono;rintro e w3⟨v3,rfl,T,Y,m⟩)
        | (go_at_call 330;refine(ae.o _ _ _ _ T ?_ Y m).mono ?_;(have:=z.o;have:=aj.o;omega);rintro e w4⟨v4,rfl,U,aa,s⟩))
     obtain⟨i,o,t⟩:=I.o _ _ U;have O:=Ab o;have N:=Ab t;clear o t;go_wp2;obtain⟨G,_⟩:=ai.o (some (Zd b (off+r*3))) (c-r) (by omega) (λ_=>rfl);exact⟨⟨_,i,Ab G,af,O,N,Ab aa⟩,by show n+1-r<n+1;omega⟩
    rw[Yad hA] at HI;have er:((r:Nat):Int)=(n:Int)+1:=by omega
    go_wp2_with (go_at_call 302;apply HI.o.mono;rintro e w2⟨rfl,q,k⟩);have HA:=ad.o w2.drew r _ _ _ (by omega) (Ad ah.o q.drew) (by have:=z.o;omega) (ak.o.trans (Wr.Ba q (by simp;omega))).drew k;rw[er] at HA;have HA:=Ab HA;clear er
    go_region_held3 (λu=>u.cell? (Zd wr.1.size 0)=some (Zi d)/\u.cell? (Zd wr.1.size 1)=some (Zi f)/\u.cell? (Zd wr.1.size 2)=some (Zt g))
     (first
       | (go_keep;done)
       | exact Ei k
       | exact Ei m
       | exact Ei s)
     (first
       | (go_at_call 138;apply HA.o.mono;rintro e w3⟨v3,rfl,T,Y,m⟩)
       | (go_at_call 330;refine(ae.o _ _ _ _ T ?_ Y m).mono ?_;(have:=z.o;have:=aj.o;omega);rintro e w4⟨v4,rfl,U,aa,s⟩))
    obtain⟨i,o,t⟩:=I.o _ _ U;have O:=Ab o;have N:=Ab t;clear o t;go_wp2;obtain⟨G,_⟩:=ai.o (if c=n+1 then some (Zd b off) else some (Zd b (off+(n+1)*3))) (c-(n+1)) (by omega) (λh=>absurd h hA);rw[show n+1-r=0 by omega] at G;exact⟨⟨_,i,Ab G,af,O,N,Ab aa⟩,by show 0<n+1;omega⟩
theorem Ip:(prog.info? 67).map (λi=>(i.zero,i.size,i.bytes))=some (some (Zg #[Zi 0,Zi 0,Zt ⟨#[]⟩]),3,32):=by kernel_rfl
theorem Ck{P:Program}{k:Array Oper}{rest:List Oper}{o:Oper}{a:Act}{Q:Exit->Act->Tw->Prop}(j:o.guard=none)(s x:Operand)(t:TypeId)(M:o.op=.call { callee:=.builtin .append,args:=#[s,x],argTypes:=#[t,t] })(base:Nat)(e:TypeId)(i:TypeInfo)(z:Tv)(size bytes:Nat)(O:P.underlying t=some (.slice e))(L:P.info? e=some i)(Y:i.zero=some z)(f:i.size=size)(G:i.bytes=bytes)(J:z.cells.size=size)(I:0<size)(v:Tv)(n:Nat)(xs:List Tv)(N:a.eval s=v)(b:w.ownsRow base e size v n xs)(u:Tv)(m Bu:Nat)(p:List Tv)(R:a.eval x=u)(q:w.ownsRow Bu e size u m p)(U:∀y∈p,y.oneCell'=true)(D:n+m<=maxLen)(c:(n+m)*bytes<=140737488355328)(d:base<=w.1.size)(h:∀v' l,l.ownsRow base e size v' (n+m) (xs++p)->w.grownBy l v.ownBlock->wpList P k Q rest (a.put o.dst v') l):wpList P k Q (o :: rest) a w:=by
 rcases q.2 with⟨rfl,rfl⟩|⟨g,r,T,rfl,_,_⟩
 ·have X:p=[]:=Yz (by have:=q.1;omega)
  subst X;refine wpList_append_own_none j s x t M base e i size O L v n xs N b R (h v w (by simpa using b) ⟨rfl,rfl,rfl,Y' _,λ_ _ _=>rfl⟩)
 exact wpList_append_own w j s x t M base e i z size bytes O L Y f G J I v n xs N b (Zd g 0) m r p R q.1 (q.cells rfl) U D c d (λv' l V W _=>h v' l V W)
def aD(x:V):List Value:=[Zi x.1,Zi x.2.1,.string x.2.2]
def AKn(l:List V):List Value:=l.flatMap aD
theorem K3:∀l,(AKn l).length=l.length*3
 | []=>rfl
 | x :: l=>by have:=K3 l;simp[AKn,aD] at this ⊢;omega
theorem Jk(l m:List V):AKn (l++m)=AKn l++AKn m:=by simp[AKn]
theorem Hr:∀{l:List V}{j:Nat}{x:V},l[j]? = some x->(AKn l)[j*3]? = some (Zi x.1)/\(AKn l)[j*3+1]? = some (Zi x.2.1)/\(AKn l)[j*3+2]? = some (Zt x.2.2)
 | [],_,_,h=>by simp at h
 | y :: l,0,x,h=>by simp at h;subst h;simp[AKn,aD]
 | y :: l,j+1,x,h=>by
   have d:l[j]? = some x:=by simpa using h
   obtain⟨a,b,c⟩:=Hr d;have e:AKn (y :: l)=aD y++AKn l:=rfl;have f:(aD y).length=3:=rfl;rw[e,show (j+1)*3=(aD y).length+j*3 by omega,show (aD y).length+j*3+1=(aD y).length+(j*3+1) by omega,show (aD y).length+j*3+2=(aD y).length+(j*3+2) by omega];simp only[List.getElem?_append_right (Nat.le_add_right _ _),Nat.add_sub_cancel_left];exact⟨a,b,c⟩
theorem Hf(l:List V):∀y∈AKn l,y.oneCell'=true:=by
 intro y b;simp only[AKn,List.mem_flatMap,aD] at b;obtain⟨x,_,a⟩:=b;simp at a
 rcases a with rfl|rfl|rfl <;> rfl
theorem byteCells_one(l:List UInt8):∀y∈Lib.byteCells l,y.oneCell'=true:=by intro y a;simp only[Lib.byteCells,WR] at a;obtain⟨x,_,rfl⟩:=a;rfl
theorem addr_add(g j:Nat):((Zd g 0):Addr).add j=(Zd g j):=by unfold Addr.add;split <;> simp_all
theorem Cy{B:Nat}(h:w.ownsRow B 67 3 v l.length (AKn l)):Sl w v l:=by
 rcases h.2 with⟨rfl,k⟩|⟨g,f,m,rfl,o,n,d,_,_⟩
 ·exact⟨none,0,by rw[k],by omega,λi=>absurd (Yz k) i⟩
 refine⟨_,f,rfl,d,λ_=>⟨g,0,rfl,Ac n,λj x hj=>?_⟩⟩;obtain⟨a,b,c⟩:=Hr hj;have e:=h.cells (g:=g) rfl;simp only[addr_add] at e;rw[WE];exact⟨e _ _ a,e _ _ b,e _ _ c⟩
theorem ALN{n k i n1 j m d n2:Nat}(f:w.ownsRow n k i v n1 X)(o:w.ownsRow j m d u n2 Y)(p:k≠m)(q:w.grownBy W u.ownBlock):W.ownsRow n k i v n1 X:=by
 refine f.kept q ?_
 rcases f.2 with⟨rfl,_⟩|⟨g,h,l,rfl,_,r,_⟩
 ·exact .inl rfl
 rcases o.2 with⟨rfl,_⟩|⟨s,b,c,rfl,_,a,_⟩
 ·exact .inr (by simp[Value.ownBlock])
 refine .inr (λe=>?_);simp[Value.ownBlock] at e;subst e;rw[r] at a;injection a with a;injection a with _ a;exact p a
theorem eO{B n k i n1:Nat}(c:w.ownsRow n k i v n1 X)(j:Wr B w W)(f:k≠5):W.ownsRow n k i v n1 X:=by
 refine⟨c.1,?_⟩
 rcases c.2 with d|⟨g,a,b,rfl,e,h,rest⟩
 ·exact .inl d
 exact .inr ⟨g,a,b,rfl,e,Hw j h f,rest⟩
theorem N4{H n i j n1 m d n2:Nat}(b:w.ownsRow n i j v n1 X)(a:∀k,v.ownBlock=some k->k<H)(c:w.ownsRow H m d u n2 Y)(f:w.grownBy W u.ownBlock):W.ownsRow n i j v n1 X:=by
 refine b.kept f ?_;cases hv:v.ownBlock with
 | none=>exact .inl rfl
 | some k=>exact .inr λe=>by have g:=(c.lt k e.symm).1;have h:=a k hv;omega
theorem gD(x:V):∀l:List V,B7 (λy=>decide (x=y)) l=place x l
 | []=>rfl
 | y :: l=>by
   unfold B7 place
   by_cases h:x=y
   ·simp[h]
   have a:¬y=x:=λe=>h e.symm
   simp[h,a,gD x l]
theorem Sg(x:V):∀l:List V,place x l<=l.length
 | []=>Y' _
 | y :: l=>by unfold place;split <;> simp;exact Sg x l
def S8(l:List V)(k:Nat):List V×List UInt8:=(l.take k).foldl Ff ([],[])
theorem rE(h:l[k]? = some x):S8 l (k+1)=Ff (S8 l k) x:=by unfold S8;rw[Br h,List.foldl_append];rfl
theorem bO(h:place x s.1<s.1.length):Ff s x=(s.1,s.2++Lib.uvarint (place x s.1)):=by unfold Ff;rw[Yae h]
theorem aC(h:¬place x s.1<s.1.length):Ff s x=(s.1++[x],s.2++Lib.uvarint s.1.length):=by unfold Ff;rw[Yad h,show place x s.1=s.1.length by have:=Sg x s.1;omega]
theorem Qg{l:List V}(h:Vd l):∀k,k<=l.length->(S8 l k).1.length<=k/\(∀x∈(S8 l k).1,x∈l)/\(S8 l k).2.length<=k*10
 | 0,_=>by simp[S8]
 | k+1,hk=>by
   obtain⟨x,c⟩:=Hk (l:=l) (k:=k) (by omega);obtain⟨e,b,f⟩:=Qg h k (by omega);have d:=h.1;have g:=Sg x (S8 l k).1;have i:=Lib.uvarint_length64 (x:=place x (S8 l k).1) (by omega);rw[rE c];unfold Ff;refine⟨?_,?_,?_⟩
   ·split <;> simp <;> omega
   ·intro y a
    split at a
    ·exact b y a
    simp at a
    rcases a with a|rfl
    ·exact b y a
    exact XH c
   simp;omega
theorem ABX(h:Vd l)(b:k<=l.length):Vd (S8 l k).1:=by obtain⟨d,a,_⟩:=Qg h k b;exact⟨by have:=h.1;omega,λx c=>h.2 x (a x c)⟩
theorem Bj{B e z n:Nat}{xs:List Tv}{a:Tw}(c:Below B a w)(g:w.ownsRow B e z v n xs)(d:w.grownBy W v.ownBlock)(b:B<=w.1.size):Below B a W :=
 c.grown d b (λk f=>(g.lt k f).1)
theorem ANd(v:Tv)(l:List V)(w:Tw)(hs:Sl w v l)(hf:Vd l):
 Zc 304 #[v] w λe w'=>∃v',e=Zr v'/\w'.ownsRow w.1.size 5 1 v' (Pd l).length (Lib.byteCells (Pd l))/\Zb w w':=by
 obtain⟨aw,M,T,r,t⟩:=info_parts Ip;have n:=Zy M T r t;obtain⟨i5,ae,ah,P,R⟩:=info_parts bX;have m:=Zy ae ah P R;clear M T r t ae ah P R;obtain⟨a,c,rfl,_,hl⟩:=hs;have HL:=Ab hl;have HF:=Ab hf;have ay:=hf.1;clear hl hf;go_enter func304,ntmps304;go_wp2
 go_loopw [3,4,11] (λvd vw vi wr=>∃k:Nat,k<=l.length/\vi=Zi k/\Hid (wr.ownsRow w.1.size 67 3 vd (S8 l k).1.length (AKn (S8 l k).1))/\Hid (wr.ownsRow w.1.size 5 1 vw (S8 l k).2.length (Lib.byteCells (S8 l k).2))/\Hid (Zb w wr)) (λ_ _ vi _=>l.length-(intOf vi).toNat)
 case atStart=>exact⟨0,XI _,rfl,XC _ _ _ _,XC _ _ _ _,XG _ _⟩
 case round=>
  obtain⟨k,hk,rfl,L,hv,O⟩:=hrel
  by_cases hlt:k<l.length
  ·obtain⟨b,off,rfl,hb,hc⟩:=HL.o (by intro e;rw[e] at hlt;simp at hlt)
   obtain⟨⟨g,h,i⟩,hx⟩:=Hk hlt;obtain⟨g0,g1,g2⟩:=hc k _ hx;have c0:wr.cell? (Zd b (off+k*3))=some (Zi g):=(O.o.cell (p:=Zd b (off+k*3)) hb).trans g0;have c1:wr.cell? (Zd b (off+k*3+1))=some (Zi h):=(O.o.cell (p:=Zd b (off+k*3+1)) hb).trans g1;have c2:wr.cell? (Zd b (off+k*3+2))=some (Zt i):=(O.o.cell (p:=Zd b (off+k*3+2)) hb).trans g2;have q:=O.o.size;have HN:=Ab (rE hx);have HW:=Ab (Qg HF.o k hk);have HP:=Ab (Sg (g,h,i) (S8 l k).1);generalize S8 l k=st at *;obtain⟨d,z⟩:=st;obtain⟨ad,cd,rfl,_,_⟩:=Cy L.o;have HI:=Ab (ADg _ d g h i (wr.alloc (Zk #[Zi g,Zi h,Zt i] 67)) (Cy (L.o.alloc _)) (by have:=HW.o.1;simp at this;omega));have ai:Hid ((wr.alloc (Zk #[Zi g,Zi h,Zt i] 67)).1[wr.1.size]? = some (Zk #[Zi g,Zi h,Zt i] 67)):=Yac _ _
   have N:Kk (λy=>decide (((g,h,i):V)=y)) d=if place (g,h,i) d<d.length then ((place (g,h,i) d:Nat):Int) else -1:=by unfold Kk;rw[gD]
   rw[N] at HI;clear N g0 g1 g2 hc;have an:d.length<=60:=by have:=HW.o.1;simp at this;omega
   have av:z.length<=600:=by have:=HW.o.2.2;simp at this;omega
   by_cases hA:place (g,h,i) d<d.length
   ·rw[Yae hA] at HI
    have HE:=Ab (bO (s:=(d,z)) (x:=(g,h,i)) hA);generalize place (g,h,i) d=p at *;go_wp2_with fail;apply HI.o.mono;rintro e I⟨rfl,f⟩;have o:=f.size;have U:w.1.size<=I.1.size:=by simp at o;omega
    go_wp2_with fail;refine(Dq w.1.size _ p (by omega) _ _ I (Ad (hv.o.alloc _) f) U (by show z.length+10<=_;omega)).mono ?_;rintro e w3⟨v3,rfl,Y,G⟩;go_wp2;have e1:S8 l (k+1)=(d,z++Lib.uvarint p):=by rw[HN.o,HE.o]
    refine⟨⟨k+1,by omega,by go_num,?_,?_,Ab (((O.o.alloc q _).trans (f.mono (by simp;omega))).trans G.1)⟩,by simp[intOf];omega⟩
    ·rw[e1];exact eO (Ad (L.o.alloc _) f) G (by decide)
    rw[e1,XA,Bg];exact Y
   rw[Yad hA] at HI;have HE:=Ab (aC (s:=(d,z)) (x:=(g,h,i)) hA);go_wp2_with fail;apply HI.o.mono;rintro e I⟨rfl,f⟩;have o:=f.size;have U:w.1.size<=I.1.size:=by simp at o;omega
   have al:=Wf ai.o f;obtain⟨q0,q1,q2⟩:=Ei al;go_wp2_with (at_builtin;refine wpList_append_own _ rfl _ _ 71 rfl w.1.size 67 aw (.agg #[Zi 0,Zi 0,.string ⟨#[]⟩]) 3 32 underlying71 n.o.1 n.o.2.1 n.o.2.2.1 n.o.2.2.2 rfl (by decide) _ _ _ rfl ((Ad (L.o.alloc _) f).alloc _) (Zd I.1.size 0) 1 1 [Zi g,Zi h,.string i] rfl rfl ?c1 ?c2 ?c3 ?c4 ?c5 ?_)
   case c1=>exact λj u hj=>XM (Yac _ _) j u hj
   case c2=>exact Hf [(g,h,i)]
   case c3=>show d.length+1<=maxLen;unfold maxLen;omega
   case c4=>show (d.length+1)*32<=_;omega
   case c5=>simp;omega
   intro v3 w3 am W _;have ar:=ALN ((Ad (hv.o.alloc _) f).alloc (Zk #[Zi g,Zi h,Zt i] 67)) ((Ad (L.o.alloc _) f).alloc (Zk #[Zi g,Zi h,Zt i] 67)) (by decide) W;have af:=W.size;have ak:w.1.size<=w3.1.size:=by simp at af;omega
   have ac:Zb w w3:=Bj ((((O.o.alloc q _).trans (f.mono (by simp;omega)))).alloc U _) ((Ad (L.o.alloc _) f).alloc _) W (by simp;omega);go_wp2_with fail;refine(Dq w.1.size _ d.length (by omega) _ _ w3 ar ak (by show z.length+10<=_;omega)).mono ?_;rintro e w4⟨v4,rfl,aa,ag⟩;go_wp2;have e1:S8 l (k+1)=(d++[(g,h,i)],z++Lib.uvarint d.length):=by rw[HN.o,HE.o]
   refine⟨⟨k+1,by omega,by go_num,?_,?_,Ab (ac.trans ag.1)⟩,by simp[intOf];omega⟩
   ·rw[e1,Jk,XA];exact eO am ag (by decide)
   rw[e1,XA,Bg];exact aa
  have ek:S8 l k=(l.foldl Ff ([],[])):=by unfold S8;rw[Yf (by omega)]
  have aj:Hid (Pd l=Lib.uvarint (S8 l k).1.length++Fx (S8 l k).1++(S8 l k).2):=by rw[ek];exact rfl
  have HW:=Ab (Qg HF.o k hk);have ab:=Ab (ABX HF.o hk);clear ek;generalize S8 l k=st at *;obtain⟨d,z⟩:=st;obtain⟨ad,cd,rfl,_,_⟩:=Cy L.o;have an:d.length<=60:=by have:=HW.o.1;simp at this;omega
  have av:z.length<=600:=by have:=HW.o.2.2;simp at this;omega
  have q:=O.o.size;have az:(Fx d).length<=3000:=by have:=N0 ab.o.2;simp at this;omega
  have a1:(Lib.uvarint d.length).length<=10:=Lib.uvarint_length64 (by omega);go_wp2_with fail;refine(Dq wr.1.size 0 d.length (by omega) _ [] wr (XC _ _ _ _) (Y' _) (by omega)).mono ?_;rintro e I⟨v2,rfl,ap,au⟩;have f:Zb wr I:=au.1;have o:=f.size;go_wp2_with fail;refine(Xm _ d I (Cy (Ad L.o f)) ab.o).mono ?_;rintro e w3⟨v3,rfl,Y,G⟩;have D:Zb I w3:=G.1;have af:=D.size;have HA:=Ab (Ad ap D);have HB:=Ab Y;have HC:=Ab (Ad (Ad hv.o f) D);go_wp2_with (at_builtin;refine Ck rfl _ _ 90 rfl wr.1.size 5 i5 (.int .u8 0) 1 1 underlying90 m.o.1 m.o.2.1 m.o.2.2.1 m.o.2.2.2 rfl (by decide) _ _ _ rfl HA.o _ _ _ _ rfl HB.o (byteCells_one _) ?f3 ?f4 ?f5 ?_)
  case f3=>unfold maxLen;omega
  case f4=>omega
  case f5=>omega
  intro v4 w4 aa X;have a0:=X.size;have HD:=Ab aa;have HE:=Ab (N4 HC.o (λj hj=>(hv.o.lt j hj).2) HA.o X);have J:Zb wr w4:=Bj (f.trans (D.mono o)) HA.o X (by omega);have ax:=J.size;go_wp2_with (at_builtin;refine Ck rfl _ _ 90 rfl wr.1.size 5 i5 (.int .u8 0) 1 1 underlying90 m.o.1 m.o.2.1 m.o.2.2.1 m.o.2.2.2 rfl (by decide) _ _ _ rfl HD.o _ _ _ _ rfl HE.o (byteCells_one _) ?f6 ?f7 ?f8 ?_)
  case f6=>show _+z.length<=_;unfold maxLen;omega
  case f7=>show (_+z.length)*1<=_;omega
  case f8=>omega
  intro v5 w5 aq ao;go_wp2;go_ret;refine⟨v5,rfl,?_,O.o.trans ((Bj J HD.o ao (by omega)).mono q)⟩;rw[aj.o];rw[XA,XA,Bg,Bg,XD];exact Ai aq q
theorem AAD(h:Vd l):(Pd l).length<=3610:=by
 have e:S8 l l.length=l.foldl Ff ([],[]):=by unfold S8;rw[Yf (Y' _)]
 obtain⟨b,c,d⟩:=Qg h l.length (Y' _);have f:=N0 (ABX h (Y' l.length)).2;have a:=h.1;have g:=Lib.uvarint_length64 (x:=(S8 l l.length).1.length) (by omega);unfold Pd;rw[<-e];simp only[XA];omega
theorem eM(h:Vd l)(k:Nat):(I0 k l).length<=4000:=by
 have b:=h.1;unfold I0;split
 ·have:=jM l h.2 (by omega) l.length;omega
 split
 ·have:=AAD h;omega
 split
 ·have:=bQ (a:=0) (l:=l);omega
 have:=N0 h.2;omega
theorem ACS(k:Nat)(v:Tv)(l:List V)(w:Tw)(h:Sl w v l)(g:Vd l)(o:k<=3):
 Zc 269 #[Zi k,v] w λe m=>∃v',e=Zr v'/\m.ownsRow w.1.size 5 1 v' (I0 k l).length (Lib.byteCells (I0 k l))/\Zb w m:=by
 have H1:=Ab (AAA v l w h g);have H2:=Ab (ANd v l w h g);have H3:=Ab (rD v l w h g);have n:=Ab (Xm v l w h g);obtain⟨a,c,rfl,_,_⟩:=h;clear g;have i:k=0\/k=1\/k=2\/k=3:=by omega
 rcases i with rfl|rfl|rfl|rfl
 ·go_enter func269,ntmps269
  go_wp2_with (go_at_call 306;apply n.o.mono;rintro e j⟨f,rfl,b,d⟩);go_ret;exact⟨f,rfl,b,d.1⟩
 ·go_enter func269,ntmps269
  go_wp2_with (go_at_call 303;apply H1.o.mono;rintro e j⟨f,rfl,b,d⟩);go_ret;exact⟨f,rfl,b,d.1⟩
 ·go_enter func269,ntmps269
  go_wp2_with (go_at_call 304;apply H2.o.mono;rintro e j⟨f,rfl,b,d⟩);go_ret;exact⟨f,rfl,b,d⟩
 go_enter func269,ntmps269;go_wp2_with (go_at_call 305;apply H3.o.mono;rintro e j⟨f,rfl,b,d⟩);go_ret;exact⟨f,rfl,b,d.1⟩
theorem M5(kind:Int)(l:List V)(k:Nat)(a:1<=k):Hp kind l (k+1)=if k=3/\kind≠1 then Hp kind l k else better (Hp kind l k) (k.toUInt8 :: I0 k l):=by obtain⟨j,rfl⟩:∃j,k=j+1:=⟨k-1,by omega⟩;rfl
theorem Wd{kind:Int}{l:List V}(h:Vd l):∀k,(Hp kind l k).length<=4001
 | 0=>by simp[Hp]
 | 1=>by have:=eM h 0;simp[Hp];omega
 | k+2=>by
   have a:=Wd (kind:=kind) h (k+1);have b:=eM h (k+1);rw[M5 kind l (k+1) (by omega)];split
   ·exact a
   unfold better;split <;> simp <;> omega
theorem l5(k:Nat)(a:k<256)(l:List UInt8):Value.int .u8 (k:Int) :: Lib.byteCells l=Lib.byteCells (k.toUInt8 :: l):=by simp[Lib.byteCells,Lib.toUInt8_toNat a]
def oP(kind:Int)(l:List V)(w wr:World)(k:Nat)(vb:Value):Prop :=
 (k=0/\vb=.slice none 0 0)\/(0<k/\wr.ownsRow w.1.size 5 1 vb (Hp kind l k).length (Lib.byteCells (Hp kind l k))/\0<(Hp kind l k).length)
theorem AKQ:∀(w:Tw)(a:To)(n c n' b:Nat),(binOp .eql 90 (.slice a n c) (.slice none n' b)).run prog w=.ok (.bool a.isNone) w:=λw a n c n' b=>Lib.run_eql_slice_nil w _ _ a n c n' b underlying90
theorem yK(kind:Int)(v:Tv)(l:List V)(w:Tw)(hs:Sl w v l)(hf:Vd l)(ae:kind=1\/kind=2):
 Zc 226 #[Zi kind,v] w λe w'=>∃v',e=Zr v'/\w'.ownsRow w.1.size 5 1 v' (AEn kind l).length (Lib.byteCells (AEn kind l))/\Zb w w':=by
 have HS:=Ab hs;have HF:=Ab hf;obtain⟨i5,ad,af,I,J⟩:=info_parts bX;have i:=Zy ad af I J;clear ad af I J;obtain⟨a,c,rfl,_,_⟩:=hs;clear hf;have al:=AKQ;go_enter func226,ntmps226;go_wp2
 go_loopw [5,8] (λvb vi wr=>∃k:Nat,k<=4/\vi=Zi k/\Hid (oP kind l w wr k vb)/\Hid (Zb w wr)) (λ_ vi _=>4-(intOf vi).toNat)
 case atStart=>exact⟨0,XI _,rfl,Ab (.inl ⟨rfl,rfl⟩),XG _ _⟩
 case round=>
  obtain⟨k,hk,rfl,hB,X⟩:=hrel;have r:=X.o.size
  by_cases hlt:k<4
  ·by_cases hskip:k=3/\kind≠1
   ·obtain⟨rfl,ai⟩:=hskip
    obtain rfl:kind=2:=by omega
    have HN:Hid (oP 2 l w wr 4 _):=Ab (by
     rcases hB.o with⟨h,_⟩|⟨_,W,N⟩
     ·omega
     refine .inr ⟨by omega,?_⟩;rw[M5 2 l 3 (by omega),Yae ⟨rfl,ai⟩];exact⟨W,N⟩)
    go_wp2;exact⟨⟨4,by omega,rfl,HN,X⟩,by simp[intOf]⟩
   have HC:=Ab (ACS k (Zs a l.length c) l (wr.alloc (Zk #[.int .u8 (k:Int)] 5)) (HS.o.up (X.o.alloc r _)) HF.o (by omega));have ab:Hid (1<=k->Hp kind l (k+1)=better (Hp kind l k) (k.toUInt8 :: I0 k l)):=λh=>by rw[M5 kind l k h,Yad hskip]
   have s:=Ab (eM HF.o k);have aa:=Ab (Wd (kind:=kind) HF.o k);have ac:Hid ((wr.alloc (Zk #[.int .u8 (k:Int)] 5)).ownsRow wr.1.size 5 1 (Zs (some (Zd wr.1.size 0)) 1 1) 1 [.int .u8 (k:Int)]):=Ab (World.ownsRow_lit wr #[.int .u8 (k:Int)] 1 (Y' _) (by unfold maxLen;omega) rfl);have aj:(k:Int)<256:=by omega
   have T:(k=3->kind=1):=λh=>Classical.byContradiction λW=>hskip ⟨h,W⟩
   clear hskip
   by_cases N:k=3
   ·have b3:((k:Int)==3)=true:=by simp;omega
    have bk:(kind==1)=true:=by simp[T N]
    clear N T ae;go_wp2_with fail;apply HC.o.mono;rintro e w2⟨v2,rfl,R,o⟩;have U:=o.size;have O:wr.1.size<=w2.1.size:=by simp at U;omega
    have z:Zb wr w2:=(Zal).trans (o.mono (by simp));have Y:=Ab (Ad ac.o o);have HB:=Ab R;go_wp2_with (at_builtin;refine Ck rfl _ _ 90 rfl wr.1.size 5 i5 (.int .u8 0) 1 1 underlying90 i.o.1 i.o.2.1 i.o.2.2.1 i.o.2.2.2 rfl (by decide) _ _ _ rfl Y.o _ _ _ _ rfl HB.o (byteCells_one _) ?fA1 ?fA2 ?fA3 ?_)
    case fA1=>have:=s.o;unfold maxLen;omega
    case fA2=>have:=s.o;omega
    case fA3=>omega
    intro v3 t G D;have j:Zb wr t:=Bj z Y.o D O;have n:Hid (t.ownsRow wr.1.size 5 1 v3 (k.toUInt8 :: I0 k l).length (Lib.byteCells (k.toUInt8 :: I0 k l))):=Ab (by rw[<-l5 k (by omega),XE,X4];exact G);have m:Hid (Zb w t):=Ab (X.o.trans (j.mono r));obtain⟨g,x,rfl,_,_⟩:=n.o.form (by simp);clear G D;have ak:(k.toUInt8 :: I0 k l).length<=4001:=by have:=s.o;rw[XE];omega
    generalize d:(k.toUInt8 :: I0 k l)=u at *
    rcases hB.o with⟨rfl,rfl⟩|⟨P,q,p⟩
    ·have b:Hid (oP kind l w t 1 (Zs (some (Zd g 0)) u.length x)):=Ab (.inr ⟨by omega,by rw[show Hp kind l 1=u from d];exact Ai n.o r,by rw[show Hp kind l 1=u from d,<-d];simp⟩)
     go_wp2;exact⟨⟨1,by omega,rfl,b,m⟩,by simp[intOf]⟩
    obtain⟨gb,y,rfl,_,ah⟩:=q.form p;have M:=Ab (Ad q j);have ag:=aa.o;have L:=Ab p;have f:=ab.o P;generalize Hp kind l k=fo at *;clear q p
    by_cases hcmp:u.length<fo.length
    ·have b:Hid (oP kind l w t (k+1) (Zs (some (Zd g 0)) u.length x)):=Ab (.inr ⟨by omega,by rw[f,better,Yae hcmp];exact⟨Ai n.o r,by rw[<-d];simp⟩⟩)
     clear f d;go_wp2;exact⟨⟨k+1,by omega,by go_num,b,m⟩,by simp[intOf];omega⟩
    have b:Hid (oP kind l w t (k+1) (Zs (some (Zd gb 0)) fo.length y)):=Ab (.inr ⟨by omega,by rw[f,better,Yad hcmp];exact⟨M.o,L.o⟩⟩);clear f d;go_wp2;exact⟨⟨k+1,by omega,by go_num,b,m⟩,by simp[intOf];omega⟩
   have b3:((k:Int)==3)=false:=by simp;omega
   clear N T ae;go_wp2_with fail;apply HC.o.mono;rintro e w2⟨v2,rfl,R,o⟩;have U:=o.size;have O:wr.1.size<=w2.1.size:=by simp at U;omega
   have z:Zb wr w2:=(Zal).trans (o.mono (by simp));have Y:=Ab (Ad ac.o o);have HB:=Ab R;go_wp2_with (at_builtin;refine Ck rfl _ _ 90 rfl wr.1.size 5 i5 (.int .u8 0) 1 1 underlying90 i.o.1 i.o.2.1 i.o.2.2.1 i.o.2.2.2 rfl (by decide) _ _ _ rfl Y.o _ _ _ _ rfl HB.o (byteCells_one _) ?fB1 ?fB2 ?fB3 ?_)
   case fB1=>have:=s.o;unfold maxLen;omega
   case fB2=>have:=s.o;omega
   case fB3=>omega
   intro v3 t G D;have j:Zb wr t:=Bj z Y.o D O;have n:Hid (t.ownsRow wr.1.size 5 1 v3 (k.toUInt8 :: I0 k l).length (Lib.byteCells (k.toUInt8 :: I0 k l))):=Ab (by rw[<-l5 k (by omega),XE,X4];exact G);have m:Hid (Zb w t):=Ab (X.o.trans (j.mono r));obtain⟨g,x,rfl,_,_⟩:=n.o.form (by simp);clear G D;have ak:(k.toUInt8 :: I0 k l).length<=4001:=by have:=s.o;rw[XE];omega
   generalize d:(k.toUInt8 :: I0 k l)=u at *
   rcases hB.o with⟨rfl,rfl⟩|⟨P,q,p⟩
   ·have b:Hid (oP kind l w t 1 (Zs (some (Zd g 0)) u.length x)):=Ab (.inr ⟨by omega,by rw[show Hp kind l 1=u from d];exact Ai n.o r,by rw[show Hp kind l 1=u from d,<-d];simp⟩)
    go_wp2;exact⟨⟨1,by omega,rfl,b,m⟩,by simp[intOf]⟩
   obtain⟨gb,y,rfl,_,ah⟩:=q.form p;have M:=Ab (Ad q j);have ag:=aa.o;have L:=Ab p;have f:=ab.o P;generalize Hp kind l k=fo at *;clear q p
   by_cases hcmp:u.length<fo.length
   ·have b:Hid (oP kind l w t (k+1) (Zs (some (Zd g 0)) u.length x)):=Ab (.inr ⟨by omega,by rw[f,better,Yae hcmp];exact⟨Ai n.o r,by rw[<-d];simp⟩⟩)
    clear f d;go_wp2;exact⟨⟨k+1,by omega,by go_num,b,m⟩,by simp[intOf];omega⟩
   have b:Hid (oP kind l w t (k+1) (Zs (some (Zd gb 0)) fo.length y)):=Ab (.inr ⟨by omega,by rw[f,better,Yad hcmp];exact⟨M.o,L.o⟩⟩);clear f d;go_wp2;exact⟨⟨k+1,by omega,by go_num,b,m⟩,by simp[intOf];omega⟩
  obtain rfl:k=4:=by omega
  have HE:Hid (oP kind l w wr 4 _ ):=hB
  rcases hB.o with⟨h,_⟩|⟨_,W,N⟩
  ·omega
  have HO:=Ab W;clear W N;go_wp2;go_ret;exact⟨_,rfl,HO.o,X.o⟩
variable{k n:Int}
def Cu(r:Nat):Bool:=decide (r<32) || (decide (126<r) || ((r:Int)==39))
theorem Rv(w:Tw):PredAt prog 141 #[] encR Cu w:=λW r _=>by
 unfold FnGives
 by_cases h1:r<32 <;> by_cases h2:126<r
 all_goals
  have a:(r:Int)<32↔r<32:=by omega
  have b:(126:Int)<(r:Int)↔126<r:=by omega
  go_enter func141,ntmps141;go_wp2
  all_goals first|(exfalso;omega)|(go_ret;exact⟨Af (by simp[Cu,h1,h2]),0,rfl⟩)
def Vb(t:ByteArray):Bool:=decide (t.size<=40) && !(decide (0<=Lib.idxFunc Cu true t))
theorem rt0{t:Tb}(h:¬t.size<=40):false=Vb t:=by simp[Vb,h]
theorem rt1{t:Tb}(h:t.size<=40):(!(decide (0<=Lib.idxFunc Cu true t)))=Vb t:=by simp[Vb,h]
theorem Mj(t:Tb)(w:Tw)(g:t.size<=maxLen):
 Zc 83 #[Zt t] w λe f=>e=Zr (Zo (Vb t))/\Zb w f:=by
 have c:Hid (∀W,Zc 126 #[Zt t,.func (.func 141) #[] #[]] W λe f=>e=Zr (Zo (decide (0<=Lib.idxFunc Cu true t)))/\Zb W f):=λW=>Any.strings_ContainsFunc laysGw17 141 #[] (enters_of func141 (by kernel_rfl) rfl) Cu t W (Rv W)
 unfold maxLen at g
 by_cases h:t.size<=40
 ·have a:Hid ((!(decide (0<=Lib.idxFunc Cu true t)))=Vb t):=rt1 h
  generalize decide (0<=Lib.idxFunc Cu true t)=b at c a;go_enter func83,ntmps83
  go_wp2_with (first
   | (go_at_call 126;refine(c.o _).mono ?_;rintro e i⟨rfl,d⟩))
  go_ret;exact⟨Af a.o,d⟩
 have a:Hid (false=Vb t):=rt0 h;clear c;go_enter func83,ntmps83;go_wp2;go_ret;exact⟨Af a.o,XG _ _⟩
def A9(k n:Int)(t:ByteArray):Bool:=if k=0 then n==0 && t.toList.isEmpty else if k=1 then t.toList.isEmpty else if k=2 then n==0 && Vb t else false
theorem rv0{t:Tb}(a:(n==0)=true)(h:(k==0)=true):t.toList.isEmpty=A9 k n t:=by simp at h a;subst h a;simp[A9]
theorem AI3{t:Tb}(a:(n==0)=false)(h:(k==0)=true):false=A9 k n t:=by simp at h;subst h;simp[A9,a]
theorem rv1{t:Tb}(h:(k==1)=true):t.toList.isEmpty=A9 k n t:=by simp at h;subst h;simp[A9]
theorem rv2{t:Tb}(a:(n==0)=true)(h:(k==2)=true):Vb t=A9 k n t:=by simp at h a;subst h a;simp[A9]
theorem AIp{t:Tb}(a:(n==0)=false)(h:(k==2)=true):false=A9 k n t:=by simp at h;subst h;simp[A9,a]
theorem rv3{t:Tb}(a:(k==0)=false)(b:(k==1)=false)(c:(k==2)=false):false=A9 k n t:=by simp at a b c;simp[A9,a,b,c]
theorem Ln(k n:Int)(t:Tb)(w:Tw)(f:t.size<=maxLen):
 Zc 47 #[Zg #[Zi k,Zi n,Zt t]] w λe c=>e=Zr (Zo (A9 k n t))/\Zb w c:=by
 have d:Hid (∀W,Zc 83 #[Zt t] W λe c=>e=Zr (Zo (Vb t))/\Zb W c):=λW=>Mj t W f
 unfold maxLen at f
 by_cases hn:n=0
 ·have a:(n==0)=true:=by simpa using hn
  clear hn;go_enter func47,ntmps47
  go_wp2_with (first
   | (go_at_call 83;refine(d.o _).mono ?_;rintro e g⟨rfl,b⟩))
  all_goals go_ret
  ·exact⟨Af (rv0 a ‹_›),Zal⟩
  ·exact⟨Af (rv1 ‹_›),Zal⟩
  ·exact⟨Af (rv2 a ‹_›),(Zal).trans (b.mono (by simp))⟩
  exact⟨Af (rv3 ‹_› ‹_› ‹_›),Zal⟩
 have a:(n==0)=false:=by simpa using hn
 clear hn;go_enter func47,ntmps47
 go_wp2_with (first
  | (go_at_call 83;refine(d.o _).mono ?_;rintro e g⟨rfl,b⟩))
 all_goals go_ret
 ·exact⟨Af (AI3 a ‹_›),Zal⟩
 ·exact⟨Af (rv1 ‹_›),Zal⟩
 ·exact⟨Af (AIp a ‹_›),Zal⟩
 exact⟨Af (rv3 ‹_› ‹_› ‹_›),Zal⟩
theorem Qu(k n:Int)(t:Tb)(w:Tw):
 Zc 272 #[Zg #[Zi k,Zi n,Zt t]] w λe a=>e=Zr (Zo (k==0))/\Zb w a:=by
 go_enter func272,ntmps272;go_wp2;go_ret;exact⟨rfl,Zal⟩
variable{W a w:Tw}{D l:List V}{i j m n:Nat}{x:V}{k:Int}{v:Tv}{c:UInt8}{r:Option Nat}{T:TypeId}{X:List Tv}{s:St}
def Wa(kind:Int)(x:V):Bool:=!A9 x.1 x.2.1 x.2.2 || (!(x.1==0) && !(x.1==kind))
theorem jG(kind k n:Int)(t:Tb)(bx:Nat)(w:Tw)(o:bx<w.1.size)(f:w.cell? (Zd bx 0)=some (Zi kind))(g:t.size<=maxLen):
 Zc 267 #[Zg #[Zi k,Zi n,Zt t],Zp (some (Zd bx 0))] w λe l=>e=Zr (Zo (Wa kind (k,n,t)))/\Zb w l:=by
 have h:¬w.1.size=bx:=by omega
 have c:=Ab (λW=>Ln k n t W g);have d:Hid (Wa kind (k,n,t)=(!A9 k n t || (!(k==0) && !(k==kind)))):=rfl;clear g;cases hr:A9 k n t with
 | false=>rw[hr] at d c;go_enter func267,ntmps267;go_wp2_with (go_at_call 47;refine(c.o _).mono ?_;rintro e b⟨rfl,a⟩);go_ret;exact⟨Af (by rw[d.o];rfl),(Zal).trans (a.mono (by simp))⟩
 | true=>
   rw[hr] at d c
   by_cases h0:k=0
   ·subst h0
    go_enter func267,ntmps267;go_wp2_with fail;refine(c.o _).mono ?_;rintro e b⟨rfl,a⟩;have i:b.cell? (Zd w.1.size 0)=some (Zi 0):=(a.cell (p:=Zd w.1.size 0) (by simp)).trans (XK w _ 67 (0,0) 0);have j:b.cell? (Zd bx 0)=some (Zi kind):=(a.cell (p:=Zd bx 0) (by simp;omega)).trans (Lib.cell?_alloc_some _ f);go_wp2
    all_goals
     go_ret;exact⟨Af (by rw[d.o];simp[*]),(Zal).trans (a.mono (by simp))⟩
   have m:(k==0)=false:=by simpa using h0
   go_enter func267,ntmps267;go_wp2_with fail;refine(c.o _).mono ?_;rintro e b⟨rfl,a⟩;have i:b.cell? (Zd w.1.size 0)=some (Zi k):=(a.cell (p:=Zd w.1.size 0) (by simp)).trans (XK w _ 67 (0,0) 0);have j:b.cell? (Zd bx 0)=some (Zi kind):=(a.cell (p:=Zd bx 0) (by simp;omega)).trans (Lib.cell?_alloc_some _ f);go_wp2
   all_goals
    go_ret;exact⟨Af (by rw[d.o];simp[*,bne]),(Zal).trans (a.mono (by simp))⟩
def Gk(kind:Int)(l:List V):Bool:=(kind==1 || kind==2) && !l.any (Wa kind)
theorem AJM(kind:Int)(v:Tv)(l:List V)(w W:Tw)(b:Nat)(k:Sl w v l)(j:l.length<=1000)(m:∀x∈l,x.2.2.size<=maxLen)(n:Zb w W)(d:W.1[b]? = some (Zk #[Zi kind] 3)):
 Zc 266 #[v,.func (.func 267) #[] #[Zp (some (Zd b 0))]] W λe g=>e=Zr (Zo (l.any (Wa kind)))/\Zb W g:=by
 refine Wp 267 #[Zp (some (Zd b 0))] (Wa kind) (enters_of func267 (by kernel_rfl) rfl) v l W (k.up n) j ?_;intro f x o c;have a:=Wf d c;have h:f.cell? (Zd b 0)=some (Zi kind):=by simp[World.cell?,a]
 exact(jG kind x.1 x.2.1 x.2.2 b f (Ac a) h (m x o)).mono λe g⟨i,d⟩=>⟨i,c.trans (d.mono c.size)⟩
theorem Sn(kind:Int)(v:Tv)(l:List V)(w:Tw)(g:Sl w v l)(i:l.length<=1000)(h:∀x∈l,x.2.2.size<=maxLen):
 Zc 224 #[Zi kind,v] w λe j=>e=Zr (Zo (Gk kind l))/\Zb w j:=by
 have f:=Ab (AJM kind v l w (w.alloc (Zk #[Zi kind] 3)) w.1.size g i h (Zal) (Yac _ _));obtain⟨a,c,rfl,_,_⟩:=g;clear h
 by_cases h1:kind=1
 ·subst h1
  have b:Hid (Gk 1 l=!l.any (Wa 1)):=Ab (by simp[Gk]);generalize l.any (Wa 1)=q at f b;go_enter func224,ntmps224;go_wp2_with (go_at_call 266;apply f.o.mono;rintro e k⟨rfl,d⟩);go_ret;exact⟨Af (by rw[b.o]),(Zal).trans (d.mono (by simp))⟩
 by_cases h2:kind=2
 ·subst h2
  have b:Hid (Gk 2 l=!l.any (Wa 2)):=Ab (by simp[Gk]);generalize l.any (Wa 2)=q at f b;go_enter func224,ntmps224;go_wp2_with (go_at_call 266;apply f.o.mono;rintro e k⟨rfl,d⟩);go_ret;exact⟨Af (by rw[b.o]),(Zal).trans (d.mono (by simp))⟩
 have b:Hid (Gk kind l=false):=Ab (by simp[Gk,h1,h2]);have m:(kind != 1)=true:=by simpa using h1
 have n:(kind != 2)=true:=by simpa using h2
 clear f;go_enter func224,ntmps224;go_wp2;go_ret;exact⟨Af b.o.symm,Zal⟩
theorem AKJ:∀(w:Tw)(a:To)(n c n' b:Nat),(binOp .eql 71 (.slice a n c) (.slice none n' b)).run prog w=.ok (.bool a.isNone) w:=λw a n c n' b=>Lib.run_eql_slice_nil w _ _ a n c n' b underlying71
theorem yN{b off:Nat}(h:∀j x,l[j]? = some x->w.cell? (Zd b (off+j*3))=some (Zi x.1)/\w.cell? (Zd b (off+j*3+1))=some (Zi x.2.1)/\w.cell? (Zd b (off+j*3+2))=some (Zt x.2.2)):
 ∀j u,(AKn l)[j]? = some u->w.cell? (Zd b (off+j))=some u:=by
 intro j u a
 have o:j<l.length*3:=by
  rcases Yc j (l.length*3) with d|d
  ·exact d
  rw[Yb (by rw[K3];exact d)] at a;cases a
 obtain⟨x,f⟩:=Hk (l:=l) (k:=j / 3) (by omega);obtain⟨g,i,m⟩:=Hr f;obtain⟨c0,c1,n⟩:=h _ _ f;have c:j % 3=0\/j % 3=1\/j % 3=2:=by omega
 rcases c with c|c|c
 ·have e:j=j / 3*3:=by omega
  rw[e] at a ⊢;rw[g] at a;rw[c0];exact a
 ·have e:j=j / 3*3+1:=by omega
  rw[e] at a ⊢;rw[i] at a;rw[<-XT,c1];exact a
 have e:j=j / 3*3+2:=by omega
 rw[e] at a ⊢;rw[m] at a;rw[<-XT,n];exact a
theorem ADl(b off j:Nat):((Zd b off):Addr).add j=(Zd b (off+j)):=by unfold Addr.add;split <;> simp_all
theorem P9(v:Tv)(l:List V)(w:Tw)(I:Sl w v l)(L:l.length<=1000):
 Zc 271 #[v] w λe z=>∃v',e=Zr v'/\z.ownsRow w.1.size 67 3 v' l.length (AKn l)/\Zb w z:=by
 obtain⟨x,i,m,f,g⟩:=info_parts Ip;have d:=Zy i m f g;clear i m f g;obtain⟨a,c,rfl,_,q⟩:=I;have y:=AKJ;cases a with
 | none=>
   have t:l=[]:=Classical.byContradiction λh=>by obtain⟨b,off,e,_⟩:=q h;cases e
   subst t;clear q;go_enter func271,ntmps271;go_wp2;go_ret;exact⟨_,rfl,XC _ _ _ _,XG _ _⟩
 | some ad=>
   have n:Hid (∀j u,(AKn l)[j]? = some u->w.cell? (ad.add j)=some u):=Ab λj u r=>by
    by_cases hne:l=[]
    ·subst hne;simp[AKn] at r
    obtain⟨b,off,e,J,s⟩:=q hne;cases e;rw[ADl];exact yN s j u r
   clear q;go_enter func271,ntmps271;go_wp2_with (at_builtin;refine wpList_append_own _ rfl _ _ 71 rfl w.1.size 67 x (.agg #[Zi 0,Zi 0,.string ⟨#[]⟩]) 3 32 underlying71 d.o.1 d.o.2.1 d.o.2.2.1 d.o.2.2.2 rfl (by decide) _ _ _ rfl (YM w #[] 0 (Y' _) (XI _) (by simp)) ad l.length c (AKn l) rfl (K3 l) ?c1 (Hf l) ?c3 ?c4 ?c5 ?_)
   case c1=>exact λj u r=>Lib.cell?_alloc_some _ (n.o j u r)
   case c3=>unfold maxLen;omega
   case c4=>omega
   case c5=>simp
   intro v' M p o G;go_wp2;go_ret;refine⟨v',rfl,by simpa using p,?_⟩;exact((XG _ w).alloc (Y' _) _).grown o (by simp) (by intro k D;simp[Value.ownBlock] at D;omega)
theorem Q6{B e z n g i:Nat}:∀(c:List Tv)(o:Nat)(w:Tw)(xs:List Tv),w.ownsRow B e z (Zs (some (Zd g 0)) n i) n xs ->
 ∃xs',(w.setCells g o c).ownsRow B e z (Zs (some (Zd g 0)) n i) n xs'/\(∀j,j<o->xs'[j]? = xs[j]?)/\w.grownBy (w.setCells g o c) (some g)
 | [],_,w,xs,h=>⟨xs,h,λ_ _=>rfl,rfl,rfl,rfl,Y' _,λ_ _ _=>rfl⟩
 | u :: c,o,w,xs,h=>by
   obtain⟨l,a⟩:=h.stored o u;obtain⟨xs',d,f,b⟩:=Q6 c (o+1) _ _ l;refine⟨xs',d,λj m=>?_,b.os.trans a.os,b.tape.trans a.tape,b.output.trans a.output,XF a.size b.size,λk hk hne=>?_⟩
   ·rw[f j (by omega),Yq (by omega)]
   exact(b.block k (Ya hk a.size) hne).trans (a.block k hk hne)
theorem AIk(w:Tw):(zeroValue 67).run prog w=.ok (Zg #[Zi 0,Zi 0,Zt ⟨#[]⟩]) w:=by have:=zeroValue67 w;exact this
theorem AJg{B n g k:Nat}{xs:List Tv}(w:Tw)(h:w.ownsRow B 67 3 (Zs (some (Zd g 0)) n k) n xs)(i c:Nat)(x:i<n):
 ∃W,(∀l,(Builtin.clear_ #[71] l #[Zs (some (Zd g (i*3))) (n-i) c]).run prog w=.ok (Zu #[]) W)/\∃xs',W.ownsRow B 67 3 (Zs (some (Zd g 0)) n k) n xs'/\(∀j,j<i*3->xs'[j]? = xs[j]?)/\w.grownBy W (some g):=by
 let vs:=(Builtin.zeroCells (#[Zi 0,Zi 0,Zt ⟨#[]⟩]:Array Tv) (n-i)).toList
 have s:vs.length=(n-i)*3:=by simp[vs,Builtin.zeroCells]
 have f:∀u∈vs,u.oneCell'=true:=by
  intro u d;simp only[vs,Builtin.zeroCells] at d;simp at d;obtain⟨j,r,e⟩:=d;have a:j % 3=0\/j % 3=1\/j % 3=2:=by omega
  rcases a with a|a|a <;> simp[a] at e <;> subst e <;> rfl
 have t:=h.1;have b:=run_storeCells_cells (P:=prog) g (i*3) vs 0 w (λj r=>by rw[XZ,h.cellAt (i*3+j) (by omega),XB (by omega)];rfl) (λj _=>by rw[XZ];exact h.frozenAt _) f;simp only[XZ] at b;obtain⟨xs',o,p,q⟩:=Q6 vs (i*3) w xs h;refine⟨w.setCells g (i*3) vs,λl=>?_,xs',o,p,q⟩;obtain⟨m,a⟩:∃m,n-i=m+1:=⟨n-i-1,by omega⟩;have v:=AIk;rw[a];simp only[vs,a] at b;simp[Builtin.clear_,run_underlying underlying71,v,Value.cells,b,vs,a]
theorem ALA(l:List V)(w:Tw):Pr 272 #[] Qi l w:=λW x _ a=>
 (Qu x.1 x.2.1 x.2.2 W).mono λ_ _⟨c,b⟩=>⟨c,a.trans (b.mono a.size)⟩
theorem cQ(p:V->Bool):∀(l:List V),B7 p l<l.length->∃x,l[B7 p l]? = some x/\p x=true/\∀y∈l.take (B7 p l),p y=false
 | [],h=>by simp at h
 | x :: l,h=>by
   by_cases hx:p x=true
   ·exact⟨x,by simp[B7,hx],hx,by simp[B7,hx]⟩
   have e:B7 p (x :: l)=B7 p l+1:=by simp[B7,hx]
   rw[e] at h ⊢;obtain⟨y,b,c,d⟩:=cQ p l (by simpa using h);refine⟨y,by simpa using b,c,λz a=>?_⟩;simp at a
   rcases a with rfl|a
   ·simpa using hx
   exact d z a
theorem eA(p:V->Bool):∀(l:List V),¬B7 p l<l.length->∀y∈l,p y=false
 | [],_=>by simp
 | x :: l,h=>by
   by_cases hx:p x=true
   ·exact absurd (by simp[B7,hx]) h
   have e:B7 p (x :: l)=B7 p l+1:=by simp[B7,hx]
   rw[e] at h;intro y a;simp at a
   rcases a with rfl|a
   ·simpa using hx
   exact eA p l (by simpa using h) y a
theorem ACI(h:∀y∈l,Qi y=false):known l=l:=by unfold known;rw[Wb];intro a b;simp[h a b]
def Del(l D:List V)(i j:Nat):Prop:=D.length=l.length/\i<j/\D.take i=known (l.take j)/\D.drop j=l.drop j
theorem Del.start(h:B7 Qi l<l.length):Del l l (B7 Qi l) (B7 Qi l+1):=by obtain⟨x,b,c,d⟩:=cQ Qi l h;refine⟨rfl,by omega,?_,rfl⟩;rw[Br b];unfold known;rw[List.filter_append];simp[c];rw[eq_comm,Wb];intro a e;simp[d a e]
theorem Del.skip(h:Del l D i j)(e:l[j]? = some x)(d:Qi x=true):Del l D i (j+1):=by
 obtain⟨a,f,b,c⟩:=h;refine⟨a,by omega,?_,?_⟩
 ·rw[b,Br e];simp[known,d]
 have:=congrArg (List.drop 1) c;simpa[WL,X4] using this
theorem Del.keep(h:Del l D i j)(b:l[j]? = some x)(g:Qi x=false):Del l (D.set i x) (i+1) (j+1):=by
 obtain⟨c,k,d,e⟩:=h
 have m:j<l.length:=by
  rcases Yc j l.length with a|a
  ·exact a
  rw[Yb a] at b;cases b
 refine⟨by simpa using c,by omega,?_,?_⟩
 ·have f:(D.set i x)[i]? = some x:=by rw[Yj (by omega)]
  rw[Br f,List.take_set_of_le (Y' _),d,Br b];simp[known,g]
 rw[List.drop_set_of_lt (by omega)];have:=congrArg (List.drop 1) e;simpa[WL,X4] using this
theorem Del.at(h:Del l D i j)(a:l[j]? = some x):D[j]? = some x:=by have:=congrArg (λm=>m[0]?) h.2.2.2;simpa[a] using this
theorem Del.stop(h:Del l D i j)(a:l.length<=j):D.take i=known l:=by rw[h.2.2.1,Yf a]
theorem Ku:∀(D:List V)(i:Nat)(x:V),AKn (D.set i x)=(((AKn D).set (i*3) (Zi x.1)).set (i*3+1) (Zi x.2.1)).set (i*3+2) (Zt x.2.2)
 | [],i,x=>by simp[AKn]
 | y :: D,0,x=>by simp[AKn,aD]
 | y :: D,i+1,x=>by
   have a:=Ku D i x;have e:∀m:List V,AKn (y :: m)=Zi y.1 :: Zi y.2.1 :: Zt y.2.2 :: AKn m:=λm=>rfl
   rw[WB,e,a,e,show (i+1)*3=i*3+1+1+1 by omega];simp only[WB,show i*3+1+1+1+1=(i*3+1)+1+1+1 by omega,show i*3+1+1+1+2=(i*3+2)+1+1+1 by omega]
theorem Lo(B:Nat)(v:Tv)(l:List V)(w:Tw)(f:w.ownsRow B 67 3 v l.length (AKn l))(hB:B<=w.1.size)(hl:l.length<=1000):
 Zc 270 #[v,.func (.func 272) #[] #[]] w λe w'=>∃v',e=Zr v'/\Sl w' v' (known l)/\Below B w w':=by
 have O:=Ab (Md 272 #[] Qi (enters_of func272 (by kernel_rfl) rfl) v l w (Cy f) hl (ALA l w));have HO:=Ab f;have ak:∀args w,(callFunc 272 args).run prog w=.ok (.enter 272 args) w:=enters_of func272 (by kernel_rfl) rfl
 by_cases hf:B7 Qi l<l.length
 ·obtain⟨g,m,rfl,q,an⟩:=f.form (by omega)
  have HD:=Ab (Del.start hf);rw[show Kk Qi l=((B7 Qi l:Nat):Int) by unfold Kk;rw[Yae hf]] at O
  have am:l.length<=m:=by
   rcases f.2 with⟨h,_⟩|⟨g',c',aj,h,_,_,h2,_⟩
   ·cases h
   injection h with _ _ h3;omega
  generalize B7 Qi l=k0 at *;have ai:((k0:Int) == -1)=false:=beq_eq_false_iff_ne.2 (by omega);clear f;go_enter func270,ntmps270;go_wp2_with (go_at_call 302;apply O.o.mono;rintro e w1⟨rfl,n⟩)
  go_loopw [5,6,7] (λs5 s6 _ wr=>∃(i j:Nat)(D:List V),s5=Zi i/\s6=Zi j/\j<=l.length/\i<j/\Hid (Del l D i j)/\Hid (wr.ownsRow B 67 3 (Zs (some (Zd g 0)) l.length m) l.length (AKn D))/\Hid (Below B w wr)) (λ_ s6 _ _=>l.length-(intOf s6).toNat)
  case atStart=>exact⟨k0,k0+1,l,rfl,by go_num,by omega,by omega,HD,Ab (Ad HO.o n),Ab (n.mono hB)⟩
  case round=>
   obtain⟨i,j,D,rfl,rfl,hj,ao,u,f,X⟩:=hrel;have ap:=X.o.size
   by_cases hlt:j<l.length
   ·obtain⟨⟨t,M,N⟩,hx⟩:=Hk hlt
    obtain⟨R,T,U⟩:=Hr (u.o.at hx);have c0:wr.cell? (Zd g (j*3))=some (Zi t):=(f.o.cellAt _ (by omega)).trans R;have c1:wr.cell? (Zd g (j*3+1))=some (Zi M):=(f.o.cellAt _ (by omega)).trans T;have c2:wr.cell? (Zd g (j*3+2))=some (Zt N):=(f.o.cellAt _ (by omega)).trans U;have HC:=Ab (λW=>Qu t M N W);clear R T U
    by_cases hk:t=0
    ·subst hk
     have r:=Ab (u.o.skip hx rfl);go_wp2_with (go_at_fn 272;refine(HC.o _).mono ?_;rintro e z⟨rfl,b⟩);exact⟨⟨i,j+1,D,rfl,by go_num,by omega,by omega,r,Ab (Ad (f.o.alloc _) b),Ab ((X.o.alloc (by omega) _).trans (b.mono (by simp;omega)))⟩,by simp[intOf];omega⟩
    have bk:(t==0)=false:=by simpa using hk
    have r:=Ab (u.o.keep hx (by simpa[Qi] using hk));have aa:=Ab (λW hb=>Ad (f.o.alloc (Zk #[Zi t,Zi M,Zt N] 67)) (W:=W) hb);go_wp2_with fail;refine(HC.o _).mono ?_;rintro e z⟨rfl,b⟩;have d:=aa.o z b;have G:=Ab d;have q0:=(b.cell (p:=Zd wr.1.size 0) (by simp)).trans (XK wr _ 67 (0,0) 0);have q1:=(b.cell (p:=Zd wr.1.size 1) (by simp)).trans (XK wr _ 67 (0,0) 1);have q2:=(b.cell (p:=Zd wr.1.size 2) (by simp)).trans (XK wr _ 67 (0,0) 2);simp at q0 q1 q2;have z0:=d.frozenAt (i*3);have z1:=d.frozenAt (i*3+1);have z2:=d.frozenAt (i*3+2);have ac:(AKn D).length=l.length*3:=by rw[K3,u.o.1]
    obtain⟨y0,aq⟩:∃y,z.cell? (Zd g (i*3))=some y:=⟨_,(d.cellAt _ (by omega)).trans (XB (by omega))⟩;obtain⟨y1,ar⟩:∃y,z.cell? (Zd g (i*3+1))=some y:=⟨_,(d.cellAt _ (by omega)).trans (XB (by omega))⟩;obtain⟨y2,au⟩:∃y,z.cell? (Zd g (i*3+2))=some y:=⟨_,(d.cellAt _ (by omega)).trans (XB (by omega))⟩;clear d ac;have ae:(i:Int)<(l.length:Int):=by omega
    go_wp2;have s0:=G.o.stored (i*3) (Zi t);have s1:=s0.1.stored (i*3+1) (Zi M);have s2:=s1.1.stored (i*3+2) (Zt N);have ad:Below B w z:=(X.o.alloc (by omega) _).trans (b.mono (by simp;omega));exact⟨⟨i+1,j+1,D.set i (t,M,N),by go_num,by go_num,by omega,by omega,r,Ab (by rw[Ku];exact s2.1),Ab (((ad.setCell q _).setCell q _).setCell q _)⟩,by simp[intOf];omega⟩
   have P:=Ab (u.o.stop (by omega));have Y:Hid (D.length=l.length):=u.o.1;obtain⟨W,al,xs',I,J,L⟩:=AJg wr f.o i (m-i) (by omega);have o:=Ab I;have s:=Ab J;have ab:=Ab L;clear I J L;have ae:(i:Int)<=(m:Int):=by omega
   go_wp2;go_ret;have ah:(known l).length=i:=by rw[<-P.o,List.length_take];have:=Y.o;omega
   refine⟨_,rfl,⟨some (Zd g 0),m,by rw[ah];rfl,by omega,λ_=>⟨g,0,rfl,?_,λj' x hj'=>?_⟩⟩,X.o.grown ab.o (by omega) (λk hk=>by cases hk;exact q)⟩
   ·exact(o.o.lt g rfl).2
   have af:j'<i:=by
    rcases Yc j' i with h'|h'
    ·exact h'
    rw[Yb (by omega)] at hj';cases hj'
   have ag:D[j']? = some x:=by rw[<-P.o,Yi af] at hj';exact hj'
   obtain⟨R,T,U⟩:=Hr ag;rw[WE];refine⟨(o.o.cellAt _ (by omega)).trans ((s.o _ (by omega)).trans R),(o.o.cellAt _ (by omega)).trans ((s.o _ (by omega)).trans T),(o.o.cellAt _ (by omega)).trans ((s.o _ (by omega)).trans U)⟩
 have P:=Ab (ACI (eA Qi l hf));rw[show Kk Qi l = -1 by unfold Kk;rw[Yad hf]] at O;obtain⟨a,c,rfl,_,_⟩:=Cy f;clear f;go_enter func270,ntmps270;go_wp2_with (go_at_call 302;apply O.o.mono;rintro e w1⟨rfl,n⟩);go_ret;exact⟨_,rfl,by rw[P.o];exact Cy (Ad HO.o n),n.mono hB⟩
theorem V5(v:Tv)(l:List V)(w:Tw)(g:Sl w v l)(f:l.length<=1000):
 Zc 227 #[v] w λe h=>∃v',e=Zr v'/\Sl h v' (known l)/\Zb w h:=by
 have i:=Ab (P9 v l w g f);clear g;go_enter func227,ntmps227;go_wp2_with fail;apply i.o.mono;rintro e n⟨k,rfl,b,a⟩;have j:=Ab (Lo w.1.size k l n b a.size f);clear b;go_wp2_with fail;apply j.o.mono;rintro e o⟨m,rfl,d,c⟩;go_wp2;go_ret;exact⟨m,rfl,d,a.trans c⟩
theorem Xb(n:Nat)(b:n<=1000)(w:Tw):
 Zc 268 #[Zi n] w λe a=>e=Zr (Zi ((n+7) / 8:Nat))/\a=w:=by
 go_enter func268,ntmps268;go_wp2;go_ret;exact⟨Bd (by omega),rfl⟩
theorem J6(l:List V)(m:Nat):∀k,(Cb l m k).length=m
 | 0=>by simp[Cb]
 | k+1=>by unfold Cb;split <;> simp[J6 l m k]
theorem Oo{a b:Nat}(h:a<=b):2 ^ a<=2 ^ b:=Nat.pow_le_pow_right (by decide) h
theorem H5(l:List V)(m:Nat):∀k j x,(Cb l m k)[j]? = some x->x<2 ^ (min (k-8*j) 8)
 | 0,j,x,h=>by simp only[Cb] at h;have:=XH h;have e:=YC this;subst e;exact Y0 _
 | k+1,j,x,h=>by
   unfold Cb at h;have c:2 ^ (min (k-8*j) 8)<=2 ^ (min (k+1-8*j) 8):=Oo (by omega);split at h
   ·by_cases hj:k / 8=j
    ·subst hj
     have a:k / 8<(Cb l m k).length:=by
      rcases Yc (k / 8) (Cb l m k).length with b|b
      ·exact b
      rw[Yb (by simpa using b)] at h;cases h
     rw[Yj a,XB a] at h;have g:=H5 l m k (k / 8) _ (XB a);simp only[XJ,Option.some.injEq] at h;have d:min (k-8*(k / 8)) 8=k % 8:=by omega
     have f:min (k+1-8*(k / 8)) 8=k % 8+1:=by omega
     rw[d] at g;rw[f,WS];omega
    rw[Yq hj] at h;exact Ya (H5 l m k j x h) c
   exact Ya (H5 l m k j x h) c
def Fy(l:List Nat):List Value:=l.map λ(x:Nat)=>Value.int .u8 (x:Int)
theorem AI7(s:Nat)(x:Nat)(d:s<8)(b:x<2 ^ s):bits .or .u8 (x:Int) ((2:Int) ^ s)=((x+2 ^ s:Nat):Int):=by
 have a:(2:Int) ^ s=((2 ^ s:Nat):Int):=by simp
 have c:2 ^ s<=2 ^ 7:=Oo (by omega);rw[a];have:=bits_join_low .u8 8 (by decide) wraps_u8 s (x:Int) ((2 ^ s:Nat):Int) (by omega) (by exact_mod_cast b) (by omega) (by omega) (by simp) (by omega);rw[this];simp
theorem iP(l:List Nat)(j x:Nat):Fy (l.set j x)=(Fy l).set j (.int .u8 (x:Int)):=by unfold Fy;rw[List.map_set]
theorem Wx{k:Nat}(b:l[k]? = some x)(a:Qi x=true):Cb l m (k+1)=(Cb l m k).set (k / 8) (((Cb l m k)[k / 8]?.getD 0)+2 ^ (k % 8)):=by rw[Cb,Yae (by rw[b];simp[a])]
theorem cL{k:Nat}(b:l[k]? = some x)(a:Qi x=false):Cb l m (k+1)=Cb l m k:=by rw[Cb,Yad (by rw[b];simp[a])]
theorem ABz(v:Tv)(l:List V)(w:Tw)(W:Sl w v l)(R:l.length<=1000):
 Zc 225 #[v] w λe w'=>∃v',e=Zr v'/\w'.ownsRow w.1.size 5 1 v' ((l.length+7) / 8) (Fy (Q8 l))/\Zb w w':=by
 obtain⟨i5,y,J,r,t⟩:=info_parts bX;have j:=Zy y J r t;clear y J r t;obtain⟨a,c,rfl,_,hl⟩:=W;have HL:=Ab hl;have HB:=Ab (Xb l.length R);obtain⟨m,T⟩:∃m,m=(l.length+7) / 8:=⟨_,rfl⟩;have HM:=Ab T;have O:Hid (Q8 l=Cb l m l.length):=by rw[HM.o];exact rfl
 rw[<-T] at HB ⊢;have aa:m<=200:=by omega
 have D:∀k,k<l.length->k / 8<m:=λk hk=>by omega
 have N:=Ab D;clear hl T D;go_enter func225,ntmps225;go_wp2_with fail;refine(HB.o _).mono ?_;rintro e g⟨rfl,rfl⟩;go_wp2_with (refine wpList_make_full _ rfl _ _ 90 rfl g.1.size 5 i5 (.int .u8 0) 1 underlying90 j.o.1 j.o.2.1 j.o.2.2.1 .i64 .i64 _ _ m rfl rfl rfl rfl ?m1 ?m2 ?m3 ?_)
 case m1=>rw[j.o.2.2.2];omega
 case m2=>unfold maxLen;omega
 case m3=>exact Y' _
 intro w2 I x
 have P:Hid (w2.ownsRow g.1.size 5 1 (Zs (some (Zd g.1.size 0)) m m) m (Fy (Cb l m 0))):=Ab (by
  have e:(madeCells #[Value.int .u8 0] m).toList=Fy (Cb l m 0):=by rw[toList_madeCells_one];simp[Fy,Cb]
  rw[<-e];exact I)
 have M:Hid (Zb g w2):=Ab ((XG _ _).grown x (Y' _) (by simp));clear I x;go_wp2
 go_loopw [11] (λvi wr=>∃k:Nat,k<=l.length/\vi=Zi k/\Hid (wr.ownsRow g.1.size 5 1 (Zs (some (Zd g.1.size 0)) m m) m (Fy (Cb l m k)))/\Hid (Zb g wr)) (λvi _=>l.length-(intOf vi).toNat)
 case atStart=>exact⟨0,XI _,rfl,P,M⟩
 case round=>
  obtain⟨k,hk,rfl,G,i⟩:=hrel
  by_cases hlt:k<l.length
  ·obtain⟨b,off,rfl,hb,hc⟩:=HL.o (by intro e;rw[e] at hlt;simp at hlt)
   obtain⟨⟨kx,nx,tx⟩,Y⟩:=Hk hlt;obtain⟨g0,g1,g2⟩:=hc k _ Y;have c0:wr.cell? (Zd b (off+k*3))=some (Zi kx):=(i.o.cell (p:=Zd b (off+k*3)) hb).trans g0;have af:=i.o.size;clear g0 g1 g2 hc
   by_cases hz:kx=0
   ·subst hz
    have L:=Ab (Wx (m:=m) Y rfl);have hq:=N.o k hlt;have z:k / 8<(Cb l m k).length:=by rw[J6];exact hq
    have o:(Cb l m k)[k / 8]? = some ((Cb l m k)[k / 8]):=XB z;have u:=H5 l m k (k / 8) _ o;rw[show min (k-8*(k / 8)) 8=k % 8 by omega] at u;rw[o,XJ] at L;generalize (Cb l m k)[k / 8]=f at *;have cm:wr.cell? (Zd g.1.size (k / 8))=some (.int .u8 (f:Int)):=by rw[G.o.cellAt _ (by omega)];simp[Fy,o]
    have fm:=G.o.frozenAt (k / 8);have n:=Ab (G.o.stored (k / 8) (.int .u8 ((f+2 ^ (k % 8):Nat):Int)));have d:=AI7 (k % 8) f (by omega) u;rw[<-iP,<-L.o] at n;generalize U:k / 8=q at *;have ab:(k:Int) / 8=(q:Int):=by omega
    have ac:(q:Int)<(m:Int):=by omega
    generalize X:k % 8=s at *;have ae:(k:Int) % 8=(s:Int):=by omega
    have ad:s<8:=by omega
    clear U X o u z;have W:s=0\/s=1\/s=2\/s=3\/s=4\/s=5\/s=6\/s=7:=by omega
    rcases W with rfl|rfl|rfl|rfl|rfl|rfl|rfl|rfl
    ·have h:=Ab (show bits .or .u8 (f:Int) 1=((f+2 ^ 0:Nat):Int) from d)
     clear d;go_wp2_with fail
     go_region
     go_wp2;exact⟨⟨k+1,by omega,by go_num,Ab (by rw[h.o];exact n.o.1),Ab (i.o.setCell (p:=Zd g.1.size q) (Y' _) _).drew⟩,by simp[intOf];omega⟩
    ·have h:=Ab (show bits .or .u8 (f:Int) 2=((f+2 ^ 1:Nat):Int) from d)
     clear d;go_wp2_with fail
     go_region
     go_wp2;exact⟨⟨k+1,by omega,by go_num,Ab (by rw[h.o];exact n.o.1),Ab (i.o.setCell (p:=Zd g.1.size q) (Y' _) _).drew⟩,by simp[intOf];omega⟩
    ·have h:=Ab (show bits .or .u8 (f:Int) 4=((f+2 ^ 2:Nat):Int) from d)
     clear d;go_wp2_with fail
     go_region
     go_wp2;exact⟨⟨k+1,by omega,by go_num,Ab (by rw[h.o];exact n.o.1),Ab (i.o.setCell (p:=Zd g.1.size q) (Y' _) _).drew⟩,by simp[intOf];omega⟩
    ·have h:=Ab (show bits .or .u8 (f:Int) 8=((f+2 ^ 3:Nat):Int) from d)
     clear d;go_wp2_with fail
     go_region
     go_wp2;exact⟨⟨k+1,by omega,by go_num,Ab (by rw[h.o];exact n.o.1),Ab (i.o.setCell (p:=Zd g.1.size q) (Y' _) _).drew⟩,by simp[intOf];omega⟩
    ·have h:=Ab (show bits .or .u8 (f:Int) 16=((f+2 ^ 4:Nat):Int) from d)
     clear d;go_wp2_with fail
     go_region
     go_wp2;exact⟨⟨k+1,by omega,by go_num,Ab (by rw[h.o];exact n.o.1),Ab (i.o.setCell (p:=Zd g.1.size q) (Y' _) _).drew⟩,by simp[intOf];omega⟩
    ·have h:=Ab (show bits .or .u8 (f:Int) 32=((f+2 ^ 5:Nat):Int) from d)
     clear d;go_wp2_with fail
     go_region
     go_wp2;exact⟨⟨k+1,by omega,by go_num,Ab (by rw[h.o];exact n.o.1),Ab (i.o.setCell (p:=Zd g.1.size q) (Y' _) _).drew⟩,by simp[intOf];omega⟩
    ·have h:=Ab (show bits .or .u8 (f:Int) 64=((f+2 ^ 6:Nat):Int) from d)
     clear d;go_wp2_with fail
     go_region
     go_wp2;exact⟨⟨k+1,by omega,by go_num,Ab (by rw[h.o];exact n.o.1),Ab (i.o.setCell (p:=Zd g.1.size q) (Y' _) _).drew⟩,by simp[intOf];omega⟩
    have h:=Ab (show bits .or .u8 (f:Int) 128=((f+2 ^ 7:Nat):Int) from d);clear d;go_wp2_with fail
    go_region
    go_wp2;exact⟨⟨k+1,by omega,by go_num,Ab (by rw[h.o];exact n.o.1),Ab (i.o.setCell (p:=Zd g.1.size q) (Y' _) _).drew⟩,by simp[intOf];omega⟩
   have bz:(kx==0)=false:=by simpa using hz
   have L:=Ab (cL (m:=m) Y bz);go_wp2;exact⟨⟨k+1,by omega,by go_num,by rw[L.o];exact G,i⟩,by simp[intOf];omega⟩
  have e:k=l.length:=by omega
  subst e;go_wp2;go_ret;exact⟨_,rfl,by rw[O.o];exact G.o,i.o⟩
theorem aM(l:List V):Fy (Q8 l)=Lib.byteCells (Gq l):=by unfold Fy Lib.byteCells Gq;rw[List.map_map];apply Yn;intro x b;obtain⟨j,a,e⟩:=List.mem_iff_getElem.1 b;have c:=H5 l ((l.length+7) / 8) l.length j x (by rw[<-e];exact XB a);have d:2 ^ (min (l.length-8*j) 8)<=2 ^ 8:=Oo (by omega);simp[Lib.toUInt8_toNat (show x<256 by omega)]
theorem Rp(l:List V):(Gq l).length=(l.length+7) / 8:=by unfold Gq Q8;rw[List.length_map,J6]
theorem sI{n:Int}{t:Tb}(h:A9 k n t=true):t.size<=40:=by
 unfold A9 at h
 have a:t.toList.isEmpty=true->t.size<=40:=λb=>by
  have:t.1.toList=[]:=by simpa[ByteArray.toList_eq] using b
  have e:t.size=t.1.toList.length:=by rw[XR];rfl
  rw[e,this];simp
 split at h
 ·simp only[XL] at h;exact a h.2
 split at h
 ·exact a h
 split at h
 ·simp only[XL,Vb,decide_eq_true_eq] at h;exact h.2.1
 cases h
def Okl(l:List V):Prop:=∀x∈l,-9223372036854775808<=x.2.1/\x.2.1<=9223372036854775807/\x.2.2.size<=maxLen
theorem dE{kind:Int}(h:Gk kind l=true)(b:Okl l)(c:l.length<=60):Vd l:=by refine⟨c,λx a=>⟨(b x a).1,(b x a).2.1,?_⟩⟩;simp only[Gk,XL,WG,WH] at h;have:=h.2 x a;simp only[Wa,XW,not_or,WI,WC] at this;exact sI this.1
theorem Qc(h:Vd l):Vd (known l) :=
 ⟨XF (List.length_filter_le _ _) h.1,λx a=>h.2 x (List.mem_filter.1 a).1⟩
theorem kW{kind:Int}(h:Gk kind l=true):kind=1\/kind=2:=by simp only[Gk,XL,XW,beq_iff_eq] at h;exact h.1
def Me(kind:Int)(l:List V):Value :=
 if Gk kind l then
  if l.length<=60 then .tuple #[.string (str (Hv kind l)),.nilIface] else .tuple #[.string ⟨#[]⟩,.iface 91 (Zi 4)]
 else .tuple #[.string ⟨#[]⟩,.iface 91 (Zi 1)]
theorem pW{kind:Int}(h:Vd l):(AEn kind l).length<=4001:=Wd h 4
theorem gM(kind:Int)(v:Tv)(l:List V)(w:Tw)(hs:Sl w v l)(hl:l.length<=1000)(P:Okl l):
 Zc 186 #[Zi kind,v] w λe w'=>e=Zr (Me kind l)/\Zb w w':=by
 have u:=Ab (Sn kind v l w hs hl (λx hx=>(P x hx).2.2));have HS:=Ab hs;obtain⟨i5,O,X,i,k⟩:=info_parts bX;have b:=Zy O X i k;clear O X i k;obtain⟨a,c,rfl,_,_⟩:=hs;cases hf:Gk kind l with
 | false=>rw[hf] at u;have z:Hid (Me kind l=Zu #[Zt ⟨#[]⟩,Zf 91 (Zi 1)]):=Ab (by unfold Me;rw[hf];rfl);clear P hf;go_enter func186,ntmps186;go_wp2_with (go_at_call 224;apply u.o.mono;rintro e h⟨rfl,d⟩);go_ret2;exact⟨by rw[z.o];rfl,d⟩
 | true=>
   rw[hf] at u
   by_cases h60:l.length<=60
   ·have z:Hid (Me kind l=Zu #[Zt (str (Hv kind l)),Zn]):=Ab (by unfold Me;rw[hf];simp[h60])
    have y:=Ab (dE hf P h60);have HK:=Ab (kW hf);clear P hf;go_enter func186,ntmps186;go_wp2_with fail;apply u.o.mono;rintro e h⟨rfl,d⟩;have s:=d.size;go_wp2_with fail;refine(Dq h.1.size 0 l.length (by omega) _ [] h (XC _ _ _ _) (Y' _) (by omega)).mono ?_;rintro e w2⟨v2,rfl,R,ag⟩;have m:Zb h w2:=ag.1;have ae:=m.size;have I:Zb w w2:=d.trans (m.mono s);have HM:=Ab (ABz _ l w2 (HS.o.up I) hl);go_wp2_with fail;apply HM.o.mono;rintro e w3⟨v3,rfl,q,n⟩;have aj:=n.size;have HA:=Ab (Ad R n);rw[aM] at q;have HB:=Ab q;clear R q;have am:(Lib.uvarint l.length).length<=10:=Lib.uvarint_length64 (by omega);go_wp2_with (at_builtin;refine Ck rfl _ _ 90 rfl h.1.size 5 i5 (.int .u8 0) 1 1 underlying90 b.o.1 b.o.2.1 b.o.2.2.1 b.o.2.2.2 rfl (by decide) _ _ _ rfl HA.o _ _ _ _ rfl HB.o (byteCells_one _) ?f1 ?f2 ?f3 ?_)
    case f1=>unfold maxLen;omega
    case f2=>omega
    case f3=>omega
    intro v4 w4 T M;have f:Zb h w4:=Bj (m.trans (n.mono ae)) HA.o M (by omega);have af:=f.size;have J:Zb w w4:=d.trans (f.mono s);have ad:=Ab T;clear T M;have ac:=Ab (V5 _ l w4 (HS.o.up J) hl);go_wp2_with fail;apply ac.o.mono;rintro e w5⟨v5,rfl,G,o⟩;have ak:=o.size;have ab:=Ab (yK kind v5 (known l) w5 G (Qc y.o) HK.o);clear G;go_wp2_with fail;apply ab.o.mono;rintro e w6⟨v6,rfl,U,p⟩;have al:=p.size;have t:=Ab (Ad (Ad ad.o o) p);have aa:=Ab U;have ai:=pW (kind:=kind) (Qc y.o);clear U;go_wp2_with (at_builtin;refine Ck rfl _ _ 90 rfl h.1.size 5 i5 (.int .u8 0) 1 1 underlying90 b.o.1 b.o.2.1 b.o.2.2.1 b.o.2.2.2 rfl (by decide) _ _ _ rfl t.o _ _ _ _ rfl aa.o (byteCells_one _) ?f4 ?f5 ?f6 ?_)
    case f4=>unfold maxLen;omega
    case f5=>omega
    case f6=>omega
    intro v7 Y W N;have L:Zb w Y:=d.trans ((Bj (f.trans ((o.mono af).trans (p.mono (by omega)))) t.o N (by omega)).mono s)
    have r:Y.ownsRow h.1.size 5 1 v7 (Hv kind l).length (Lib.byteCells (Hv kind l)):=by unfold Hv;rw[XA,XA,Rp,Bg,Bg];simpa using W
    obtain⟨g,D,rfl,_,_⟩:=r.form (by unfold Hv;have:=Lib.uvarint_pos l.length;simp;omega)
    have ah:(convert 90 9 (Zs (some (Zd g 0)) (Hv kind l).length D)).run prog Y=.ok (Zt (str (Hv kind l))) Y :=
     run_convert_bytes_back Y 90 9 5 (Zd g 0) D (Hv kind l) underlying90 underlying5 underlying9 (λj hj=>r.cells rfl j _ (by simp[Lib.byteCells,hj]))
    clear W r N;go_wp2;go_ret2;exact⟨by rw[z.o];rfl,L⟩
   have z:Hid (Me kind l=Zu #[Zt ⟨#[]⟩,Zf 91 (Zi 4)]):=Ab (by unfold Me;rw[hf];simp[h60]);clear P hf;go_enter func186,ntmps186;go_wp2_with (go_at_call 224;apply u.o.mono;rintro e h⟨rfl,d⟩);go_ret2;exact⟨by rw[z.o];rfl,d⟩
theorem AEU(k acc c:Nat)(j:k<=9)(a:acc<2 ^ (7*k))(i:c<256):
 bits .or .u64 (acc:Int) (IntKind.u64.wrap (IntKind.u64.wrap (bits .and .u8 (c:Int) 127)*2 ^ (7*k)))=((acc+c % 128*2 ^ (7*k) % 18446744073709551616:Nat):Int):=by
 have f:2 ^ (7*k)<=2 ^ 63:=Oo (by omega)
 have b:IntKind.u64.wrap (bits .and .u8 (c:Int) 127)=((c % 128:Nat):Int):=by rw[u8_and127 _ (by omega) (by omega),IntKind.wrap_u64];omega
 have d:(((c % 128:Nat):Int)*2 ^ (7*k))=((c % 128*2 ^ (7*k):Nat):Int):=by simp
 have e:IntKind.u64.wrap ((c % 128*2 ^ (7*k):Nat):Int)=((c % 128*2 ^ (7*k) % 18446744073709551616:Nat):Int):=by rw[IntKind.wrap_u64];omega
 rw[b,d,e];have g:(2:Nat) ^ (7*k)∣18446744073709551616:=⟨2 ^ (64-7*k),by rw[<-Y7,show 7*k+(64-7*k)=64 by omega]⟩
 have h:(c % 128*2 ^ (7*k) % 18446744073709551616) % 2 ^ (7*k)=0:=by rw[Nat.mod_mod_of_dvd _ g];simp
 rw[bits_join_low .u64 64 (by decide) wraps_u64 (7*k) (acc:Int) _ (by omega) (by exact_mod_cast a) (by omega) (by omega) (by exact_mod_cast h) (by omega)];simp
theorem AFa{k acc c:Nat}(m:k<=9)(d:acc<2 ^ (7*k)):acc+c % 128*2 ^ (7*k) % 18446744073709551616<2 ^ (7*(k+1))/\acc+c % 128*2 ^ (7*k) % 18446744073709551616<18446744073709551616:=by
 have j:c % 128*2 ^ (7*k) % 18446744073709551616<=c % 128*2 ^ (7*k):=Nat.mod_le _ _;have l:c % 128*2 ^ (7*k)<=127*2 ^ (7*k):=Yo _ (by omega);have e:2 ^ (7*(k+1))=128*2 ^ (7*k):=by rw[show 7*(k+1)=7*k+7 by omega,Y7,Yaa]
 refine⟨by rw[e];omega,?_⟩;have f:(2:Nat) ^ (7*k)∣18446744073709551616:=⟨2 ^ (64-7*k),by rw[<-Y7,show 7*k+(64-7*k)=64 by omega]⟩;have h:(2:Nat) ^ (7*k)∣c % 128*2 ^ (7*k) % 18446744073709551616:=(Nat.dvd_mod_iff f).2 ⟨c % 128,by rw[Yaa]⟩;obtain⟨q,i⟩:=f;obtain⟨p,g⟩:=h;have a:c % 128*2 ^ (7*k) % 18446744073709551616<18446744073709551616:=Nat.mod_lt _ (by decide);rw[g];rw[g,i] at a;have b:p<q:=Nat.lt_of_mul_lt_mul_left a;have:2 ^ (7*k)*(p+1)<=2 ^ (7*k)*q:=Nat.mul_le_mul_left _ b;rw[Nat.mul_add,Nat.mul_one] at this;omega
theorem Uq(s:Tb)(b:Nat):s.extract 0 b=str (s.1.toList.take b):=by apply ByteArray.ext;apply Array.toList_inj.mp;rw[Eo,Lib.extract_data];simp
theorem AMn(s:Tb)(a:Nat):s.extract a s.size=str (s.1.toList.drop a):=by apply ByteArray.ext;apply Array.toList_inj.mp;rw[Eo,Lib.extract_to_end]
theorem AGf(a:List UInt8)(s:Tb)(b:Nat):((str a).toList==(s.extract 0 b).toList)=decide (a=s.1.toList.take b):=by
 rw[Uq,ByteArray.toList_eq,ByteArray.toList_eq,Eo,Eo]
 by_cases h:a=s.1.toList.take b <;> simp[h]
theorem AF7{B n:Nat}{l:List UInt8}(h:W.ownsRow B 5 1 v n (Lib.byteCells l))(b:n=l.length)(c:0<l.length):
 ∃g a,v=Zs (some (Zd g 0)) l.length a/\(∀m,(convert 90 9 (Zs (some (Zd g 0)) l.length a)).run prog (W.drewN m)=.ok (Zt (str l)) (W.drewN m)):=by
 subst b;obtain⟨g,a,rfl,_,_⟩:=h.form c;exact⟨g,a,rfl,λm=>run_convert_bytes_back (W.drewN m) 90 9 5 (Zd g 0) a l underlying90 underlying5 underlying9 (λj hj=>by rw[XX];exact h.cells rfl j _ (by simp[Lib.byteCells,hj]))⟩
theorem AK3{a v b u c f:Tv}(d:a=v)(e:b=u)(g:c=f):Ending.returned (Zu #[a,b,c])=Zr (Zu #[v,u,f]):=by rw[d,e,g]
theorem drop_byte(s:Tb)(k:Nat)(h:k<s.size):s.1.toList.drop k=s[k] :: s.1.toList.drop (k+1):=by rw[Yl (by simpa using h)];rfl
theorem AAt{full:List UInt8}{k acc:Nat}{r:List UInt8}(b:k≠10)(a:¬c.toNat<128):Nu full k (c :: r) acc=Nu full (k+1) r (acc+c.toNat % 128*2 ^ (7*k) % 18446744073709551616):=by rw[Nu,Yad b,Yad a]
theorem oV{full:List UInt8}{k acc:Nat}{r:List UInt8}(b:k≠10)(a:c.toNat<128):Nu full k (c :: r) acc=(acc+c.toNat % 128*2 ^ (7*k) % 18446744073709551616,r,decide (Lib.uvarint (acc+c.toNat % 128*2 ^ (7*k) % 18446744073709551616)=full.take (k+1))):=by rw[Nu,Yad b,Yae a]
theorem AAb(full r:List UInt8)(acc:Nat):Nu full 10 r acc=(0,full,false):=by cases r <;> simp[Nu]
theorem AI1(full:List UInt8)(k acc:Nat):Nu full k [] acc=(0,full,false):=by simp[Nu]
theorem Pq(s:Tb)(w:Tw)(X:s.size<=1000000):
 Zc 295 #[Zt s] w λe T=>e=Zr (Zu #[.int .u64 (rdNum s.1.toList).1,Zt (str (rdNum s.1.toList).2.1),Zo (rdNum s.1.toList).2.2])/\Zb w T:=by
 go_enter func295,ntmps295;go_wp2
 go_loopw [2,3,4,9] (λR O P u wr=>∃(k acc:Nat),u=Zi k/\R=.int .u64 acc/\O=Zt ⟨#[]⟩/\P=Zo false/\k<=10/\k<=s.size/\Hid (acc<2 ^ (7*k))/\Hid (rdNum s.1.toList=Nu s.1.toList k (s.1.toList.drop k) acc)/\wr=w) (λ_ _ _ u _=>10-(intOf u).toNat)
 case atStart=>exact⟨0,0,rfl,rfl,rfl,rfl,by omega,by omega,Ab (by decide),Ab rfl,rfl⟩
 case round=>
  obtain⟨k,acc,rfl,rfl,rfl,rfl,z,M,f,t,rfl⟩:=hrel
  by_cases hlt:k<s.size/\k<10
  ·obtain⟨J,V⟩:=hlt
   have o:(k:Int)<min (s.size:Int) 10:=by omega
   have i:s[k].toNat<256:=s[k].toNat_lt;have x:=Ab (drop_byte s k J);have W:=AEU k acc s[k].toNat (by omega) f.o i;obtain⟨y,l⟩:=AFa (k:=k) (acc:=acc) (c:=s[k].toNat) (by omega) f.o
   by_cases hc:s[k].toNat<128
   ·have b:=t.o
    rw[x.o,oV (by omega) hc] at b;have b:=Ab b;generalize acc+s[k].toNat % 128*2 ^ (7*k) % 18446744073709551616=h at *;have I:=Ab (Dq wr.1.size 0 h l (Zs none 0 0) [] wr.drew (XC _ _ _ _) (Y' _) (by omega));obtain⟨d,n⟩:∃d:Nat,d=k+1:=⟨_,rfl⟩;have N:IntKind.i64.wrap ((k:Int)+1)=(d:Int):=by rw[IntKind.wrap_i64];omega
    have L:(0:Int)<=(d:Int):=by omega
    have D:(d:Int)<=(s.size:Int):=by omega
    have G:d<=s.size:=by omega
    have q:=Ab (AGf (Lib.uvarint h) s d);have r:=Ab (AMn s d);rw[<-n] at b;clear y l n;go_wp2_with fail
    go_region_with
     (first
       | (go_at_call 138;apply I.o.mono;rintro e U⟨Y,rfl,p,a⟩;obtain⟨g,cap,rfl,hcv0⟩:=AF7 p (WE _) (Lib.uvarint_pos h);have m:=hcv0 0;rw[World.drewN_zero] at m))
    have j:Hid (Zb wr U):=Ab ⟨a.1.os,a.1.tape,a.1.output,a.1.size,a.1.block⟩;clear m hcv0 p a;go_wp2_with fail
    go_quiet (fail)
    go_wp2;refine bodyPost_ret (v:=Zu #[.int .u64 h,Zt (s.extract d s.size),Zo ((str (Lib.uvarint h)).toList==(s.extract 0 d).toList)]) (by simp[results,results295,go_sem]) rfl ⟨?_,?_⟩
    ·rw[b.o,q.o,r.o]
    exact⟨j.o.os,j.o.tape,j.o.output,j.o.size,j.o.block⟩
   have b:=t.o;rw[x.o,AAt (by omega) hc] at b;have b:=Ab b;generalize acc+s[k].toNat % 128*2 ^ (7*k) % 18446744073709551616=h at *;go_wp2;exact⟨⟨k+1,h,by go_num,rfl,rfl,rfl,by omega,by omega,Ab y,b,trivial⟩,by simp[intOf];omega⟩
  have o:¬(k:Int)<min (s.size:Int) 10:=by omega
  have b:Hid (rdNum s.1.toList=(0,s.1.toList,false)):=by
   show rdNum s.1.toList=(0,s.1.toList,false);rw[t.o]
   by_cases h10:k=10
   ·rw[h10];exact AAb _ _ _
   rw[Yw (by have e:s.size=s.1.toList.length:=(by rw[XR];rfl);omega)];exact AI1 _ _ _
  go_wp2;refine bodyPost_ret (v:=Zu #[.int .u64 0,Zt s,Zo false]) (by simp[results,results295,go_sem]) rfl ⟨?_,XG _ _⟩;rw[b.o];exact AK3 rfl (by rw[Ux]) rfl
def Oi(T:TypeId)(a:List Value)(w:World)(b:Nat)(s:St):Prop:=w.1[b]? = some (.cells (.string (str s.1) :: .bool s.2 :: a).toArray T (0,0))
theorem Em{b:Nat}(h:Oi T X w b s):w.cell? (Zd b 0)=some (Zt (str s.1))/\w.cell? (Zd b 1)=some (Zo s.2)/\w.frozen? (Zd b 0)=false/\w.frozen? (Zd b 1)=false:=by have a:w.1[b]? = some (Zk (Zt (str s.1) :: Zo s.2 :: X).toArray T (0,0)):=h;refine⟨by simp[World.cell?,a],by simp[World.cell?,a],Yaf w b 0 _ T a,Yaf w b 1 _ T a⟩
theorem Oi.up{b:Nat}(h:Oi T X w b s)(a:Zb w W):Oi T X W b s:=Wf h a
theorem Oi.lt{b:Nat}(h:Oi T X w b s):b<w.1.size:=Ac h
theorem Oi.AEs{b:Nat}(h:Oi T X w b s)(l:List UInt8):Oi T X (w.setCell (Zd b 0) (Zt (str l))) b (l,s.2):=by have:=heap_setCell_same w b 0 _ T (Zt (str l)) h;simpa[Oi] using this
theorem Oi.oB{b:Nat}(h:Oi T X w b s)(q:Bool):Oi T X (w.setCell (Zd b 1) (Zo q)) b (s.1,q):=by have:=heap_setCell_same w b 1 _ T (Zo q) h;simpa[Oi] using this
def Rd(w:World)(b:Nat)(k:Int)(s:St):Prop:=Oi 353 [Zi k] w b s
theorem G9{b:Nat}(h:Rd w b k s):w.cell? (Zd b 2)=some (Zi k)/\w.cell? (Zd b 0)=some (Zt (str s.1))/\w.cell? (Zd b 1)=some (Zo s.2)/\w.frozen? (Zd b 0)=false/\w.frozen? (Zd b 1)=false:=by have a:w.1[b]? = some (Zk (Zt (str s.1) :: Zo s.2 :: [Zi k]).toArray 353 (0,0)):=h;refine⟨by simp[World.cell?,a],(Em h).1,(Em h).2.1,(Em h).2.2.1,(Em h).2.2.2⟩
theorem Rd.up{b:Nat}(h:Rd w b k s)(a:Zb w W):Rd W b k s:=Wf h a
theorem Rd.lt{b:Nat}(h:Rd w b k s):b<w.1.size:=Ac h
theorem Rd.oB{w:Tw}{b:Nat}{k:Int}{s:St}(h:Rd w b k s)(q:Bool):Rd (w.setCell (Zd b 1) (Zo q)) b k (s.1,q):=Oi.oB h q
theorem G2(w:Tw)(r:Option Nat):w.grownBy w r:=⟨rfl,rfl,rfl,Y' _,λ_ _ _=>rfl⟩
theorem Al{a b c:Tw}(h:a.grownBy b r)(k:b.grownBy c r):a.grownBy c r :=
 ⟨k.os.trans h.os,k.tape.trans h.tape,k.output.trans h.output,XF h.size k.size,λi d e=>(k.block i (Ya d h.size) e).trans (h.block i d e)⟩
theorem Cr{a b:Tw}(h:Zb a b):a.grownBy b r:=⟨h.os,h.tape,h.output,h.size,λi c _=>h.block i c⟩
theorem Ar(w:Tw)(b j:Nat)(u:Tv):w.grownBy (w.setCell ⟨b,j,none⟩ u) (some b) :=
 ⟨rfl,rfl,rfl,by simp,λk _ a=>heap_setCell_other w ⟨b,j,none⟩ k u (λe=>a (by simp[e]))⟩
theorem AAu(full:List UInt8):∀(r:List UInt8)(i acc:Nat),i<=10->acc<2 ^ (7*i)->acc<18446744073709551616->(Nu full i r acc).1<18446744073709551616
 | [],i,acc,_,_,_=>by simp[Nu]
 | c :: r,i,acc,hi,ha,_=>by
   by_cases h10:i=10
   ·rw[h10,AAb];show (0:Nat)<_;decide
   obtain⟨b,a⟩:=AFa (k:=i) (acc:=acc) (c:=c.toNat) (by omega) ha
   by_cases hc:c.toNat<128
   ·rw[oV h10 hc];exact a
   rw[AAt h10 hc];exact AAu full r _ _ (by omega) b a
theorem bW(full:List UInt8):∀(r:List UInt8)(i acc:Nat),r.length<=full.length->(Nu full i r acc).2.1.length<=full.length/\((Nu full i r acc).2.2=true->(Nu full i r acc).2.1.length<full.length)
 | [],i,acc,_=>by simp[Nu]
 | c :: r,i,acc,h=>by
   by_cases h10:i=10
   ·rw[h10,AAb];simp
   by_cases hc:c.toNat<128
   ·rw[oV h10 hc];simp at h ⊢;exact⟨by omega,λ_=>by omega⟩
   rw[AAt h10 hc];exact bW full r _ _ (by simp at h;omega)
theorem aW(s:St):(Fg s).1<18446744073709551616:=AAu s.1 s.1 0 0 (by omega) (by decide) (by decide)
theorem cN(s:St):(Fg s).2.1.length<=s.1.length:=(bW s.1 s.1 0 0 (Y' _)).1
theorem ACX(h:(Fg s).2.2=false):(Fg s).2.1.length<s.1.length:=by
 have a:(rdNum s.1).2.2=true:=by simp[Fg] at h;exact h.2
 exact(bW s.1 s.1 0 0 (Y' _)).2 a
theorem fD(h:s.2=true):(Fg s).2.2=true:=by simp[Fg,h]
theorem W6(T:TypeId)(o:List Tv)(b:Nat)(s:St)(w:Tw)(i:Oi T o w b s)(r:s.1.length<=1000000):
 Zc 249 #[Zp (some (Zd b 0))] w λe p=>e=Zr (.int .u64 (Fg s).1)/\Oi T o p b (Fg s).2/\w.grownBy p (some b):=by
 obtain⟨l,q⟩:=s;obtain⟨c1,m,_,_⟩:=Em i;have g:=Ab (Pq (str l) w (by rw[Ds];exact r));rw[Eo] at g;have k:=Ab i;have j:Hid (Fg (l,q)=((rdNum l).1,((rdNum l).2.1,q || !(rdNum l).2.2))):=Ab rfl;rw[j.o];generalize rdNum l=R at g ⊢;obtain⟨n,f,ok⟩:=R;have h:True:=trivial;clear h;clear i j;cases q
 ·go_enter func249,ntmps249
  go_wp2_with fail;apply g.o.mono;rintro e v⟨rfl,c⟩;have a:=k.o.up c;obtain⟨t,u,x,y⟩:=Em a;have d:=Ab a;clear a c1 m;go_wp2;go_ret;exact⟨rfl,((d.o.AEs f).oB _),Al (Cr c) (Al (Ar _ _ _ _) (Ar _ _ _ _))⟩
 go_enter func249,ntmps249;go_wp2_with fail;apply g.o.mono;rintro e v⟨rfl,c⟩;have a:=k.o.up c;obtain⟨t,u,x,y⟩:=Em a;have d:=Ab a;clear a c1 m;go_wp2;go_ret;exact⟨rfl,((d.o.AEs f).oB _),Al (Cr c) (Al (Ar _ _ _ _) (Ar _ _ _ _))⟩
theorem Jc(b:Nat)(k:Int)(s:St)(w:Tw)(d:Rd w b k s)(c:s.1.length<=1000000):
 Zc 249 #[Zp (some (Zd b 0))] w λe a=>e=Zr (.int .u64 (Fg s).1)/\Rd a b k (Fg s).2/\w.grownBy a (some b):=W6 _ _ b s w d c
theorem cX(T:TypeId)(c:List Tv)(b:Nat)(s:St)(w:Tw)(a:Oi T c w b s):
 Zc 170 #[Zp (some (Zd b 0))] w λe d=>e=Zr (Zo s.2)/\d=w:=by
 obtain⟨c1,f,_,_⟩:=Em a;go_enter func170,ntmps170;go_wp2;go_ret;exact⟨rfl,rfl⟩
theorem E9(b:Nat)(k:Int)(s:St)(w:Tw)(a:Rd w b k s):
 Zc 170 #[Zp (some (Zd b 0))] w λe c=>e=Zr (Zo s.2)/\c=w:=cX _ _ b s w a
theorem yM(b:Nat)(k:Int)(s:St)(w:Tw)(a:Rd w b k s):
 Zc 328 #[Zp (some (Zd b 0))] w λe c=>e=Zr (Zu #[])/\Rd c b k (s.1,true)/\w.grownBy c (some b):=by
 obtain⟨c0,c1,f,g,h⟩:=G9 a;have d:=Ab a;clear a;go_enter func328,ntmps328;go_wp2
 go_end0
 exact⟨rfl,d.o.oB true,Ar _ _ _ _⟩
theorem C0(h:a.grownBy w r){g:Nat}(d:a.1.size<=g)(u:Tv):a.grownBy (w.setCell (Zd g j) u) r :=
 ⟨h.os,h.tape,h.output,by have:=h.size;simpa using this,λk b c=>(heap_setCell_other w (Zd g j) k u (by simp;omega)).trans (h.block k b c)⟩
theorem AL0(h:a.grownBy w r)(o:Obj):a.grownBy (w.alloc o) r:=Al h (WA w o r)
theorem Rd.grown{b c:Nat}(h:Rd w b k s)(d:w.grownBy W (some c))(a:b≠c):Rd W b k s :=
 (d.block b (Ac h) (by simp;exact a)).trans h
theorem Qd{most:Int}{s:St}(h:Ra most s=true):Am most s=(0,((Fg s).2.1,true)):=by unfold Am;rw[Yae h]
theorem U0{most:Int}{s:St}(h:Ra most s=false):Am most s=Fg s:=by unfold Am;rw[Yad (by simp[h])]
theorem Jo(T:TypeId)(t:List Tv)(b:Nat)(most:Int)(s:St)(w:Tw)(y:Oi T t w b s)(G:s.1.length<=1000000)(J : -1000<=most)(L:most<=9223372036854775807):
 Zc 210 #[Zp (some (Zd b 0)),Zi most] w λe z=>e=Zr (Zi (Am most s).1)/\Oi T t z b (Am most s).2/\w.grownBy z (some b):=by
 have j:=Ab (W6 T t b s w y G);have i:Hid (Ra most s=((Fg s).2.2 || decide (most<0) || decide (most<((Fg s).1:Int)))):=Ab rfl;have m:=Ab (@Qd most s);have o:=Ab (@U0 most s);have M:=aW s;generalize Fg s=R at *;obtain⟨n,l,q⟩:=R;clear y;simp only at i j m M
 by_cases c:q=true\/most<0\/most<(n:Int)
 ·have g:Ra most s=true:=by rw[i.o];simpa[or_assoc] using c
  rw[m.o g];clear m o i g;cases q with
  | true=>go_enter func210,ntmps210;go_wp2_with fail;apply j.o.mono;rintro e u⟨rfl,a,f⟩;obtain⟨p,r,v,x⟩:=Em a;have d:=Ab a;clear a;go_wp2;go_ret;exact⟨rfl,d.o.oB true,Al f (Ar _ _ _ _)⟩
  | false=>
    by_cases hneg:most<0
    ·go_enter func210,ntmps210
     go_wp2_with fail;apply j.o.mono;rintro e u⟨rfl,a,f⟩;obtain⟨p,r,v,x⟩:=Em a;have d:=Ab a;clear a;go_wp2;go_ret;exact⟨rfl,d.o.oB true,Al f (Ar _ _ _ _)⟩
    have D:most<(n:Int):=by rcases c with h|h|h;cases h;exact absurd h hneg;exact h
    have k:0<=most:=by omega
    clear c;go_enter func210,ntmps210;go_wp2_with fail;apply j.o.mono;rintro e u⟨rfl,a,f⟩;obtain⟨p,r,v,x⟩:=Em a;have d:=Ab a;clear a;go_wp2;go_ret;exact⟨rfl,d.o.oB true,Al f (Ar _ _ _ _)⟩
 have g:Ra most s=false:=by rw[i.o];simpa[and_assoc] using c
 rw[o.o g];clear m o i g;have N:q=false:=by cases q;rfl;exact absurd (Or.inl rfl) c
 subst N;have k:0<=most:=by omega
 have I:(n:Int)<=most:=by omega
 clear c;go_enter func210,ntmps210;go_wp2_with fail;apply j.o.mono;rintro e u⟨rfl,a,f⟩;obtain⟨p,r,v,x⟩:=Em a;have d:=Ab a;clear a;go_wp2;go_ret;exact⟨rfl,d.o,f⟩
theorem O0(b:Nat)(k most:Int)(s:St)(w:Tw)(g:Rd w b k s)(d:s.1.length<=1000000)(a : -1000<=most)(f:most<=1000):
 Zc 210 #[Zp (some (Zd b 0)),Zi most] w λe c=>e=Zr (Zi (Am most s).1)/\Rd c b k (Am most s).2/\w.grownBy c (some b):=Jo _ _ b most s w g d a (by omega)
theorem fG(T:TypeId)(o:List Tv)(b n:Nat)(s:St)(w:Tw)(d:Oi T o w b s)(t:s.1.length<=1000000):
 Zc 250 #[Zp (some (Zd b 0)),Zi n] w λe p=>e=Zr (Zt (str (C8 n s).1))/\Oi T o p b (C8 n s).2/\w.grownBy p (some b):=by
 obtain⟨l,q⟩:=s;obtain⟨c1,r,x,y⟩:=Em d;have k:=Ab d;have a:=Ds l;simp only at t c1 r
 by_cases h:l.length<n
 ·have f:Hid (C8 n (l,q)=([],(l,true))):=Ab (by unfold C8;rw[Yae h])
  rw[f.o];have g:((str l).size:Int)<(n:Int):=by rw[a];omega
  clear d a h;go_enter func250,ntmps250;go_wp2;go_ret;exact⟨rfl,k.o.oB true,Ar _ _ _ _⟩
 have f:Hid (C8 n (l,q)=(l.take n,(l.drop n,q))):=Ab (by unfold C8;rw[Yad h]);have g:¬((str l).size:Int)<(n:Int):=by rw[a];omega
 have u:(n:Int)<=((str l).size:Int):=by rw[a];omega
 have m:n<=(str l).size:=by rw[a];omega
 have i:=Ab (Uq (str l) n);have j:=Ab (AMn (str l) n);rw[Eo] at i j;rw[f.o];have c:=Ab (k.o.AEs (l.drop n));rw[<-j.o] at c;clear d a h;generalize str l=v at *;go_enter func250,ntmps250;go_wp2;go_ret;refine⟨?_,c.o,Ar _ _ _ _⟩;rw[<-i.o];rfl
theorem V0(b n:Nat)(k:Int)(s:St)(w:Tw)(d:Rd w b k s)(c:s.1.length<=1000000)(_hn:n<=1000):
 Zc 250 #[Zp (some (Zd b 0)),Zi n] w λe a=>e=Zr (Zt (str (C8 n s).1))/\Rd a b k (C8 n s).2/\w.grownBy a (some b):=fG _ _ b n s w d c
theorem F4(most:Int)(s:St):(Am most s).2.1.length<=s.1.length:=by unfold Am;split <;> exact cN s
theorem Ld(most:Int)(s:St):((Am most s).1:Int)<=max most 0:=by
 unfold Am;split
 ·simp;omega
 rename_i h;simp only[Ra,XW,decide_eq_true_eq,not_or] at h;omega
theorem eG{most:Int}{s:St}(h:(Am most s).2.2=false):(Am most s).2.1.length<s.1.length:=by
 cases hb:Ra most s with
 | true=>rw[Qd hb] at h;cases h
 | false=>rw[U0 hb] at h ⊢;exact ACX h
theorem vG{most:Int}(h:s.2=true):(Am most s).2.2=true:=by
 have:Ra most s=true:=by simp[Ra,fD h]
 rw[Qd this]
theorem Ji(n:Nat)(s:St):(C8 n s).2.1.length<=s.1.length:=by unfold C8;split <;> simp
theorem nP(h:s.2=true):(C8 n s).2.2=true:=by unfold C8;split <;> simp[h]
theorem Ja(kind:Int)(s:St):(Dy kind s).2.1.length<=s.1.length:=by
 unfold Dy;split
 ·exact cN s
 exact XF (Ji _ _) (F4 _ _)
theorem Sh{kind:Int}{s:St}(h:s.2=true):(Dy kind s).2.2=true:=by
 unfold Dy;split
 ·exact fD h
 exact nP (vG h)
theorem AEq(h:n<18446744073709551616):-9223372036854775808<=Lib.unzigzag n/\Lib.unzigzag n<=9223372036854775807:=by unfold Lib.unzigzag;split <;> omega
theorem Rd.other{b g j:Nat}(h:Rd w b k s)(a:¬g=b)(u:Tv):Rd (w.setCell (Zd g j) u) b k s :=
 (heap_setCell_other w (Zd g j) b u (λe=>a e.symm)).trans h
theorem lI(b:Nat)(k:Int)(s:St)(w:Tw)(p:Rd w b k s)(I:s.1.length<=1000000):
 Zc 342 #[Zp (some (Zd b 0))] w λe J=>e=Zr (ADW (Dy k s).1)/\Rd J b k (Dy k s).2/\w.grownBy J (some b):=by
 have G:=Ab p;have V:=p.lt;have c:¬w.1.size=b:=by omega
 obtain⟨c0,_,_,_,_⟩:=G9 p;clear p
 by_cases hk:k=1
 ·have j:Hid (Dy k s=((1,Lib.unzigzag (Fg s).1,str []),(Fg s).2)):=Ab (by unfold Dy;rw[Yae hk])
  have q:=Ab (λW m=>Jc b k s W (G.o.up (W:=W) m) I);have M:=Ab (gV (Fg s).1 (aW s));have N:(k==1)=true:=by simpa using hk
  rw[j.o];generalize Fg s=R at *;obtain⟨n,st⟩:=R;clear hk j;go_enter func342,ntmps342;go_wp2_with fail;refine(q.o _ (Zal)).mono ?_;rintro e U⟨rfl,d,a⟩;go_wp2_with fail;refine(M.o _).mono ?_;rintro e h⟨rfl,rfl⟩;have g:h.1[w.1.size]? = some (Zk #[Zi 0,Zi 0,Zt ⟨#[]⟩] 67):=(a.block w.1.size (by simp) (by simp;omega)).trans (Yac _ _);obtain⟨y,z,D⟩:=Ei g;have O:=Yaf h w.1.size 0 _ 67 g;have P:=Yaf h w.1.size 1 _ 67 g;have T:=Yaf h w.1.size 2 _ 67 g;have r:Hid (w.grownBy h (some b)):=Ab (Al (WA _ _ _) a);have i:=Ab d;clear g a d;go_wp2;refine bodyPost_ret (v:=ADW (1,Lib.unzigzag n,str [])) (by simp[results,results342,go_sem,str,y,z,D]) rfl ⟨rfl,?_,?_⟩
  ·exact((i.o.other c _).other c _).other c _
  exact C0 (C0 (C0 r.o (Y' _) _) (Y' _) _) (Y' _) _
 have j:Hid (Dy k s=((2,0,str (C8 (Am 40 s).1 (Am 40 s).2).1),(C8 (Am 40 s).1 (Am 40 s).2).2)):=Ab (by unfold Dy;rw[Yad hk]);have q:=Ab (λW m=>O0 b k 40 s W (G.o.up (W:=W) m) I (by omega) (by omega));have u:=Ld 40 s;have x:=F4 40 s;have N:(k==1)=false:=by simpa using hk
 rw[j.o];generalize Am 40 s=R at *;obtain⟨n,st⟩:=R;simp only at u x;have L:=Ab (λW m=>V0 b n k st W m (by omega) (by omega));generalize C8 n st=Q at *;obtain⟨t,st2⟩:=Q;clear hk j;go_enter func342,ntmps342;go_wp2_with fail
 go_region_with
  (first
    | (go_at_call 210;refine(q.o _ (Zal).drew).mono ?_;rintro e U⟨rfl,d,a⟩)
    | (go_at_call 250;refine(L.o _ d).mono ?_;rintro e h⟨rfl,l,o⟩;have f:=Al a o;have g:h.1[w.1.size]? = some (Zk #[Zi 0,Zi 0,Zt ⟨#[]⟩] 67):=(f.block w.1.size (by simp) (by simp;omega)).trans (Yac _ _);obtain⟨y,z,D⟩:=Ei g;have O:=Yaf h w.1.size 0 _ 67 g;have P:=Yaf h w.1.size 1 _ 67 g;have T:=Yaf h w.1.size 2 _ 67 g;have r:Hid (w.grownBy h (some b)):=Ab (Al (Cr (Zal).drew) f);have i:=Ab l;clear g a d o l f))
 go_wp2;refine bodyPost_ret (v:=ADW (2,0,str t)) (by simp[results,results342,go_sem,y,z,D]) rfl ⟨rfl,?_,?_⟩
 ·exact((i.o.other c _).other c _).other c _
 exact C0 (C0 (C0 r.o (Y' _) _) (Y' _) _) (Y' _) _
theorem Dc{B e z n b:Nat}{xs:List Tv}(h:w.ownsRow B e z v n xs)(c:b<B)(a:w.grownBy W (some b)):W.ownsRow B e z v n xs:=by
 refine h.kept a ?_;cases hv:v.ownBlock with
 | none=>exact .inl rfl
 | some k=>refine .inr (λe=>?_);simp at e;have:=(h.lt k hv).1;omega
theorem Rd.app{B e z n b:Nat}{xs:List Tv}(a:Rd w b k s)(h:w.ownsRow B e z v n xs)(d:b<B)(c:w.grownBy W v.ownBlock):Rd W b k s :=
 (c.block b (Ac a) (λe=>by have:=(h.lt b e.symm).1;omega)).trans a
theorem Hj{B e z n:Nat}{xs:List Tv}(b:a.grownBy w r)(h:w.ownsRow B e z v n xs)(g:a.1.size<=B)(c:w.grownBy W v.ownBlock):a.grownBy W r :=
 ⟨c.os.trans b.os,c.tape.trans b.tape,c.output.trans b.output,XF b.size c.size,λk d f=>(c.block k (Ya d b.size) (λe=>by have:=(h.lt k e.symm).1;omega)).trans (b.block k d f)⟩
theorem Rd.alloc{w:Tw}{b:Nat}{k:Int}{s:St}(a:Rd w b k s)(o:Obj):Rd (w.alloc o) b k s:=(XQ w o b (Ac a)).trans a
theorem Lb(b n:Nat)(k:Int)(s:St)(w:Tw)(M:Rd w b k s)(hl:s.1.length<=1000000)(hn:n<=1000):
 Zc 324 #[Zp (some (Zd b 0)),Zi n] w λe P=>∃v',e=Zr v'/\P.ownsRow w.1.size 67 3 v' (Cn k n s).1.length (AKn (Cn k n s).1)/\Rd P b k (Cn k n s).2/\w.grownBy P (some b):=by
 obtain⟨N,f,g,c,d⟩:=info_parts Ip;have a:=Zy f g c d;clear f g c d;have T:=M.lt;have y:=Ab M;clear M;go_enter func324,ntmps324;go_wp2
 go_loopw [5,7] (λvl O wr=>∃(i:Nat)(D:List V)(st:St),i<=n/\O=Zi i/\Hid (D.length=i/\Cn k n s=(D++(Cn k (n-i) st).1,(Cn k (n-i) st).2)/\st.1.length<=s.1.length)/\Hid (wr.ownsRow w.1.size 67 3 vl i (AKn D))/\Hid (Rd wr b k st)/\Hid (w.grownBy wr (some b))) (λ_ O _=>n-(intOf O).toNat)
 case atStart=>exact⟨0,[],s,XI _,rfl,Ab ⟨rfl,by simp,Y' _⟩,XC _ _ _ _,y,G2 _ _⟩
 case round=>
  obtain⟨i,D,st,hi,rfl,o,U,q,J⟩:=hrel;have ab:=J.o.size
  by_cases hlt:i<n
  ·have W:=Ab (lI b k st wr q.o (by have:=o.o.2.2;omega))
   have x:Hid (Cn k (n-i) st=((Dy k st).1 :: (Cn k (n-(i+1)) (Dy k st).2).1,(Cn k (n-(i+1)) (Dy k st).2).2)):=Ab (by obtain⟨m,hm⟩:∃m,n-i=m+1:=⟨n-i-1,by omega⟩;rw[hm,show n-(i+1)=m by omega];rfl)
   have X:=Ab (Ja k st);generalize Dy k st=R at *;obtain⟨⟨r,t,v⟩,st1⟩:=R;go_wp2_with fail;apply W.o.mono;rintro e w1⟨rfl,G,l⟩;have aa:=l.size;have h:=Ab (Dc U.o T l);go_wp2_with (at_builtin;refine wpList_append_own _ rfl _ _ 71 rfl w.1.size 67 N (.agg #[Zi 0,Zi 0,.string ⟨#[]⟩]) 3 32 underlying71 a.o.1 a.o.2.1 a.o.2.2.1 a.o.2.2.2 rfl (by decide) _ _ _ rfl (h.o.alloc _) (Zd w1.1.size 0) 1 1 [Zi r,Zi t,.string v] rfl rfl ?c1 ?c2 ?c3 ?c4 ?c5 ?_)
   case c1=>exact λj u hj=>XM (Yac _ _) j u hj
   case c2=>exact Hf [(r,t,v)]
   case c3=>unfold maxLen;omega
   case c4=>omega
   case c5=>simp;omega
   intro v2 w2 L p _;have I:=(G.alloc (Zk #[Zi r,Zi t,Zt v] 67)).app (h.o.alloc _) T p;have z:=Hj (AL0 (Al J.o l) (Zk #[Zi r,Zi t,Zt v] 67)) (h.o.alloc _) (Y' _) p;go_wp2;refine⟨⟨i+1,D++[(r,t,v)],st1,by omega,by go_num,Ab ⟨by simp[o.o.1],?_,?_⟩,Ab (by rw[Jk];exact L),Ab I,Ab z⟩,by simp[intOf];omega⟩
   ·rw[o.o.2.1,x.o];simp
   have Y:=X.o;have h2:=o.o.2.2;exact XF Y h2
  have e:i=n:=by omega
  subst e;have x:Hid (Cn k i s=(D,st)):=Ab (by rw[o.o.2.1,YO];simp[Cn]);go_wp2;go_ret;rw[x.o];exact⟨_,rfl,by rw[show (D,st).1.length=i from o.o.1];exact U.o,q.o,J.o⟩
theorem ADk(b n:Nat)(k:Int)(s:St)(w:Tw)(L:Rd w b k s)(hl:s.1.length<=1000000)(hn:n<=1000):
 Zc 327 #[Zp (some (Zd b 0)),Zi n] w λe P=>∃v',e=Zr v'/\P.ownsRow w.1.size 67 3 v' (E5 n 0 s).1.length (AKn (E5 n 0 s).1)/\Rd P b k (E5 n 0 s).2/\w.grownBy P (some b):=by
 obtain⟨M,h,l,d,f⟩:=info_parts Ip;have a:=Zy h l d f;clear h l d f;have Y:=L.lt;have x:=Ab L;clear L;go_enter func327,ntmps327;go_wp2
 go_loopw [5,6,8] (λvl va O wr=>∃(i:Nat)(D:List V)(st:St)(g:Int),i<=n/\O=Zi i/\va=Zi g/\Hid (D.length=i/\E5 n 0 s=(D++(E5 (n-i) g st).1,(E5 (n-i) g st).2)/\st.1.length<=s.1.length)/\Hid (wr.ownsRow w.1.size 67 3 vl i (AKn D))/\Hid (Rd wr b k st)/\Hid (w.grownBy wr (some b))) (λ_ _ O _=>n-(intOf O).toNat)
 case atStart=>exact⟨0,[],s,0,XI _,rfl,rfl,Ab ⟨rfl,by simp,Y' _⟩,XC _ _ _ _,x,G2 _ _⟩
 case round=>
  obtain⟨i,D,st,g,hi,rfl,rfl,q,ho,v,I⟩:=hrel;have ac:=I.o.size
  by_cases hlt:i<n
  ·have U:=Ab (Jc b k st wr v.o (by have:=q.o.2.2;omega))
   have r:Hid (E5 (n-i) g st=((1,Pp (g+Lib.unzigzag (Fg st).1),str []) :: (E5 (n-(i+1)) (Pp (g+Lib.unzigzag (Fg st).1)) (Fg st).2).1,(E5 (n-(i+1)) (Pp (g+Lib.unzigzag (Fg st).1)) (Fg st).2).2)):=Ab (by obtain⟨m,hm⟩:∃m,n-i=m+1:=⟨n-i-1,by omega⟩;rw[hm,show n-(i+1)=m by omega];rfl)
   have W:=Ab (cN st);have X:=Ab (gV (Fg st).1 (aW st));generalize Fg st=R at *;obtain⟨N,st1⟩:=R;simp only at U r W X;rw[<-AAw] at r;generalize Lib.unzigzag N=N at *;go_wp2_with fail;apply U.o.mono;rintro e w1⟨rfl,z,p⟩;have ab:=p.size;have o:=Ab (Dc ho.o Y p);go_wp2_with fail;refine(X.o _).mono ?_;rintro e T⟨rfl,rfl⟩;generalize aa:wrap64 (g+N)=c at *;go_wp2_with (at_builtin;refine wpList_append_own _ rfl _ _ 71 rfl w.1.size 67 M (.agg #[Zi 0,Zi 0,.string ⟨#[]⟩]) 3 32 underlying71 a.o.1 a.o.2.1 a.o.2.2.1 a.o.2.2.2 rfl (by decide) _ _ _ rfl (o.o.alloc _) (Zd T.1.size 0) 1 1 [Zi 1,Zi c,.string ⟨#[]⟩] rfl rfl ?c1 ?c2 ?c3 ?c4 ?c5 ?_)
   case c1=>exact λj u hj=>XM (Yac _ _) j u hj
   case c2=>exact Hf [(1,c,⟨#[]⟩)]
   case c3=>unfold maxLen;omega
   case c4=>omega
   case c5=>simp;omega
   intro v2 w2 J t _;have G:=(z.alloc (Zk #[Zi 1,Zi c,Zt ⟨#[]⟩] 67)).app (o.o.alloc _) Y t;have y:=Hj (AL0 (Al I.o p) (Zk #[Zi 1,Zi c,Zt ⟨#[]⟩] 67)) (o.o.alloc _) (Y' _) t;go_wp2;refine⟨⟨i+1,D++[(1,c,str [])],st1,c,by omega,by go_num,rfl,Ab ⟨by simp[q.o.1],?_,?_⟩,Ab (by rw[Jk];exact J),Ab G,Ab y⟩,by simp[intOf];omega⟩
   ·rw[q.o.2.1,r.o];simp
   have h1:=W.o;have h2:=q.o.2.2;exact XF h1 h2
  have e:i=n:=by omega
  subst e;have r:Hid (E5 i 0 s=(D,st)):=Ab (by rw[q.o.2.1,YO];simp[E5]);go_wp2;go_ret;rw[r.o];exact⟨_,rfl,by rw[show (D,st).1.length=i from q.o.1];exact ho.o,v.o,I.o⟩
theorem Ps(k:Int):∀(n:Nat)(s:St),(Cn k n s).1.length=n
 | 0,_=>rfl
 | n+1,s=>by simp[Cn,Ps k n]
theorem Xg(k:Int):∀(n:Nat)(s:St),(Cn k n s).2.1.length<=s.1.length
 | 0,_=>Y' _
 | n+1,s=>XF (Xg k n _) (Ja k s)
theorem ABm(b n:Nat)(k:Int)(s:St)(w:Tw)(hr:Rd w b k s)(hl:s.1.length<=1000000)(hn:n<=1000):
 Zc 326 #[Zp (some (Zd b 0)),Zi n] w λe w'=>∃v',e=Zr v'/\w'.ownsRow w.1.size 67 3 v' (Nw k n s).1.length (AKn (Nw k n s).1)/\Rd w' b k (Nw k n s).2/\w.grownBy w' (some b):=by
 obtain⟨ay,G,I,t,v⟩:=info_parts Ip;have c:=Zy G I t v;clear G I t v;have hb:=hr.lt;have HC:=Ab (O0 b k n s w hr hl (by omega) (by omega));have aw:=Ld n s;have ak:=F4 n s;have HW:Hid (Nw k n s=Ec (Cn k (Am n s).1 (Am n s).2).1 n [] (Cn k (Am n s).1 (Am n s).2).2):=Ab rfl;rw[HW.o];generalize Am n s=R at *;obtain⟨m,st1⟩:=R;simp only at aw ak;have HV:=Ab (λW hW=>Lb b m k st1 W hW (by omega) (by omega));have al:=Ps k m st1;have am:=Xg k m st1;clear HW hr;generalize Cn k m st1=Q at *;obtain⟨d,st2⟩:=Q;simp only at al am HV;have a4:d.length<=1000:=by omega
 clear al;go_enter func326,ntmps326;go_wp2_with fail;apply HC.o.mono;rintro e w1⟨rfl,ae,U⟩;go_wp2_with fail;refine(HV.o _ ae).mono ?_;rintro e w2⟨vd,rfl,T,af,X⟩;have D:=Al U X;have a5:=U.size;have a6:=X.size;have ab:=Ab T;have ao:=Ab af;have ac:=Ab D;obtain⟨ad,cd,rfl,a3,ag⟩:=Cy T;have a1:=Ab ag;clear T af U X ae D ag;go_wp2
 go_loopw [6,7,16] (λvl _ vi wr=>∃(i:Nat)(A:List V)(st:St),i<=n/\vi=Zi i/\Hid (A.length=i/\Ec d n [] st2=Ec d (n-i) A st/\st.1.length<=s.1.length)/\Hid (wr.ownsRow w2.1.size 67 3 vl i (AKn A))/\Hid (wr.ownsRow w1.1.size 67 3 (Zs ad d.length cd) d.length (AKn d))/\Hid (Rd wr b k st)/\Hid (w2.grownBy wr (some b))) (λ_ _ vi _=>n-(intOf vi).toNat)
 case atStart=>exact⟨0,[],st2,XI _,rfl,Ab ⟨rfl,by simp,XF am ak⟩,XC _ _ _ _,ab,ao,G2 _ _⟩
 case round=>
  obtain⟨i,A,st,hi,rfl,P,ho,hd,aj,hg⟩:=hrel;have a8:=hg.o.size
  by_cases hlt:i<n
  ·have aa:=Ab (O0 b k ((d.length:Int)-1) st wr aj.o (by have:=P.o.2.2;omega) (by omega) (by omega))
   obtain⟨m1,ai⟩:∃m1,n-i=m1+1:=⟨n-i-1,by omega⟩
   have N:Hid (Ec d (n-i) A st=if (Am ((d.length:Int)-1) st).2.2 then ([],(Am ((d.length:Int)-1) st).2) else Ec d (n-(i+1)) (A++[d[(Am ((d.length:Int)-1) st).1]?.getD (0,0,str [])]) (Am ((d.length:Int)-1) st).2):=Ab (by rw[ai,show n-(i+1)=m1 by omega];rfl)
   have ah:=Ld ((d.length:Int)-1) st;have r:=F4 ((d.length:Int)-1) st
   have f:(Am ((d.length:Int)-1) st).2.2=false->(Am ((d.length:Int)-1) st).1<d.length:=λh=>by
    cases hbb:Ra ((d.length:Int)-1) st with
    | true=>rw[Qd hbb] at h;cases h
    | false=>rw[U0 hbb];simp only[Ra,Bool.or_eq_false_iff,decide_eq_false_iff_not] at hbb;omega
   clear ai;generalize Am ((d.length:Int)-1) st=R at *;obtain⟨x,st3,q⟩:=R;simp only at ah r f;cases q with
   | true=>have p:Hid (Ec d n [] st2=([],(st3,true))):=Ab (by rw[P.o.2.1,N.o];rfl);clear f;go_wp2_with fail;apply aa.o.mono;rintro e z⟨rfl,a,l⟩;obtain⟨q0,q1,q2,z1,z2⟩:=G9 a;have o:=Ab a;clear a;go_wp2_with fail;refine(E9 b k _ z o.o).mono ?_;rintro e z⟨rfl,rfl⟩;go_wp2;go_ret;rw[p.o];exact⟨_,rfl,XC _ _ _ _,o.o,Al ac.o (Al hg.o l)⟩
   | false=>
     have ax:=f rfl;obtain⟨⟨J,L,M⟩,hx⟩:=Hk ax;have p:Hid (Ec d n [] st2=Ec d (n-(i+1)) (A++[(J,L,M)]) (st3,false)):=Ab (by rw[P.o.2.1,N.o];simp[hx]);have HX:=Ab hx;clear f N;go_wp2_with fail;apply aa.o.mono;rintro e z⟨rfl,a,l⟩;have a7:=l.size;obtain⟨q0,q1,q2,z1,z2⟩:=G9 a;have y:=Ab (Dc ho.o (by omega) l);have g:=Dc hd.o (by omega) l;have an:=Ab g;obtain⟨gd,a2,O,az,a0⟩:=g.form (by omega);injection O with O _ ap;subst O ap;obtain⟨f0,f1,f2⟩:=Hr HX.o;have y0:z.cell? (Zd gd (x*3))=some (Zi J):=(g.cellAt _ (by omega)).trans f0;have y1:z.cell? (Zd gd (x*3+1))=some (Zi L):=(g.cellAt _ (by omega)).trans f1;have y2:z.cell? (Zd gd (x*3+2))=some (Zt M):=(g.cellAt _ (by omega)).trans f2;have o:=Ab a;clear a g f0 f1 f2;have a9:(x:Int)<(d.length:Int):=by omega
     go_wp2_with fail;refine(E9 b k _ z o.o).mono ?_;rintro e z⟨rfl,rfl⟩;go_wp2_with (at_builtin;refine wpList_append_own _ rfl _ _ 71 rfl w2.1.size 67 ay (.agg #[Zi 0,Zi 0,.string ⟨#[]⟩]) 3 32 underlying71 c.o.1 c.o.2.1 c.o.2.2.1 c.o.2.2.2 rfl (by decide) _ _ _ rfl (y.o.alloc _) (Zd z.1.size 0) 1 1 [Zi J,Zi L,.string M] rfl rfl ?c1 ?c2 ?c3 ?c4 ?c5 ?_)
     case c1=>exact λj u hj=>XM (Yac _ _) j u hj
     case c2=>exact Hf [(J,L,M)]
     case c3=>unfold maxLen;omega
     case c4=>omega
     case c5=>simp;omega
     intro v4 w4 av Y _;have ar:=(o.o.alloc (Zk #[Zi J,Zi L,Zt M] 67)).app (y.o.alloc _) (by omega) Y;have aq:=Hj (AL0 (Al hg.o l) (Zk #[Zi J,Zi L,Zt M] 67)) (y.o.alloc _) (Y' _) Y;have au:=N4 (an.o.alloc (Zk #[Zi J,Zi L,Zt M] 67)) (H:=w2.1.size) (λj hj=>by have:=(ab.o.lt j hj).2;omega) (y.o.alloc _) Y;go_wp2;refine⟨⟨i+1,A++[(J,L,M)],(st3,false),by omega,by go_num,Ab ⟨by simp[P.o.1],p.o,?_⟩,Ab (by rw[Jk];exact av),Ab au,Ab ar,Ab aq⟩,by simp[intOf];omega⟩;have h2:=P.o.2.2;exact XF r h2
  have e:i=n:=by omega
  subst e;have HE:Hid (Ec d i [] st2=(A,st)):=Ab (by rw[P.o.2.1,YO];simp[Ec]);go_wp2;go_ret;rw[HE.o];exact⟨_,rfl,by rw[show (A,st).1.length=i from P.o.1];exact Ai ho.o (by omega),aj.o,Al ac.o hg.o⟩
def mu(w:World)(b:Nat):Nat :=
 match w.cell? ⟨b,0,none⟩,w.cell? ⟨b,1,none⟩ with
 | some (.string t),some (.bool false)=>t.size+1
 | _,_=>0
theorem AIg{b:Nat}{l:List UInt8}(h:Rd w b k (l,false)):mu w b=l.length+1:=by obtain⟨_,c1,a,_,_⟩:=G9 h;unfold mu;rw[c1,a];simp[Ds]
theorem AJ5{b:Nat}{l:List UInt8}(h:Rd w b k (l,true)):mu w b=0:=by obtain⟨_,c1,a,_,_⟩:=G9 h;unfold mu;rw[c1,a]
theorem Lj{n f:Nat}{st:St}(h:¬(D.length<n/\st.2=false)):G7 k n f D st=(D,st):=by
 cases f with
 | zero=>rfl
 | succ f=>rw[G7,Yad h]
theorem Sr{n f:Nat}{st:St}(h:D.length<n/\st.2=false):G7 k n (f+1) D st=G7 k n f (rM k n D st) (Qy k n D st):=by rw[G7,Yae h]
theorem AF6(b n:Nat)(k:Int)(s:St)(w:Tw)(hr:Rd w b k s)(hl:s.1.length<=1000000)(hn:n<=1000):
 Zc 325 #[Zp (some (Zd b 0)),Zi n] w λe w'=>∃v',e=Zr v'/\w'.ownsRow w.1.size 67 3 v' (G7 k n (s.1.length+2) [] s).1.length (AKn (G7 k n (s.1.length+2) [] s).1)/\Rd w' b k (G7 k n (s.1.length+2) [] s).2/\w.grownBy w' (some b):=by
 obtain⟨a0,x,z,m,o⟩:=info_parts Ip;have c:=Zy x z m o;clear x z m o;have hb:=hr.lt;have ak:=Ab hr;clear hr;go_enter func325,ntmps325;go_wp2
 go_loopw [5] (λvl wr=>∃(f:Nat)(D:List V)(st:St),Hid (G7 k n (s.1.length+2) [] s=G7 k n f D st/\(st.2=false->st.1.length<f)/\st.1.length<=s.1.length/\D.length<=n)/\Hid (wr.ownsRow w.1.size 67 3 vl D.length (AKn D))/\Hid (Rd wr b k st)/\Hid (w.grownBy wr (some b))) (λ_ wr=>mu wr b)
 case atStart=>exact⟨s.1.length+2,[],s,Ab ⟨rfl,λ_=>by omega,Y' _,by simp⟩,XC _ _ _ _,ak,G2 _ _⟩
 case round=>
  obtain⟨f,D,⟨l,sq⟩,T,ho,a,hg⟩:=hrel;have a6:=hg.o.size;have a3:=T.o.2.2.2;have ax:=T.o.2.2.1;simp only at ax;obtain⟨ad,cd,rfl,_,_⟩:=Cy ho.o;obtain⟨q0,q1,q2,z1,z2⟩:=G9 a.o;simp only at q2
  by_cases hlt:D.length<n
  ·cases sq with
   | true=>have HE:Hid (G7 k n (s.1.length+2) [] s=(D,(l,true))):=Ab (by rw[T.o.1,Lj (by simp)]);go_wp2_with fail;refine(E9 b k _ wr a.o).mono ?_;rintro e wr⟨rfl,rfl⟩;go_wp2;go_ret;rw[HE.o];exact⟨_,rfl,ho.o,a.o,hg.o⟩
   | false=>
     have ab:=T.o.2.1 rfl;have ai:=Ab (AIg a.o);obtain⟨f1,rfl⟩:∃f1,f=f1+1:=⟨f-1,by simp only at ab;omega⟩;have HG:Hid (G7 k n (s.1.length+2) [] s=G7 k n f1 (rM k n D (l,false)) (Qy k n D (l,false))):=Ab (by rw[T.o.1,Sr ⟨hlt,rfl⟩]);have em:((n-D.length:Nat):Int)=(n:Int)-(D.length:Int):=by omega
     have HC:=O0 b k ((n-D.length:Nat):Int) (l,false) wr a.o (by simp only;omega) (by omega) (by omega);have M:=Ld ((n-D.length:Nat):Int) (l,false);have ay:=F4 ((n-D.length:Nat):Int) (l,false);have N:=@eG ((n-D.length:Nat):Int) (l,false);have HL:Hid (rM k n D (l,false)=D++List.replicate (Am ((n-D.length:Nat):Int) (l,false)).1 (Dy k (Am ((n-D.length:Nat):Int) (l,false)).2).1):=Ab rfl;have HT:Hid (Qy k n D (l,false)=(Dy k (Am ((n-D.length:Nat):Int) (l,false)).2).2):=Ab rfl;rw[HL.o,HT.o] at HG;generalize Am ((n-D.length:Nat):Int) (l,false)=R at *;obtain⟨rn,s1⟩:=R;simp only at M ay N HG;rw[em] at HC M;have HC:=Ab HC;have HV:=Ab (λW hW=>lI b k s1 W hW (by omega));have az:=Ja k s1;have O:=@Sh k s1;generalize Dy k s1=Q at *;obtain⟨⟨p,q,r⟩,⟨af,P⟩⟩:=Q;simp only at az O HG HV;have a4:rn<=n-D.length:=by omega
     have av:(D.length:Int)<(n:Int):=by omega
     clear HL HT em M;go_wp2_with fail;refine(E9 b k _ wr a.o).mono ?_;rintro e wr⟨rfl,rfl⟩;go_wp2_with fail;apply HC.o.mono;rintro e w1⟨rfl,Y,ac⟩;go_wp2_with fail;refine(HV.o _ Y).mono ?_;rintro e G⟨rfl,aa,ae⟩;have d:=Al ac ae;have a5:=d.size;have U:=Ab (Dc ho.o hb d);have ah:=Ab (Al hg.o d);have al:=Ab aa;have ag:Hid ((G.alloc (Zk #[Zi p,Zi q,Zt r] 67)).1[G.1.size]? = some (Zk #[Zi p,Zi q,Zt r] 67)):=Yac _ _;have aj:Hid (∀j,(Value.slice ad D.length cd).ownBlock=some j->j≠G.1.size):=Ab λj hj=>by have:=(U.o.lt j hj).2;omega
     clear aa d ac ae Y;go_wp2
     go_loopw [5,30] (λvl vi wi=>∃j:Nat,j<=rn/\vi=Zi j/\Hid (wi.ownsRow w.1.size 67 3 vl (D.length+j) (AKn (D++List.replicate j (p,q,r))))/\Hid (∀i,vl.ownBlock=some i->i≠G.1.size)/\Hid (wi.1[G.1.size]? = some (Zk #[Zi p,Zi q,Zt r] 67))/\Hid (Rd wi b k (af,P))/\Hid (w.grownBy wi (some b))) (λ_ vi _=>rn-(intOf vi).toNat)
     case atStart=>exact⟨0,XI _,rfl,Ab (by simpa using U.o.alloc _),aj,ag,Ab (al.o.alloc _),Ab (AL0 ah.o _)⟩
     case round=>
      obtain⟨j,hj,rfl,t,y,I,v,L⟩:=hrel;have a2:=L.o.size
      by_cases hjl:j<rn
      ·obtain⟨y0,y1,y2⟩:=Ei I.o
       have au:=Ac I.o;go_wp2_with (at_builtin;refine wpList_append_lies _ rfl _ _ 71 rfl w.1.size 67 a0 (.agg #[Zi 0,Zi 0,.string ⟨#[]⟩]) 3 32 underlying71 c.o.1 c.o.2.1 c.o.2.2.1 c.o.2.2.2 rfl (by decide) _ _ _ rfl (t.o.alloc _) (Zd wr.1.size 0) 1 1 [Zi p,Zi q,.string r] rfl rfl ?c1 ?c2 ?c3 ?c4 ?c5 ?c6 _ rfl ?_)
       case c1=>exact λj u hj=>XM (Yac _ _) j u hj
       case c2=>exact Hf [(p,q,r)]
       case c3=>omega
       case c4=>unfold maxLen;omega
       case c5=>omega
       case c6=>simp;omega
       intro g am w4 aw J ar a1;have aq:=(v.o.alloc (Zk #[Zi p,Zi q,Zt r] 67)).app (t.o.alloc _) hb J;have ao:=Hj (AL0 L.o (Zk #[Zi p,Zi q,Zt r] 67)) (t.o.alloc _) (Y' _) J;have an:w4.1[G.1.size]? = some (Zk #[Zi p,Zi q,Zt r] 67):=(J.block G.1.size (by simp;omega) (λe=>y.o _ e.symm rfl)).trans ((XQ _ _ _ au).trans I.o)
       have ap:∀i,(Value.slice (some (Zd g 0)) (D.length+j+1) am).ownBlock=some i->i≠G.1.size:=λi hi=>by
        have e:g=i:=by simpa[Value.ownBlock] using hi
        subst e
        rcases ar with h|h
        ·exact y.o _ h
        omega
       go_wp2;refine⟨⟨j+1,by omega,by go_num,Ab ?_,Ab ap,Ab an,Ab aq,Ab ao⟩,by simp[intOf];omega⟩;rw[List.replicate_succ',<-XD,Jk];exact aw
      have ej:j=rn:=by omega
      subst ej;go_wp2;refine⟨⟨f1,D++List.replicate j (p,q,r),(af,P),Ab ⟨HG.o,?_,?_,?_⟩,Ab (by rw[XA,XP];exact t.o),v,L⟩,?_⟩
      ·intro h
       have h1:s1.2=false:=by cases X:s1.2 with
        | false=>rfl
        | true=>have:=O X;rw[this] at h;cases h
       have X:=N h1;simp only at ab ⊢;omega
      ·simp only;omega
      ·rw[XA,XP];omega
      rw[ai.o];cases P with
      | true=>rw[AJ5 v.o];omega
      | false=>
        rw[AIg v.o]
        have h1:s1.2=false:=by cases X:s1.2 with
         | false=>rfl
         | true=>have:=O X;cases this
        have X:=N h1;omega
  have HE:Hid (G7 k n (s.1.length+2) [] s=(D,(l,sq))):=Ab (by rw[T.o.1,Lj (by simp[hlt])]);have av:¬(D.length:Int)<(n:Int):=by omega
  go_wp2;go_ret;rw[HE.o];exact⟨_,rfl,ho.o,a.o,hg.o⟩
theorem lK{k:Int}{n:Nat}:∀(f:Nat)(D:List V)(s:St),(s.2=false->s.1.length<f)->D.length<=n->(G7 k n f D s).2.2=false->(G7 k n f D s).1.length=n
 | 0,D,s,hf,hd,h=>by rw[G7] at h;have:=hf h;omega
 | f+1,D,s,hf,hd,h=>by
   by_cases hc:D.length<n/\s.2=false
   ·rw[Sr hc] at h ⊢
    have c:=Ld ((n-D.length:Nat):Int) s;refine lK f _ _ (λa=>?_) ?_ h
    ·have b:(Am ((n-D.length:Nat):Int) s).2.2=false:=by
      cases h4:(Am ((n-D.length:Nat):Int) s).2.2 with
      | false=>rfl
      | true=>have:=Sh (kind:=k) h4;rw[Qy,this] at a;cases a
     have d:=eG b;have e:=Ja k (Am ((n-D.length:Nat):Int) s).2;have g:=hf hc.2;show (Qy k n D s).1.length<f;unfold Qy;omega
    unfold rM;rw[XA,XP];omega
   rw[Lj hc] at h ⊢;simp only at h ⊢;have:¬D.length<n:=λa=>hc ⟨a,h⟩
   omega
theorem W4{d:List V}:∀(n:Nat)(A:List V)(s:St),(Ec d n A s).2.2=false->(Ec d n A s).1.length=A.length+n
 | 0,A,s,_=>rfl
 | n+1,A,s,h=>by
   rw[Ec] at h ⊢;split at h
   ·rename_i h2;simp only at h;rw[h] at h2;cases h2
   rename_i h2;rw[Yad h2,W4 n _ _ h];simp;omega
theorem fI:∀(n:Nat)(a:Int)(s:St),(E5 n a s).1.length=n
 | 0,_,_=>rfl
 | n+1,a,s=>by simp[E5,fI n]
theorem xC{k:Int}{i n:Nat}{s:St}(h:(Gs k i n s).2.2=false):(Gs k i n s).1.length=n:=by
 unfold Gs at h ⊢;split
 ·exact Ps k n s
 split
 ·rename_i h1 h2
  rw[Yad h1,Yae h2] at h;exact lK _ _ _ (λ_=>by omega) (by simp) h
 split
 ·rename_i h1 h2 h3
  rw[Yad h1,Yad h2,Yae h3] at h;have:=W4 n [] _ h;unfold Nw;rw[this];simp
 split
 ·exact fI n 0 s
 rename_i h1 h2 h3 h4;rw[Yad h1,Yad h2,Yad h3,Yad h4] at h;cases h
theorem AAc(b a n:Nat)(k:Int)(s:St)(w:Tw)(h:Rd w b k s)(j:s.1.length<=1000000)(l:n<=1000):
 Zc 299 #[Zp (some (Zd b 0)),Zi a,Zi n] w λe q=>∃v',e=Zr v'/\q.ownsRow w.1.size 67 3 v' (Gs k a n s).1.length (AKn (Gs k a n s).1)/\Rd q b k (Gs k a n s).2/\w.grownBy q (some b):=by
 have r:=Ab (Lb b n k s w h j l);have H1:=Ab (AF6 b n k s w h j l);have H2:=Ab (ABm b n k s w h j l);have H3:=Ab (ADk b n k s w h j l);obtain⟨D,G,I,J,L⟩:=G9 h;have t:=Ab h;clear h;have v:a=0\/a=1\/a=2\/a=3\/4<=a:=by omega
 rcases v with rfl|rfl|rfl|rfl|u
 ·have c:Hid (Gs k 0 n s=Cn k n s):=Ab rfl
  rw[c.o];go_enter func299,ntmps299;go_wp2_with (go_at_call 324;apply r.o.mono;rintro e m⟨i,rfl,g,d,f⟩);go_ret;exact⟨i,rfl,g,d,f⟩
 ·have c:Hid (Gs k 1 n s=G7 k n (s.1.length+2) [] s):=Ab rfl
  rw[c.o];go_enter func299,ntmps299;go_wp2_with (go_at_call 325;apply H1.o.mono;rintro e m⟨i,rfl,g,d,f⟩);go_ret;exact⟨i,rfl,g,d,f⟩
 ·have c:Hid (Gs k 2 n s=Nw k n s):=Ab rfl
  rw[c.o];go_enter func299,ntmps299;go_wp2_with (go_at_call 326;apply H2.o.mono;rintro e m⟨i,rfl,g,d,f⟩);go_ret;exact⟨i,rfl,g,d,f⟩
 ·have c:Hid (Gs k 3 n s=E5 n 0 s):=Ab rfl
  rw[c.o];go_enter func299,ntmps299;go_wp2_with (go_at_call 327;apply H3.o.mono;rintro e m⟨i,rfl,g,d,f⟩);go_ret;exact⟨i,rfl,g,d,f⟩
 have c:Hid (Gs k a n s=([],(s.1,true))):=Ab (by unfold Gs;rw[Yad (by omega),Yad (by omega),Yad (by omega),Yad (by omega)]);rw[c.o];have x:((a:Int)==0)=false:=by simp;omega
 have y:((a:Int)==1)=false:=by simp;omega
 have z:((a:Int)==2)=false:=by simp;omega
 have b3:((a:Int)==3)=false:=by simp;omega
 clear u r H1 H2 H3;go_enter func299,ntmps299;go_wp2_with fail;refine(yM b k s w t.o).mono ?_;rintro e m⟨rfl,o,p⟩;go_wp2;go_ret;exact⟨_,rfl,XC _ _ _ _,o,p⟩
theorem AJn:(prog.info? 3).map (λi=>(i.zero,i.size,i.bytes))=some (some (Zi 0),1,8):=by kernel_rfl
theorem cV{n:Nat}{s:St}(h:(C8 n s).2.2=false):(C8 n s).1.length=n/\s.2=false:=by
 unfold C8 at h ⊢;split
 ·rename_i h2;rw[Yae h2] at h;cases h
 rename_i h2;rw[Yad h2] at h;exact⟨by simp;omega,h⟩
theorem ADt(n:Nat):(madeCells (#[Zi 0,Zi 0,Zt ⟨#[]⟩]:Array Tv) (n*3)).toList=AKn (List.replicate n (0,0,str [])):=by
 apply List.ext_getElem?;intro j
 by_cases hj:j<n*3
 ·have f:(List.replicate n ((0,0,str []):V))[j / 3]? = some (0,0,str []):=by rw[List.getElem?_replicate,Yae (by omega)]
  obtain⟨b,c,d⟩:=Hr f;have a:j % 3=0\/j % 3=1\/j % 3=2:=by omega
  have e:(madeCells (#[Zi 0,Zi 0,Zt ⟨#[]⟩]:Array Tv) (n*3)).toList[j]? = some ((#[Zi 0,Zi 0,Zt ⟨#[]⟩]:Array Tv)[j % 3]!):=by simp[madeCells,hj]
  rw[e]
  rcases a with a|a|a
  ·rw[show j / 3*3=j by omega] at b
   rw[b,a];rfl
  ·rw[show j / 3*3+1=j by omega] at c
   rw[c,a];rfl
  rw[show j / 3*3+2=j by omega] at d;rw[d,a];rfl
 have e:(madeCells (#[Zi 0,Zi 0,Zt ⟨#[]⟩]:Array Tv) (n*3)).toList[j]? = none:=by simp[madeCells,hj]
 rw[e,Yb (by rw[K3];simp;omega)]
theorem Po(nb:List UInt8):∀k p,p∈B8 nb k->p<k
 | 0,p,h=>by simp[B8] at h
 | k+1,p,h=>by
   unfold B8 at h;split at h
   ·simp at h
    rcases h with h|rfl
    ·have:=Po nb k p h;omega
    omega
   have:=Po nb k p h;omega
theorem Us(nb:List UInt8):∀k,(B8 nb k).length<=k
 | 0=>by simp[B8]
 | k+1=>by have:=Us nb k;unfold B8;split <;> simp <;> omega
theorem Pf(l:List V)(a:List V):F0 l [] a=l:=by cases a <;> rfl
theorem Xp:∀(l:List V)(a:List Nat)(b:List V)(i p:Nat)(x:V),a[i]? = some p->b[i]? = some x->F0 l (a.take (i+1)) (b.take (i+1))=(F0 l (a.take i) (b.take i)).set p x
 | l,[],b,i,p,x,h,_=>by simp at h
 | l,q :: a,[],i,p,x,_,h=>by simp at h
 | l,q :: a,y :: b,0,p,x,h1,h2=>by simp at h1 h2;subst h1 h2;simp[F0]
 | l,q :: a,y :: b,i+1,p,x,h1,h2=>by have e:=Xp (l.set q y) a b i p x (by simpa using h1) (by simpa using h2);simp only[X6,F0];exact e
theorem Rm:∀(l:List V)(a:List Nat)(b:List V),(F0 l a b).length=l.length
 | l,[],b=>by rw[Pf]
 | l,q :: a,[]=>rfl
 | l,q :: a,y :: b=>by rw[F0,Rm];simp
def Mo(l:List Nat):List Value:=l.map λ(x:Nat)=>Value.int .i64 (x:Int)
theorem oX(l:List Nat):∀y∈Mo l,y.oneCell'=true:=by intro y a;simp only[Mo,WR] at a;obtain⟨x,_,rfl⟩:=a;rfl
theorem and_one(x:Nat)(h:x<256):bits .and .u8 (x:Int) 1=((x % 2:Nat):Int):=by have:=bits_mask .u8 8 (by decide) wraps_u8 1 (by decide) (x:Int) (by omega) (by omega);simpa using this
theorem dA{nb:List UInt8}{k:Nat}(h:gF nb k=0):B8 nb (k+1)=B8 nb k++[k]:=by rw[B8,Yae h]
theorem lF{nb:List UInt8}{k:Nat}(h:¬gF nb k=0):B8 nb (k+1)=B8 nb k:=by rw[B8,Yad h]
theorem AJK(nb:List UInt8)(q:Nat)(h:q<(str nb).size):(str nb)[q].toNat=(nb[q]?.getD 0).toNat:=by
 have a:q<nb.length:=by rw[Ds] at h;exact h
 rw[XB a];rfl
theorem Ak{B e z n:Nat}{xs:List Tv}(h:w.ownsRow B e z v n xs):∃b a,v=Zs b n a/\n<=a:=by
 rcases h.2 with⟨rfl,rfl⟩|⟨g,c,d,f,j,k,i,_⟩
 ·exact⟨none,0,rfl,Y' _⟩
 exact⟨_,_,f,i⟩
theorem Rl(b:Nat)(k:Int)(l:List UInt8)(w:Tw)(hr:Rd w b k (l,false))(hl:l.length<=1000000):
 Zc 256 #[Zp (some (Zd b 0))] w λe w'=>∃v' a1,e=Zr v'/\Rd w' b k a1/\a1.2=(Lr k l).2/\(a1.2=false->w'.ownsRow w.1.size 67 3 v' (Lr k l).1.length (AKn (Lr k l).1))/\w.grownBy w' (some b):=by
 obtain⟨ci,ac,ah,v,x⟩:=info_parts Ip;have m:=Zy ac ah v x;obtain⟨i3,bj,bs,ae,ag⟩:=info_parts AJn;have M:=Zy bj bs ae ag;clear ac ah v x bj bs ae ag;have hb:=hr.lt;have G:Hid _:=Ab (O0 b k 60 (l,false) w hr hl (by omega) (by omega));have ax:=Ld 60 (l,false);have bp:=F4 60 (l,false);have c:Hid (Lr k l=if (cB l).2.2 then ([],true) else if (nS k l).2.2 then ([],true) else (F0 (List.replicate (V6 l).1 (0,0,str [])) (xX l) (nS k l).1,false)):=Ab rfl;have HN:Hid (V6 l=Am 60 (l,false)):=Ab rfl;have HB:Hid (Bv l=C8 (((V6 l).1+7) / 8) (V6 l).2):=Ab rfl;have HW:Hid (cB l=C8 1 (Bv l).2):=Ab rfl;have HP:Hid (xX l=B8 (Bv l).1 (V6 l).1):=Ab rfl;have ak:Hid (nS k l=Gs k ((cB l).1[0]?.getD 0).toNat (xX l).length (cB l).2):=Ab rfl;rw[<-HN.o] at G ax bp;generalize V6 l=R1 at *;obtain⟨n,s1⟩:=R1;simp only at ax bp HB HP G c;have I:=Ab (λW hW=>V0 b ((n+7) / 8) k s1 W hW (by omega) (by omega));have bd:=Ji ((n+7) / 8) s1;have T:=@cV ((n+7) / 8) s1;rw[<-HB.o] at I bd T;generalize Bv l=R2 at *;obtain⟨nb,s2⟩:=R2;simp only at bd T HW HP I;have J:=Ab (λW hW=>V0 b 1 k s2 W hW (by omega) (by omega));have au:=Ji 1 s2;have U:=@cV 1 s2;rw[<-HW.o] at J au U;generalize cB l=R3 at *;obtain⟨wb,s3⟩:=R3;simp only at au U ak J c;have a2:=Ab (Xb n (by omega));have cr:n<=60:=by omega
 clear hr HN HB HW ax;go_enter func256,ntmps256;go_wp2_with fail;apply G.o.mono;rintro e w1⟨rfl,ba,bg⟩;go_wp2_with fail;have a8:Hid (Rd w1.drew b k s1):=Ab ba
 go_region_with
  (first
    | (go_at_call 268;refine(a2.o _).mono ?_;rintro e dk⟨rfl,rfl⟩)
    | (go_at_call 250;refine(I.o _ a8.o).mono ?_;rintro e w2⟨rfl,bb,bh⟩))
 go_wp2_with fail;refine(J.o _ bb).mono ?_;rintro e f⟨rfl,aq,bi⟩;have aj:=Ab (Al bg (Al (Al (Cr ((XG _ _).drew)) bh) bi));obtain⟨q0,q1,q2,z1,z2⟩:=G9 aq;have r:=Ab aq;clear bg bh bi ba bb aq;obtain⟨o,cj⟩:=s3;simp only at q1 q2 au;cases cj with
 | true=>have HE:Hid (Lr k l=([],true)):=Ab (by rw[c.o];rfl);go_wp2_with fail;refine(E9 b k _ f r.o).mono ?_;rintro e f⟨rfl,rfl⟩;go_wp2;go_ret;exact⟨_,(o,true),rfl,r.o,by rw[HE.o],(λh=>by cases h),aj.o⟩
 | false=>
   obtain⟨br,cc⟩:=U rfl;obtain⟨bk,dc⟩:=T cc;have HQ:=Ab (AJK nb);have bl:(str nb).size=(n+7) / 8:=by rw[Ds,bk]
   obtain⟨c0,cg⟩:∃c0,wb=[c0]:=by
    match wb,br with
    | [c0],_=>exact⟨c0,rfl⟩
   subst cg;have ad:∀i,i<n->i / 8<(str nb).size:=λi hi=>by rw[bl];omega
   have bv:=Ab ad;have cs:(str nb).size<=100:=by omega
   generalize str nb=Y at *;clear T U bl ad G I J a2 br bk;go_wp2_with fail;refine(E9 b k _ f r.o).mono ?_;rintro e f⟨rfl,rfl⟩;go_wp2_with (refine wpList_make_full _ rfl _ _ 71 rfl f.1.size 67 ci (.agg #[Zi 0,Zi 0,.string ⟨#[]⟩]) 3 underlying71 m.o.1 m.o.2.1 m.o.2.2.1 .i64 .i64 _ _ n rfl rfl rfl rfl ?m1 ?m2 ?m3 ?_)
   case m1=>rw[m.o.2.2.2];omega
   case m2=>unfold maxLen;omega
   case m3=>exact Y' _
   intro w4 bm d;have a5:Hid (w4.ownsRow f.1.size 67 3 (Zs (some (Zd f.1.size 0)) n n) n (AKn (List.replicate n (0,0,str [])))):=Ab (by rw[<-ADt];exact bm);have ab:f.grownBy w4 (some b):=⟨d.os,d.tape,d.output,d.size,λi hi _=>d.block i hi (by simp)⟩;have bt:=Ab (Al aj.o ab);have a9:Hid (Rd w4 b k (o,false)):=Ab ((d.block b r.o.lt (by simp)).trans r.o);have X:=aj.o.size;have dd:=d.size;have cy:f.1.size<w4.1.size:=(a5.o.lt _ rfl).2;clear bm d ab q0 q1 q2 z1 z2;go_wp2
   go_loopw [7,8,33] (λvp _ vi wr=>∃i:Nat,i<=n/\vi=Zi i/\Hid (wr.ownsRow w4.1.size 3 1 vp (B8 nb i).length (Mo (B8 nb i)))/\Hid (w4.grownBy wr none)) (λ_ _ vi _=>n-(intOf vi).toNat)
   case atStart=>exact⟨0,XI _,rfl,XC _ _ _ _,G2 _ _⟩
   case round=>
    obtain⟨i,hi,rfl,hp,z⟩:=hrel;have ce:=z.o.size;have a7:=Ab (Us nb i)
    by_cases hlt:i<n
    ·have hq:=bv.o i hlt
     have bc:=HQ.o (i / 8) hq;have az:Y[i / 8].toNat<256:=Y[i / 8].toNat_lt;have D:Hid (gF nb i=Y[i / 8].toNat / 2 ^ (i % 8) % 2):=Ab (by unfold gF;rw[bc]);have am:=Ab (@dA nb i);have al:=Ab (@lF nb i);generalize cb:i / 8=q at *;have da:(i:Int) / 8=(q:Int):=by omega
     have db:(q:Int)<(Y.size:Int):=by omega
     generalize cd:i % 8=sh at *;have dg:(i:Int) % 8=(sh:Int):=by omega
     have df:sh<8:=by omega
     clear cb cd bc;have hE:=and_one (Y[q].toNat / 2 ^ sh) (Nat.lt_of_le_of_lt (Nat.div_le_self _ _) az);have ed:((Y[q].toNat / 2 ^ sh:Nat):Int)=(Y[q].toNat:Int) / 2 ^ sh:=by simp
     rw[ed] at hE;clear ed
     by_cases hbit:Y[q].toNat / 2 ^ sh % 2=0
     ·rw[hbit] at hE
      have ca:=a7.o;have g:=am.o (by rw[D.o];exact hbit);have g:=Ab g;clear hbit am al D;go_wp2_with (at_builtin;refine wpList_append_own _ rfl _ _ 23 rfl w4.1.size 3 i3 (Zi 0) 1 8 underlying23 M.o.1 M.o.2.1 M.o.2.2.1 M.o.2.2.2 rfl (by decide) _ _ _ rfl (hp.o.alloc _) (Zd wr.1.size 0) 1 1 [Zi (i:Int)] rfl rfl ?c1 ?c2 ?c3 ?c4 ?c5 ?_)
      case c1=>exact λj u hj=>XM (Yac _ _) j u hj
      case c2=>exact oX [i]
      case c3=>unfold maxLen;omega
      case c4=>omega
      case c5=>simp;omega
      intro v5 w5 bn b8 _;have b5:=Hj (AL0 z.o (Zk #[Zi (i:Int)] 3)) (hp.o.alloc _) (Y' _) b8;go_wp2;refine⟨⟨i+1,by omega,by go_num,Ab ?_,Ab b5⟩,by simp[intOf];omega⟩;rw[g.o,XA];unfold Mo at bn ⊢;rw[List.map_append];exact bn
     have h1:Y[q].toNat / 2 ^ sh % 2=1:=by omega
     rw[h1] at hE;have g:=al.o (by rw[D.o];exact hbit);have g:=Ab g;clear hbit am al D h1;go_wp2;exact⟨⟨i+1,by omega,by go_num,by rw[g.o];exact hp,z⟩,by simp[intOf];omega⟩
    obtain rfl:i=n:=by omega
    have ca:=a7.o;have b0:=Ab (Po nb i);have aa:Hid (nS k l=Gs k c0.toNat (B8 nb i).length (o,false)):=Ab (by rw[ak.o,HP.o];rfl);rw[HP.o] at c;have b1:Hid (Rd wr b k (o,false)):=Ab ((z.o.block b a9.o.lt (by simp)).trans a9.o);have bu:Hid (w.grownBy wr (some b)):=Ab (Al bt.o ⟨z.o.os,z.o.tape,z.o.output,z.o.size,λj hj _=>z.o.block j hj (by simp)⟩);have bx:Hid (wr.ownsRow f.1.size 67 3 (Zs (some (Zd f.1.size 0)) i i) i (AKn (List.replicate i (0,0,str [])))):=Ab (a5.o.kept z.o (.inr (by simp[Value.ownBlock])));have L:=Ab (AAc b c0.toNat (B8 nb i).length k (o,false) wr b1.o (by simp only;omega) (by omega));have N:=Ab (@xC k c0.toNat (B8 nb i).length (o,false));rw[<-aa.o] at L N;have ch:(str [c0]).size=1:=Ds [c0];have bq:∀h,(str [c0])[0]'h=c0:=λ_=>rfl
    clear ak HP aa;generalize nS k l=R5 at *;obtain⟨F,⟨a0,ck⟩⟩:=R5;simp only at L N c;generalize b6:B8 nb i=P at *;obtain⟨ap,cp,rfl,cx⟩:=Ak hp.o;have b7:(c0.toNat:Int)<256:=by have:=c0.toNat_lt;omega
    have b2:Hid (w4.1.size<=wr.1.size):=Ab ce;clear b6 hlt;generalize str [c0]=ws at *;have di:(0:Int)<(ws.size:Int):=by rw[ch];decide
    have dj:ws[0].toNat=c0.toNat:=by rw[bq]
    clear bq;go_wp2_with fail;apply L.o.mono;rintro e w6⟨vf,rfl,bf,ar,s⟩;have de:=s.size;have a4:=Ab (Al bu.o s);have a6:=Ab (Dc bx.o (by omega) s);have bz:=Ab (Dc hp.o (by omega) s);have a3:=Ab bf;have O:=Ab ar;obtain⟨q0,q1,q2,z1,z2⟩:=G9 ar;simp only at q2;clear bf ar s L;cases ck with
    | true=>have HE:Hid (Lr k l=([],true)):=Ab (by rw[c.o];rfl);go_wp2_with fail;refine(E9 b k _ w6 O.o).mono ?_;rintro e w6⟨rfl,rfl⟩;go_wp2;go_ret;exact⟨_,(a0,true),rfl,O.o,by rw[HE.o],(λh=>by cases h),a4.o⟩
    | false=>
      have R:=N.o rfl;have ai:=Ab R;have HE:Hid (Lr k l=(F0 (List.replicate i (0,0,str [])) P F,false)):=Ab (by rw[c.o];rfl);clear c N;obtain⟨af,cf,rfl,cw⟩:=Ak a3.o;have cl:P.length<=60:=by omega
      clear R;go_wp2_with fail;refine(E9 b k _ w6 O.o).mono ?_;rintro e w6⟨rfl,rfl⟩;go_wp2
      go_loopw [10,11,63] (λ_ _ vi wx=>∃j:Nat,j<=P.length/\vi=Zi j/\Hid (wx.ownsRow f.1.size 67 3 (Zs (some (Zd f.1.size 0)) i i) i (AKn (F0 (List.replicate i (0,0,str [])) (P.take j) (F.take j))))/\Hid (wx.ownsRow w4.1.size 3 1 (Zs ap P.length cp) P.length (Mo P))/\Hid (wx.ownsRow wr.1.size 67 3 (Zs af F.length cf) F.length (AKn F))/\Hid (Rd wx b k (a0,false))/\Hid (w.grownBy wx (some b))) (λ_ _ vi _=>P.length-(intOf vi).toNat)
      case atStart=>exact⟨0,XI _,rfl,a6,bz,a3,O,a4⟩
      case round=>
       obtain⟨j,hj,rfl,a,aw,t,bo,av⟩:=hrel
       by_cases hjl:j<P.length
       ·obtain⟨p,V⟩:=Hk hjl
        obtain⟨⟨kx,nx,tx⟩,ay⟩:=Hk (l:=F) (k:=j) (by have:=ai.o;omega);have c9:p<i:=b0.o p (XH V);obtain⟨gp,cv,ao,co,cq⟩:=aw.o.form (by omega);injection ao with ao _ b4;subst ao b4;have R:=ai.o;obtain⟨gf,cu,an,cm,cn⟩:=t.o.form (by omega);injection an with an _ b3;subst an b3;have y:wr.cell? (Zd gp j)=some (Zi (p:Int)):=(aw.o.cellAt _ (by omega)).trans (by simp[Mo,V]);obtain⟨f0,f1,f2⟩:=Hr ay;have x0:wr.cell? (Zd gf (j*3))=some (Zi kx):=(t.o.cellAt _ (by omega)).trans f0;have x1:wr.cell? (Zd gf (j*3+1))=some (Zi nx):=(t.o.cellAt _ (by omega)).trans f1;have x2:wr.cell? (Zd gf (j*3+2))=some (Zt tx):=(t.o.cellAt _ (by omega)).trans f2;have u0:=a.o.frozenAt (p*3);have u1:=a.o.frozenAt (p*3+1);have u2:=a.o.frozenAt (p*3+2);have b9:=a.o.1;obtain⟨o0,c6⟩:∃y,wr.cell? (Zd f.1.size (p*3))=some y:=⟨_,(a.o.cellAt _ (by omega)).trans (XB (by omega))⟩;obtain⟨o1,c7⟩:∃y,wr.cell? (Zd f.1.size (p*3+1))=some y:=⟨_,(a.o.cellAt _ (by omega)).trans (XB (by omega))⟩;obtain⟨o2,c8⟩:∃y,wr.cell? (Zd f.1.size (p*3+2))=some y:=⟨_,(a.o.cellAt _ (by omega)).trans (XB (by omega))⟩;have bw:=Ab (Xp (List.replicate i (0,0,str [])) P F j p (kx,nx,tx) V ay);have ct:(p:Int)<(i:Int):=by omega
        have cz:(j:Int)<(F.length:Int):=by omega
        have dh:=av.o.size;clear V ay f0 f1 f2 b9 R;go_wp2;have s0:=a.o.stored (p*3) (Zi kx);have s1:=s0.1.stored (p*3+1) (Zi nx);have s2:=s1.1.stored (p*3+2) (Zt tx);have sg:=Al s0.2 (Al s1.2 s2.2);refine⟨⟨j+1,by omega,by go_num,Ab (by rw[bw.o,Ku];exact s2.1),Ab (Dc aw.o (by omega) sg),Ab (Dc t.o (by have:=b2.o;omega) sg),Ab (bo.o.grown sg (by omega)),Ab (C0 (C0 (C0 av.o X _) X _) X _)⟩,by simp[intOf];omega⟩
       have ej:j=P.length:=by omega
       have e1:P.take j=P:=Yf (by omega);have e2:F.take j=F:=Yf (by have:=ai.o;omega);rw[e1,e2] at a;clear ej e1 e2;go_wp2;go_ret;refine⟨_,(a0,false),rfl,bo.o,by rw[HE.o],λ_=>?_,av.o⟩;rw[HE.o];simp only[Rm,XP];exact Ai a.o X
def OkV(x:V):Prop := -9223372036854775808<=x.2.1/\x.2.1<=9223372036854775807/\x.2.2.size<=1000000
theorem sH:OkV (0,0,str []):=⟨by decide,by decide,by rw[show (0,0,str []).2.2=str [] from rfl,Ds];decide⟩
theorem l8(h:s.1.length<=1000000):OkV (Dy k s).1:=by
 unfold Dy;split
 ·have:=AEq (aW s)
  exact⟨this.1,this.2,by rw[show (1,Lib.unzigzag (Fg s).1,str []).2.2=str [] from rfl,Ds];decide⟩
 refine⟨by show (-9223372036854775808:Int)<=0;decide,by show (0:Int)<=_;decide,?_⟩;show (str (C8 (Am 40 s).1 (Am 40 s).2).1).size<=1000000;rw[Ds];have a:=F4 40 s;unfold C8;split
 ·simp
 simp;omega
theorem Rq{k:Int}:∀(n:Nat)(s:St),s.1.length<=1000000->∀x∈(Cn k n s).1,OkV x
 | 0,_,_,x,h=>by simp[Cn] at h
 | n+1,s,hs,x,h=>by
   simp only[Cn,WM] at h
   rcases h with rfl|h
   ·exact l8 hs
   exact Rq n _ (XF (Ja k s) hs) x h
theorem kV:∀(n:Nat)(a:Int)(s:St),∀x∈(E5 n a s).1,OkV x
 | 0,_,_,x,h=>by simp[E5] at h
 | n+1,a,s,x,h=>by
   simp only[E5,WM] at h
   rcases h with rfl|h
   ·have:=N1 (a+Lib.unzigzag (Fg s).1)
    refine⟨this.1,this.2,?_⟩;show (str []).size<=_;rw[Ds];decide
   exact kV n _ _ x h
theorem pX{k:Int}{n:Nat}:∀(f:Nat)(D:List V)(s:St),s.1.length<=1000000->(∀x∈D,OkV x)->∀x∈(G7 k n f D s).1,OkV x
 | 0,D,s,_,hd,x,h=>hd x h
 | f+1,D,s,hs,hd,x,h=>by
   by_cases hc:D.length<n/\s.2=false
   ·rw[Sr hc] at h
    have b:=F4 ((n-D.length:Nat):Int) s;have c:=Ja k (Am ((n-D.length:Nat):Int) s).2;refine pX f _ _ (by unfold Qy;omega) (λy a=>?_) x h;unfold rM at a;simp only[WK,List.mem_replicate] at a
    rcases a with a|⟨_,rfl⟩
    ·exact hd y a
    exact l8 (by omega)
   rw[Lj hc] at h;exact hd x h
theorem fS{d:List V}(b:∀x∈d,OkV x):∀(n:Nat)(A:List V)(s:St),(∀x∈A,OkV x)->∀x∈(Ec d n A s).1,OkV x
 | 0,A,s,ha,x,h=>ha x h
 | n+1,A,s,ha,x,h=>by
   rw[Ec] at h;split at h
   ·simp at h
   refine fS b n _ _ (λy a=>?_) x h;simp only[WK,List.mem_singleton] at a
   rcases a with a|rfl
   ·exact ha y a
   cases e:d[(Am ((d.length:Int)-1) s).1]? with
   | none=>exact sH
   | some z=>exact b z (XH e)
theorem ACA(h:s.1.length<=1000000):∀x∈(Gs k i n s).1,OkV x:=by
 unfold Gs;split
 ·exact Rq n s h
 split
 ·exact pX _ _ _ h (by simp)
 split
 ·exact fS (Rq _ _ (XF (F4 _ _) h)) _ _ _ (by simp)
 split
 ·exact kV n 0 s
 simp
theorem jS:∀(l:List V)(b:List Nat)(a:List V),(∀x∈l,OkV x)->(∀x∈a,OkV x)->∀x∈F0 l b a,OkV x
 | l,[],a,hl,_,x,h=>by rw[Pf] at h;exact hl x h
 | l,q :: b,[],hl,_,x,h=>hl x h
 | l,q :: b,y :: a,hl,hv,x,h=>by
   rw[F0] at h;refine jS _ b a (λz c=>?_) (λz c=>hv z (by simp[c])) x h
   rcases Yu c with d|rfl
   ·exact hl z d
   exact hv z (by simp)
theorem nO{l:List UInt8}(h:l.length<=1000000):Okl (Lr k l).1/\(Lr k l).1.length<=60:=by
 have d:((V6 l).1:Int)<=60:=by have:=Ld 60 (l,false);unfold V6;omega
 unfold Lr;split
 ·exact⟨by intro x a;simp at a,by simp⟩
 split
 ·exact⟨by intro x a;simp at a,by simp⟩
 refine⟨λx a=>?_,by simp only[Rm,XP];omega⟩;have b:(cB l).2.1.length<=1000000:=XF (Ji _ _) (XF (Ji _ _) (XF (F4 60 (l,false)) h));have:=jS _ _ _ (λz c=>by rw[YC c];exact sH) (ACA b) x a;exact⟨this.1,this.2.1,by unfold maxLen;have:=this.2.2;omega⟩
def Ll(kind:Int)(l:List UInt8):Option (List V) :=
 if (Lr kind l).2 then none else if Gk kind (Lr kind l).1/\Hv kind (Lr kind l).1=l then some (Lr kind l).1 else none
def AHb(r:Option (List V))(w:World)(e:Ending)(a:World):Prop :=
 match r with
 | none=>e=.returned (.tuple #[.slice none 0 0,.iface 91 (Zi 3)])/\Zb w a
 | some L=>∃v',e=.returned (.tuple #[v',.nilIface])/\Sl a v' L/\Zb w a
def AGL(r:Option (List V))(w:World)(e:Ending)(a:World):Prop :=
 match r with
 | none=>e=.returned (.tuple #[.slice none 0 0,.iface 91 (Zi 3)])/\Zb w a
 | some L=>∃v',e=.returned (.tuple #[v',.nilIface])/\a.ownsRow w.1.size 67 3 v' L.length (AKn L)/\Zb w a
theorem eU{e:Ending}(h:e=Zr (Zu #[Zs none 0 0,Zf 91 (Zi 3)])/\Zb w W):AGL none w e W:=h
theorem gI{r:Tw}{o:Obj}(h:(w.alloc o).grownBy r (some w.1.size))(_hW:W=w):Zb w r :=
 ⟨h.os,h.tape,h.output,by have:=h.size;simp at this;omega,λk a=>(h.block k (by simp;omega) (by simp;omega)).trans (XQ _ _ _ a)⟩
theorem qM(s:Tb)(w:Tw):
 Zc 168 #[Zt s] w λe a=>e=Zr (Zg #[Zt s,Zo false])/\Zb w a:=by
 go_enter func168,ntmps168;go_wp2;refine bodyPost_ret (v:=Zg #[Zt s,Zo false]) (by simp[results,results168,go_sem]) rfl ⟨rfl,?_⟩
 first|exact XG _ _|exact Zal
theorem AMz(kind:Int)(s:Tb)(w:Tw)(v:s.size<=1000000):
 Zc 215 #[Zi kind,Zt s] w (AGL (Ll kind s.1.toList) w):=by
 obtain⟨l,rfl⟩:∃l,s=str l:=⟨s.1.toList,(Ux s).symm⟩;rw[Eo];rw[Ds] at v;have y:=Ab (λW:Tw=>Rl W.1.size kind l (W.alloc (Zk #[Zt (str l),Zo false,Zi kind] 353)) (Yac _ _) v);have t:=Ab (qM (str l) w);have f:=Ab (nO (k:=kind) v);have o:Hid (Ll kind l=if (Lr kind l).2 then none else if Gk kind (Lr kind l).1/\Hv kind (Lr kind l).1=l then some (Lr kind l).1 else none):=Ab rfl;have p:Hid (∀L,Me kind L=if Gk kind L then if L.length<=60 then Zu #[Zt (str (Hv kind L)),Zn] else Zu #[Zt ⟨#[]⟩,Zf 91 (Zi 4)] else Zu #[Zt ⟨#[]⟩,Zf 91 (Zi 1)]):=Ab (λ_=>rfl);generalize Lr kind l=R at *;obtain⟨L,q⟩:=R;simp only at y f o;go_enter func215,ntmps215;go_wp2_with fail;apply t.o.mono;rintro e w0⟨rfl,m⟩;go_wp2_with fail;refine(y.o w0).mono ?_;rintro e h⟨M,⟨st1,st2⟩,rfl,j,D,b,r⟩;simp only at D b;subst D;have d:=Ab (m.trans ((gI r rfl).mono m.size));have g:=Ab j;obtain⟨N,O,J,T,U⟩:=G9 j;simp only at J;clear r j;cases st2 with
 | true=>have i:Hid (Ll kind l=none):=Ab (by rw[o.o];rfl);clear b;go_wp2_with fail;refine(E9 _ _ _ h g.o).mono ?_;rintro e h⟨rfl,rfl⟩;go_wp2;go_ret2;rw[i.o];exact eU ⟨rfl,d.o⟩
 | false=>
   have z:=Ab (b rfl);have a:=Ab (gM kind M L h (Cy z.o) (by have:=f.o.2;omega) f.o.1);have n:=d.o.size;have u:=f.o.2;clear b;cases hf:Gk kind L with
   | false=>have i:Hid (Ll kind l=none):=Ab (by rw[o.o,hf];rfl);rw[p.o,hf] at a;simp only[XS,if_false] at a;clear hf;go_wp2_with fail;refine(E9 _ _ _ h g.o).mono ?_;rintro e h⟨rfl,rfl⟩;go_wp2_with fail;apply a.o.mono;rintro e G⟨rfl,c⟩;go_wp2;go_ret2;rw[i.o];exact eU ⟨rfl,d.o.trans (c.mono n)⟩
   | true=>
     rw[p.o,hf] at a;simp only[if_true,Yae u] at a
     by_cases heq:Hv kind L=l
     ·have i:Hid (Ll kind l=some L):=Ab (by rw[o.o,hf];simp[heq])
      rw[heq] at a;clear hf heq;have x:((str l).toList==(str l).toList)=true:=by simp
      go_wp2_with fail;refine(E9 _ _ _ h g.o).mono ?_;rintro e h⟨rfl,rfl⟩;go_wp2_with fail;apply a.o.mono;rintro e G⟨rfl,c⟩;go_wp2;go_ret2;rw[i.o];exact⟨_,rfl,Ai (Ad z.o c) (by have:=m.size;simp;omega),d.o.trans (c.mono n)⟩
     have i:Hid (Ll kind l=none):=Ab (by rw[o.o,hf];simp[heq])
     have I:((str (Hv kind L)).toList==(str l).toList)=false:=by rw[ByteArray.toList_eq,ByteArray.toList_eq,Eo,Eo];simpa using heq
     clear hf heq;generalize str (Hv kind L)=P at *;go_wp2_with fail;refine(E9 _ _ _ h g.o).mono ?_;rintro e h⟨rfl,rfl⟩;go_wp2_with fail;apply a.o.mono;rintro e G⟨rfl,c⟩;go_wp2;go_ret2;rw[i.o];exact eU ⟨rfl,d.o.trans (c.mono n)⟩
theorem xH(kind:Int)(s:Tb)(w:Tw)(d:s.size<=1000000):
 Zc 215 #[Zi kind,Zt s] w (AHb (Ll kind s.1.toList) w):=by
 refine(AMz kind s w d).mono λe f h=>?_
 cases hd:Ll kind s.1.toList with
 | none=>rw[hd] at h;exact h
 | some L=>rw[hd] at h;obtain⟨v',b,c,a⟩:=h;exact⟨v',b,Cy c,a⟩
variable{n x:Nat}{l:List V}
theorem AEg(x:Nat)(o:x<18446744073709551616)(rest:List UInt8):∀(y:Nat)(pre:List UInt8)(acc:Nat),uvarint x=pre++uvarint y->acc+y*2 ^ (7*pre.length)=x->pre.length+(uvarint y).length<=10 ->
 Nu (uvarint x++rest) pre.length (uvarint y++rest) acc=(x,rest,true):=by
 intro y
 induction y using Nat.strongRecOn with
 | ind y ih=>
   intro pre acc b i hlen;have j:=uvarint_pos y;have m:0<2 ^ (7*pre.length):=Y0 _
   by_cases h:y<128
   ·have e:=uvarint_small h
    rw[e];have a:(y.toUInt8).toNat=y:=toUInt8_toNat (by omega);rw[List.singleton_append,oV (by omega) (by rw[a];exact h),a];have c:y % 128=y:=YV h;have d:y*2 ^ (7*pre.length) % 18446744073709551616=y*2 ^ (7*pre.length):=YV (by omega);rw[c,d,i]
    have f:(uvarint x++rest).take (pre.length+1)=uvarint x:=by
     have k:(uvarint x).length=pre.length+1:=by rw[b,e];simp
     rw[<-k,List.take_left]
    rw[f];simp
   have e:=uvarint_big (x:=y) (by omega);have g:pre.length≠10:=by omega
   rw[e] at hlen ⊢;have a:((y % 128+128).toUInt8).toNat=y % 128+128:=toUInt8_toNat (by omega);rw[XO,AAt g (by rw[a];omega),a];have c:(y % 128+128) % 128=y % 128:=by omega
   have l:y % 128*2 ^ (7*pre.length)<=y*2 ^ (7*pre.length):=Yo _ (by omega);have d:y % 128*2 ^ (7*pre.length) % 18446744073709551616=y % 128*2 ^ (7*pre.length):=YV (by omega);rw[c,d]
   have:=ih (y / 128) (by omega) (pre++[(y % 128+128).toUInt8]) (acc+y % 128*2 ^ (7*pre.length)) (by rw[b,e];simp) (by
    rw[XA,YE,show 7*(pre.length+1)=7*pre.length+7 by omega,Y7];have f:y=y / 128*128+y % 128:=by omega
    have n:y*2 ^ (7*pre.length)=y / 128*(2 ^ (7*pre.length)*2 ^ 7)+y % 128*2 ^ (7*pre.length):=by
     have:y / 128*(2 ^ (7*pre.length)*2 ^ 7)=y / 128*128*2 ^ (7*pre.length):=by rw[Yaa (2 ^ (7*pre.length)) (2 ^ 7),<-WN]
     rw[this,<-Nat.add_mul,<-f]
    omega) (by simp at hlen ⊢;omega)
   rw[XA,YE] at this;exact this
theorem ACJ(a:x<18446744073709551616)(rest:List UInt8):rdNum (uvarint x++rest)=(x,rest,true) :=
 AEg x a rest x [] 0 rfl (by simp) (by have:=uvarint_length64 a;simpa using this)
theorem Uf(a:x<18446744073709551616)(rest:List UInt8):Fg (uvarint x++rest,false)=(x,(rest,false)):=by unfold Fg;rw[ACJ a];rfl
theorem F5{most:Int}(a:x<18446744073709551616)(c:(x:Int)<=most)(rest:List UInt8):Am most (uvarint x++rest,false)=(x,(rest,false)):=by
 have b:Ra most (uvarint x++rest,false)=false:=by unfold Ra;rw[Uf a];simp;omega
 rw[U0 b,Uf a]
theorem M8{t:List UInt8}(h:t.length=n)(rest:List UInt8)(q:Bool):C8 n (t++rest,q)=(t,(rest,q)):=by unfold C8;rw[Yad (by simp;omega)];subst h;simp
theorem jW{n:Int}:unzigzag (zigzag n)=n:=by unfold unzigzag zigzag;split <;> split <;> omega
def Good(kind:Int)(v:V):Prop:=(kind=1/\v.1=1/\v.2.2=str [] /\ -9223372036854775808<=v.2.1/\v.2.1<=9223372036854775807)\/(kind=2/\v.1=2/\v.2.1=0/\v.2.2.size<=40)
theorem Rn{kind:Int}{v:V}(h:Good kind v)(rest:List UInt8):Dy kind (J3 v++rest,false)=(v,(rest,false)):=by
 obtain⟨k,n,t⟩:=v
 rcases h with⟨rfl,a,b,c,d⟩|⟨rfl,a,b,c⟩
 ·simp only at a b c d
  subst a b;unfold Dy J3;rw[Yae rfl,Yae rfl,Uf (zigzag_lt c d)];simp only[jW]
 simp only at a b c;subst a b;unfold Dy J3;rw[Yad (by show ¬(2:Int)=1;decide),Yad (by show ¬(2:Int)=1;decide)];have e:t.1.toList.length=t.size:=by rw[XR];rfl
 simp only;rw[XD,F5 (by omega) (by omega),M8 e];simp only[Ux]
theorem Ow{kind:Int}:∀(l:List V),(∀v∈l,Good kind v)->∀rest,Cn kind l.length (Fx l++rest,false)=(l,(rest,false))
 | [],_,rest=>rfl
 | v :: l,h,rest=>by have e:Fx (v :: l)=J3 v++Fx l:=rfl;rw[e,XE,Cn,XD,Rn (h v (by simp))];simp only;rw[Ow l (λx a=>h x (by simp[a]))]
theorem dG(v:V):∀l:List V,l=List.replicate (same v l) v++l.drop (same v l)
 | []=>by simp[same]
 | x :: l=>by
   unfold same
   by_cases h:x=v
   ·subst h
    rw[Yae rfl,YJ,X',XO,<-dG x l]
   rw[Yad h];simp
theorem ADr{kind:Int}(p:n<=1000):∀(m:Nat)(l D:List V)(f:Nat)(rest:List UInt8),l.length=m->(∀v∈l,Good kind v)->D.length+l.length=n->(El l.length l).length<f->G7 kind n f D (El l.length l++rest,false)=(D++l,(rest,false)):=by
 intro m
 induction m using Nat.strongRecOn with
 | ind m ih=>
   intro l D f rest j b a d;cases l with
   | nil=>rw[Lj (by simp at a ⊢;omega)];simp[El]
   | cons v l=>
     obtain⟨f,rfl⟩:∃i,f=i+1:=⟨f-1,by omega⟩;have q:=Ue v l;rw[cC] at d ⊢;have c:D.length<n:=by simp at a;omega
     rw[Sr ⟨c,rfl⟩]
     have e:Am ((n-D.length:Nat):Int) (uvarint (same v l+1)++J3 v++El (l.drop (same v l)).length (l.drop (same v l))++rest,false)=(same v l+1,(J3 v++(El (l.drop (same v l)).length (l.drop (same v l))++rest),false)):=by rw[XD,XD,F5 (by simp at a;omega) (by simp at a;omega)]
     have g:rM kind n D (uvarint (same v l+1)++J3 v++El (l.drop (same v l)).length (l.drop (same v l))++rest,false)=D++List.replicate (same v l+1) v:=by unfold rM;rw[e];simp only;rw[Rn (b v (by simp))]
     have h:Qy kind n D (uvarint (same v l+1)++J3 v++El (l.drop (same v l)).length (l.drop (same v l))++rest,false)=(El (l.drop (same v l)).length (l.drop (same v l))++rest,false):=by unfold Qy;rw[e];simp only;rw[Rn (b v (by simp))]
     rw[g,h];have k:=uvarint_pos (same v l+1);rw[ih (l.drop (same v l)).length (by simp at j ⊢;omega) _ _ _ _ rfl (λx o=>b x (by simp[XU o])) (by simp at a ⊢;omega) (by simp only[XA] at d;omega)];rw[XD,YJ,XO,<-dG v l]
theorem AC6(a n:Int)(b : -9223372036854775808<=n)(c:n<=9223372036854775807):Pp (a+Pp (n-a))=n:=by unfold Pp;omega
theorem fL:∀(l:List V)(a:Int),(∀v∈l,Good 1 v)->∀rest,E5 l.length a (G5 a l++rest,false)=(l,(rest,false))
 | [],_,_,rest=>rfl
 | (k,n,t) :: l,a,h,rest=>by
   obtain⟨b,c,d,e⟩:k=1/\t=str [] /\ -9223372036854775808<=n/\n<=9223372036854775807:=by
    rcases h (k,n,t) (by simp) with⟨_,b,c,d,e⟩|⟨f,_⟩
    ·exact⟨b,c,d,e⟩
    exact absurd f (by decide)
   subst b c;have i:=zigzag_lt (N1 (n-a)).1 (N1 (n-a)).2;simp only[XE,E5,G5,XD];rw[Uf i];simp only[jW,AC6 a n d e];rw[fL l n (λx g=>h x (by simp[g]))]
theorem Ny(x:V):∀(d e:List V),place x d<d.length->place x (d++e)=place x d
 | [],e,h=>by simp at h
 | y :: d,e,h=>by
   unfold place at h ⊢;rw[XO]
   by_cases hy:y=x
   ·simp[hy]
   simp only[hy,if_false] at h ⊢;rw[Ny x d e (by simpa using h)]
theorem Qs(x:V):∀(d:List V),¬place x d<d.length->place x (d++[x])=d.length
 | [],_=>by simp[place]
 | y :: d,h=>by
   unfold place at h ⊢;rw[XO]
   by_cases hy:y=x
   ·simp[hy] at h
   simp only[hy,if_false] at h ⊢;rw[Qs x d (by simpa using h)];simp
theorem pJ(x:V):∀(d:List V),place x d<d.length->d[place x d]? = some x
 | [],h=>by simp at h
 | y :: d,h=>by
   unfold place at h ⊢
   by_cases hy:y=x
   ·simp[hy]
   simp only[hy,if_false] at h ⊢;simp;exact pJ x d (by simpa using h)
theorem R7:∀(l:List V)(d:List V)(a:List UInt8),∃e,(l.foldl Ff (d,a)).1=d++e/\(l.foldl Ff (d,a)).2=a++l.flatMap (λx=>uvarint (place x (l.foldl Ff (d,a)).1))/\∀x∈l,place x (l.foldl Ff (d,a)).1<(l.foldl Ff (d,a)).1.length
 | [],d,a=>⟨[],by simp,by simp,by simp⟩
 | x :: l,d,a=>by
   rw[List.foldl_cons]
   by_cases h:place x d<d.length
   ·rw[bO (s:=(d,a)) h]
    obtain⟨e,c,g,i⟩:=R7 l d (a++uvarint (place x d));have f:place x (l.foldl Ff (d,a++uvarint (place x d))).1=place x d:=by rw[c];exact Ny x d e h
    refine⟨e,c,?_,λy b=>?_⟩
    ·rw[XY,f,g];simp
    simp at b
    rcases b with rfl|b
    ·rw[f,c,XA];omega
    exact i y b
   rw[aC (s:=(d,a)) h];obtain⟨e,c,g,i⟩:=R7 l (d++[x]) (a++uvarint d.length);have j:place x (d++[x])=d.length:=Qs x d h;have f:place x (l.foldl Ff (d++[x],a++uvarint d.length)).1=d.length:=by rw[c,Ny x _ e (by rw[j];simp),j]
   refine⟨[x]++e,by rw[c,XD],?_,λy b=>?_⟩
   ·rw[XY,f,g];simp
   simp at b
   rcases b with rfl|b
   ·rw[f,c];simp
   exact i y b
theorem Xu{d:List V}(a:d.length<=1000):∀(l A:List V)(rest:List UInt8),(∀x∈l,place x d<d.length)->Ec d l.length A (l.flatMap (λx=>uvarint (place x d))++rest,false)=(A++l,(rest,false))
 | [],A,rest,_=>by simp[Ec]
 | x :: l,A,rest,h=>by have b:=h x (by simp);rw[XE,Ec,XY,XD,F5 (by omega) (by omega)];simp only[XS,if_false,pJ x d b,XJ];rw[Xu a l (A++[x]) rest (λy c=>h y (by simp[c]))];simp
theorem AFr(l:List V):S8 l l.length=l.foldl Ff ([],[]):=by unfold S8;rw[Yf (Y' _)]
theorem yP{kind:Int}(m:∀v∈l,Good kind v)(f:Vd l)(rest:List UInt8):Nw kind l.length (Pd l++rest,false)=(l,(rest,false)):=by
 obtain⟨e,j,b,c⟩:=R7 l [] [];obtain⟨g,a,h⟩:=Qg f l.length (Y' _);have k:=f.1;rw[AFr] at g a h;unfold Pd;generalize p:l.foldl Ff ([],[])=S at *;obtain⟨d,i⟩:=S;simp only at j b c g a h ⊢
 have n:Am (l.length:Int) (uvarint d.length++Fx d++i++rest,false)=(d.length,(Fx d++(i++rest),false)):=by rw[XD,XD,F5 (by omega) (by omega)]
 unfold Nw;rw[n];simp only;rw[Ow d (λx o=>m x (a x o))];simp only;rw[b,List.nil_append,Xu (by omega) l [] rest c];simp
theorem mF(kind:Int)(l:List V):∀k,1<=k->∃a,a<k/\(a=3->kind=1)/\Hp kind l k=a.toUInt8 :: I0 a l
 | 0,h=>by omega
 | 1,_=>⟨0,by omega,by omega,rfl⟩
 | k+2,_=>by
   obtain⟨a,e,b,c⟩:=mF kind l (k+1) (by omega);rw[M5 kind l (k+1) (by omega)];split
   ·exact⟨a,by omega,b,c⟩
   rename_i hn;unfold better;split
   ·refine⟨k+1,by omega,λh=>?_,rfl⟩
    exact Classical.byContradiction λd=>hn ⟨h,d⟩
   exact⟨a,by omega,b,c⟩
theorem xN{kind:Int}(f:n<4)(c:n=3->kind=1)(a:∀v∈l,Good kind v)(b:Vd l)(rest:List UInt8):Gs kind n l.length (I0 n l++rest,false)=(l,(rest,false)):=by
 have d:=b.1;have e:n=0\/n=1\/n=2\/n=3:=by omega
 rcases e with rfl|rfl|rfl|rfl
 ·exact Ow l a rest
 ·show G7 kind l.length ((El l.length l++rest).length+2) [] (El l.length l++rest,false)=_
  rw[ADr (by omega) l.length l [] _ rest rfl a (by simp) (by simp;omega)];simp
 ·exact yP a b rest
 obtain rfl:=c rfl;exact fL l 0 a rest
theorem AFR(x s t:Nat)(h:t<s):(x+2 ^ s) / 2 ^ t % 2=x / 2 ^ t % 2:=by
 obtain⟨u,rfl⟩:∃u,s=t+1+u:=⟨s-t-1,by omega⟩;have e:2 ^ (t+1+u)=2 ^ t*(2*2 ^ u):=by rw[Y7,WS,WN]
 rw[e,Nat.add_mul_div_left _ _ (Y0 t)];omega
theorem Pu(l:List V)(m:Nat)(f:l.length<=8*m):∀k,k<=l.length->∀i x,i<k->l[i]? = some x->((Cb l m k)[i / 8]?.getD 0) / 2 ^ (i % 8) % 2=if Qi x=true then 1 else 0
 | 0,_,i,x,hi,_=>by omega
 | k+1,hk,i,x,hi,a=>by
   obtain⟨y,d⟩:=Hk (l:=l) (k:=k) (by omega);have c:k / 8<(Cb l m k).length:=by rw[J6];omega
   obtain⟨z,e⟩:=Hk c;have b:=H5 l m k (k / 8) z e;rw[show min (k-8*(k / 8)) 8=k % 8 by omega] at b;cases hn:Qi y with
   | true=>
     rw[Wx d hn,e,XJ]
     by_cases hd:k / 8=i / 8
     ·rw[<-hd,Yj c,XJ]
      by_cases hki:i=k
      ·subst hki
       rw[d] at a;injection a with a;subst a;rw[hn,Yae rfl,Nat.add_div_right _ (Y0 _),WJ b]
      rw[AFR _ _ _ (by omega)];have g:=Pu l m f k (by omega) i x (by omega) a;rw[<-hd,e,XJ] at g;exact g
     rw[Yq hd];exact Pu l m f k (by omega) i x (by omega) a
   | false=>
     rw[cL d hn]
     by_cases hki:i=k
     ·subst hki
      rw[d] at a;injection a with a;subst a;rw[hn,e,XJ,WJ b];rfl
     exact Pu l m f k (by omega) i x (by omega) a
theorem zE{i:Nat}{x:V}(d:l[i]? = some x):gF (Gq l) i=if Qi x=true then 1 else 0:=by
 have f:i<l.length:=by
  rcases Yc i l.length with b|b
  ·exact b
  rw[Yb b] at d;cases d
 have h:=Pu l ((l.length+7) / 8) (by omega) l.length (Y' _) i x f d;unfold gF Gq;have c:i / 8<(Q8 l).length:=by unfold Q8;rw[J6];omega
 obtain⟨z,e⟩:=Hk c;have a:(Cb l ((l.length+7) / 8) l.length)[i / 8]? = some z:=e;rw[a,XJ] at h;have g:=H5 l ((l.length+7) / 8) l.length (i / 8) z a;have j:2 ^ (min (l.length-8*(i / 8)) 8)<=2 ^ 8:=Oo (by omega);rw[List.getElem?_map,e];simp only[Option.map_some,XJ];rw[toUInt8_toNat (by omega)];exact h
theorem dQ:∀(l:List V)(a:List Nat)(b:List V)(p:Nat)(x:V),a.length=b.length->F0 l (a++[p]) (b++[x])=(F0 l a b).set p x
 | l,[],[],p,x,_=>by simp[F0]
 | l,[],_ :: _,p,x,h=>by simp at h
 | l,_ :: _,[],p,x,h=>by simp at h
 | l,q :: a,y :: b,p,x,h=>by rw[XO,XO,F0,F0];exact dQ _ a b p x (by simpa using h)
theorem rU{l:List V}(h:∀x∈l,Qi x=true->x=(0,0,str [])):∀k,k<=l.length->(B8 (Gq l) k).length=(known (l.take k)).length/\F0 (List.replicate l.length (0,0,str [])) (B8 (Gq l) k) (known (l.take k))=l.take k++List.replicate (l.length-k) (0,0,str [])
 | 0,_=>by simp[B8,known,Pf]
 | k+1,hk=>by
   obtain⟨c,g⟩:=rU h k (by omega);obtain⟨x,b⟩:=Hk (l:=l) (k:=k) (by omega);have a:=zE b;have f:l.length-k=(l.length-(k+1))+1:=by omega
   have d:(l.take k).length=k:=by simp;omega
   cases hn:Qi x with
   | true=>
     rw[hn,Yae rfl] at a;rw[lF (by omega),Br b];have e:known (l.take k++[x])=known (l.take k):=by simp[known,hn]
     rw[e];refine⟨c,?_⟩;rw[g,f,YJ,h x (XH b) hn];simp
   | false=>
     rw[hn] at a;simp only[XS,if_false] at a;rw[dA a,Br b];have e:known (l.take k++[x])=known (l.take k)++[x]:=by simp[known,hn]
     rw[e];refine⟨by simp[c],?_⟩;rw[dQ _ _ _ _ _ c,g,f,YJ,YA _ _ (by omega),d];simp
theorem ADm{kind:Int}(h:Gk kind l=true)(r:Okl l):(∀v∈known l,Good kind v)/\(∀x∈l,Qi x=true->x=(0,0,str [])):=by
 have p:=kW h;simp only[Gk,XL,WG,WH] at h
 have b:∀t:Tb,t.toList.isEmpty=true->t=str []:=λt s=>by
  have:t.1.toList=[]:=by simpa[ByteArray.toList_eq] using s
  rw[<-Ux t,this]
 have c:∀x∈l,A9 x.1 x.2.1 x.2.2=true/\(x.1=0\/x.1=kind):=λx j=>by have:=h.2 x j;simp only[Wa,XW,not_or,WI,WC,Bool.and_eq_false_iff,beq_iff_eq] at this;exact this
 constructor
 ·intro v u
  have g:=List.mem_filter.1 u;obtain⟨d,o⟩:=c v g.1;have i:v.1≠0:=by simpa[Qi] using g.2
  have a:v.1=kind:=o.resolve_left i;have m:=r v g.1
  rcases p with rfl|rfl
  ·rw[a] at d
   exact .inl ⟨rfl,a,b _ (by simpa[A9] using d),m.1,m.2.1⟩
  rw[a] at d;simp only[A9] at d;have e:v.2.1=0/\Vb v.2.2=true:=by simpa using d
  exact .inr ⟨rfl,a,e.1,by have:=e.2;simp only[Vb,XL,decide_eq_true_eq] at this;exact this.1⟩
 intro x j q;obtain⟨d,_⟩:=c x j;obtain⟨k,n,t⟩:=x;have f:k=0:=by simpa[Qi] using q
 subst f;have e:n=0/\t.toList.isEmpty=true:=by simpa[A9] using d
 rw[e.1,b t e.2]
theorem AE0{kind:Int}(h:Gk kind l=true)(n:Okl l)(r:l.length<=60)(rest:List UInt8):Lr kind (Hv kind l++rest)=(l,false):=by
 obtain⟨q,s⟩:=ADm h n;have p:=dE h n r;obtain⟨a,f,g,i⟩:=mF kind (known l) 4 (by omega);have b:AEn kind (known l)=a.toUInt8 :: I0 a (known l):=i
 have e0:Hv kind l++rest=uvarint l.length++(Gq l++([a.toUInt8]++(I0 a (known l)++rest))):=by unfold Hv;rw[b];simp
 obtain⟨c,d⟩:=rU s l.length (Y' _);rw[Yf (Y' _)] at c d;rw[e0];have e:V6 (uvarint l.length++(Gq l++([a.toUInt8]++(I0 a (known l)++rest))))=(l.length,(Gq l++([a.toUInt8]++(I0 a (known l)++rest)),false)):=F5 (by omega) (by omega) _
 have j:Bv (uvarint l.length++(Gq l++([a.toUInt8]++(I0 a (known l)++rest))))=(Gq l,([a.toUInt8]++(I0 a (known l)++rest),false)):=by unfold Bv;rw[e];exact M8 (Rp l) _ _
 have m:cB (uvarint l.length++(Gq l++([a.toUInt8]++(I0 a (known l)++rest))))=([a.toUInt8],(I0 a (known l)++rest,false)):=by unfold cB;rw[j];exact M8 rfl _ _
 have k:xX (uvarint l.length++(Gq l++([a.toUInt8]++(I0 a (known l)++rest))))=B8 (Gq l) l.length:=by unfold xX;rw[e,j]
 have o:nS kind (uvarint l.length++(Gq l++([a.toUInt8]++(I0 a (known l)++rest))))=(known l,(rest,false)):=by unfold nS;rw[k,m,c];have:(([a.toUInt8]:List UInt8)[0]?.getD 0).toNat=a:=toUInt8_toNat (by omega);simp only at this ⊢;rw[this];exact xN f g q (Qc p) rest
 unfold Lr;rw[m,o,e,k];simp only[XS,if_false];rw[d];simp
theorem vE{kind:Int}(h:Gk kind l=true)(b:Okl l)(a:l.length<=60):Ll kind (Hv kind l)=some l:=by have:=AE0 h b a [];rw[List.append_nil] at this;unfold Ll;rw[this];simp[h]
theorem l3{kind:Int}{s:List UInt8}{m:List V}(h:Ll kind s=some m):Gk kind m=true/\Hv kind m=s/\m=(Lr kind s).1:=by
 unfold Ll at h;split at h
 ·cases h
 split at h
 ·rename_i h2;injection h with h;rw[<-h];exact⟨h2.1,h2.2,rfl⟩
 cases h
end E
namespace S
def Oh(x y:Int):Int:=if x<y then -1 else if y<x then 1 else 0
def cmpL(x y:List UInt8):Int:=if x<y then -1 else if y<x then 1 else 0
def R4(x y:ByteArray):Int:=cmpL x.1.toList y.1.toList
def orI(a b c:Int):Int:=if a=0 then (if b=0 then c else b) else a
def Kb(a n1:Int)(t1:ByteArray)(b n2:Int)(t2:ByteArray):Int:=orI (Oh a b) (Oh n1 n2) (R4 t1 t2)
theorem kE(x y:Int):Oh y x = -Oh x y:=by unfold Oh;split <;> split <;> (try split) <;> omega
theorem Fm(x y:Int):Oh x y = -1/\x<y\/Oh x y=0/\x=y\/Oh x y=1/\y<x:=by unfold Oh;split <;> (try split) <;> omega
theorem AIx(x y:List UInt8):x<y\/x=y\/y<x:=by
 rcases Classical.em (x<y) with h|h
 ·exact .inl h
 rcases Classical.em (y<x) with a|a
 ·exact .inr (.inr a)
 exact .inr (.inl (List.le_antisymm (List.not_lt.mp a) (List.not_lt.mp h)))
theorem yV(x y:List UInt8):cmpL x y = -1/\x<y\/cmpL x y=0/\x=y\/cmpL x y=1/\y<x:=by
 unfold cmpL
 rcases AIx x y with h|h|h
 ·exact .inl ⟨Yae h,h⟩
 ·subst h;exact .inr (.inl ⟨by rw[Yad (YD x),Yad (YD x)],rfl⟩)
 exact .inr (.inr ⟨by rw[Yad (WO h),Yae h],h⟩)
theorem Ep(x y:Tb):R4 x y = -1/\x.1.toList<y.1.toList\/R4 x y=0/\x=y\/R4 x y=1/\y.1.toList<x.1.toList:=by
 rcases yV x.1.toList y.1.toList with h|⟨h,e⟩|h
 ·exact .inl h
 ·exact .inr (.inl ⟨h,ByteArray.ext (Array.toList_inj.mp e)⟩)
 exact .inr (.inr h)
theorem ABR{x y:List UInt8}(h:x<y)(a:y<x):False:=WO h a
theorem ACz(x y:Tb):R4 y x = -R4 x y:=by
 rcases Ep x y with⟨h,e⟩|⟨h,e⟩|⟨h,e⟩ <;> rcases Ep y x with⟨h',e'⟩|⟨h',e'⟩|⟨h',e'⟩ <;> rw[h,h'] <;> first
  | rfl
  | exact(ABR e e').elim
  | (subst e;exact(YD _ e').elim)
  | (subst e';exact(YD _ e).elim)
theorem kS(x:Tb):R4 x x=0:=by
 rcases Ep x x with⟨_,e⟩|⟨h,_⟩|⟨_,e⟩
 ·exact(YD _ e).elim
 ·exact h
 exact(YD _ e).elim
theorem AAL(x y z:Tb)(m:Int)(a:R4 x y=m)(b:R4 y z=m):R4 x z=m:=by
 rcases Ep x y with⟨h,e⟩|⟨h,e⟩|⟨h,e⟩ <;> rcases Ep y z with⟨h',e'⟩|⟨h',e'⟩|⟨h',e'⟩ <;> first
  | (exfalso;omega)
  | (subst e;subst e';exact a)
  | skip
 ·have:=WQ e e'
  rcases Ep x z with⟨g,f⟩|⟨g,f⟩|⟨g,f⟩
  ·omega
  ·subst f;exact(YD _ this).elim
  exact(ABR this f).elim
 have:=WQ e' e
 rcases Ep x z with⟨g,f⟩|⟨g,f⟩|⟨g,f⟩
 ·exact(ABR this f).elim
 ·subst f;exact(YD _ this).elim
 omega
theorem vN(a n1:Int)(t1:Tb)(b n2:Int)(t2:Tb):Kb a n1 t1 b n2 t2 = -1\/Kb a n1 t1 b n2 t2=0\/Kb a n1 t1 b n2 t2=1:=by unfold Kb orI;have:=Fm a b;have:=Fm n1 n2;have:=Ep t1 t2;split <;> (try split) <;> omega
theorem ACp(a n1:Int)(t1:Tb)(b n2:Int)(t2:Tb):Kb b n2 t2 a n1 t1 = -Kb a n1 t1 b n2 t2:=by unfold Kb orI;rw[kE a b,kE n1 n2,ACz t1 t2];split <;> (try split) <;> (try split) <;> (try split) <;> omega
theorem ACf(e n1:Int)(t1:Tb)(f n2:Int)(t2:Tb):Kb e n1 t1 f n2 t2=0↔e=f/\n1=n2/\t1=t2:=by
 constructor
 ·intro h
  unfold Kb orI at h
  rcases Fm e f with⟨a,d⟩|⟨a,d⟩|⟨a,d⟩ <;> rcases Fm n1 n2 with⟨b,b'⟩|⟨b,b'⟩|⟨b,b'⟩ <;> rcases Ep t1 t2 with⟨c,c'⟩|⟨c,c'⟩|⟨c,c'⟩ <;> simp[a,b,c] at h
  exact⟨d,b',c'⟩
 rintro⟨rfl,rfl,rfl⟩;unfold Kb orI;rw[kS];simp[Oh]
theorem AAF(h n1:Int)(t1:Tb)(i n2:Int)(t2:Tb)(j k:Int)(o:Tb)(m:Int)(l:Kb h n1 t1 i n2 t2=m)(n:Kb i n2 t2 j k o=m):Kb h n1 t1 j k o=m:=by
 unfold Kb orI at *;have a:=Fm h i;have b:=Fm i j;have c:=Fm h j;have d:=Fm n1 n2;have e:=Fm n2 k;have f:=Fm n1 k;have g:=AAL t1 t2 o m
 split at l <;> split at n <;> (try split at l) <;> (try split at n) <;> split <;> (try split) <;> first
  | omega
  | exact g l n
  | (exfalso;omega)
theorem O4(x y:Tb):Op.bytesLess x.toList y.toList=decide (x.1.toList<y.1.toList):=by rw[ByteArray.toList_eq,ByteArray.toList_eq,bytesLess_eq]
variable{x y:Tb}
theorem Bd{k:IntKind}{a b:Int}(h:a=b):Ending.returned (.int k a)=Zr (.int k b):=by rw[h]
theorem wD(x y:Int)(w:Tw):
 Zc 67 #[Zi x,Zi y] w λe a=>e=Zr (Zi (Oh x y))/\a=w:=by
 have H:Hid (Oh x y=if x<y then -1 else if y<x then 1 else 0):=rfl;go_enter func67,ntmps67;go_wp2
 all_goals
  go_ret;exact⟨Bd (by rw[H.o];split <;> (try split) <;> omega),rfl⟩
theorem nI(x y:Int)(w:Tw):
 Zc 68 #[Zi x,Zi y] w λe a=>e=Zr (Zi (Oh x y))/\a=w:=by
 have H:Hid (Oh x y=if x<y then -1 else if y<x then 1 else 0):=rfl;go_enter func68,ntmps68;go_wp2
 all_goals
  go_ret;exact⟨Bd (by rw[H.o];split <;> (try split) <;> omega),rfl⟩
theorem cs1(h:Op.bytesLess x.toList y.toList=true):-1=R4 x y:=by
 rw[O4] at h;have h:=of_decide_eq_true h
 rcases Ep x y with⟨g,f⟩|⟨g,f⟩|⟨g,f⟩
 ·exact g.symm
 ·subst f;exact(YD _ h).elim
 exact(ABR h f).elim
theorem cs2(h:Op.bytesLess x.toList y.toList=false)(a:(!x.toList==y.toList)=true):1=R4 x y:=by
 rw[O4] at h;have h:=of_decide_eq_false h
 rcases Ep x y with⟨g,f⟩|⟨g,f⟩|⟨g,f⟩
 ·exact(h f).elim
 ·subst f;simp at a
 exact g.symm
theorem cs3(a:(!x.toList==y.toList)=false):0=R4 x y:=by
 have:x.1.toList=y.1.toList:=by simpa[ByteArray.toList_eq] using a
 have:x=y:=ByteArray.ext (Array.toList_inj.mp this);rw[this,kS]
theorem xM(x y:Tb)(w:Tw):
 Zc 69 #[Zt x,Zt y] w λe a=>e=Zr (Zi (R4 x y))/\a=w:=by
 go_enter func69,ntmps69;go_wp2
 all_goals
  go_ret;exact⟨Bd (by first|exact cs1 ‹_›|exact cs2 ‹_› ‹_›|exact cs3 ‹_›),rfl⟩
theorem or1{x:Int}(y z:Int)(h:¬x=0):x=orI x y z:=by unfold orI;rw[Yad h]
theorem or2{y:Int}(z:Int)(h:¬y=0):y=orI 0 y z:=by unfold orI;rw[Yae rfl,Yad h]
theorem or3(z:Int):z=orI 0 0 z:=by unfold orI;rw[Yae rfl,Yae rfl]
theorem AJV(b:Nat)(x y z:Int)(w:Tw)(d:w.cell? (Zd b 0)=some (Zi x))(f:w.cell? (Zd b 1)=some (Zi y))(g:w.cell? (Zd b 2)=some (Zi z)):
 Zc 66 #[Zs (some (Zd b 0)) 3 3] w λe c=>e=Zr (Zi (orI x y z))/\c=w:=by
 go_enter func66,ntmps66;go_wp2
 go_loop [8] (λi=>(i=Zi 0)\/(i=Zi 1/\x=0)\/(i=Zi 2/\x=0/\y=0)\/(i=Zi 3/\x=0/\y=0/\z=0)) (λi=>3-(intOf i).toNat)
 case atStart=>exact .inl rfl
 case round=>
  rcases hrel with rfl|⟨rfl,rfl⟩|⟨rfl,rfl,rfl⟩|⟨rfl,rfl,rfl,rfl⟩
  ·by_cases hx:x=0
   ·subst hx
    go_wp2
    go_round
    case rel=>simp
    case measure=>simp[intOf]
   have a:(x==0)=false:=by simpa using hx
   go_wp2;go_ret;exact⟨Bd (or1 _ _ hx),rfl⟩
  ·by_cases hx:y=0
   ·subst hx
    go_wp2
    go_round
    case rel=>simp
    case measure=>simp[intOf]
   have a:(y==0)=false:=by simpa using hx
   go_wp2;go_ret;exact⟨Bd (or2 _ hx),rfl⟩
  ·by_cases hx:z=0
   ·subst hx
    go_wp2
    go_round
    case rel=>simp
    case measure=>simp[intOf]
   have a:(z==0)=false:=by simpa using hx
   go_wp2;go_ret;exact⟨Bd (or3 _),rfl⟩
  go_wp2;go_ret;exact⟨Bd (or3 _),rfl⟩
theorem Kc(b n1 c n2:Int)(t1 t2:Tb)(w:Tw):
 Zc 37 #[Zg #[Zi b,Zi n1,Zt t1],Zg #[Zi c,Zi n2,Zt t2]] w λe a=>e=Zr (Zi (Kb b n1 t1 c n2 t2))/\Zb w a:=by
 go_enter func37,ntmps37;go_wp2
 go_region_held3 (λa=>a.cell? (Zd w.1.size 0)=some (Zi b)/\a.cell? (Zd w.1.size 1)=some (Zi n1)/\a.cell? (Zd w.1.size 2)=some (Zt t1)/\a.cell? (Zd (w.1.size+1) 0)=some (Zi c)/\a.cell? (Zd (w.1.size+1) 1)=some (Zi n2)/\a.cell? (Zd (w.1.size+1) 2)=some (Zt t2)) (go_keep)
  (first
    | (go_at_call 67;refine(wD _ _ _).mono ?_;rintro e a⟨rfl,rfl⟩)
    | (go_at_call 68;refine(nI _ _ _).mono ?_;rintro e a⟨rfl,rfl⟩)
    | (go_at_call 69;refine(xM _ _ _).mono ?_;rintro e a⟨rfl,rfl⟩)
    | (go_at_call 66;refine(AJV (w.1.size+1+1) (Oh b c) (Oh n1 n2) (R4 t1 t2) _ (by simp[XV]) (by simp[XV]) (by simp[XV])).mono ?_;rintro e a⟨rfl,rfl⟩))
 go_wp2;go_ret;exact⟨rfl,(((Zal).alloc (by simp) _).alloc (by simp;omega) _).drew⟩
def gG(b:Bool):Int:=if b then 1 else 0
def B6(c o:Int):Bool:=if c=1 then o==0 else if c=2 then !(o==0) else if c=3 then decide (o<0) else if c=4 then decide (o<=0) else if c=5 then decide (0<o) else if c=6 then decide (0<=o) else false
theorem Af{a b:Bool}(h:a=b):Ending.returned (Zo a)=Zr (Zo b):=by rw[h]
theorem st1{c o:Int}(h:(c==1)=true):(o==0)=B6 c o:=by simp at h;subst h;rfl
theorem st2{c o:Int}(_:(c==1)=false)(h:(c==2)=true):(o != 0)=B6 c o:=by simp at h;subst h;rfl
theorem st3{c o:Int}(h:(c==3)=true):decide (o<0)=B6 c o:=by simp at h;subst h;rfl
theorem st4{c o:Int}(h:(c==4)=true):decide (o<=0)=B6 c o:=by simp at h;subst h;rfl
theorem st5{c o:Int}(h:(c==5)=true):decide (0<o)=B6 c o:=by simp at h;subst h;rfl
theorem st6{c o:Int}(h:(c==6)=true):decide (0<=o)=B6 c o:=by simp at h;subst h;rfl
theorem st7{c o:Int}(a:(c==1)=false)(b:(c==2)=false)(d:(c==3)=false)(e:(c==4)=false)(f:(c==5)=false)(g:(c==6)=false):false=B6 c o:=by simp at a b d e f g;simp[B6,a,b,d,e,f,g]
theorem AAP(c o:Int)(w:Tw):
 Zc 301 #[Zi c,Zi o] w λe a=>e=Zr (Zo (B6 c o))/\a=w:=by
 go_enter func301,ntmps301;go_wp2
 all_goals go_ret
 ·exact⟨Af (st1 ‹_›),rfl⟩
 ·exact⟨Af (st2 ‹_› ‹_›),rfl⟩
 ·exact⟨Af (st3 ‹_›),rfl⟩
 ·exact⟨Af (st4 ‹_›),rfl⟩
 ·exact⟨Af (st5 ‹_›),rfl⟩
 ·exact⟨Af (st6 ‹_›),rfl⟩
 rename_i h1 h2 h3 h4 h5 h6;exact⟨Af (st7 h1 h2 h3 h4 h5 h6),rfl⟩
theorem Jc(b:Bool)(w:Tw):
 Zc 257 #[Zo b] w λe a=>e=Zr (Zi (gG b))/\a=w:=by
 cases b
 ·go_enter func257,ntmps257
  go_wp2;go_ret;exact⟨rfl,rfl⟩
 go_enter func257,ntmps257;go_wp2;go_ret;exact⟨rfl,rfl⟩
def Vq(c a n1:Int)(t1:ByteArray)(b n2:Int)(t2:ByteArray):Int:=if a=0\/¬a=b then -1 else gG (B6 c (Kb a n1 t1 b n2 t2))
theorem is0{c x n1:Int}{t1:Tb}{y n2:Int}{t2:Tb}(h:x=0\/¬x=y):-1=Vq c x n1 t1 y n2 t2:=by unfold Vq;rw[Yae h]
theorem is1{c x n1:Int}{t1:Tb}{y n2:Int}{t2:Tb}(h:¬(x=0\/¬x=y)):(gG (B6 c (Kb x n1 t1 y n2 t2)))=Vq c x n1 t1 y n2 t2:=by unfold Vq;rw[Yad h]
theorem AHz(c a n1 d n2:Int)(t1 t2:Tb)(w:Tw)(h:a=0\/¬a=d):
 Zc 262 #[Zi c,Zg #[Zi a,Zi n1,Zt t1],Zg #[Zi d,Zi n2,Zt t2]] w λe k=>e=Zr (Zi (Vq c a n1 t1 d n2 t2))/\Zb w k:=by
 have g:=is0 (c:=c) (n1:=n1) (n2:=n2) (t1:=t1) (t2:=t2) h;have f:Hid (-1=Vq c a n1 t1 d n2 t2):=g;clear g
 rcases Classical.em (a=0) with b|b
 ·have i:(a==0)=true:=by simpa using b
  clear b h;go_enter func262,ntmps262;go_wp2;go_ret;exact⟨Bd f.o,(Zal).alloc (by simp) _⟩
 have i:(a==0)=false:=by simpa using b
 have j:(a==d)=false:=by simpa using h.resolve_left b
 clear b h;go_enter func262,ntmps262;go_wp2;go_ret;exact⟨Bd f.o,(Zal).alloc (by simp) _⟩
theorem AIK(c a n1 b n2:Int)(t1 t2:Tb)(w:Tw)(h:¬(a=0\/¬a=b)):
 Zc 262 #[Zi c,Zg #[Zi a,Zi n1,Zt t1],Zg #[Zi b,Zi n2,Zt t2]] w λe j=>e=Zr (Zi (Vq c a n1 t1 b n2 t2))/\Zb w j:=by
 have g:Hid ((gG (B6 c (Kb a n1 t1 b n2 t2)))=Vq c a n1 t1 b n2 t2):=is1 h;have k:(a==0)=false:=by simp;exact λf=>h (.inl f)
 have i:(a==b)=true:=by simp;exact Classical.byContradiction λf=>h (.inr f)
 clear h;go_enter func262,ntmps262
 go_wp2_with (first
  | (go_at_call 37;refine(Kc _ _ _ _ _ _ _).mono ?_;rintro e l⟨rfl,d⟩)
  | (go_at_call 301;refine(AAP _ _ _).mono ?_;rintro e m⟨rfl,rfl⟩)
  | (go_at_call 257;refine(Jc _ _).mono ?_;rintro e n⟨rfl,rfl⟩))
 go_ret;exact⟨Bd g.o,((Zal).alloc (by simp) _).trans (d.mono (by simp;omega))⟩
theorem AEl(c a n1 b n2:Int)(t1 t2:Tb)(w:Tw):
 Zc 262 #[Zi c,Zg #[Zi a,Zi n1,Zt t1],Zg #[Zi b,Zi n2,Zt t2]] w λe d=>e=Zr (Zi (Vq c a n1 t1 b n2 t2))/\Zb w d:=by
 rcases Classical.em (a=0\/¬a=b) with h|h
 ·exact AHz c a n1 b n2 t1 t2 w h
 exact AIK c a n1 b n2 t1 t2 w h
abbrev V:=Int×Int×ByteArray
variable{m x y:V}{l:List V}
def zeroV:V:=(0,0,⟨#[]⟩)
def Eu(x y:V):Int:=Kb x.1 x.2.1 x.2.2 y.1 y.2.1 y.2.2
theorem bV(x y:V):Eu x y = -1\/Eu x y=0\/Eu x y=1:=vN ..
theorem He(x y:V):Eu y x = -Eu x y:=ACp ..
theorem Ig:Eu x y=0↔x=y:=by
 unfold Eu;rw[ACf];constructor
 ·rintro⟨a,b,c⟩;exact Prod.ext a (Prod.ext b c)
 rintro rfl;exact⟨rfl,rfl,rfl⟩
theorem Vh(x:V):Eu x x=0:=Ig.2 rfl
theorem Ha{z:V}(c:Eu x y<=0)(d:Eu y z<=0):Eu x z<=0:=by
 rcases bV x y with a|a|a <;> rcases bV y z with b|b|b
 ·have:Eu x z = -1:=AAF _ _ _ _ _ _ _ _ _ _ a b
  omega
 ·rw[Ig] at b;subst b;omega
 ·omega
 ·rw[Ig] at a;subst a;omega
 ·rw[Ig] at a;subst a;omega
 ·omega
 ·omega
 ·omega
 omega
theorem ADy(b:Eu x y<=0)(a:Eu y x<=0):x=y:=by rw[He x y] at a;exact Ig.1 (by omega)
theorem j5(h:x.1<y.1):Eu y x=1:=by
 unfold Eu Kb orI;have:Oh y.1 x.1=1:=by unfold Oh;split <;> (try split) <;> omega
 rw[this];simp
def D9(a b:V):V:=if a.1=0\/(¬b.1=0/\Eu b a<0) then b else a
def Gu(a b:V):V:=if 0<Eu b a then b else a
def tS(l:List V)(m:V):Prop:=(m=zeroV/\∀x∈l,x.1=0)\/(¬m.1=0/\m∈l/\∀x∈l,¬x.1=0->Eu m x<=0)
def uS(l:List V)(m:V):Prop:=(m=zeroV/\∀x∈l,x.1=0)\/(¬m.1=0/\m∈l/\∀x∈l,¬x.1=0->Eu x m<=0)
theorem tS.both{l l':List V}{i:V}(h:tS l m)(f:tS l' i):tS (l++l') (D9 m i):=by
 unfold D9
 rcases h with⟨rfl,h⟩|⟨g,k,j⟩
 ·rw[Yae (.inl rfl)]
  rcases f with⟨rfl,f⟩|⟨b,e,c⟩
  ·exact .inl ⟨rfl,λx d=>(List.mem_append.1 d).elim (h x) (f x)⟩
  exact .inr ⟨b,List.mem_append.2 (.inr e),λx d a=>(List.mem_append.1 d).elim (λhh=>(a (h x hh)).elim) (λhh=>c x hh a)⟩
 rcases f with⟨rfl,f⟩|⟨b,e,c⟩
 ·rw[Yad (by rintro(h|⟨h,_⟩);exact g h;exact h rfl)]
  exact .inr ⟨g,List.mem_append.2 (.inl k),λx d a=>(List.mem_append.1 d).elim (λhh=>j x hh a) (λhh=>(a (f x hh)).elim)⟩
 by_cases hc:Eu i m<0
 ·rw[Yae (.inr ⟨b,hc⟩)]
  exact .inr ⟨b,List.mem_append.2 (.inr e),λx d a=>(List.mem_append.1 d).elim (λhh=>Ha (by omega) (j x hh a)) (λhh=>c x hh a)⟩
 rw[Yad (by rintro(h|⟨_,h⟩);exact g h;exact hc h)];have n:=He i m;exact .inr ⟨g,List.mem_append.2 (.inl k),λx d a=>(List.mem_append.1 d).elim (λhh=>j x hh a) (λhh=>Ha (by omega) (c x hh a))⟩
theorem uS.both{l l':List V}{g:V}(h:uS l m)(f:uS l' g)(o:∀x∈l,0<=x.1)(k:∀x∈l',0<=x.1):uS (l++l') (Gu m g):=by
 unfold Gu
 rcases h with⟨rfl,h⟩|⟨n,i,j⟩
 ·rcases f with⟨rfl,f⟩|⟨e,b,c⟩
  ·rw[Vh,Yad (by omega)]
   exact .inl ⟨rfl,λx d=>(List.mem_append.1 d).elim (h x) (f x)⟩
  have a:=k _ b;rw[j5 (show zeroV.1<g.1 by simp[zeroV];omega),Yae (by omega)];exact .inr ⟨e,List.mem_append.2 (.inr b),λx d a=>(List.mem_append.1 d).elim (λhh=>(a (h x hh)).elim) (λhh=>c x hh a)⟩
 rcases f with⟨rfl,f⟩|⟨e,b,c⟩
 ·have a:=o _ i
  rw[He m zeroV,j5 (show zeroV.1<m.1 by simp[zeroV];omega),Yad (by omega)];exact .inr ⟨n,List.mem_append.2 (.inl i),λx d a=>(List.mem_append.1 d).elim (λhh=>j x hh a) (λhh=>(a (f x hh)).elim)⟩
 by_cases hc:0<Eu g m
 ·rw[Yae hc]
  have p:=He g m;exact .inr ⟨e,List.mem_append.2 (.inr b),λx d a=>(List.mem_append.1 d).elim (λhh=>Ha (j x hh a) (by omega)) (λhh=>c x hh a)⟩
 rw[Yad hc];exact .inr ⟨n,List.mem_append.2 (.inl i),λx d a=>(List.mem_append.1 d).elim (λhh=>j x hh a) (λhh=>Ha (c x hh a) (by omega))⟩
abbrev St:=Int×Int×V×V
variable{s:St}
def F6:St:=(0,0,zeroV,zeroV)
def lL(a b:St):St:=(a.1+b.1,a.2.1+b.2.1,D9 a.2.2.1 b.2.2.1,Gu a.2.2.2 b.2.2.2)
def K7(v:V):St:=if v.1=0 then (1,1,zeroV,zeroV) else (1,0,v,v)
def Sw(l:List V):Nat:=l.countP λx=>x.1==0
structure Pk(l:List V)(s:St):Prop where
 iH:s.1=l.length
 Qi:s.2.1=Sw l
 mn:tS l s.2.2.1
 mx:uS l s.2.2.2
theorem Pk.nil:Pk [] F6:=⟨rfl,rfl,.inl ⟨rfl,by simp⟩,.inl ⟨rfl,by simp⟩⟩
theorem Pk.single(v:V):Pk [v] (K7 v):=by
 unfold K7
 by_cases h:v.1=0
 ·rw[Yae h]
  exact⟨rfl,by simp[Sw,h],.inl ⟨rfl,by simpa using h⟩,.inl ⟨rfl,by simpa using h⟩⟩
 rw[Yad h];refine⟨rfl,by simp[Sw,h],.inr ⟨h,by simp,?_⟩,.inr ⟨h,by simp,?_⟩⟩
 ·intro x a _
  rw[List.mem_singleton.1 a,Vh];omega
 intro x a _;rw[List.mem_singleton.1 a,Vh];omega
theorem Pk.both{l l':List V}{s s':St}(h:Pk l s)(a:Pk l' s')(c:∀x∈l,0<=x.1)(b:∀x∈l',0<=x.1):Pk (l++l') (lL s s') :=
 ⟨by simp[lL,h.iH,a.iH],by simp[lL,h.Qi,a.Qi,Sw],h.mn.both a.mn,h.mx.both a.mx c b⟩
theorem AGD(l:List V):Sw l<=l.length:=List.countP_le_length
def AIN(l:List V):Prop:=∀x∈l,∀y∈l,¬x.1=0->¬y.1=0->x.1=y.1
theorem Pk.null(h:Pk l s)(b:x∈l)(a:x.1=0):0<s.2.1:=by have:=h.Qi;have:0<Sw l:=List.countP_pos_iff.2 ⟨x,b,by simpa using a⟩;omega
theorem qA{x:V}(a:¬x.1=0):∀(l:List V),x∈l->Sw l<l.length
 | [],h=>by simp at h
 | y :: l,h=>by
   have b:=AGD l;unfold Sw at b ⊢
   rcases List.mem_cons.1 h with rfl|h
   ·rw[List.countP_cons_of_neg (by simpa using a)];simp only[XE];omega
   have:=qA a l h;unfold Sw at this;rw[List.countP_cons];simp only[XE];split <;> omega
theorem Pk.some(h:Pk l s)(d:AIN l)(b:x∈l)(a:¬x.1=0):
 s.2.1<s.1/\s.2.2.1.1=x.1/\s.2.2.2.1=x.1/\Eu s.2.2.1 x<=0/\Eu x s.2.2.2<=0:=by
 have k:=h.iH;have m:=h.Qi;have n:=qA a l b
 rcases h.mn with⟨_,c⟩|⟨e,f,g⟩
 ·exact(a (c x b)).elim
 rcases h.mx with⟨_,c⟩|⟨i,j,b3⟩
 ·exact(a (c x b)).elim
 exact⟨by omega,d _ f _ b e a,d _ j _ b i a,g x b a,b3 x b a⟩
variable{W w:Tw}{k n:Int}
theorem Aa{p:Prop}(h:p):Hid p:=h
theorem Qv(a:Zb W w):(∀b o,b<W.1.size->w.cell? (Zd b o)=W.cell? (Zd b o))/\(∀b o,b<W.1.size->w.frozen? (Zd b o)=W.frozen? (Zd b o)) :=
 ⟨λb o h=>a.cell (p:=Zd b o) h,λb o h=>a.frozen (p:=Zd b o) h⟩
theorem AH7(c b n1 d n2:Int)(t1 t2:Tb)(w:Tw):
 Zc 297 #[Zi c,Zg #[Zi b,Zi n1,Zt t1],Zg #[Zi d,Zi n2,Zt t2]] w λe f=>e=Zr (Zo (Vq c b n1 t1 d n2 t2==1))/\Zb w f:=by
 go_enter func297,ntmps297
 go_wp2_with (first
  | (go_at_call 262;refine(AEl _ _ _ _ _ _ _ _).mono ?_;rintro e g⟨rfl,a⟩))
 go_ret;exact⟨rfl,((Zal).alloc (by simp) _).trans (a.mono (by simp;omega))⟩
theorem lv1{a b:V}(h:a.1=0):b=D9 a b:=by unfold D9;rw[Yae (.inl h)]
theorem lv2{a b:V}(h:¬a.1=0)(c:b.1=0):a=D9 a b:=by unfold D9;rw[Yad (by rintro(x|⟨x,_⟩);exact h x;exact x c)]
theorem lv3{a b:V}(c:¬b.1=0)(d:Eu b a<0):b=D9 a b:=by unfold D9;rw[Yae (.inr ⟨c,d⟩)]
theorem lv4{a b:V}(h:¬a.1=0)(c:¬Eu b a<0):a=D9 a b:=by unfold D9;rw[Yad (by rintro(x|⟨_,x⟩);exact h x;exact c x)]
theorem gv1{a b:V}(c:0<Eu b a):b=Gu a b:=by unfold Gu;rw[Yae c]
theorem gv2{a b:V}(c:¬0<Eu b a):a=Gu a b:=by unfold Gu;rw[Yad c]
theorem lP{a:V}{t:Tb}(h:(k,n,t)=a):Ending.returned (Zg #[Zi k,Zi n,Zt t])=Zr (Zg #[Zi a.1,Zi a.2.1,Zt a.2.2]):=by rw[<-h]
theorem b3(w:Tw)(X Y Z:Obj):Zb w (((w.alloc X).alloc Y).alloc Z):=((Zal).alloc (by simp) _).alloc (by simp;omega) _
theorem b3c{X Y Z:Obj}(a:Below (((w.alloc X).alloc Y).alloc Z).heap.size (((w.alloc X).alloc Y).alloc Z) W)(b c d:Tv):Zb w (((W.setCell (Zd (w.1.size+1+1) 0) b).setCell (Zd (w.1.size+1+1) 1) c).setCell (Zd (w.1.size+1+1) 2) d) :=
 ((((b3 w X Y Z).trans (a.mono (by simp;omega))).setCell (by simp;omega) _).setCell (by simp;omega) _).setCell (by simp;omega) _
theorem AB1(b n1 c n2:Int)(t1 t2:Tb)(w:Tw):
 Zc 273 #[Zg #[Zi b,Zi n1,Zt t1],Zg #[Zi c,Zi n2,Zt t2]] w λe i=>e=Zr (Zg #[Zi (D9 (b,n1,t1) (c,n2,t2)).1,Zi (D9 (b,n1,t1) (c,n2,t2)).2.1,Zt (D9 (b,n1,t1) (c,n2,t2)).2.2])/\Zb w i:=by
 by_cases h1:b=0
 ·have f:Hid ((c,n2,t2)=D9 (b,n1,t1) (c,n2,t2)):=lv1 (a:=(b,n1,t1)) h1
  generalize D9 (b,n1,t1) (c,n2,t2)=m at *;have h:(b==0)=true:=by simpa using h1
  clear h1;go_enter func273,ntmps273;go_wp2;exact bodyPost_ret (v:=Zg #[Zi c,Zi n2,Zt t2]) (by simp[results,results273,go_sem]) rfl ⟨lP f.o,b3 _ _ _ _⟩
 have h:(b==0)=false:=by simpa using h1
 by_cases h2:c=0
 ·have f:Hid ((b,n1,t1)=D9 (b,n1,t1) (c,n2,t2)):=lv2 (a:=(b,n1,t1)) h1 h2
  generalize D9 (b,n1,t1) (c,n2,t2)=m at *;subst h2;clear h1;go_enter func273,ntmps273;go_wp2;exact bodyPost_ret (v:=Zg #[Zi b,Zi n1,Zt t1]) (by simp[results,results273,go_sem]) rfl ⟨lP f.o,b3 _ _ _ _⟩
 by_cases h3:Kb c n2 t2 b n1 t1<0
 ·have f:Hid ((c,n2,t2)=D9 (b,n1,t1) (c,n2,t2)):=lv3 (a:=(b,n1,t1)) h2 h3
  generalize D9 (b,n1,t1) (c,n2,t2)=m at *;clear h1;have g:=Aa (Kc c n2 b n1 t2 t1);generalize Kb c n2 t2 b n1 t1=o at *;go_enter func273,ntmps273
  go_wp2_with (first
   | (go_at_call 37;refine(g.o _).mono ?_;rintro e j⟨rfl,d⟩;obtain⟨hc,hf⟩:=Qv d))
  exact bodyPost_ret (v:=Zg #[Zi c,Zi n2,Zt t2]) (by simp[results,results273,go_sem,hc]) rfl ⟨lP f.o,b3c d _ _ _⟩
 have f:Hid ((b,n1,t1)=D9 (b,n1,t1) (c,n2,t2)):=lv4 (a:=(b,n1,t1)) h1 h3;generalize D9 (b,n1,t1) (c,n2,t2)=m at *;clear h1;have g:=Aa (Kc c n2 b n1 t2 t1);generalize Kb c n2 t2 b n1 t1=o at *;go_enter func273,ntmps273
 go_wp2_with (first
  | (go_at_call 37;refine(g.o _).mono ?_;rintro e j⟨rfl,d⟩;obtain⟨hc,hf⟩:=Qv d))
 exact bodyPost_ret (v:=Zg #[Zi b,Zi n1,Zt t1]) (by simp[results,results273,go_sem,hc]) rfl ⟨lP f.o,b3c d _ _ _⟩
theorem mX(b n1 c n2:Int)(t1 t2:Tb)(w:Tw):
 Zc 274 #[Zg #[Zi b,Zi n1,Zt t1],Zg #[Zi c,Zi n2,Zt t2]] w λe h=>e=Zr (Zg #[Zi (Gu (b,n1,t1) (c,n2,t2)).1,Zi (Gu (b,n1,t1) (c,n2,t2)).2.1,Zt (Gu (b,n1,t1) (c,n2,t2)).2.2])/\Zb w h:=by
 by_cases h3:0<Kb c n2 t2 b n1 t1
 ·have g:Hid ((c,n2,t2)=Gu (b,n1,t1) (c,n2,t2)):=gv1 (a:=(b,n1,t1)) h3
  generalize Gu (b,n1,t1) (c,n2,t2)=m at *;have f:=Aa (Kc c n2 b n1 t2 t1);generalize Kb c n2 t2 b n1 t1=o at *;go_enter func274,ntmps274
  go_wp2_with (first
   | (go_at_call 37;refine(f.o _).mono ?_;rintro e i⟨rfl,d⟩;obtain⟨hc,hf⟩:=Qv d))
  exact bodyPost_ret (v:=Zg #[Zi c,Zi n2,Zt t2]) (by simp[results,results274,go_sem,hc]) rfl ⟨lP g.o,b3c d _ _ _⟩
 have g:Hid ((b,n1,t1)=Gu (b,n1,t1) (c,n2,t2)):=gv2 (a:=(b,n1,t1)) h3;generalize Gu (b,n1,t1) (c,n2,t2)=m at *;have f:=Aa (Kc c n2 b n1 t2 t1);generalize Kb c n2 t2 b n1 t1=o at *;go_enter func274,ntmps274
 go_wp2_with (first
  | (go_at_call 37;refine(f.o _).mono ?_;rintro e i⟨rfl,d⟩;obtain⟨hc,hf⟩:=Qv d))
 exact bodyPost_ret (v:=Zg #[Zi b,Zi n1,Zt t1]) (by simp[results,results274,go_sem,hc]) rfl ⟨lP g.o,b3c d _ _ _⟩
theorem AIf{a:St}{c m:Int}{t:Tb}{k' n':Int}{t':Tb}(h:(c,m,(k,n,t),(k',n',t'))=a):Ending.returned (Zg #[Zi c,Zi m,Zi k,Zi n,Zt t,Zi k',Zi n',Zt t'])=Zr (Zg #[Zi a.1,Zi a.2.1,Zi a.2.2.1.1,Zi a.2.2.1.2.1,Zt a.2.2.1.2.2,Zi a.2.2.2.1,Zi a.2.2.2.2.1,Zt a.2.2.2.2.2]):=by rw[<-h]
theorem ADG(k n:Int)(t:Tb)(w:Tw):
 Zc 229 #[Zg #[Zi k,Zi n,Zt t]] w λe c=>e=Zr (Zg #[Zi (K7 (k,n,t)).1,Zi (K7 (k,n,t)).2.1,Zi (K7 (k,n,t)).2.2.1.1,Zi (K7 (k,n,t)).2.2.1.2.1,Zt (K7 (k,n,t)).2.2.1.2.2,Zi (K7 (k,n,t)).2.2.2.1,Zi (K7 (k,n,t)).2.2.2.2.1,Zt (K7 (k,n,t)).2.2.2.2.2])/\Zb w c:=by
 by_cases h1:k=0
 ·have a:Hid ((1,1,(0,0,⟨#[]⟩),(0,0,⟨#[]⟩))=K7 (k,n,t)):=Aa (by unfold K7;rw[Yae h1];rfl)
  generalize K7 (k,n,t)=m at *;have b:(k==0)=true:=by simpa using h1
  clear h1;go_enter func229,ntmps229;go_wp2;exact bodyPost_ret (v:=Zg #[Zi 1,Zi 1,Zi 0,Zi 0,Zt ⟨#[]⟩,Zi 0,Zi 0,Zt ⟨#[]⟩]) (by simp[results,results229,go_sem]) rfl ⟨AIf a.o,(Zal).alloc (by simp) _⟩
 have a:Hid ((1,0,(k,n,t),(k,n,t))=K7 (k,n,t)):=Aa (by unfold K7;rw[Yad h1]);generalize K7 (k,n,t)=m at *;have b:(k==0)=false:=by simpa using h1
 clear h1;go_enter func229,ntmps229;go_wp2;exact bodyPost_ret (v:=Zg #[Zi 1,Zi 0,Zi k,Zi n,Zt t,Zi k,Zi n,Zt t]) (by simp[results,results229,go_sem]) rfl ⟨AIf a.o,(Zal).alloc (by simp) _⟩
theorem b3s{X Y Z:Obj}(a:Below (((w.alloc X).alloc Y).alloc Z).heap.size (((w.alloc X).alloc Y).alloc Z) W):Zb w W:=(b3 w X Y Z).trans (a.mono (by simp;omega))
theorem b3d{X Y Z:Obj}(a:Below (((w.alloc X).alloc Y).alloc Z).drew.heap.size (((w.alloc X).alloc Y).alloc Z).drew W):Zb w W:=(b3 w X Y Z).drew.trans (a.mono (by simp;omega))
theorem Below.Ap{a b c:Tw}(h:Zb a b)(k:Zb b c):Zb a c:=h.trans (k.mono h.size)
theorem b8c(b:Zb w W){g:Nat}(a:w.1.size<=g)(c d e f h i j k:Tv):Zb w ((((((((W.setCell (Zd g 0) c).setCell (Zd g 1) d).setCell (Zd g 2) e).setCell (Zd g 3) f).setCell (Zd g 4) h).setCell (Zd g 5) i).setCell (Zd g 6) j).setCell (Zd g 7) k) :=
 (((((((b.setCell a _).setCell a _).setCell a _).setCell a _).setCell a _).setCell a _).setCell a _).setCell a _
theorem AD6(c1 f h n1:Int)(t1:Tb)(j l:Int)(n:Tb)(d g i n2:Int)(t2:Tb)(k m:Int)(o:Tb)(w:Tw)(t:0<=c1)(p:c1<=1000)(u:0<=d)(q:d<=1000)(x:0<=f)(r:f<=1000)(y:0<=g)(s:g<=1000):
 Zc 228 #[Zg #[Zi c1,Zi f,Zi h,Zi n1,Zt t1,Zi j,Zi l,Zt n],Zg #[Zi d,Zi g,Zi i,Zi n2,Zt t2,Zi k,Zi m,Zt o]] w
  λe a=>e=Zr (Zg #[Zi (c1+d),Zi (f+g),Zi (D9 (h,n1,t1) (i,n2,t2)).1,Zi (D9 (h,n1,t1) (i,n2,t2)).2.1,Zt (D9 (h,n1,t1) (i,n2,t2)).2.2,Zi (Gu (j,l,n) (k,m,o)).1,Zi (Gu (j,l,n) (k,m,o)).2.1,Zt (Gu (j,l,n) (k,m,o)).2.2])/\Zb w a:=by
 have I:=Aa (AB1 h n1 i n2 t1 t2);have G:=Aa (mX j l k m n o);generalize (D9 (h,n1,t1) (i,n2,t2))=X at *;generalize (Gu (j,l,n) (k,m,o))=J at *;obtain⟨V,W,lt⟩:=X;obtain⟨L,M,P⟩:=J;have hz:w.1.size<w.1.size+1+1+1:=by omega
 have U:w.1.size<w.1.size+1+1:=by omega
 have N:¬w.1.size=w.1.size+1+1:=by omega
 have O:¬w.1.size+1+1=w.1.size:=by omega
 have R:IntKind.i64.wrap (c1+d)=c1+d:=by rw[IntKind.wrap_i64];omega
 have T:IntKind.i64.wrap (f+g)=f+g:=by rw[IntKind.wrap_i64];omega
 clear t p u q x r y s;go_enter func228,ntmps228;go_wp2
 go_region_held3 (λa=>a.cell? (Zd w.1.size 0)=some (Zi c1)/\a.cell? (Zd w.1.size 1)=some (Zi f)/\a.cell? (Zd w.1.size 2)=some (Zi h)/\a.cell? (Zd w.1.size 3)=some (Zi n1)/\a.cell? (Zd w.1.size 4)=some (Zt t1)/\a.cell? (Zd w.1.size 5)=some (Zi j)/\a.cell? (Zd w.1.size 6)=some (Zi l)/\a.cell? (Zd w.1.size 7)=some (Zt n)
  /\a.cell? (Zd (w.1.size+1) 0)=some (Zi d)/\a.cell? (Zd (w.1.size+1) 1)=some (Zi g)/\a.cell? (Zd (w.1.size+1) 2)=some (Zi i)/\a.cell? (Zd (w.1.size+1) 3)=some (Zi n2)/\a.cell? (Zd (w.1.size+1) 4)=some (Zt t2)/\a.cell? (Zd (w.1.size+1) 5)=some (Zi k)/\a.cell? (Zd (w.1.size+1) 6)=some (Zi m)/\a.cell? (Zd (w.1.size+1) 7)=some (Zt o)) (go_keep)
  (first
    | (go_at_call 273;refine(I.o _).mono ?_;rintro e z⟨rfl,b⟩;obtain⟨hcl,hfl⟩:=Qv b;have z0:w.1.size<z.1.size:=Ya (by first|assumption|(simp;done)|(simp;omega)) b.size;have z1:w.1.size+1<z.1.size:=Ya (by first|assumption|(simp;done)|(simp;omega)) b.size;have Y:w.1.size+1+1<z.1.size:=Ya (by first|assumption|(simp;done)|(simp;omega)) b.size)
    | (go_at_call 274;refine(G.o _).mono ?_;rintro e D⟨rfl,c⟩;obtain⟨hcg,hfg⟩:=Qv c;have y0:w.1.size<D.1.size:=Ya (by first|assumption|(simp;done)|(simp;omega)) c.size;have y1:w.1.size+1<D.1.size:=Ya (by first|assumption|(simp;done)|(simp;omega)) c.size;have y2:w.1.size+1+1<D.1.size:=Ya (by first|assumption|(simp;done)|(simp;omega)) c.size))
 go_wp2;exact bodyPost_ret (v:=Zg #[Zi (c1+d),Zi (f+g),Zi V,Zi W,Zt lt,Zi L,Zi M,Zt P]) (by simp[results,results228,go_sem,hcl,hcg,Y]) rfl ⟨rfl,b8c (Below.Ap (b3d b) c) (by omega) _ _ _ _ _ _ _ _⟩
variable{g k r:Nat}{w:Tw}{s:St}
theorem Gj(w:Tw)(X Y:Obj):Zb w ((w.alloc X).alloc Y):=(Zal).alloc (by simp) _
def Sl(w:World)(v:Value)(l:List V):Prop :=
 ∃a c,v=.slice a l.length c/\l.length<=c/\(l≠[]->∃b off,a=some ⟨b,off,none⟩/\b<w.1.size /\
  ∀j x,l[j]? = some x->w.cell? ⟨b,off+j*3,none⟩=some (Zi x.1)/\w.cell? ⟨b,off+j*3+1,none⟩=some (Zi x.2.1)/\w.cell? ⟨b,off+j*3+2,none⟩=some (.string x.2.2))
theorem Hk{α:Type}{l:List α}(h:k<l.length):∃x,l[k]? = some x:=⟨_,XB h⟩
theorem Cs{α:Type}{l:List α}{x:α}(h:l[k]? = some x):l.take (k+1)=l.take k++[x]:=by
 have b:k<l.length:=by
  rcases Yc k l.length with a|a
  ·exact a
  rw[Yb a] at h;cases h
 rw[Ys b];rw[XB b] at h;injection h with h;rw[h]
def Iv(l:List V):St:=l.foldl (λs v=>lL s (K7 v)) F6
theorem Vl{l:List V}{x:V}(h:l[k]? = some x):Iv (l.take (k+1))=lL (Iv (l.take k)) (K7 x):=by rw[Cs h];simp[Iv]
theorem ANf(x:V):(K7 x).1=1/\0<=(K7 x).2.1/\(K7 x).2.1<=1:=by unfold K7;split <;> simp
theorem Qx(l:List V):∀k,k<=l.length->(Iv (l.take k)).1=k/\0<=(Iv (l.take k)).2.1/\(Iv (l.take k)).2.1<=k
 | 0,_=>by simp[Iv,F6]
 | k+1,h=>by obtain⟨x,a⟩:=Hk (show k<l.length by omega);have c:=Qx l k (by omega);have b:=ANf x;rw[Vl a];simp only[lL];omega
theorem jK(l:List V)(a:∀x∈l,0<=x.1):∀k,k<=l.length->Pk (l.take k) (Iv (l.take k))
 | 0,_=>Pk.nil
 | k+1,h=>by obtain⟨x,b⟩:=Hk (show k<l.length by omega);rw[Vl b,Cs b];exact(jK l a k (by omega)).both (Pk.single x) (λy c=>a y (Ym c)) (λy c=>by rw[List.mem_singleton.1 c];exact a x (XH b))
theorem AHR(l:List V)(a:∀x∈l,0<=x.1):Pk l (Iv l):=by have:=jK l a l.length (Y' _);rwa[Yf (Y' _)] at this
def E6(s:St):Array Value:=#[Zi s.1,Zi s.2.1,Zi s.2.2.1.1,Zi s.2.2.1.2.1,.string s.2.2.1.2.2,Zi s.2.2.2.1,Zi s.2.2.2.2.1,.string s.2.2.2.2.2]
def Nq(w:World)(g:Nat)(s:St):Prop:=w.1[g]? = some (.cells (E6 s) 261)
theorem Nq.lt(h:Nq w g s):g<w.1.size:=by
 rcases Yc g w.1.size with a|a
 ·exact a
 unfold Nq at h;rw[XN a] at h;cases h
theorem Nq.up{W:Tw}(h:Nq w g s)(a:Zb w W):Nq W g s:=(a.block g h.lt).trans h
theorem Nq.cells{w:Tw}{g:Nat}{c m k n:Int}{t:Tb}{k' n':Int}{t':Tb}(h:Nq w g (c,m,(k,n,t),(k',n',t'))):
 w.cell? (Zd g 0)=some (Zi c)/\w.cell? (Zd g 1)=some (Zi m)/\w.cell? (Zd g 2)=some (Zi k)/\w.cell? (Zd g 3)=some (Zi n)/\w.cell? (Zd g 4)=some (Zt t)/\w.cell? (Zd g 5)=some (Zi k')/\w.cell? (Zd g 6)=some (Zi n')/\w.cell? (Zd g 7)=some (Zt t') :=
 ⟨cell_of_block h 0,cell_of_block h 1,cell_of_block h 2,cell_of_block h 3,cell_of_block h 4,cell_of_block h 5,cell_of_block h 6,cell_of_block h 7⟩
theorem Nq.free(h:Nq w g s):
 w.frozen? (Zd g 0)=false/\w.frozen? (Zd g 1)=false/\w.frozen? (Zd g 2)=false/\w.frozen? (Zd g 3)=false/\w.frozen? (Zd g 4)=false/\w.frozen? (Zd g 5)=false/\w.frozen? (Zd g 6)=false/\w.frozen? (Zd g 7)=false :=
 ⟨unfrozen_of_block h 0,unfrozen_of_block h 1,unfrozen_of_block h 2,unfrozen_of_block h 3,unfrozen_of_block h 4,unfrozen_of_block h 5,unfrozen_of_block h 6,unfrozen_of_block h 7⟩
theorem Nq.put{s s':St}(h:Nq w g s):
 Nq ((((((((w.setCell (Zd g 0) (Zi s'.1)).setCell (Zd g 1) (Zi s'.2.1)).setCell (Zd g 2) (Zi s'.2.2.1.1)).setCell (Zd g 3) (Zi s'.2.2.1.2.1)).setCell (Zd g 4) (Zt s'.2.2.1.2.2)).setCell (Zd g 5) (Zi s'.2.2.2.1)).setCell (Zd g 6) (Zi s'.2.2.2.2.1)).setCell (Zd g 7) (Zt s'.2.2.2.2.2)) g s':=by
 unfold Nq at h ⊢;rw[block_setCell (block_setCell (block_setCell (block_setCell (block_setCell (block_setCell (block_setCell (block_setCell h _) _) _) _) _) _) _) _];simp[E6]
theorem Nq.AKz{s s':St}{c m k n:Int}{t:Tb}{k' n':Int}{t':Tb}(h:Nq w g s)(e:s'=(c,m,(k,n,t),(k',n',t'))):
 Nq ((((((((w.setCell (Zd g 0) (Zi c)).setCell (Zd g 1) (Zi m)).setCell (Zd g 2) (Zi k)).setCell (Zd g 3) (Zi n)).setCell (Zd g 4) (Zt t)).setCell (Zd g 5) (Zi k')).setCell (Zd g 6) (Zi n')).setCell (Zd g 7) (Zt t')) g s':=by
 subst e;have:=Nq.put (s':=(c,m,(k,n,t),(k',n',t'))) h;exact this
theorem Nq.off{i:Nat}{v:Tv}(h:Nq w r s)(a:r<g):Nq (w.setCell (Zd g i) v) r s :=
 (((XG g w).setCell (Y' _) v).block r a).trans h
theorem Nq.AKr{v u f a e c d i:Tv}(h:Nq w r s)(b:r<g):
 Nq ((((((((w.setCell (Zd g 0) v).setCell (Zd g 1) u).setCell (Zd g 2) f).setCell (Zd g 3) a).setCell (Zd g 4) e).setCell (Zd g 5) c).setCell (Zd g 6) d).setCell (Zd g 7) i) r s :=
 (((((((h.off b).off b).off b).off b).off b).off b).off b).off b
theorem ACR(w:Tw)(X Y:Obj):((w.alloc X).alloc Y).heap[w.1.size+1]? = some Y:=by rw[<-show (w.alloc X).heap.size=w.1.size+1 by simp];exact Yac _ _
theorem yU(v:Tv)(l:List V)(w:Tw)(hs:Sl w v l)(hl:l.length<=900):
 Zc 187 #[v] w λe w'=>e=Zr (Zg (E6 (Iv l)))/\Zb w w':=by
 obtain⟨a,c,rfl,_,R⟩:=hs;have M:=Aa R;clear R;go_enter func187,ntmps187;go_wp2
 go_loopw [8] (λJ wr=>∃k:Nat,k<=l.length/\J=Zi k/\Hid (Nq wr w.1.size F6/\Nq wr (w.1.size+1) (Iv (l.take k))/\Zb w wr)) (λJ _=>l.length-(intOf J).toNat)
 case atStart=>exact⟨0,XI _,rfl,⟨(XQ _ _ _ (by simp)).trans (Yac _ _),ACR w _ _,Gj _ _ _⟩⟩
 case round=>
  obtain⟨k,hk,rfl,d⟩:=hrel
  by_cases hlt:k<l.length
  ·obtain⟨b,off,rfl,u,T⟩:=M.o (by intro e;rw[e] at hlt;simp at hlt)
   obtain⟨⟨o,q,r⟩,x⟩:=Hk hlt;obtain⟨N,O,P⟩:=T k _ x;have d0:wr.cell? (Zd b (off+k*3))=some (Zi o):=(d.o.2.2.cell (p:=Zd b (off+k*3)) u).trans N;have d1:wr.cell? (Zd b (off+k*3+1))=some (Zi q):=(d.o.2.2.cell (p:=Zd b (off+k*3+1)) u).trans O;have d2:wr.cell? (Zd b (off+k*3+2))=some (Zt r):=(d.o.2.2.cell (p:=Zd b (off+k*3+2)) u).trans P;have HN:=Aa (Vl x);have f:=Qx l k (by omega);have g:=ANf (o,q,r);have HO:=Aa (ADG o q r);clear N O P T x;generalize Iv (l.take k)=s1 at *;generalize K7 (o,q,r)=so at *;obtain⟨c1,z,⟨y,n1,t1⟩,⟨D,G,I⟩⟩:=s1;obtain⟨c2,m2,⟨k2,n2,t2⟩,⟨p2,q2,u2⟩⟩:=so;obtain⟨e0,e1,e2,e3,e4,e5,e6,e7⟩:=d.o.2.1.cells;obtain⟨f0,f1,f2,f3,f4,f5,f6,f7⟩:=d.o.2.1.free;have aa:=d.o.2.1.lt;have HB:=Aa (λ(W:Tw)=>AD6 c1 z y n1 t1 D G I c2 m2 k2 n2 t2 p2 q2 u2 W (by simp only at f;omega) (by simp only at f;omega) (by simp only at g;omega) (by simp only at g;omega) (by simp only at f;omega) (by simp only at f;omega) (by simp only at g;omega) (by simp only at g;omega));clear f g;have ab:¬wr.1.size=w.1.size+1:=by omega
   have ac:¬w.1.size+1=wr.1.size:=by omega
   have hz:w.1.size+1<wr.1.size+1:=by omega
   go_wp2_with fail
   go_region_with (first
    | (go_at_call 229;refine(HO.o _).mono ?_;rintro e U⟨rfl,h⟩;obtain⟨hcl,hfl⟩:=Qv h;have X:w.1.size+1<U.1.size:=Ya (by first|assumption|(simp;done)|(simp;omega)) h.size;have Y:wr.1.size<U.1.size:=Ya (by first|assumption|(simp;done)|(simp;omega)) h.size)
    | (go_at_call 228;refine(HB.o _).mono ?_;rintro e L⟨rfl,i⟩;obtain⟨hcg,hfg⟩:=Qv i;have y0:w.1.size+1<L.1.size:=Ya (by first|assumption|(simp;done)|(simp;omega)) i.size;have y1:wr.1.size<L.1.size:=Ya (by first|assumption|(simp;done)|(simp;omega)) i.size))
   all_goals
    go_wp2
    go_roundw
    case rel=>have s:Zb wr L:=Below.Ap (Below.Ap (((XG _ wr).alloc (Y' _) _).drew) h) i;exact⟨k+1,by omega,by go_num,Aa ⟨(d.o.1.up s).AKr (by omega),Nq.AKz (d.o.2.1.up s) (HN.o.trans rfl),b8c (Below.Ap d.o.2.2 s) (by omega) _ _ _ _ _ _ _ _⟩⟩
    case measure=>simp[intOf];omega
  have e:l.take k=l:=Yf (by omega);rw[e] at d;clear e M;obtain⟨s1,j⟩:∃s1,Iv l=s1:=⟨_,rfl⟩;rw[j] at d;have HE:=Aa j;clear j;obtain⟨c1,z,⟨y,n1,t1⟩,⟨D,G,I⟩⟩:=s1;obtain⟨e0,e1,e2,e3,e4,e5,e6,e7⟩:=d.o.2.1.cells;obtain⟨X,Y,z2,z3,z4,z5,z6,z7⟩:=Nq.cells (c:=0) (m:=0) (k:=0) (n:=0) (t:=⟨#[]⟩) (k':=0) (n':=0) (t':=⟨#[]⟩) d.o.1;obtain⟨f0,f1,f2,f3,f4,f5,f6,f7⟩:=d.o.1.free;go_wp2;exact bodyPost_ret (v:=Zg #[Zi c1,Zi z,Zi y,Zi n1,Zt t1,Zi D,Zi G,Zt I]) (by simp[results,results187,go_sem,X,Y,z2,z3,z4,z5,z6,z7]) rfl ⟨by rw[HE.o];rfl,b8c d.o.2.2 (Y' _) _ _ _ _ _ _ _ _⟩
end S
theorem Hs(a b:List Aj):Av (a++b)=Av a++Av b:=by simp[Av]
theorem Gz(l:List Aj)(nm:Tb):(Ce l nm = -1/\∀j,j<l.length->l[j]!.2.1≠nm)\/∃k:Nat,k<l.length/\Ce l nm=k/\l[k]!.2.1=nm:=by
 by_cases h:∃k,k<l.length/\l[k]!.2.1=nm
 ·right
  have d:∃k,k<l.length/\l[k]!.2.1=nm:=h
  let P:Nat->Prop:=λk=>k<l.length/\l[k]!.2.1=nm
  have i:∀n,(∃k,k<n/\P k)->∃k,P k/\∀j,j<k->¬P j:=by
   intro n
   induction n with
   | zero=>rintro⟨k,c,_⟩;omega
   | succ n ih=>
     rintro⟨k,c,p⟩
     by_cases hx:∃j,j<n/\P j
     ·exact ih hx
     refine⟨k,p,λj a g=>hx ⟨j,by omega,g⟩⟩
  obtain⟨o,f⟩:=d;obtain⟨k,⟨c,m⟩,b⟩:=i (o+1) ⟨o,by omega,f⟩;refine⟨k,c,?_,m⟩
  have:=Lib.idxBy_hit (λ(_:Aj)(y:Aj)=>y.2.1.toList==nm.toList) l l.length k default c (Y' _) (by show (l[k]!.2.1.toList==nm.toList)=true;rw[m];exact beq_self_eq_true _) (λj a=>by
   have:=b j a;have:l[j]!.2.1≠nm:=λe=>this ⟨by omega,e⟩
   exact beq_eq_false_iff_ne.2 (λe=>this (toList_inj e)))
  rw[Yg] at this;exact this
 left;refine⟨?_,λj a e=>h ⟨j,a,e⟩⟩;have:=Lib.idxBy_miss (λ(_:Aj)(y:Aj)=>y.2.1.toList==nm.toList) l l.length default (λj a=>beq_eq_false_iff_ne.2 (λe=>h ⟨j,a,toList_inj e⟩));rw[Yg] at this;exact this
