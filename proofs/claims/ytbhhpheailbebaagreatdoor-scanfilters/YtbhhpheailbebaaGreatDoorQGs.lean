import Derived.Test.YtbhhpheailbebaaGreatDoorFR2s
set_option maxHeartbeats 40000000
set_option maxRecDepth 100000
open Nat renaming le_add_right->Y9,le_refl->XA,zero_le->XG,le_trans->XU
open List renaming getElem?_eq_getElem->Y',mem_of_getElem?->XD,getElem?_append_right->XE,getElem?_append_left->XF,getElem?_map->XH,length_cons->XJ,cons_append->XK,length_take->XL,append_nil->XM,length_replicate->XN,nil_append->XR,length_map->XS
open Go.RowKit.Below renaming refl->XB,heap_alloc->XI
open Go.World renaming size_alloc->XC,news_of_block->XO
open Bool renaming false_eq_true->XP
open Int renaming natCast_zero->XQ,add_zero->XT
namespace Go.Proofs.YtbhhpheailbebaaGreatDoor
open Tryz RowKit Shelf Joins Lib
open Go.Sort (grow)
namespace F
variable{I:Nat}{W w:Tw}{v:Tv}
theorem xR{cols:List Aj}{n:Nat}{st:List S.St}{bs:List (List UInt8)}{c:Aj}(h:¬pos cols c.1<cols.length):Bq cols (n,st,bs) c=List.replicate n (bP c):=by unfold Bq;rw[if_neg h]
theorem wW(j:Tv)(o:To)(q p:Nat)(cols:List Aj)(n:Nat)(x:To)(z y:Nat)(k:To)(m l:Nat)(st:List S.St)(bs:List (List UInt8))(c1:Int)(a:Tb)(d:Int)(f:Bool)(g h:Int)(i:Tb)(w:Tw)(J:F7 7 Cc w j cols)(s:F7 1 Mc w (Zs k m l) bs)(G:1<=cols.length)(I:cols.length<=8)(r:bs.length=cols.length)(v:∀b∈bs,b.length<=1000000)(t:1<=n)(u:n<=6):
 Zc 97 #[Zg #[j,Zs o q p],Zg #[Zi n,Zs x z y,Zs k m l],Zg #[Zi c1,Zt a,Zi d,Zo f,Zi g,Zi h,Zt i]] w
  λe D=>∃v',e=Zr v'/\D.ownsRow w.heap.size 56 3 v' (Bq cols (n,st,bs) (c1,a,d,f,g,h,i)).length (E.A1 (Bq cols (n,st,bs) (c1,a,d,f,g,h,i)))/\Zb w D:=by
 by_cases hp:pos cols c1<cols.length
 ·rw[kK (n:=n) (st:=st) (c:=(c1,a,d,f,g,h,i)) hp]
  exact Lb j o q p cols n x z y _ bs c1 a d f g h i w J s G I r hp v
 rw[xR (n:=n) (st:=st) (bs:=bs) (c:=(c1,a,d,f,g,h,i)) hp];refine(AC1 j o q p cols n x z y k m l c1 a d f g h i w J G I hp t u).mono ?_;rintro e D⟨v',rfl,M,L⟩;refine⟨v',rfl,?_,L⟩;rw[XN];exact M
def yF(I:Nat)(w:World)(v:Value)(rows:List (List V)):Prop:=∃a:List Value,a.length=rows.length/\w.ownsRow 0 51 1 v rows.length a/\∀(j:Nat)x r,a[j]? = some x->rows[j]? = some r->w.ownsRow I 56 3 x r.length (E.A1 r)
theorem yF.o{rows:List (List V)}(h:yF I w v rows):Sc 0 w v rows:=by obtain⟨f,a,b,c⟩:=h;exact⟨f,a,b,λj x r e d=>E.Ai (c j x r e d) (XG _)⟩
theorem yF.low{I I':Nat}{rows:List (List V)}(h:yF I w v rows)(d:I'<=I):yF I' w v rows:=by obtain⟨g,a,b,c⟩:=h;exact⟨g,a,b,λj x r f e=>E.Ai (c j x r f e) d⟩
theorem yF.up{rows:List (List V)}(h:yF I w v rows)(a:Zb w W):yF I W v rows:=by obtain⟨g,b,c,d⟩:=h;exact⟨g,b,E.Ad c a,λj x r f e=>E.Ad (d j x r f e) a⟩
def l4(r:Option (List (List V)))(w:World)(e:Ending)(a:World):Prop:=match r with
 | none=>e=.returned (.tuple #[.slice none 0 0,.iface 90 (Zi 2)])/\Zb w a
 | some rows=>∃v',e=.returned (.tuple #[v',.nilIface])/\yF w.heap.size a v' rows/\Zb w a
theorem RI.AIj{B R I:Nat}{X:List Tv}{L:List (List V)}(h:RI B R W X L)(a:I<=B):yF I W (Zs (some ⟨R,0,none⟩) L.length L.length) L :=
 ⟨X,h.len,E.Ai h.row (XG _),λj x r c b=>E.Ai (h.each j x r c b) a⟩
theorem AFP(k:Nat)(cv gv lv:Tv)(cols:List Aj)(gs:List Fk)(g:Fk)(d:List Aj)(w:Tw)(hF:Hm w cv gv (cols,gs))(hk:gs[k]? = some g)(hn:F7 7 Cc w lv d)(cx:d.length<=8)(h1:1<=cols.length)(h8:cols.length<=8)(bx:∀b∈g.2.2,b.length<=1000000):
 Zc 52 #[Zg #[cv,gv],Zi k,lv] w (l4 (Ew cols g d) w):=by
 obtain⟨n,st,bs⟩:=g;obtain⟨hC,hG⟩:=hF;have HA:=Aa (λW hW=>nL k cv gv cols gs (n,st,bs) W (hC.up hW) (hG.up hW) hk);have HC:=Aa hC;have HN:=Aa hn;obtain⟨ga,gc,rfl,_⟩:=hG.slice;obtain⟨la,lc,rfl,_⟩:=hn.slice;obtain⟨ca,cc,rfl,_⟩:=hC.slice;have a0:Below w.heap.size w (w.alloc (Zk #[Zs ca cols.length cc,Zs ga gs.length gc] 98)):=Zal;have aa:=Aa (HA.o _ a0);have hX:=heap_alloc_new w (Zk #[Zs ca cols.length cc,Zs ga gs.length gc] 98);obtain⟨f0,f1⟩:=Hg hX;have a9:Hid (∀W,Below (w.alloc (Zk #[Zs ca cols.length cc,Zs ga gs.length gc] 98)).heap.size (w.alloc (Zk #[Zs ca cols.length cc,Zs ga gs.length gc] 98)) W->W.cell? ⟨w.heap.size,0,none⟩=some (Zs ca cols.length cc)/\W.cell? ⟨w.heap.size,1,none⟩=some (Zs ga gs.length gc)):=Aa (λW hW=>⟨Ag hW f0,Ag hW f1⟩);have N:=Aa a0;clear hC hG hn HA a0 hX f0 f1;cases hw:Gb cols (n,st,bs) with
 | false=>have HR:Hid (Ew cols (n,st,bs) d=none):=Aa (by unfold Ew;rw[hw];rfl);simp only[hw] at aa;go_enter func52,ntmps52;go_wp2_with fail;refine aa.o.mono ?_;rintro e t⟨sv,bv,rfl,ag,R,s⟩;obtain⟨sa,sc,rfl,_⟩:=ag.slice;obtain⟨ba,bc,rfl,_⟩:=R.slice;clear ag R;go_wp2;go_ret2;rw[HR.o];exact⟨rfl,(Ap N.o s).alloc (Ap N.o s).size _⟩
 | true=>
   simp only[hw] at aa;have cq:st.length=cols.length/\bs.length=cols.length/\1<=n/\n<=6:=by simpa[Gb] using hw
   obtain⟨ak,bn,bt,ck⟩:=cq;have b2:=Aa bn;have HW:=Aa hw;have b9:=Aa bx;obtain⟨iS,bo,bz,ar,av⟩:=info_parts eI;have ah:=Zy bo bz ar av;obtain⟨iV,bp,b0,au,aw⟩:=info_parts E.Ip;have ai:=Zy bp b0 au aw;clear hw bx bn ak bo bz ar av bp b0 au aw hk;go_enter func52,ntmps52;go_wp2_with fail;refine aa.o.mono ?_;rintro e t⟨sv,bv,rfl,ag,R,s⟩;have a7:=Aa (R.up s);obtain⟨sa,sc,rfl,_⟩:=ag.slice;obtain⟨ba,bc,rfl,_⟩:=R.slice;clear ag R;have cy:¬(n:Int)<0:=by omega
   have bw:=s.size;simp only[XC] at bw;go_wp2_with (refine wpList_make_full _ rfl _ _ 35 rfl (t.heap.size+1) 51 iS (.slice none 0 0) 1 underlying35 ah.o.1 ah.o.2.1 ah.o.2.2.1 .i64 .i64 _ _ n rfl rfl rfl rfl ?m1 ?m2 ?m3 ?_)
   case m1=>rw[ah.o.2.2.2];omega
   case m2=>unfold maxLen;omega
   case m3=>simp
   intro w3 bu T;have bl:=heap_alloc_new t (Zk #[Zi n,Zs sa st.length sc,Zs ba bs.length bc] 128);obtain⟨g0,g1,g2,_,_,_⟩:=J5 bl;have aq:Below (t.heap.size+1) (t.alloc (Zk #[Zi n,Zs sa st.length sc,Zs ba bs.length bc] 128)) w3:=⟨T.os,T.tape,T.output,T.size,λk hk=>T.block k (by simp;omega) (by simp)⟩;have J:Below w.heap.size w (t.alloc (Zk #[Zi n,Zs sa st.length sc,Zs ba bs.length bc] 128)):=(Ap N.o s).alloc (Ap N.o s).size _;have af:Below t.heap.size t (t.alloc (Zk #[Zi n,Zs sa st.length sc,Zs ba bs.length bc] 128)):=Zal
   have bb:Hid (∀W,Below (t.heap.size+1) w3 W->(W.cell? ⟨w.heap.size,0,none⟩=some (Zs ca cols.length cc)/\W.cell? ⟨w.heap.size,1,none⟩=some (Zs ga gs.length gc))/\(W.cell? ⟨t.heap.size,0,none⟩=some (Zi n)/\W.cell? ⟨t.heap.size,1,none⟩=some (Zs sa st.length sc)/\W.cell? ⟨t.heap.size,2,none⟩=some (Zs ba bs.length bc))/\F7 7 Cc W (Zs ca cols.length cc) cols/\F7 7 Cc W (Zs la d.length lc) d/\F7 1 Mc W (Zs ba bs.length bc) bs/\Below w.heap.size w W):=Aa (λW hW=>by
    have y:Below (t.alloc (Zk #[Zi n,Zs sa st.length sc,Zs ba bs.length bc] 128)).heap.size (t.alloc (Zk #[Zi n,Zs sa st.length sc,Zs ba bs.length bc] 128)) W:=by change Below _ _ _;rw[XC];exact aq.trans hW
    exact⟨a9.o W (Ap (Ap s af) y),⟨Ag y g0,Ag y g1,Ag y g2⟩,HC.o.up (Ap J y),HN.o.up (Ap J y),a7.o.up (Ap af y),Ap J y⟩)
   have b5:Hid (RI (t.heap.size+1) (t.heap.size+1) w3 (List.replicate n (Zs none 0 0)) (Jm (Bq cols (n,st,bs)) d n 0 0)):=Aa (by rw[kG];refine AAq ?_;rw[<-AFW];exact bu)
   have b3:Hid (w.heap.size<=t.heap.size):=Aa (Ap N.o s).size;clear bu T bl g0 g1 g2 aq J af a9 HC HN a7 N aa bw;generalize hR:t.heap.size=gb at *;clear hR s;go_wp2
   go_loopw [30] (λvi wr=>∃j:Nat,j<=d.length/\vi=Zi j/\Hid (∀c∈d.take j,(Bq cols (n,st,bs) c).length=n)/\(∃vs,Hid (RI (gb+1) (gb+1) wr vs (Jm (Bq cols (n,st,bs)) d n j 0)))/\Hid (Below (gb+1) w3 wr)) (λvi _=>d.length-(intOf vi).toNat)
   case atStart=>exact⟨0,XG _,rfl,Aa (by simp),⟨_,b5⟩,Aa (XB _ _)⟩
   case round=>
    obtain⟨j,hj,rfl,ae,⟨vs,ad⟩,a3⟩:=hrel
    by_cases hlt:j<d.length
    ·obtain⟨⟨c1,c2,c3,c4,c5,c6,c7⟩,hc⟩:∃c,d[j]? = some c:=⟨_,Y' hlt⟩
     obtain⟨⟨f0,f1⟩,⟨g0,g1,g2⟩,bk,bm,bj,aj⟩:=bb.o wr a3.o;obtain⟨lb,lo,da,el,_,ct,M⟩:=bm.cons (by omega);injection el with ce _ cf;subst ce cf;obtain⟨q0,q1,q2,q3,q4,q5,q6⟩:=F8 M hc;have o:Below wr.heap.size wr (wr.alloc (Zk #[Zi c1,Zt c2,Zi c3,Zo c4,Zi c5,Zi c6,Zt c7] 72)):=Zal;replace f0:=Ag o f0;replace f1:=Ag o f1;replace g0:=Ag o g0;replace g1:=Ag o g1;replace g2:=Ag o g2;have HV:=Aa (wW (Zs ca cols.length cc) ga gs.length gc cols n sa st.length sc ba bs.length bc st bs c1 c2 c3 c4 c5 c6 c7 _ (bk.up o) (bj.up o) h1 h8 b2.o b9.o bt ck);have bf:=Aa (XD hc);have a8:=Aa hc;have bq:(j:Int)<(d.length:Int):=by omega
     have b4:Hid (Bq cols (n,st,bs) (c1,c2,c3,c4,c5,c6,c7)=Bq cols (n,st,bs) (c1,c2,c3,c4,c5,c6,c7)):=Aa rfl;generalize hL:Bq cols (n,st,bs) (c1,c2,c3,c4,c5,c6,c7)=L at HV;have HL:=Aa hL;clear hL b4 bk bm bj M hc
     by_cases hlen:L.length=n
     ·rw[hlen] at HV
      have al:=Aa hlen;clear hlen;go_wp2_with fail;refine HV.o.mono ?_;rintro e w5⟨v5,rfl,D,h⟩;obtain⟨va,vc,rfl,cp⟩:=E.Ak D;have co:=h.size;simp only[XC] at co;have ci:=(ad.o.row.lt (gb+1) rfl).2
      have b1:Hid (Apt (Zs va n vc) vs):=Aa (λi u hu q hq hv=>by obtain⟨m,hm⟩:∃m,(Jm (Bq cols (n,st,bs)) d n j 0)[i]? = some m:=⟨_,Y' (by rw[<-ad.o.len];exact Ax hu)⟩;have a1:=((ad.o.each i u m hu hm).lt q hq).2;have a2:=(D.lt q hv).1;simp only[XC] at a2;omega)
      have bh:=Aa (ad.o.kept (Ap o h));have a5:=Aa (a3.o.trans ((Ap o h).mono (YD ci)));have b6:Hid (w5.ownsRow (wr.heap.size+1) 56 3 (Zs va n vc) n (E.A1 L)):=Aa (by simpa only [XC] using D);clear D h o f0 f1 g0 g1 g2 q0 q1 q2 q3 q4 q5 q6 aj;go_wp2
      go_loopw [46] (λvi wi=>∃i:Nat,i<=n/\vi=Zi i/\(∃us,Hid (RI (gb+1) (gb+1) wi us (Jm (Bq cols (n,st,bs)) d n j i))/\Hid (Apt (Zs va n vc) us))/\Hid (wi.ownsRow (wr.heap.size+1) 56 3 (Zs va n vc) n (E.A1 L))/\Hid (Below (gb+1) w3 wi)) (λvi _=>n-(intOf vi).toNat)
      case atStart=>exact⟨0,XG _,rfl,⟨vs,bh,b1⟩,b6,a5⟩
      case round=>
       obtain⟨i,hi,rfl,⟨us,f,bi⟩,O,h⟩:=hrel
       by_cases hlt2:i<n
       ·have G:=AA9 (Bq cols (n,st,bs)) d (j:=j) hlt2
        obtain⟨l,hl⟩:∃l,(Jm (Bq cols (n,st,bs)) d n j i)[i]? = some l:=⟨_,G⟩;have bd:Hid (l=(d.take j).map λc=>(Bq cols (n,st,bs) c)[i]?.getD zV):=Aa (by rw[hl] at G;injection G);have cu:l.length<=8:=by rw[bd.o];simp;omega
        obtain⟨v,hv⟩:∃v,us[i]? = some v:=⟨_,Y' (by rw[f.o.len,Ka];exact hlt2)⟩;obtain⟨s0,s1,s2,s3,a,c,rfl⟩:=f.o.AIM hv hl;have ao:=Aa (f.o.each i _ l hv hl);obtain⟨q,az,e5,cn,c0⟩:=O.o.form (by omega);injection e5 with cb _ cd;subst cb cd;obtain⟨⟨U,V,X⟩,hx⟩:=E.Hk (l:=L) (k:=i) (by rw[al.o];exact hlt2);obtain⟨t0,t1,t2⟩:=E.Hr hx;have y0:wr.cell? ⟨q,i*3,none⟩=some (Zi U):=(O.o.cellAt _ (by omega)).trans t0;have y1:wr.cell? ⟨q,i*3+1,none⟩=some (Zi V):=(O.o.cellAt _ (by omega)).trans t1;have y2:wr.cell? ⟨q,i*3+2,none⟩=some (Zt X):=(O.o.cellAt _ (by omega)).trans t2;have HX:=Aa hx;have ac:=Aa hv;have ax:=Aa hl;have cj:(i:Int)<(n:Int):=by omega
        have c8:=h.o.size;clear t0 t1 t2 hx hv hl G;have P:Below wr.heap.size wr (wr.alloc (Zk #[Zi U,Zi V,Zt X] 56)):=Zal;have an:=Aa (f.o.kept P);obtain⟨x0,x1,x2⟩:=E.Ei (heap_alloc_new wr (Zk #[Zi U,Zi V,Zt X] 56));have am:=Aa (E.Ad O.o P);have a6:=Aa (h.o.trans (P.mono (YD s2)));have c9:wr.heap.size<(wr.alloc (Zk #[Zi U,Zi V,Zt X] 56)).heap.size:=by simp
        have bg:=Aa (f.o.ne ac.o ax.o);have ay:Hid (∀q,(Value.slice a l.length c).ownBlock=some q->q<wr.heap.size):=Aa (λq hq=>(ao.o.lt q hq).2);go_wp2_with fail;replace s0:=Ag P s0;replace s1:=(P.frozen (p:=⟨gb+1,i,none⟩) s2).trans s1;replace s2:gb+1<(wr.alloc (Zk #[Zi U,Zi V,Zt X] 56)).heap.size:=by simp;omega
        clear P y0 y1 y2 ao f O h cn;generalize wr.alloc (Zk #[Zi U,Zi V,Zt X] 56)=Wb at *;generalize wr.heap.size=xb at *;have r:Hid (∀Y,Below Wb.heap.size Wb (Wb.drew.alloc Y)):=Aa (λY=>(XB _ _).drew.alloc (XA _) _);have ab:=Aa (an.o.each i _ l ac.o ax.o);have bt:Wb.heap.size≠gb+1:=by omega
        have cw:Wb.heap.size≠xb:=by omega
        go_region_law
         (first
           | (refine step_append_lies _ (by rfl) (.tmp 56) (.tmp 58) 51 (by rfl) (gb+1) 56 iV (.agg #[Zi 0,Zi 0,.string ⟨#[]⟩]) 3 32 underlying51 ai.o.1 ai.o.2.1 ai.o.2.2.1 ai.o.2.2.2 rfl (by decide) (.slice a l.length c) l.length (E.A1 l) (by rfl) (E.Ad ab.o (r.o _)) ⟨Wb.heap.size,0,none⟩ 1 1 [Zi U,Zi V,.string X] (by rfl) rfl (λj u hj=>XO (heap_alloc_new _ _) j u hj) (E.Hf [(U,V,X)]) (by omega) (by unfold maxLen;omega) (by omega) (by simp;omega) _ rfl ?_
              intro g az w6 cl z ap cr;have p0:=(z.cell_far ⟨gb+1,i,none⟩ (by simp;omega) bg.o).trans (Ag (r.o _) s0);have p1:=(z.cell_far ⟨xb,0,none⟩ (by simp;omega) (λe=>YF _ (ay.o _ e.symm))).trans (Ag (r.o _) x0);have p2:=(z.cell_far ⟨xb,1,none⟩ (by simp;omega) (λe=>YF _ (ay.o _ e.symm))).trans (Ag (r.o _) x1);have p3:=(z.cell_far ⟨xb,2,none⟩ (by simp;omega) (λe=>YF _ (ay.o _ e.symm))).trans (Ag (r.o _) x2);have p4:=(z.frozen_far ⟨gb+1,i,none⟩ (by simp;omega) bg.o).trans (((r.o _).frozen (p:=⟨gb+1,i,none⟩) s2).trans s1))
           | fail)
        all_goals
         go_wp2;have ak:=(an.o.kept (r.o (Zk #[Zi U,Zi V,Zt X] 56))).step (x:=(U,V,X)) ac.o ax.o cl z (ap.imp_right (λe=>Nat.le_of_eq e.symm));have br:=pU (Bq cols (n,st,bs)) (x:=(U,V,X)) hlt2 a8.o (by rw[HL.o];exact HX.o);rw[<-bd.o] at br;rw[br] at ak;have cz:=(am.o.lt q rfl).1;have cm:=((E.Ad am.o (r.o (Zk #[Zi U,Zi V,Zt X] 56))).kept z (.inr (λe=>bi.o i _ ac.o q e.symm rfl))).kept (E.Ar w6 (gb+1) i (Zs (some ⟨g,0,none⟩) (l.length+1) az)) (.inr (λe=>by simp[Value.ownBlock] at e;omega));have cg:=(E.Bj (a6.o.trans ((r.o (Zk #[Zi U,Zi V,Zt X] 56)).mono (YD s2))) (E.Ad ab.o (r.o _)) z (by simp;omega)).setCell (p:=⟨gb+1,i,none⟩) (XA _) (Zs (some ⟨g,0,none⟩) (l.length+1) az);exact⟨⟨i+1,by omega,by go_num,⟨_,Aa ak,Aa (bi.o.step (H:=Wb.heap.size+1) ac.o (ap.imp_right (λe=>by rw[e];simp)) (λq' e=>by simp[Value.ownBlock] at e;omega))⟩,Aa cm,Aa cg⟩,by simp[intOf];omega⟩
       have cj:¬(i:Int)<(n:Int):=by omega
       have ei:i=n:=by omega
       have b8:Hid (RI (gb+1) (gb+1) wr us (Jm (Bq cols (n,st,bs)) d n (j+1) 0)):=Aa (by rw[<-mJ,<-ei];rw[ei] at f ⊢;exact f.o)
       have a4:Hid (∀c∈d.take (j+1),(Bq cols (n,st,bs) c).length=n):=Aa (by
        intro c hc;rw[E.Br a8.o,List.mem_append,List.mem_singleton] at hc
        rcases hc with hc|rfl
        ·exact ae.o c hc
        rw[HL.o];exact al.o)
       clear ei;go_wp2;exact⟨⟨j+1,by omega,by go_num,a4,⟨us,b8⟩,h⟩,by simp[intOf];omega⟩
     have cs:((L.length:Int)==(n:Int))=false:=by simp;omega
     have HR:Hid (Ew cols (n,st,bs) d=none):=Aa (tF bf.o (by rw[HL.o];exact hlen));clear hlen;go_wp2_with fail;refine HV.o.mono ?_;rintro e w5⟨v5,rfl,D,h⟩;obtain⟨va,vc,rfl,cp⟩:=E.Ak D;have ch:=Ap (Ap aj o) h;clear D;go_wp2;go_ret2;rw[HR.o];exact⟨rfl,ch⟩
    have bq:¬(j:Int)<(d.length:Int):=by omega
    have ej:j=d.length:=by omega
    have HR:Hid (Ew cols (n,st,bs) d=some (Lh cols (n,st,bs) d)):=Aa (mC HW.o (λc hc=>by rw[ej,Ye] at ae;exact ae.o c hc))
    have b7:Hid (yF w.heap.size wr (Zs (some ⟨gb+1,0,none⟩) n n) (Lh cols (n,st,bs) d)):=Aa (by have hm:=uC cols (n,st,bs) d;simp only at hm;rw[<-hm];have h3:=ad.o;rw[ej] at h3;have h4:=h3.AIj (I:=w.heap.size) (by have:=b3.o;omega);rwa[Ka] at h4)
    have aj:=(bb.o wr a3.o).2.2.2.2.2;clear ej;go_wp2;go_ret2;rw[HR.o];exact⟨_,rfl,b7.o,aj⟩
end F
namespace S
def O9(c:Int)(a b:V):Bool:=Vq c a.1 a.2.1 a.2.2 b.1 b.2.1 b.2.2==1
def E0(c:Int)(s:St)(v:V):Bool :=
 if c=7 then decide (0<s.2.1) else if c=8 then decide (s.2.1<s.1) else if c=1 then O9 4 s.2.2.1 v && O9 6 s.2.2.2 v else if c=2 then O9 2 s.2.2.1 v || O9 2 s.2.2.2 v else if c=3\/c=4 then O9 c s.2.2.1 v else if c=5\/c=6 then O9 c s.2.2.2 v else false
theorem Qh(c a n1 b n2:Int)(t1 t2:Tb)(w:Tw):
 Zc 239 #[Zi c,Zg #[Zi a,Zi n1,Zt t1],Zg #[Zi b,Zi n2,Zt t2]] w λe d=>e=Zr (Zo (O9 c (a,n1,t1) (b,n2,t2)))/\Zb w d:=AH7 c a n1 b n2 t1 t2 w
theorem Se{a b:Bool}(h:a=b):Ending.returned (Zo a)=Zr (Zo b):=by rw[h]
theorem Kz{w W:Tw}{X Y:Obj}(a:Below ((w.alloc X).alloc Y).heap.size ((w.alloc X).alloc Y) W):Zb w W:=Below.Ap (Gj w X Y) a
theorem Qq(c c1 o b n1:Int)(t1:Tb)(d f:Int)(g:Tb)(k n:Int)(t:Tb)(w:Tw):
 Zc 200 #[Zi c,Zg #[Zi c1,Zi o,Zi b,Zi n1,Zt t1,Zi d,Zi f,Zt g],Zg #[Zi k,Zi n,Zt t]] w
  λe D=>e=Zr (Zo (E0 c (c1,o,(b,n1,t1),(d,f,g)) (k,n,t)))/\Zb w D:=by
 have i:Hid (E0 c (c1,o,(b,n1,t1),(d,f,g)) (k,n,t)=if c=7 then decide (0<o) else if c=8 then decide (o<c1) else if c=1 then O9 4 (b,n1,t1) (k,n,t) && O9 6 (d,f,g) (k,n,t) else if c=2 then O9 2 (b,n1,t1) (k,n,t) || O9 2 (d,f,g) (k,n,t) else if c=3\/c=4 then O9 c (b,n1,t1) (k,n,t) else if c=5\/c=6 then O9 c (d,f,g) (k,n,t) else false):=rfl;generalize E0 c (c1,o,(b,n1,t1),(d,f,g)) (k,n,t)=r at *
 by_cases h7:c=7
 ·subst h7
  have h:Hid (decide (0<o)=r):=Aa (by rw[i.o,if_pos rfl]);clear i;go_enter func200,ntmps200;go_wp2;go_ret;exact⟨Se h.o,Gj _ _ _⟩
 by_cases h8:c=8
 ·subst h8
  have h:Hid (decide (o<c1)=r):=Aa (by rw[i.o,if_neg (by omega),if_pos rfl]);clear i h7;go_enter func200,ntmps200;go_wp2;go_ret;exact⟨Se h.o,Gj _ _ _⟩
 by_cases h1:c=1
 ·subst h1
  have h:Hid ((O9 4 (b,n1,t1) (k,n,t) && O9 6 (d,f,g) (k,n,t))=r):=Aa (by rw[i.o,if_neg (by omega),if_neg (by omega),if_pos rfl]);clear i h7 h8;have l:=Aa (Qh 4 b n1 k n t1 t);have s:=Aa (Qh 6 d f k n g t);generalize O9 4 (b,n1,t1) (k,n,t)=x at *;generalize O9 6 (d,f,g) (k,n,t)=y at *;cases x
  ·go_enter func200,ntmps200
   go_wp2_with fail;refine(l.o _).mono ?_;rintro e q⟨rfl,a⟩;go_wp2;go_ret;exact⟨Se h.o,Kz a⟩
  go_enter func200,ntmps200;go_wp2_with fail;refine(l.o _).mono ?_;rintro e q⟨rfl,a⟩;obtain⟨u,v⟩:=Qv a;have z:w.heap.size<w.heap.size+1+1:=by omega
  go_wp2_with fail;refine(s.o _).mono ?_;rintro e G⟨rfl,p⟩;go_wp2;go_ret;exact⟨Se h.o,Below.Ap (Kz a) p⟩
 by_cases h2:c=2
 ·subst h2
  have h:Hid ((O9 2 (b,n1,t1) (k,n,t) || O9 2 (d,f,g) (k,n,t))=r):=Aa (by rw[i.o,if_neg (by omega),if_neg (by omega),if_neg (by omega),if_pos rfl]);clear i h7 h8 h1;have l:=Aa (Qh 2 b n1 k n t1 t);have s:=Aa (Qh 2 d f k n g t);generalize O9 2 (b,n1,t1) (k,n,t)=x at *;generalize O9 2 (d,f,g) (k,n,t)=y at *;cases x
  ·go_enter func200,ntmps200
   go_wp2_with fail;refine(l.o _).mono ?_;rintro e q⟨rfl,a⟩;obtain⟨u,v⟩:=Qv a;have z:w.heap.size<w.heap.size+1+1:=by omega
   go_wp2_with fail;refine(s.o _).mono ?_;rintro e G⟨rfl,p⟩;go_wp2;go_ret;exact⟨Se h.o,Below.Ap (Kz a) p⟩
  go_enter func200,ntmps200;go_wp2_with fail;refine(l.o _).mono ?_;rintro e q⟨rfl,a⟩;go_wp2;go_ret;exact⟨Se h.o,Kz a⟩
 by_cases j:c=3\/c=4
 ·have h:Hid (O9 c (b,n1,t1) (k,n,t)=r):=Aa (by rw[i.o,if_neg h7,if_neg h8,if_neg h1,if_neg h2,if_pos j])
  clear i h7 h8 h1 h2;have l:=Aa (Qh c b n1 k n t1 t);generalize O9 c (b,n1,t1) (k,n,t)=x at *
  rcases j with rfl|rfl
  all_goals
   go_enter func200,ntmps200;go_wp2_with fail;refine(l.o _).mono ?_;rintro e q⟨rfl,a⟩;go_wp2;go_ret;exact⟨Se h.o,Kz a⟩
 by_cases m:c=5\/c=6
 ·have h:Hid (O9 c (d,f,g) (k,n,t)=r):=Aa (by rw[i.o,if_neg h7,if_neg h8,if_neg h1,if_neg h2,if_neg j,if_pos m])
  clear i h7 h8 h1 h2 j;have l:=Aa (Qh c d f k n g t);generalize O9 c (d,f,g) (k,n,t)=x at *
  rcases m with rfl|rfl
  all_goals
   go_enter func200,ntmps200;go_wp2_with fail;refine(l.o _).mono ?_;rintro e q⟨rfl,a⟩;go_wp2;go_ret;exact⟨Se h.o,Kz a⟩
 have h:Hid (false=r):=Aa (by rw[i.o,if_neg h7,if_neg h8,if_neg h1,if_neg h2,if_neg j,if_neg m]);clear i;have O:(c==7)=false:=by simpa using h7
 have P:(c==8)=false:=by simpa using h8
 have I:(c==1)=false:=by simpa using h1
 have J:(c==2)=false:=by simpa using h2
 have b3:(c==3)=false:=by simp;omega
 have L:(c==4)=false:=by simp;omega
 have M:(c==5)=false:=by simp;omega
 have N:(c==6)=false:=by simp;omega
 clear h7 h8 h1 h2 j m;go_enter func200,ntmps200;go_wp2;go_ret;exact⟨Se h.o,Gj _ _ _⟩
def AE2:List Int:=[0,2,1,6,5,4,3,8,7]
def Lp(w:World):Prop:=Lib.TabIs prog w "millpond/stats.opposites" .i64 AE2
theorem iO:prog.globalNamed "millpond/stats.opposites"=some 4:=by kernel_rfl
theorem Lp.below{w W:Tw}(h:Lp w)(a:Zb w W):Lp W:=Lib.tabBelow_of_tabIs h W a
def Pw(c:Int):Int:=if c=1 then 2 else if c=2 then 1 else if c=3 then 6 else if c=4 then 5 else if c=5 then 4 else if c=6 then 3 else if c=7 then 8 else if c=8 then 7 else 0
theorem o9(c:Int)(w:Tw)(a:Lp w):
 Zc 238 #[Zi c] w λe f=>e=Zr (Zi (Pw c))/\f=w:=by
 by_cases h0:c<0
 ·have d:Hid (0=Pw c):=Aa (by unfold Pw;simp only[show ¬c=1 by omega,show ¬c=2 by omega,show ¬c=3 by omega,show ¬c=4 by omega,show ¬c=5 by omega,show ¬c=6 by omega,show ¬c=7 by omega,show ¬c=8 by omega,if_false])
  clear a;go_enter func238,ntmps238;go_wp2;go_ret;exact⟨Bd d.o,rfl⟩
 by_cases h9:9<=c
 ·have d:Hid (0=Pw c):=Aa (by unfold Pw;simp only[show ¬c=1 by omega,show ¬c=2 by omega,show ¬c=3 by omega,show ¬c=4 by omega,show ¬c=5 by omega,show ¬c=6 by omega,show ¬c=7 by omega,show ¬c=8 by omega,if_false])
  clear a;go_enter func238,ntmps238;go_wp2;go_ret;exact⟨Bd d.o,rfl⟩
 rcases (show c=0\/c=1\/c=2\/c=3\/c=4\/c=5\/c=6\/c=7\/c=8 by omega) with rfl|rfl|rfl|rfl|rfl|rfl|rfl|rfl|rfl
 ·have b:w.cell? ⟨4,0,none⟩=some (Zi 0):=a.cell iO 0 (by decide)
  clear a h0 h9;go_enter func238,ntmps238;go_wp2;go_ret;exact⟨Bd (by decide),rfl⟩
 ·have b:w.cell? ⟨4,1,none⟩=some (Zi 2):=a.cell iO 1 (by decide)
  clear a h0 h9;go_enter func238,ntmps238;go_wp2;go_ret;exact⟨Bd (by decide),rfl⟩
 ·have b:w.cell? ⟨4,2,none⟩=some (Zi 1):=a.cell iO 2 (by decide)
  clear a h0 h9;go_enter func238,ntmps238;go_wp2;go_ret;exact⟨Bd (by decide),rfl⟩
 ·have b:w.cell? ⟨4,3,none⟩=some (Zi 6):=a.cell iO 3 (by decide)
  clear a h0 h9;go_enter func238,ntmps238;go_wp2;go_ret;exact⟨Bd (by decide),rfl⟩
 ·have b:w.cell? ⟨4,4,none⟩=some (Zi 5):=a.cell iO 4 (by decide)
  clear a h0 h9;go_enter func238,ntmps238;go_wp2;go_ret;exact⟨Bd (by decide),rfl⟩
 ·have b:w.cell? ⟨4,5,none⟩=some (Zi 4):=a.cell iO 5 (by decide)
  clear a h0 h9;go_enter func238,ntmps238;go_wp2;go_ret;exact⟨Bd (by decide),rfl⟩
 ·have b:w.cell? ⟨4,6,none⟩=some (Zi 3):=a.cell iO 6 (by decide)
  clear a h0 h9;go_enter func238,ntmps238;go_wp2;go_ret;exact⟨Bd (by decide),rfl⟩
 ·have b:w.cell? ⟨4,7,none⟩=some (Zi 8):=a.cell iO 7 (by decide)
  clear a h0 h9;go_enter func238,ntmps238;go_wp2;go_ret;exact⟨Bd (by decide),rfl⟩
 have b:w.cell? ⟨4,8,none⟩=some (Zi 7):=a.cell iO 8 (by decide);clear a h0 h9;go_enter func238,ntmps238;go_wp2;go_ret;exact⟨Bd (by decide),rfl⟩
variable{c k n:Int}{i j:Nat}{P:Tb->Prop}
theorem Ab{p:Prop}(h:p):Hid p:=h
theorem Below.up{a b c:Tw}(h:Zb a b)(k:Zb b c):Zb a c:=h.trans (k.mono h.size)
def Wk(n:Int):Int:=if n = -1 then -1 else 1-n
def Su(a b:Int):Int:=if a=0\/b=0 then 0 else min a b
def orJ(a b:Int):Int:=if a=1\/b=1 then 1 else min a b
theorem nj1(h:(n == -1)=true):-1=Wk n:=by simp at h;simp[Wk,h]
theorem nj2(h:(n == -1)=false):1-n=Wk n:=by simp at h;simp[Wk,h]
theorem AHu(n:Int)(b : -1<=n)(c:n<=1)(w:Tw):
 Zc 58 #[Zi n] w λe a=>e=Zr (Zi (Wk n))/\a=w:=by
 go_enter func58,ntmps58;go_wp2
 all_goals go_ret
 ·exact⟨Bd (nj1 ‹_›),rfl⟩
 exact⟨Bd (nj2 ‹_›),rfl⟩
theorem AHo(a b:Int)(w:Tw):
 Zc 59 #[Zi a,Zi b] w λe h=>e=Zr (Zi (Su a b))/\h=w:=by
 have c:Hid (Su a b=if a=0\/b=0 then 0 else min a b):=rfl
 by_cases h1:a=0
 ·have d:Hid (0=Su a b):=Ab (by rw[c.o,if_pos (.inl h1)])
  have g:(a==0)=true:=by simpa using h1
  clear h1 c;go_enter func59,ntmps59;go_wp2;go_ret;exact⟨Bd d.o,rfl⟩
 by_cases h2:b=0
 ·have d:Hid (0=Su a b):=Ab (by rw[c.o,if_pos (.inr h2)])
  have g:(a==0)=false:=by simpa using h1
  have f:(b==0)=true:=by simpa using h2
  clear h1 h2 c;go_enter func59,ntmps59;go_wp2;go_ret;exact⟨Bd d.o,rfl⟩
 have d:Hid (min a b=Su a b):=Ab (by rw[c.o,if_neg (by omega)]);have g:(a==0)=false:=by simpa using h1
 have f:(b==0)=false:=by simpa using h2
 clear h1 h2 c;go_enter func59,ntmps59;go_wp2;go_ret;exact⟨Bd d.o,rfl⟩
theorem AHi(a b:Int)(w:Tw):
 Zc 60 #[Zi a,Zi b] w λe h=>e=Zr (Zi (orJ a b))/\h=w:=by
 have c:Hid (orJ a b=if a=1\/b=1 then 1 else min a b):=rfl
 by_cases h1:a=1
 ·have d:Hid (1=orJ a b):=Ab (by rw[c.o,if_pos (.inl h1)])
  have g:(a==1)=true:=by simpa using h1
  clear h1 c;go_enter func60,ntmps60;go_wp2;go_ret;exact⟨Bd d.o,rfl⟩
 by_cases h2:b=1
 ·have d:Hid (1=orJ a b):=Ab (by rw[c.o,if_pos (.inr h2)])
  have g:(a==1)=false:=by simpa using h1
  have f:(b==1)=true:=by simpa using h2
  clear h1 h2 c;go_enter func60,ntmps60;go_wp2;go_ret;exact⟨Bd d.o,rfl⟩
 have d:Hid (min a b=orJ a b):=Ab (by rw[c.o,if_neg (by omega)]);have g:(a==1)=false:=by simpa using h1
 have f:(b==1)=false:=by simpa using h2
 clear h1 h2 c;go_enter func60,ntmps60;go_wp2;go_ret;exact⟨Bd d.o,rfl⟩
structure Nd where
 c:Int
 Bl:ByteArray
 k:Int
 n:Int
 t:ByteArray
abbrev CT:=Deep.BT Nd
variable{l r:CT}
def Gy(w:World):CT->Value->Prop
 | .nil,v=>v=.pointer none
 | .node _ _ ⟨c,Bl,k,n,t⟩ l r,v=>∃b a d,v=.pointer (some ⟨b,0,none⟩)/\w.heap[b]? = some (.cells #[Zi c,.string Bl,Zi k,Zi n,.string t,a,d] 94)/\(1<=c/\c<=11)/\Gy w l a/\Gy w r d
theorem Gy.up{w W:Tw}(c:Zb w W):∀{T:CT}{v:Tv},Gy w T v->Gy W T v
 | .nil,_,h=>h
 | .node _ _ ⟨_,_,_,_,_⟩ _ _,_,⟨b,pl,pr,e,hh,hcd,hl,hr⟩=>⟨b,pl,pr,e,by
    rw[c.block b (by
     rcases Yc b w.heap.size with a|a
     ·exact a
     rw[Array.getElem?_eq_none a] at hh;cases hh)]
    exact hh,hcd,Gy.up c hl,Gy.up c hr⟩
theorem cell_of_heap{w:Tw}{b:Nat}{cs:Array Tv}{t:TypeId}(h:w.heap[b]? = some (Zk cs t))(i:Nat):w.cell? ⟨b,i,none⟩=cs[i]? := by
 simp[World.cell?,h]
def C9:CT->Int->Bool
 | .nil,_=>true
 | .node _ _ _ l r,o=>decide (0<=o) && (C9 l (o-1) && C9 r (o-1))
theorem Rc:∀(T:CT)(v:Tv)(o:Int)(w:Tw),Gy w T v -> -1<=o->o<=1000 ->
 Zc 54 #[v,Zi o] w λe s=>e=Zr (Zo (C9 T o))/\s=w
 | .nil,v,o,w,h,h1,h2=>by obtain rfl:v=Zp none:=h;have d:Hid (true=C9 .nil o):=rfl;go_enter func54,ntmps54;go_wp2;go_ret;exact⟨Af d.o,rfl⟩
 | .node a0 o0 ⟨c,Bl,k,n,t⟩ l r,v,o,w,h,h1,h2=>by
   obtain⟨b,p,q,rfl,m,_,g,i⟩:=h;have y:w.cell? ⟨b,5,none⟩=some p:=cell_of_heap m 5;have z:w.cell? ⟨b,6,none⟩=some q:=cell_of_heap m 6;clear m
   by_cases ho:0<=o
   ·have a:=Rc l p (o-1) w g (by omega) (by omega)
    have f:=Rc r q (o-1) w i (by omega) (by omega);cases el:C9 l (o-1)
    ·rw[el] at a
     have d:Hid (false=C9 (.node a0 o0 ⟨c,Bl,k,n,t⟩ l r) o):=Ab (by simp[C9,el]);have j:=Ab a;clear a f el g i;go_enter func54,ntmps54;go_wp2_with (go_at_call 54;refine j.o.mono ?_;rintro e u⟨rfl,rfl⟩);go_ret;exact⟨Af d.o,rfl⟩
    rw[el] at a;have d:Hid (C9 r (o-1)=C9 (.node a0 o0 ⟨c,Bl,k,n,t⟩ l r) o):=Ab (by simp[C9,el,ho]);have j:=Ab a;have IR:=Ab f;clear a f el g i;generalize C9 r (o-1)=x at *;go_enter func54,ntmps54;go_wp2_with fail;refine j.o.mono ?_;rintro e u⟨rfl,rfl⟩;go_wp2_with fail;refine IR.o.mono ?_;rintro e D⟨rfl,rfl⟩;go_wp2;go_ret;exact⟨Af d.o,rfl⟩
   have d:Hid (false=C9 (.node a0 o0 ⟨c,Bl,k,n,t⟩ l r) o):=Ab (by simp[C9,ho]);clear g i;go_enter func54,ntmps54;go_wp2;go_ret;exact⟨Af d.o,rfl⟩
theorem AEX(p:Addr)(w:Tw):
 CallsD prog 100 #[Zp (some p)] .returning w λe c d=>e=Zr (Zu #[])/\c=.returning/\d=w:=by
 refine callsD_of_wpS func100 rfl λa cs b=>?_
 apply wpS_seq;apply wpS_region;simp[wpOpsS,go_sem,recoverD,b,ntmps100,Exit.thenS];refine wpS_cond (t:=false) (by simp[Act.eval,Array.replicate]) ?_;simp only[XP,if_false];refine wpS_of_wp (wp_skip ?_);cases a
 simp_all [bodyPostS,results,results100]
def Io(a b:ByteArray->Int)(gt:ByteArray->ByteArray):CT->Int
 | .nil=>1
 | .node _ _ ⟨c,Bl,k,n,t⟩ l r=>if c=7 then gG (a Bl==0) else if c=8 then gG (a Bl != 0) else if c=11 then Wk (Io a b gt l) else if c=9 then Su (Io a b gt l) (Io a b gt r) else if c=10 then orJ (Io a b gt l) (Io a b gt r) else Vq c (a Bl) (b Bl) (gt Bl) k n t
theorem Vk(b:Bool):-1<=gG b/\gG b<=1:=by cases b <;> simp[gG]
theorem ACo(c a n1:Int)(t1:Tb)(b n2:Int)(t2:Tb):-1<=Vq c a n1 t1 b n2 t2/\Vq c a n1 t1 b n2 t2<=1:=by
 unfold Vq;split
 ·omega
 exact Vk _
theorem Kw(a b:Tb->Int)(gt:Tb->Tb):∀T:CT,-1<=Io a b gt T/\Io a b gt T<=1
 | .nil=>by simp[Io]
 | .node a0 o0 ⟨c,Bl,k,n,t⟩ l r=>by
   have d:=Kw a b gt l;have e:=Kw a b gt r;unfold Io;split
   ·exact Vk _
   split
   ·exact Vk _
   split
   ·unfold Wk;split <;> omega
   split
   ·unfold Su;split <;> omega
   split
   ·unfold orJ;split <;> omega
   exact ACo _ _ _ _ _ _ _
theorem e7{a b:Tb->Int}{gt:Tb->Tb}{Bl:Tb}{t:Tb}(h:c=7):gG (a Bl==0)=Io a b gt (.node i j ⟨c,Bl,k,n,t⟩ l r):=by rw[Io,if_pos h]
theorem e8{a b:Tb->Int}{gt:Tb->Tb}{Bl:Tb}{t:Tb}(h:c=8):gG (a Bl != 0)=Io a b gt (.node i j ⟨c,Bl,k,n,t⟩ l r):=by rw[Io,if_neg (by omega),if_pos h]
theorem e11{a b:Tb->Int}{gt:Tb->Tb}{Bl:Tb}{t:Tb}(h:c=11):Wk (Io a b gt l)=Io a b gt (.node i j ⟨c,Bl,k,n,t⟩ l r):=by rw[Io,if_neg (by omega),if_neg (by omega),if_pos h]
theorem e9{a b:Tb->Int}{gt:Tb->Tb}{Bl:Tb}{t:Tb}(h:c=9):Su (Io a b gt l) (Io a b gt r)=Io a b gt (.node i j ⟨c,Bl,k,n,t⟩ l r):=by rw[Io,if_neg (by omega),if_neg (by omega),if_neg (by omega),if_pos h]
theorem e10{a b:Tb->Int}{gt:Tb->Tb}{Bl:Tb}{t:Tb}(h:c=10):orJ (Io a b gt l) (Io a b gt r)=Io a b gt (.node i j ⟨c,Bl,k,n,t⟩ l r):=by rw[Io,if_neg (by omega),if_neg (by omega),if_neg (by omega),if_neg (by omega),if_pos h]
theorem e0{a b:Tb->Int}{gt:Tb->Tb}{Bl:Tb}{t:Tb}(h:¬c=7/\¬c=8/\¬c=11/\¬c=9/\¬c=10):Vq c (a Bl) (b Bl) (gt Bl) k n t=Io a b gt (.node i j ⟨c,Bl,k,n,t⟩ l r):=by rw[Io,if_neg (by omega),if_neg (by omega),if_neg (by omega),if_neg (by omega),if_neg (by omega)]
theorem fld(k n:Int)(t:Tb)(W:Tw):(Instr.field 56 (Zg #[Zi k,Zi n,Zt t]) 0).run prog W=.ok (Zi k) W:=by kernel_rfl
theorem Uh(T:CT)(v:Tv)(w:Tw)(h:Gy w T v):
 Zc 30 #[v] w λe a=>e=Zr (Zo (C9 T 24))/\a=w:=by
 have H1:=Ab (Rc T v 24 w h (by omega) (by omega));clear h;generalize C9 T 24=b at *;go_enter func30,ntmps30;go_wp2_with fail;refine H1.o.mono ?_;rintro e c⟨rfl,rfl⟩;go_wp2;go_ret;exact⟨rfl,rfl⟩
def dR(P:ByteArray->Prop)(a:Value)(b c:ByteArray->Int)(gt:ByteArray->ByteArray)(w:World):Prop :=
 ∀(W:World)(s:ByteArray),P s->Zb w W->Zc 57 #[a,.string s] W λe d=>e=.returned (.agg #[Zi (b s),Zi (c s),.string (gt s)])/\Zb W d
theorem dR.up{P:Tb->Prop}{v:Tv}{b c:Tb->Int}{gt:Tb->Tb}{w W:Tw}(h:dR P v b c gt w)(e:Zb w W):dR P v b c gt W :=
 λd s f a=>h d s f (Below.up e a)
def Kg(P:ByteArray->Prop):CT->Prop
 | .nil=>True
 | .node _ _ ⟨c,Bl,_,_,_⟩ l r=>if c=11 then Kg P l else if c=9\/c=10 then Kg P l/\Kg P r else P Bl
theorem Kg.Bl{P:Tb->Prop}{i j:Nat}{c:Int}{Bl:Tb}{k n:Int}{t:Tb}{l r:CT}(h:Kg P (.node i j ⟨c,Bl,k,n,t⟩ l r))(a:¬(c=9\/c=10\/c=11)):P Bl:=by simp only[Kg] at h;rwa[if_neg (by omega),if_neg (by omega)] at h
theorem Kg.left{Bl:Tb}{t:Tb}(h:Kg P (.node i j ⟨c,Bl,k,n,t⟩ l r))(a:c=9\/c=10\/c=11):Kg P l:=by
 simp only[Kg] at h
 by_cases h11:c=11
 ·rwa[if_pos h11] at h
 rw[if_neg h11,if_pos (by omega)] at h;exact h.1
theorem Kg.right{Bl:Tb}{t:Tb}(h:Kg P (.node i j ⟨c,Bl,k,n,t⟩ l r))(a:c=9\/c=10):Kg P r:=by simp only[Kg] at h;rw[if_neg (by omega),if_pos a] at h;exact h.2
theorem R9(P:ByteArray->Prop)(j:Value)(a f:ByteArray->Int)(gt:ByteArray->ByteArray):∀(T:CT)(v:Value)(w:World),Gy w T v->Kg P T->dR P j a f gt w ->
 Zc 32 #[v,j] w λe w'=>e=.returned (.int .i64 (Io a f gt T))/\Zb w w'
 | .nil,v,w,h,_,_=>by obtain rfl:v=.pointer none:=h;have o:Hid (1=Io a f gt .nil):=rfl;go_enter func32,ntmps32;go_wp2;go_ret;exact⟨Bd o.o,XB _ _⟩
 | .node u y ⟨c,Bl,k,n,t⟩ l r,v,w,h,ha,hg=>by
   obtain⟨b,V,X,rfl,R,_,hl,hr⟩:=h;have c0:w.cell? ⟨b,0,none⟩=some (.int .i64 c):=cell_of_heap R 0;have c1:w.cell? ⟨b,1,none⟩=some (.string Bl):=cell_of_heap R 1;have c2:w.cell? ⟨b,2,none⟩=some (.int .i64 k):=cell_of_heap R 2;have c3:w.cell? ⟨b,3,none⟩=some (.int .i64 n):=cell_of_heap R 3;have c4:w.cell? ⟨b,4,none⟩=some (.string t):=cell_of_heap R 4;have c5:w.cell? ⟨b,5,none⟩=some V:=cell_of_heap R 5;have c6:w.cell? ⟨b,6,none⟩=some X:=cell_of_heap R 6;clear R;have s:Hid (¬(c=9\/c=10\/c=11)->∀W,Zb w W->Zc 57 #[j,.string Bl] W λe w'=>e=.returned (.agg #[.int .i64 (a Bl),.int .i64 (f Bl),.string (gt Bl)])/\Zb W w'):=λhc W hb=>hg W Bl (ha.Bl hc) hb
   have q:Hid ((c=9\/c=10\/c=11)->∀W,Zb w W->Zc 32 #[V,j] W λe w'=>e=.returned (.int .i64 (Io a f gt l))/\Zb W w'):=λhc W hb=>R9 P j a f gt l V W (hl.up hb) (ha.left hc) (hg.up hb)
   have IR:Hid ((c=9\/c=10)->∀W,Zb w W->Zc 32 #[X,j] W λe w'=>e=.returned (.int .i64 (Io a f gt r))/\Zb W w'):=λhc W hb=>R9 P j a f gt r X W (hr.up hb) (ha.right hc) (hg.up hb)
   have Y:=Kw a f gt l;have rr:=Kw a f gt r;clear hl hr hg ha
   by_cases h7:c=7
   ·have o:Hid (gG (a Bl==0)=Io a f gt (.node u y ⟨c,Bl,k,n,t⟩ l r)):=e7 h7
    replace s:=Ab (s.o (by omega));subst h7;clear q IR;generalize Io a f gt (.node u y ⟨7,Bl,k,n,t⟩ l r)=ee at *;generalize a Bl=M,f Bl=N,gt Bl=O at *;clear Y rr;have aa:=fld M N O;go_enter func32,ntmps32;go_wp2_with fail;refine(s.o _ (XB _ _)).mono ?_;rintro e w1⟨rfl,I⟩;go_wp2_with (go_at_call 56;refine(Jc _ _).mono ?_;rintro e w2⟨rfl,rfl⟩);go_ret;exact⟨Bd o.o,I⟩
   by_cases h8:c=8
   ·have o:Hid (gG (a Bl != 0)=Io a f gt (.node u y ⟨c,Bl,k,n,t⟩ l r)):=e8 h8
    replace s:=Ab (s.o (by omega));subst h8;clear q IR h7;generalize Io a f gt (.node u y ⟨8,Bl,k,n,t⟩ l r)=ee at *;generalize a Bl=M,f Bl=N,gt Bl=O at *;clear Y rr;have aa:=fld M N O;go_enter func32,ntmps32;go_wp2_with fail;refine(s.o _ (XB _ _)).mono ?_;rintro e w1⟨rfl,I⟩;go_wp2_with (go_at_call 56;refine(Jc _ _).mono ?_;rintro e w2⟨rfl,rfl⟩);go_ret;exact⟨Bd o.o,I⟩
   by_cases h11:c=11
   ·have o:Hid (Wk (Io a f gt l)=Io a f gt (.node u y ⟨c,Bl,k,n,t⟩ l r)):=e11 h11
    replace q:=Ab (q.o (by omega));subst h11;clear s IR h7 h8 rr;generalize Io a f gt (.node u y ⟨11,Bl,k,n,t⟩ l r)=ee at *;generalize Io a f gt l=x at *;go_enter func32,ntmps32;go_wp2_with fail;refine(q.o _ (XB _ _)).mono ?_;rintro e w1⟨rfl,I⟩;go_wp2_with (go_at_call 58;refine(AHu _ Y.1 Y.2 _).mono ?_;rintro e w2⟨rfl,rfl⟩);go_ret;exact⟨Bd o.o,I⟩
   by_cases h9:c=9
   ·have o:Hid (Su (Io a f gt l) (Io a f gt r)=Io a f gt (.node u y ⟨c,Bl,k,n,t⟩ l r)):=e9 h9
    replace q:=Ab (q.o (by omega));replace IR:=Ab (IR.o (by omega));subst h9;clear s h7 h8 h11 Y rr;generalize Io a f gt (.node u y ⟨9,Bl,k,n,t⟩ l r)=ee at *;generalize Io a f gt l=x,Io a f gt r=G at *;go_enter func32,ntmps32;go_wp2_with fail;replace c0:=cell_regrown c0;replace c5:=cell_regrown c5;replace c6:=cell_regrown c6;clear c1 c2 c3 c4;have z:Hid (∀d i,Zc 32 #[V,j] (grow (redrawn w d) i) λe g=>e=.returned (.int .i64 x)/\∃p:Regrown,g=grow (redrawn w p.d) p.os):=λd i=>Calls.regrown_of (q.o _ (below_regrown w d i))
    have D:Hid (∀d i,Zc 32 #[X,j] (grow (redrawn w d) i) λe g=>e=.returned (.int .i64 G)/\∃p:Regrown,g=grow (redrawn w p.d) p.os):=λd i=>Calls.regrown_of (IR.o _ (below_regrown w d i))
    have U:Hid (∀d i,Zc 59 #[.int .i64 x,.int .i64 G] (grow (redrawn w d) i) λe g=>e=.returned (.int .i64 (Su x G))/\∃p:Regrown,g=grow (redrawn w p.d) p.os):=λd i=>(AHo x G _).mono λ_ _⟨he,hw⟩=>⟨he,⟨⟨d,i⟩,hw⟩⟩
    refine wp_region_quiet_below (by kernel_rfl) (by kernel_rfl) ?_
    repeat (go_big_quiet_step (first
     | (go_at_call_of 32 (#[V,j]:Array Value);exact z.o _ _)
     | (go_at_call_of 32 (#[X,j]:Array Value);exact D.o _ _)
     | (go_at_call_of 59 (#[.int .i64 x,.int .i64 G]:Array Value);exact U.o _ _)))
    refine wpQuiet_nil ?_;intro _ J;obtain⟨⟨dq,L⟩,m⟩:=J;subst m;go_wp2;go_ret;exact⟨Bd o.o,below_regrown w dq L⟩
   by_cases h10:c=10
   ·have o:Hid (orJ (Io a f gt l) (Io a f gt r)=Io a f gt (.node u y ⟨c,Bl,k,n,t⟩ l r)):=e10 h10
    replace q:=Ab (q.o (by omega));replace IR:=Ab (IR.o (by omega));subst h10;clear s h7 h8 h11 h9 Y rr;generalize Io a f gt (.node u y ⟨10,Bl,k,n,t⟩ l r)=ee at *;generalize Io a f gt l=x,Io a f gt r=G at *;go_enter func32,ntmps32;go_wp2_with fail;replace c0:=cell_regrown c0;replace c5:=cell_regrown c5;replace c6:=cell_regrown c6;clear c1 c2 c3 c4;have z:Hid (∀d i,Zc 32 #[V,j] (grow (redrawn w d) i) λe g=>e=.returned (.int .i64 x)/\∃p:Regrown,g=grow (redrawn w p.d) p.os):=λd i=>Calls.regrown_of (q.o _ (below_regrown w d i))
    have D:Hid (∀d i,Zc 32 #[X,j] (grow (redrawn w d) i) λe g=>e=.returned (.int .i64 G)/\∃p:Regrown,g=grow (redrawn w p.d) p.os):=λd i=>Calls.regrown_of (IR.o _ (below_regrown w d i))
    have U:Hid (∀d i,Zc 60 #[.int .i64 x,.int .i64 G] (grow (redrawn w d) i) λe g=>e=.returned (.int .i64 (orJ x G))/\∃p:Regrown,g=grow (redrawn w p.d) p.os):=λd i=>(AHi x G _).mono λ_ _⟨he,hw⟩=>⟨he,⟨⟨d,i⟩,hw⟩⟩
    refine wp_region_quiet_below (by kernel_rfl) (by kernel_rfl) ?_
    repeat (go_big_quiet_step (first
     | (go_at_call_of 32 (#[V,j]:Array Value);exact z.o _ _)
     | (go_at_call_of 32 (#[X,j]:Array Value);exact D.o _ _)
     | (go_at_call_of 60 (#[.int .i64 x,.int .i64 G]:Array Value);exact U.o _ _)))
    refine wpQuiet_nil ?_;intro _ J;obtain⟨⟨dq,L⟩,m⟩:=J;subst m;go_wp2;go_ret;exact⟨Bd o.o,below_regrown w dq L⟩
   have o:Hid (Vq c (a Bl) (f Bl) (gt Bl) k n t=Io a f gt (.node u y ⟨c,Bl,k,n,t⟩ l r)):=e0 ⟨h7,h8,h11,h9,h10⟩;replace s:=Ab (s.o (by omega));have b7:(c==7)=false:=by simpa using h7
   have b8:(c==8)=false:=by simpa using h8
   have ac:(c==11)=false:=by simpa using h11
   have b9:(c==9)=false:=by simpa using h9
   have ab:(c==10)=false:=by simpa using h10
   clear q IR h7 h8 h11 h9 h10 Y rr;generalize Io a f gt (.node u y ⟨c,Bl,k,n,t⟩ l r)=ee at *;generalize a Bl=M,f Bl=N,gt Bl=O at *;go_enter func32,ntmps32;go_wp2_with fail;replace c0:=cell_regrown c0;replace c1:=cell_regrown c1;replace c2:=cell_regrown c2;replace c3:=cell_regrown c3;replace c4:=cell_regrown c4;clear c5 c6;have z:Hid (∀d i,Zc 57 #[j,.string Bl] (grow (redrawn w d) i) λe g=>e=.returned (.agg #[.int .i64 M,.int .i64 N,.string O])/\∃p:Regrown,g=grow (redrawn w p.d) p.os):=λd i=>Calls.regrown_of (s.o _ (below_regrown w d i))
   have D:Hid (∀d i,Zc 61 #[.int .i64 c,.agg #[.int .i64 M,.int .i64 N,.string O],.agg #[.int .i64 k,.int .i64 n,.string t]] (grow (redrawn w d) i) λe g=>e=.returned (.int .i64 (Vq c M N O k n t))/\∃p:Regrown,g=grow (redrawn w p.d) p.os):=λd i=>Calls.regrown_of (AEl c M N k n O t _)
   refine wp_region_quiet_below (by kernel_rfl) (by kernel_rfl) ?_
   repeat (go_big_quiet_step (first
    | (go_at_call_of 57 (#[j,.string Bl]:Array Value);exact z.o _ _)
    | (go_at_call_of 61 (#[.int .i64 c,.agg #[.int .i64 M,.int .i64 N,.string O],.agg #[.int .i64 k,.int .i64 n,.string t]]:Array Value);exact D.o _ _)))
   refine wpQuiet_nil ?_;intro _ J;obtain⟨⟨dq,L⟩,m⟩:=J;subst m;go_wp2;go_ret;exact⟨Bd o.o,below_regrown w dq L⟩
theorem AAk(P:Tb->Prop)(c:Tv)(a b:Tb->Int)(gt:Tb->Tb)(T:CT)(v:Tv)(w:Tw)(h:Gy w T v)(g:Kg P T)(j:dR P c a b gt w)(i:C9 T 24=true):
 Zc 13 #[v,c] w λe f=>e=Zr (Zi (Io a b gt T))/\Zb w f:=by
 have H1:Hid (Zc 30 #[v] w λe f=>e=Zr (Zo true)/\f=w):=by have:=Uh T v w h;rw[i] at this;exact this
 have H2:=Ab (R9 P c a b gt T v w h g j);generalize Io a b gt T=k at *;clear h j i g;go_enter func13,ntmps13;go_wp2_with fail;refine H1.o.mono ?_;rintro e l⟨rfl,rfl⟩;go_wp2_with fail;refine H2.o.mono ?_;rintro e m⟨rfl,d⟩;go_wp2;go_ret;exact⟨rfl,d⟩
theorem ABs(p:Addr)(w:Tw):
 CallsD prog 240 #[Zp (some p)] .returning w λe c d=>e=Zr (Zu #[])/\c=.returning/\d=w:=by
 refine callsD_of_wpS func240 rfl λa cs b=>?_
 apply wpS_seq;apply wpS_region;simp[wpOpsS,go_sem,recoverD,b,ntmps240,Exit.thenS];refine wpS_cond (t:=false) (by simp[Act.eval,Array.replicate]) ?_;simp only[XP,if_false];refine wpS_of_wp (wp_skip ?_);cases a
 simp_all [bodyPostS,results,results240]
theorem r8(pa l o:Tv)(gs:Tb->St)(s:Tb)(w:Tw)(j:∀(W:Tw)(s:Tb),Zb w W->Zc 94 #[Zt s,pa,l,o] W λe h=>e=Zr (Zg (E6 (gs s)))/\Zb W h):
 Zc 201 #[.func (.func 94) #[] #[pa,l,o],Zt s] w λe h=>e=Zr (Zg (E6 (gs s)))/\Zb w h:=by
 have d:=Ab (λW G=>j W s G);clear j;have I:∀(i:Fn)(first b:Array Tv)(w:Tw),(Instr.makeFunc i first b).run prog w=.ok (.func i first b) w:=λ_ _ _ _=>rfl
 generalize gs s=st at *;obtain⟨sc,sm,⟨sk,sn,M⟩,⟨J,L,p⟩⟩:=st;unfold E6 at d ⊢;simp only at d ⊢
 go_enter_defers func201,ntmps201
 go_wp2_with fail;refine(d.o _ (Zal)).mono ?_;rintro e q⟨rfl,a⟩;have g:Nq q w.heap.size F6:=Nq.up (heap_alloc_new _ _) a;obtain⟨c0,c1,u,v,x,y,z,D⟩:=Nq.cells (c:=0) (m:=0) (k:=0) (n:=0) (t:=⟨#[]⟩) (k':=0) (n':=0) (t':=⟨#[]⟩) g;obtain⟨O,P,R,T,U,V,X,Y⟩:=g.free;have r:Hid (Zb w q):=((XB _ w).alloc (XA _) _).trans (a.mono (by simp));clear a g;go_wp2;refine leaves_cons (f:=240) (args:=#[Zp (some ⟨w.heap.size,0,none⟩)]) (by simp) (by simp[go_sem]) ?_;refine(ABs ⟨w.heap.size,0,none⟩ _).mono ?_;rintro e u' N⟨rfl,rfl,rfl⟩;simp[Leaves,settle,results,results201,go_sem,c0,c1,u,v,x,y,z,D];exact b8c r.o (XA _) _ _ _ _ _ _ _ _
end S
namespace F
def Rf(l:List Aj)(s:ByteArray):Prop:=0<=Ce l s
theorem V5(k p:Nat)(cv gv:Tv)(cols:List Aj)(gs:List Fk)(g:Fk)(st:S.St)(c1:Int)(I:Tb)(J:Int)(L:Bool)(M N:Int)(O:Tb)(w:Tw)(y:Hm w cv gv (cols,gs))(hk:gs[k]? = some g)(h1:1<=cols.length)(h8:cols.length<=8)(ab:Gb cols g=true)(hp:cM cols c1=p)(aa:g.2.1[p]? = some st):
 Zc 95 #[Zg #[cv,gv],Zi k,Zg #[Zi c1,Zt I,Zi J,Zo L,Zi M,Zi N,Zt O]] w λe w'=>e=Zr (Zg (S.E6 st))/\Zb w w':=by
 have s:=Aa (λW(hW:Zb w W)=>nL k cv gv cols gs g W (y.up hW).1 (y.up hW).2 hk);have t:=Aa (λW(hW:Zb w W)=>U9 cv gv cols c1 I J L M N O W (y.up hW).1 h1 h8);obtain⟨ga,gc,rfl,_⟩:=y.2.slice;obtain⟨ca,cc,rfl,_⟩:=y.1.slice;dsimp only at s t ⊢;rw[ab] at s;rw[hp] at t;clear y ab;obtain⟨s1,s2,⟨k1,n1,t1⟩,⟨k2,n2,t2⟩⟩:=st;obtain⟨u,P,l,R,U⟩:=Jl w (Zk #[Zs ca cols.length cc,Zs ga gs.length gc] 98) (Zk #[Zi c1,Zt I,Zi J,Zo L,Zi M,Zi N,Zt O] 72) (Zk #[Zi 0,Zi 0,Zi 0,Zi 0,Zt ⟨#[]⟩,Zi 0,Zi 0,Zt ⟨#[]⟩] 186);have HA:=Aa P;have HB:=Aa l;have G:=Aa R;have z:=Aa U;have af:=Aa u;have f:=Aa aa;clear P l R U u aa;go_enter func95,ntmps95;go_wp2_with fail;generalize ((w.alloc (Zk #[Zs ca cols.length cc,Zs ga gs.length gc] 98)).alloc (Zk #[Zi c1,Zt I,Zi J,Zo L,Zi M,Zi N,Zt O] 72)).alloc (Zk #[Zi 0,Zi 0,Zi 0,Zi 0,Zt ⟨#[]⟩,Zi 0,Zi 0,Zt ⟨#[]⟩] 186)=W3 at *;refine(s.o W3 z.o).mono ?_;rintro e h⟨sv,bv,rfl,x,Y,V⟩;obtain⟨n,o,rfl,_⟩:=x.slice;obtain⟨i,j,rfl,_⟩:=Y.slice;have u:=af.o;have X:Zb h (h.alloc (Zk #[Zi g.1,Zs n g.2.1.length o,Zs i g.2.2.length j] 128)):=Zal;have d:=Ap V X;have P:=(d.block w.heap.size (by omega)).trans HA.o;have l:=(d.block (w.heap.size+1) (by omega)).trans HB.o;have ad:=Aa ((d.block (w.heap.size+2) (by omega)).trans G.o);obtain⟨f0,f1⟩:=Hg P;have x0:(h.alloc (Zk #[Zi g.1,Zs n g.2.1.length o,Zs i g.2.2.length j] 128)).cell? ⟨w.heap.size+1,0,none⟩=some (Zi c1):=A4 l rfl;have x1:(h.alloc (Zk #[Zi g.1,Zs n g.2.1.length o,Zs i g.2.2.length j] 128)).cell? ⟨w.heap.size+1,1,none⟩=some (Zt I):=A4 l rfl;have x2:(h.alloc (Zk #[Zi g.1,Zs n g.2.1.length o,Zs i g.2.2.length j] 128)).cell? ⟨w.heap.size+1,2,none⟩=some (Zi J):=A4 l rfl;have x3:(h.alloc (Zk #[Zi g.1,Zs n g.2.1.length o,Zs i g.2.2.length j] 128)).cell? ⟨w.heap.size+1,3,none⟩=some (Zo L):=A4 l rfl;have x4:(h.alloc (Zk #[Zi g.1,Zs n g.2.1.length o,Zs i g.2.2.length j] 128)).cell? ⟨w.heap.size+1,4,none⟩=some (Zi M):=A4 l rfl;have x5:(h.alloc (Zk #[Zi g.1,Zs n g.2.1.length o,Zs i g.2.2.length j] 128)).cell? ⟨w.heap.size+1,5,none⟩=some (Zi N):=A4 l rfl;have x6:(h.alloc (Zk #[Zi g.1,Zs n g.2.1.length o,Zs i g.2.2.length j] 128)).cell? ⟨w.heap.size+1,6,none⟩=some (Zt O):=A4 l rfl;have ae:=Aa (heap_alloc_new h (Zk #[Zi g.1,Zs n g.2.1.length o,Zs i g.2.2.length j] 128));have ag:=Aa (x.up d);have D:=Aa (Ap z.o d);have am:=d.size;have ak:h.heap.size<(h.alloc (Zk #[Zi g.1,Zs n g.2.1.length o,Zs i g.2.2.length j] 128)).heap.size:=by simp
 clear x Y V X d P l HA HB G;go_wp2_with fail;generalize h.alloc (Zk #[Zi g.1,Zs n g.2.1.length o,Zs i g.2.2.length j] 128)=W5 at *;refine(t.o W5 D.o).mono ?_;rintro e c⟨rfl,m⟩;have aj:=Ax f.o;obtain⟨q,r,an,es,_,_,a⟩:=(ag.o.up m).cons (by omega);injection es with ah _ ai;subst ah ai;have y0:c.cell? ⟨q,r+p*8,none⟩=some (Zi s1):=a p _ f.o 0 _ rfl;have y1:c.cell? ⟨q,r+p*8+1,none⟩=some (Zi s2):=a p _ f.o 1 _ rfl;have y2:c.cell? ⟨q,r+p*8+2,none⟩=some (Zi k1):=a p _ f.o 2 _ rfl;have y3:c.cell? ⟨q,r+p*8+3,none⟩=some (Zi n1):=a p _ f.o 3 _ rfl;have y4:c.cell? ⟨q,r+p*8+4,none⟩=some (Zt t1):=a p _ f.o 4 _ rfl;have y5:c.cell? ⟨q,r+p*8+5,none⟩=some (Zi k2):=a p _ f.o 5 _ rfl;have y6:c.cell? ⟨q,r+p*8+6,none⟩=some (Zi n2):=a p _ f.o 6 _ rfl;have y7:c.cell? ⟨q,r+p*8+7,none⟩=some (Zt t2):=a p _ f.o 7 _ rfl;have b:=(m.block (w.heap.size+2) (by omega)).trans ad.o;have T:=(m.block h.heap.size ak).trans ae.o;obtain⟨_,g1,_⟩:=J5 T;have al:(p:Int)<(g.2.1.length:Int):=by omega
 have r0:c.cell? ⟨w.heap.size+2,0,none⟩=some (Zi 0):=A4 b rfl;have r1:c.cell? ⟨w.heap.size+2,1,none⟩=some (Zi 0):=A4 b rfl;have r2:c.cell? ⟨w.heap.size+2,2,none⟩=some (Zi 0):=A4 b rfl;have r3:c.cell? ⟨w.heap.size+2,3,none⟩=some (Zi 0):=A4 b rfl;have r4:c.cell? ⟨w.heap.size+2,4,none⟩=some (Zt ⟨#[]⟩):=A4 b rfl;have r5:c.cell? ⟨w.heap.size+2,5,none⟩=some (Zi 0):=A4 b rfl;have r6:c.cell? ⟨w.heap.size+2,6,none⟩=some (Zi 0):=A4 b rfl;have r7:c.cell? ⟨w.heap.size+2,7,none⟩=some (Zt ⟨#[]⟩):=A4 b rfl;have z0:=frozen_of_row c (w.heap.size+2) 0 _ _ b;have z1:=frozen_of_row c (w.heap.size+2) 1 _ _ b;have z2:=frozen_of_row c (w.heap.size+2) 2 _ _ b;have z3:=frozen_of_row c (w.heap.size+2) 3 _ _ b;have z4:=frozen_of_row c (w.heap.size+2) 4 _ _ b;have z5:=frozen_of_row c (w.heap.size+2) 5 _ _ b;have z6:=frozen_of_row c (w.heap.size+2) 6 _ _ b;have z7:=frozen_of_row c (w.heap.size+2) 7 _ _ b;have ac:=Aa (Ap D.o m);clear a b T m x0 x1 x2 x3 x4 x5 x6 f0 f1 aj;go_wp2;refine bodyPost_ret (v:=Zg #[Zi s1,Zi s2,Zi k1,Zi n1,Zt t1,Zi k2,Zi n2,Zt t2]) (by simp[results,results95,go_sem,r0,r1,r2,r3,r4,r5,r6,r7]) rfl ⟨rfl,?_⟩;exact(((((((ac.o.setCell (p:=⟨w.heap.size+2,0,none⟩) (Y9 _ _) _).setCell (p:=⟨w.heap.size+2,1,none⟩) (Y9 _ _) _).setCell (p:=⟨w.heap.size+2,2,none⟩) (Y9 _ _) _).setCell (p:=⟨w.heap.size+2,3,none⟩) (Y9 _ _) _).setCell (p:=⟨w.heap.size+2,4,none⟩) (Y9 _ _) _).setCell (p:=⟨w.heap.size+2,5,none⟩) (Y9 _ _) _).setCell (p:=⟨w.heap.size+2,6,none⟩) (Y9 _ _) _).setCell (p:=⟨w.heap.size+2,7,none⟩) (Y9 _ _) _
end F
namespace S
variable{i j:Nat}{c k n:Int}{l r:CT}
def gU(a:Value)(gs:ByteArray->St)(w:World):Prop :=
 ∀(W:World)(s:ByteArray),Zb w W->Zc 201 #[a,.string s] W λe b=>e=.returned (.agg (E6 (gs s)))/\Zb W b
theorem gU.up{v:Tv}{gs:Tb->St}{w W:Tw}(h:gU v gs w)(c:Zb w W):gU v gs W :=
 λb s a=>h b s (Below.up c a)
def Bp(gs:ByteArray->St):Bool->CT->Bool
 | b,.nil=>!b
 | b,.node _ _ ⟨c,Bl,k,n,t⟩ l r=>if c=9 then (if b then Bp gs b l || Bp gs b r else Bp gs b l && Bp gs b r) else if c=10 then (if b then Bp gs b l && Bp gs b r else Bp gs b l || Bp gs b r) else if c=11 then Bp gs (!b) l else E0 (if b then Pw c else c) (gs Bl) (k,n,t)
theorem m9f{gs:Tb->St}{Bl:Tb}{t:Tb}(h:c=9):(Bp gs false l && Bp gs false r)=Bp gs false (.node i j ⟨c,Bl,k,n,t⟩ l r):=by rw[Bp,if_pos h];rfl
theorem m9t{gs:Tb->St}{Bl:Tb}{t:Tb}(h:c=9):(Bp gs true l || Bp gs true r)=Bp gs true (.node i j ⟨c,Bl,k,n,t⟩ l r):=by rw[Bp,if_pos h];rfl
theorem AJv{gs:Tb->St}{Bl:Tb}{t:Tb}(h:c=10):(Bp gs false l || Bp gs false r)=Bp gs false (.node i j ⟨c,Bl,k,n,t⟩ l r):=by rw[Bp,if_neg (by omega),if_pos h];rfl
theorem AJu{gs:Tb->St}{Bl:Tb}{t:Tb}(h:c=10):(Bp gs true l && Bp gs true r)=Bp gs true (.node i j ⟨c,Bl,k,n,t⟩ l r):=by rw[Bp,if_neg (by omega),if_pos h];rfl
theorem AKD{gs:Tb->St}{Bl:Tb}{t:Tb}(h:c=11):Bp gs true l=Bp gs false (.node i j ⟨c,Bl,k,n,t⟩ l r):=by rw[Bp,if_neg (by omega),if_neg (by omega),if_pos h];rfl
theorem AJz{gs:Tb->St}{Bl:Tb}{t:Tb}(h:c=11):Bp gs false l=Bp gs true (.node i j ⟨c,Bl,k,n,t⟩ l r):=by rw[Bp,if_neg (by omega),if_neg (by omega),if_pos h];rfl
theorem m0f{gs:Tb->St}{Bl:Tb}{t:Tb}(h:¬c=9/\¬c=10/\¬c=11):E0 c (gs Bl) (k,n,t)=Bp gs false (.node i j ⟨c,Bl,k,n,t⟩ l r):=by rw[Bp,if_neg h.1,if_neg h.2.1,if_neg h.2.2];rfl
theorem m0t{gs:Tb->St}{Bl:Tb}{t:Tb}(h:¬c=9/\¬c=10/\¬c=11):E0 (Pw c) (gs Bl) (k,n,t)=Bp gs true (.node i j ⟨c,Bl,k,n,t⟩ l r):=by rw[Bp,if_neg h.1,if_neg h.2.1,if_neg h.2.2];rfl
theorem AAU(s:Value)(gs:ByteArray->St)(m o:Nat)(c:Int)(Bl:ByteArray)(k n:Int)(t:ByteArray)(l r:CT)(b:Nat)(V R:Value)(w:World)(u:w.heap[b]? = some (.cells #[.int .i64 c,.string Bl,.int .i64 k,.int .i64 n,.string t,V,R] 94))(hg:gU s gs w)(ho:Lp w)(hl:∀W,Zb w W->Zc 149 #[V,s] W λe q=>e=.returned (.bool (Bp gs false l))/\Zb W q)(hr:∀W,Zb w W->Zc 149 #[R,s] W λe q=>e=.returned (.bool (Bp gs false r))/\Zb W q)(hn:∀W,Zb w W->Zc 199 #[V,s] W λe q=>e=.returned (.bool (Bp gs true l))/\Zb W q):
 Zc 149 #[.pointer (some ⟨b,0,none⟩),s] w λe q=>e=.returned (.bool (Bp gs false (.node m o ⟨c,Bl,k,n,t⟩ l r)))/\Zb w q:=by
 have c0:w.cell? ⟨b,0,none⟩=some (.int .i64 c):=cell_of_heap u 0;have c1:w.cell? ⟨b,1,none⟩=some (.string Bl):=cell_of_heap u 1;have c2:w.cell? ⟨b,2,none⟩=some (.int .i64 k):=cell_of_heap u 2;have c3:w.cell? ⟨b,3,none⟩=some (.int .i64 n):=cell_of_heap u 3;have c4:w.cell? ⟨b,4,none⟩=some (.string t):=cell_of_heap u 4;have c5:w.cell? ⟨b,5,none⟩=some V:=cell_of_heap u 5;have N:w.cell? ⟨b,6,none⟩=some R:=cell_of_heap u 6;have O:b<w.heap.size:=block_lt_of_cell c0;have z:Hid (∀W,Zb w W->Zc 201 #[s,.string Bl] W λe q=>e=.returned (.agg (E6 (gs Bl)))/\Zb W q):=λW hb=>hg W Bl hb
 have HO:=Ab ho;have y:=Ab hl;have IR:=Ab hr;have T:=Ab hn;clear u hg ho hl hr hn
 by_cases h9:c=9
 ·have j:Hid ((Bp gs false l && Bp gs false r)=Bp gs false (.node m o ⟨c,Bl,k,n,t⟩ l r)):=m9f h9
  subst h9;clear z HO T;generalize Bp gs false (.node m o ⟨9,Bl,k,n,t⟩ l r)=ee at *;generalize Bp gs false l=U at *;generalize Bp gs false r=er at *;cases hel:U
  ·subst hel
   go_enter func149,ntmps149;go_wp2_with fail;refine(y.o _ (XB _ _)).mono ?_;rintro e M⟨rfl,a⟩;go_wp2;go_ret;exact⟨Af j.o,a⟩
  subst hel;go_enter func149,ntmps149;go_wp2_with fail;refine(y.o _ (XB _ _)).mono ?_;rintro e M⟨rfl,a⟩;replace N:M.cell? ⟨b,6,none⟩=some R:=(a.cell (p:=⟨b,6,none⟩) O).trans N;go_wp2_with fail;refine(IR.o _ a).mono ?_;rintro e w2⟨rfl,v⟩;go_wp2;go_ret;exact⟨Af j.o,Below.up a v⟩
 by_cases h10:c=10
 ·have j:Hid ((Bp gs false l || Bp gs false r)=Bp gs false (.node m o ⟨c,Bl,k,n,t⟩ l r)):=AJv h10
  subst h10;clear z HO T;generalize Bp gs false (.node m o ⟨10,Bl,k,n,t⟩ l r)=ee at *;generalize Bp gs false l=U at *;generalize Bp gs false r=er at *;cases hel:U
  ·subst hel
   go_enter func149,ntmps149;go_wp2_with fail;refine(y.o _ (XB _ _)).mono ?_;rintro e M⟨rfl,a⟩;replace N:M.cell? ⟨b,6,none⟩=some R:=(a.cell (p:=⟨b,6,none⟩) O).trans N;go_wp2_with fail;refine(IR.o _ a).mono ?_;rintro e w2⟨rfl,v⟩;go_wp2;go_ret;exact⟨Af j.o,Below.up a v⟩
  subst hel;go_enter func149,ntmps149;go_wp2_with fail;refine(y.o _ (XB _ _)).mono ?_;rintro e M⟨rfl,a⟩;go_wp2;go_ret;exact⟨Af j.o,a⟩
 by_cases h11:c=11
 ·have j:Hid (Bp gs true l=Bp gs false (.node m o ⟨c,Bl,k,n,t⟩ l r)):=AKD h11
  subst h11;clear z HO y IR;generalize Bp gs false (.node m o ⟨11,Bl,k,n,t⟩ l r)=ee at *;generalize Bp gs true l=U at *;go_enter func149,ntmps149;go_wp2_with fail;refine(T.o _ (XB _ _)).mono ?_;rintro e M⟨rfl,a⟩;go_wp2;go_ret;exact⟨Af j.o,a⟩
 have j:Hid (E0 c (gs Bl) (k,n,t)=Bp gs false (.node m o ⟨c,Bl,k,n,t⟩ l r)):=m0f ⟨h9,h10,h11⟩;have b9:(c==9)=false:=by simpa using h9
 have ac:(c==10)=false:=by simpa using h10
 have ad:(c==11)=false:=by simpa using h11
 clear y IR T h9 h10 h11;generalize Bp gs false (.node m o ⟨c,Bl,k,n,t⟩ l r)=ee at *;generalize gs Bl=st at *;obtain⟨G,J,⟨I,L,i⟩,⟨g,h,f⟩⟩:=st;unfold E6 at z;simp only at z;have X:Hid (∀d D,Zc 201 #[s,.string Bl] (grow (redrawn w d) D) λe x=>e=.returned (.agg #[.int .i64 G,.int .i64 J,.int .i64 I,.int .i64 L,.string i,.int .i64 g,.int .i64 h,.string f])/\∃p:Regrown,x=grow (redrawn w p.d) p.os):=λd D=>Calls.regrown_of (z.o _ (below_regrown w d D))
 have Y:Hid (∀d D,Zc 200 #[.int .i64 c,.agg #[.int .i64 G,.int .i64 J,.int .i64 I,.int .i64 L,.string i,.int .i64 g,.int .i64 h,.string f],.agg #[.int .i64 k,.int .i64 n,.string t]] (grow (redrawn w d) D) λe x=>e=.returned (.bool (E0 c (G,J,(I,L,i),(g,h,f)) (k,n,t)))/\∃p:Regrown,x=grow (redrawn w p.d) p.os):=λd D=>Calls.regrown_of (Qq c G J I L i g h f k n t _)
 generalize E0 c (G,J,(I,L,i),(g,h,f)) (k,n,t)=mc at *;go_enter func149,ntmps149;go_wp2_with fail;replace c0:=cell_regrown c0;replace c1:=cell_regrown c1;replace c2:=cell_regrown c2;replace c3:=cell_regrown c3;replace c4:=cell_regrown c4;clear c5 N;refine wp_region_quiet_below (by kernel_rfl) (by kernel_rfl) ?_
 repeat (go_big_quiet_step (first
  | (go_at_call_of 201 (#[s,.string Bl]:Array Value);exact X.o _ _)
  | (go_at_call_of 200 (#[.int .i64 c,.agg #[.int .i64 G,.int .i64 J,.int .i64 I,.int .i64 L,.string i,.int .i64 g,.int .i64 h,.string f],.agg #[.int .i64 k,.int .i64 n,.string t]]:Array Value);exact Y.o _ _)))
 refine wpQuiet_nil ?_;intro _ aa;obtain⟨⟨dq,ab⟩,P⟩:=aa;subst P;go_wp2;go_ret;exact⟨Af j.o,below_regrown w dq ab⟩
theorem ADJ(b:Tv)(gs:Tb->St)(w:Tw):
 Zc 149 #[Zp none,b] w λe c=>e=Zr (Zo (Bp gs false .nil))/\Zb w c:=by
 have a:Hid (true=Bp gs false .nil):=rfl;go_enter func149,ntmps149;go_wp2;go_ret;exact⟨Af a.o,XB _ _⟩
theorem zJ(v:Value)(gs:ByteArray->St)(q s:Nat)(c:Int)(Bl:ByteArray)(k n:Int)(t:ByteArray)(l r:CT)(b:Nat)(X R:Value)(w:World)(x:w.heap[b]? = some (.cells #[.int .i64 c,.string Bl,.int .i64 k,.int .i64 n,.string t,X,R] 94))(hg:gU v gs w)(ho:Lp w)(hl:∀W,Zb w W->Zc 199 #[X,v] W λe u=>e=.returned (.bool (Bp gs true l))/\Zb W u)(hr:∀W,Zb w W->Zc 199 #[R,v] W λe u=>e=.returned (.bool (Bp gs true r))/\Zb W u)(hn:∀W,Zb w W->Zc 149 #[X,v] W λe u=>e=.returned (.bool (Bp gs false l))/\Zb W u):
 Zc 199 #[.pointer (some ⟨b,0,none⟩),v] w λe u=>e=.returned (.bool (Bp gs true (.node q s ⟨c,Bl,k,n,t⟩ l r)))/\Zb w u:=by
 have c0:w.cell? ⟨b,0,none⟩=some (.int .i64 c):=cell_of_heap x 0;have c1:w.cell? ⟨b,1,none⟩=some (.string Bl):=cell_of_heap x 1;have c2:w.cell? ⟨b,2,none⟩=some (.int .i64 k):=cell_of_heap x 2;have c3:w.cell? ⟨b,3,none⟩=some (.int .i64 n):=cell_of_heap x 3;have c4:w.cell? ⟨b,4,none⟩=some (.string t):=cell_of_heap x 4;have c5:w.cell? ⟨b,5,none⟩=some X:=cell_of_heap x 5;have N:w.cell? ⟨b,6,none⟩=some R:=cell_of_heap x 6;have O:b<w.heap.size:=block_lt_of_cell c0;have D:Hid (∀W,Zb w W->Zc 201 #[v,.string Bl] W λe u=>e=.returned (.agg (E6 (gs Bl)))/\Zb W u):=λW hb=>hg W Bl hb
 have T:=Ab ho;have z:=Ab hl;have IR:=Ab hr;have U:=Ab hn;clear x hg ho hl hr hn
 by_cases h9:c=9
 ·have o:Hid ((Bp gs true l || Bp gs true r)=Bp gs true (.node q s ⟨c,Bl,k,n,t⟩ l r)):=m9t h9
  subst h9;clear D T U;generalize Bp gs true (.node q s ⟨9,Bl,k,n,t⟩ l r)=ee at *;generalize Bp gs true l=V at *;generalize Bp gs true r=er at *;cases hel:V
  ·subst hel
   go_enter func199,ntmps199;go_wp2_with fail;refine(z.o _ (XB _ _)).mono ?_;rintro e M⟨rfl,a⟩;replace N:M.cell? ⟨b,6,none⟩=some R:=(a.cell (p:=⟨b,6,none⟩) O).trans N;go_wp2_with fail;refine(IR.o _ a).mono ?_;rintro e w2⟨rfl,y⟩;go_wp2;go_ret;exact⟨Af o.o,Below.up a y⟩
  subst hel;go_enter func199,ntmps199;go_wp2_with fail;refine(z.o _ (XB _ _)).mono ?_;rintro e M⟨rfl,a⟩;go_wp2;go_ret;exact⟨Af o.o,a⟩
 by_cases h10:c=10
 ·have o:Hid ((Bp gs true l && Bp gs true r)=Bp gs true (.node q s ⟨c,Bl,k,n,t⟩ l r)):=AJu h10
  subst h10;clear D T U;generalize Bp gs true (.node q s ⟨10,Bl,k,n,t⟩ l r)=ee at *;generalize Bp gs true l=V at *;generalize Bp gs true r=er at *;cases hel:V
  ·subst hel
   go_enter func199,ntmps199;go_wp2_with fail;refine(z.o _ (XB _ _)).mono ?_;rintro e M⟨rfl,a⟩;go_wp2;go_ret;exact⟨Af o.o,a⟩
  subst hel;go_enter func199,ntmps199;go_wp2_with fail;refine(z.o _ (XB _ _)).mono ?_;rintro e M⟨rfl,a⟩;replace N:M.cell? ⟨b,6,none⟩=some R:=(a.cell (p:=⟨b,6,none⟩) O).trans N;go_wp2_with fail;refine(IR.o _ a).mono ?_;rintro e w2⟨rfl,y⟩;go_wp2;go_ret;exact⟨Af o.o,Below.up a y⟩
 by_cases h11:c=11
 ·have o:Hid (Bp gs false l=Bp gs true (.node q s ⟨c,Bl,k,n,t⟩ l r)):=AJz h11
  subst h11;clear D T z IR;generalize Bp gs true (.node q s ⟨11,Bl,k,n,t⟩ l r)=ee at *;generalize Bp gs false l=V at *;go_enter func199,ntmps199;go_wp2_with fail;refine(U.o _ (XB _ _)).mono ?_;rintro e M⟨rfl,a⟩;go_wp2;go_ret;exact⟨Af o.o,a⟩
 have o:Hid (E0 (Pw c) (gs Bl) (k,n,t)=Bp gs true (.node q s ⟨c,Bl,k,n,t⟩ l r)):=m0t ⟨h9,h10,h11⟩;have b9:(c==9)=false:=by simpa using h9
 have ae:(c==10)=false:=by simpa using h10
 have af:(c==11)=false:=by simpa using h11
 clear z IR U h9 h10 h11;generalize Bp gs true (.node q s ⟨c,Bl,k,n,t⟩ l r)=ee at *;generalize gs Bl=st at *;obtain⟨G,J,⟨I,L,i⟩,⟨g,h,f⟩⟩:=st;unfold E6 at D;simp only at D;have Y:Hid (∀d j,Zc 238 #[.int .i64 c] (grow (redrawn w d) j) λe m=>e=.returned (.int .i64 (Pw c))/\∃p:Regrown,m=grow (redrawn w p.d) p.os):=λd j=>(o9 c _ (T.o.below (below_regrown w d j))).mono λ_ _⟨he,hw⟩=>⟨he,⟨⟨d,j⟩,hw⟩⟩
 have aa:Hid (∀d j,Zc 201 #[v,.string Bl] (grow (redrawn w d) j) λe m=>e=.returned (.agg #[.int .i64 G,.int .i64 J,.int .i64 I,.int .i64 L,.string i,.int .i64 g,.int .i64 h,.string f])/\∃p:Regrown,m=grow (redrawn w p.d) p.os):=λd j=>Calls.regrown_of (D.o _ (below_regrown w d j))
 have ab:Hid (∀d j,Zc 200 #[.int .i64 (Pw c),.agg #[.int .i64 G,.int .i64 J,.int .i64 I,.int .i64 L,.string i,.int .i64 g,.int .i64 h,.string f],.agg #[.int .i64 k,.int .i64 n,.string t]] (grow (redrawn w d) j) λe m=>e=.returned (.bool (E0 (Pw c) (G,J,(I,L,i),(g,h,f)) (k,n,t)))/\∃p:Regrown,m=grow (redrawn w p.d) p.os):=λd j=>Calls.regrown_of (Qq (Pw c) G J I L i g h f k n t _)
 generalize Pw c=oc at *;generalize E0 oc (G,J,(I,L,i),(g,h,f)) (k,n,t)=mc at *;go_enter func199,ntmps199;go_wp2_with fail;replace c0:=cell_regrown c0;replace c1:=cell_regrown c1;replace c2:=cell_regrown c2;replace c3:=cell_regrown c3;replace c4:=cell_regrown c4;clear c5 N;refine wp_region_quiet_below (by kernel_rfl) (by kernel_rfl) ?_
 repeat (go_big_quiet_step (first
  | (go_at_call_of 238 (#[.int .i64 c]:Array Value);exact Y.o _ _)
  | (go_at_call_of 201 (#[v,.string Bl]:Array Value);exact aa.o _ _)
  | (go_at_call_of 200 (#[.int .i64 oc,.agg #[.int .i64 G,.int .i64 J,.int .i64 I,.int .i64 L,.string i,.int .i64 g,.int .i64 h,.string f],.agg #[.int .i64 k,.int .i64 n,.string t]]:Array Value);exact ab.o _ _)))
 refine wpQuiet_nil ?_;intro _ ac;obtain⟨⟨dq,ad⟩,P⟩:=ac;subst P;go_wp2;go_ret;exact⟨Af o.o,below_regrown w dq ad⟩
theorem ADf(b:Tv)(gs:Tb->St)(w:Tw):
 Zc 199 #[Zp none,b] w λe c=>e=Zr (Zo (Bp gs true .nil))/\Zb w c:=by
 have a:Hid (false=Bp gs true .nil):=rfl;go_enter func199,ntmps199;go_wp2;go_ret;exact⟨Af a.o,XB _ _⟩
theorem gR(d:Tv)(gs:Tb->St):∀(T:CT)(v:Tv)(w:Tw),Gy w T v->gU d gs w->Lp w ->
 (Zc 149 #[v,d] w λe j=>e=Zr (Zo (Bp gs false T))/\Zb w j)/\(Zc 199 #[v,d] w λe j=>e=Zr (Zo (Bp gs true T))/\Zb w j)
 | .nil,v,w,h,_,_=>by obtain rfl:v=Zp none:=h;exact⟨ADJ d gs w,ADf d gs w⟩
 | .node a0 o0 ⟨c,Bl,k,n,t⟩ l r,v,w,h,hg,ho=>by
   obtain⟨b,g,i,rfl,m,_,o,p⟩:=h;have f:=λW a=>gR d gs l g W (o.up a) (hg.up a) (ho.below a)
   have IR:=λW a=>gR d gs r i W (p.up a) (hg.up a) (ho.below a)
   exact⟨AAU d gs a0 o0 c Bl k n t l r b g i w m hg ho (λW a=>(f W a).1) (λW a=>(IR W a).1) (λW a=>(f W a).2),
    zJ d gs a0 o0 c Bl k n t l r b g i w m hg ho (λW a=>(f W a).2) (λW a=>(IR W a).2) (λW a=>(f W a).1)⟩
theorem AG4(a:Tv)(gs:Tb->St)(T:CT)(v:Tv)(w:Tw)(h:Gy w T v)(f:gU a gs w)(g:Lp w)(d:C9 T 24=true):
 Zc 93 #[v,a] w λe c=>e=Zr (Zo (Bp gs false T))/\Zb w c:=by
 have H1:Hid (Zc 30 #[v] w λe c=>e=Zr (Zo true)/\c=w):=by have:=Uh T v w h;rw[d] at this;exact this
 have H2:=Ab (gR a gs T v w h f g).1;generalize Bp gs false T=i at *;clear h f g d;go_enter func93,ntmps93;go_wp2_with fail;refine H1.o.mono ?_;rintro e j⟨rfl,rfl⟩;go_wp2_with fail;refine H2.o.mono ?_;rintro e k⟨rfl,b⟩;go_wp2;go_ret;exact⟨rfl,b⟩
variable{c n:Int}{v x:V}
def okT:CT->Prop
 | .nil=>True
 | .node _ _ ⟨c,_,_,_,_⟩ l r=>(1<=c/\c<=11)/\okT l/\okT r
theorem Gy.ok{w:Tw}:∀{T:CT}{v:Tv},Gy w T v->okT T
 | .nil,_,_=>trivial
 | .node _ _ ⟨_,_,_,_,_⟩ _ _,_,⟨_,_,_,_,_,hcd,hl,hr⟩=>⟨hcd,Gy.ok hl,Gy.ok hr⟩
def AJG(s:St)(x:V):Prop:=∃l,Pk l s/\AIN l/\x∈l
def Kn(c:Int)(x v:V):Int:=if c=7 then gG (x.1==0) else if c=8 then gG (x.1 != 0) else Vq c x.1 x.2.1 x.2.2 v.1 v.2.1 v.2.2
theorem AHV(h:Vq c x.1 x.2.1 x.2.2 v.1 v.2.1 v.2.2=1):¬x.1=0/\x.1=v.1/\B6 c (Eu x v)=true:=by
 unfold Vq at h;split at h
 ·omega
 rename_i hk;refine⟨λe=>hk (.inl e),Classical.byContradiction λe=>hk (.inr e),?_⟩;cases hs:B6 c (Eu x v) with
 | true=>rfl
 | false=>unfold Eu at hs;rw[hs] at h;simp[gG] at h
theorem vV(h:Vq c x.1 x.2.1 x.2.2 v.1 v.2.1 v.2.2=0):¬x.1=0/\x.1=v.1/\B6 c (Eu x v)=false:=by
 unfold Vq at h;split at h
 ·omega
 rename_i hk;refine⟨λe=>hk (.inl e),Classical.byContradiction λe=>hk (.inr e),?_⟩;cases hs:B6 c (Eu x v) with
 | false=>rfl
 | true=>unfold Eu at hs;rw[hs] at h;simp[gG] at h
theorem AFD(b:¬x.1=0)(d:x.1=v.1)(a:B6 c (Eu x v)=true):Vq c x.1 x.2.1 x.2.2 v.1 v.2.1 v.2.2=1:=by unfold Vq;rw[if_neg (by rintro(e|e);exact b e;exact e d)];unfold Eu at a;rw[a];rfl
theorem O2(a:¬x.1=0)(b:x.1=v.1)(d:B6 c (Eu x v)=true):O9 c x v=true:=by unfold O9;rw[AFD a b d];rfl
theorem mN(o:Int):B6 1 o=true↔o=0:=by simp[B6]
theorem Sm(o:Int):B6 2 o=true↔¬o=0:=by simp[B6]
theorem aO(o:Int):B6 3 o=true↔o<0:=by simp[B6]
theorem Uo(o:Int):B6 4 o=true↔o<=0:=by simp[B6]
theorem aR(o:Int):B6 5 o=true↔0<o:=by simp[B6]
theorem S4(o:Int):B6 6 o=true↔0<=o:=by simp[B6]
theorem wJ{c o:Int}(b:1<=c)(a:c<=6)(h:B6 c o=false):B6 (Pw c) o=true:=by
 rcases (show c=1\/c=2\/c=3\/c=4\/c=5\/c=6 by omega) with rfl|rfl|rfl|rfl|rfl|rfl
 ·rw[show Pw 1=2 from rfl,Sm];intro e;rw[(mN o).2 e] at h;cases h
 ·rw[show Pw 2=1 from rfl,mN];exact Classical.byContradiction λe=>by rw[(Sm o).2 e] at h;cases h
 ·rw[show Pw 3=6 from rfl,S4];exact Classical.byContradiction λe=>by rw[(aO o).2 (by omega)] at h;cases h
 ·rw[show Pw 4=5 from rfl,aR];exact Classical.byContradiction λe=>by rw[(Uo o).2 (by omega)] at h;cases h
 ·rw[show Pw 5=4 from rfl,Uo];exact Classical.byContradiction λe=>by rw[(aR o).2 (by omega)] at h;cases h
 rw[show Pw 6=3 from rfl,aO];exact Classical.byContradiction λe=>by rw[(S4 o).2 (by omega)] at h;cases h
theorem AB9(b:1<=c)(a:c<=8):1<=Pw c/\Pw c<=8:=by rcases (show c=1\/c=2\/c=3\/c=4\/c=5\/c=6\/c=7\/c=8 by omega) with rfl|rfl|rfl|rfl|rfl|rfl|rfl|rfl <;> decide
theorem AHy(b:1<=c)(a:c<=6):¬Pw c=7/\¬Pw c=8:=by rcases (show c=1\/c=2\/c=3\/c=4\/c=5\/c=6 by omega) with rfl|rfl|rfl|rfl|rfl|rfl <;> decide
theorem AFf(d:1<=c)(k:c<=8)(h:Kn c x v=0):Kn (Pw c) x v=1:=by
 by_cases h7:c=7
 ·subst h7
  have a:(x.1==0)=false:=by
   cases e:(x.1==0) with
   | false=>rfl
   | true=>simp[Kn,e,gG] at h
  rw[show Pw 7=8 from rfl];have b:¬x.1=0:=by simpa using a
  simp[Kn,gG,b]
 by_cases h8:c=8
 ·subst h8
  have a:x.1=0:=Classical.byContradiction λe=>by simp[Kn,gG,e] at h
  rw[show Pw 8=7 from rfl];simp[Kn,gG,a]
 have l:Vq c x.1 x.2.1 x.2.2 v.1 v.2.1 v.2.2=0:=by simpa[Kn,h7,h8] using h
 obtain⟨g,i,j⟩:=vV l;have f:=AHy d (by omega);unfold Kn;rw[if_neg f.1,if_neg f.2];exact AFD g i (wJ d (by omega) j)
theorem rH{s:St}(T:1<=c)(I:c<=8)(J:AJG s x)(h:Kn c x v=1):E0 c s v=true:=by
 obtain⟨l,p,D,q⟩:=J
 by_cases h7:c=7
 ·subst h7
  have d:x.1=0:=Classical.byContradiction λe=>by simp[Kn,gG,e] at h
  have:=p.null q d;simp[E0,this]
 by_cases h8:c=8
 ·subst h8
  have d:¬x.1=0:=λe=>by simp[Kn,gG,e] at h
  have:=(p.some D q d).1;simp[E0,this]
 have L:Vq c x.1 x.2.1 x.2.2 v.1 v.2.1 v.2.2=1:=by simpa[Kn,h7,h8] using h
 obtain⟨o,r,b⟩:=AHV L;obtain⟨_,t,u,g,i⟩:=p.some D q o;have j:¬s.2.2.1.1=0:=by rw[t];exact o
 have k:s.2.2.1.1=v.1:=t.trans r;have m:¬s.2.2.2.1=0:=by rw[u];exact o
 have n:s.2.2.2.1=v.1:=u.trans r;have M:=He s.2.2.1 v;have N:=He s.2.2.2 v;have O:=He x v;have P:=He x s.2.2.2;have R:=He s.2.2.1 x
 rcases (show c=1\/c=2\/c=3\/c=4\/c=5\/c=6 by omega) with rfl|rfl|rfl|rfl|rfl|rfl
 ·rw[mN] at b
  have e:=Ig.1 b;subst e;have a:O9 4 s.2.2.1 x=true:=O2 j k ((Uo _).2 g);have G:O9 6 s.2.2.2 x=true:=O2 m n ((S4 _).2 (by omega));simp[E0,a,G]
 ·rw[Sm] at b
  have:¬Eu s.2.2.1 v=0\/¬Eu s.2.2.2 v=0:=Classical.byContradiction λe=>by
   have w:Eu s.2.2.1 v=0:=Classical.byContradiction λf=>e (.inl f)
   have z:Eu s.2.2.2 v=0:=Classical.byContradiction λf=>e (.inr f)
   rw[Ig] at w z;rw[w] at g;rw[z] at i;exact b (Ig.2 (ADy i g))
  rcases this with e|e
  ·have a:O9 2 s.2.2.1 v=true:=O2 j k ((Sm _).2 e)
   simp[E0,a]
  have a:O9 2 s.2.2.2 v=true:=O2 m n ((Sm _).2 e);simp[E0,a]
 ·rw[aO] at b
  have:Eu s.2.2.1 v<0:=Classical.byContradiction λe=>by have:Eu v x<=0:=Ha (y:=s.2.2.1) (by omega) g;omega
  have a:O9 3 s.2.2.1 v=true:=O2 j k ((aO _).2 this);simp[E0,a]
 ·rw[Uo] at b
  have a:O9 4 s.2.2.1 v=true:=O2 j k ((Uo _).2 (Ha g b));simp[E0,a]
 ·rw[aR] at b
  have:0<Eu s.2.2.2 v:=Classical.byContradiction λe=>by have:Eu x v<=0:=Ha i (by omega);omega
  have a:O9 5 s.2.2.2 v=true:=O2 m n ((aR _).2 this);simp[E0,a]
 rw[S4] at b;have:Eu v s.2.2.2<=0:=Ha (y:=x) (by omega) i;have a:O9 6 s.2.2.2 v=true:=O2 m n ((S4 _).2 (by omega));simp[E0,a]
theorem AFm(h:Wk n=1):n=0:=by unfold Wk at h;split at h <;> omega
theorem tP(h:Wk n=0):n=1:=by unfold Wk at h;split at h <;> omega
theorem AGM{a b:Int}(c : -1<=a/\a<=1)(d : -1<=b/\b<=1)(h:Su a b=1):a=1/\b=1:=by unfold Su at h;split at h <;> omega
theorem tL{a b:Int}(h:Su a b=0):a=0\/b=0:=by unfold Su at h;split at h <;> omega
theorem AHO{a b:Int}(c : -1<=a/\a<=1)(d : -1<=b/\b<=1)(h:orJ a b=1):a=1\/b=1:=by unfold orJ at h;split at h <;> omega
theorem AAQ{a b:Int}(c : -1<=a/\a<=1)(d : -1<=b/\b<=1)(h:orJ a b=0):a=0/\b=0:=by
 unfold orJ at h;split at h
 ·omega
 constructor <;> omega
theorem sound(P:Tb->Prop)(gs:Tb->St)(a:Tb->V)(g:∀Bl,P Bl->AJG (gs Bl) (a Bl)):∀T:CT,okT T->Kg P T ->
 (Io (λs=>(a s).1) (λs=>(a s).2.1) (λs=>(a s).2.2) T=1->Bp gs false T=true)/\(Io (λs=>(a s).1) (λs=>(a s).2.1) (λs=>(a s).2.2) T=0->Bp gs true T=true)
 | .nil,_,_=>⟨λ_=>rfl,λh=>by simp[Io] at h⟩
 | .node a0 o0 ⟨c,Bl,k,n,t⟩ l r,h,ha=>by
   obtain⟨w,u,v⟩:=h;have b:=λj=>sound P gs a g l u (ha.left j)
   have f:=λj=>sound P gs a g r v (ha.right j)
   have m:=Kw (λs=>(a s).1) (λs=>(a s).2.1) (λs=>(a s).2.2) l;have o:=Kw (λs=>(a s).1) (λs=>(a s).2.1) (λs=>(a s).2.2) r
   by_cases h9:c=9
   ·replace b:=b (by omega)
    replace f:=f (by omega);rw[<-m9f h9,<-m9t h9,<-e9 h9];constructor
    ·intro e
     obtain⟨d,i⟩:=AGM m o e;rw[b.1 d,f.1 i];rfl
    intro e
    rcases tL e with d|d
    ·rw[b.2 d];rfl
    rw[f.2 d];simp
   by_cases h10:c=10
   ·replace b:=b (by omega)
    replace f:=f (by omega);rw[<-AJv h10,<-AJu h10,<-e10 h10];constructor
    ·intro e
     rcases AHO m o e with d|d
     ·rw[b.1 d];rfl
     rw[f.1 d];simp
    intro e;obtain⟨d,i⟩:=AAQ m o e;rw[b.2 d,f.2 i];rfl
   by_cases h11:c=11
   ·replace b:=b (by omega)
    rw[<-AKD h11,<-AJz h11,<-e11 h11];exact⟨λe=>b.2 (AFm e),λe=>b.1 (tP e)⟩
   have q:Io (λs=>(a s).1) (λs=>(a s).2.1) (λs=>(a s).2.2) (.node a0 o0 ⟨c,Bl,k,n,t⟩ l r)=Kn c (a Bl) (k,n,t):=by
    by_cases h7:c=7
    ·rw[<-e7 h7];simp[Kn,h7]
    by_cases h8:c=8
    ·rw[<-e8 h8];simp[Kn,h8]
    rw[<-e0 ⟨h7,h8,h11,h9,h10⟩];simp[Kn,h7,h8]
   rw[q,<-m0f ⟨h9,h10,h11⟩,<-m0t ⟨h9,h10,h11⟩];refine⟨λe=>rH (by omega) (by omega) (g Bl (ha.Bl (by omega))) e,λe=>?_⟩;have p:=AB9 (c:=c) (by omega) (by omega);exact rH p.1 p.2 (g Bl (ha.Bl (by omega))) (AFf (by omega) (by omega) e)
end S
namespace F
theorem dF(l:List Aj)(p:List (List V))(a:1<=p.length)(b:p.length<=6):Gb l (An l p)=true:=by simp[Gb,An,a,b]
theorem ACi(l:List Aj)(p:List (List V)){j:Nat}(a:j<l.length):(An l p).2.1[j]? = some (S.Iv (D7 p j)):=by simp[An,a]
theorem Nh{c:Array Oper}{o:Oper}{a:Act}{W:Tw}{K:Act->Tw->Prop}{Q:Exit->Act->Tw->Prop}{E:Prop}(b:o.guard=none)(f:Nat)(x y z:Operand)(t s r:TypeId)(j:o.op=.call { callee:=.value (.func f),args:=#[x,y,z],argTypes:=#[t,s,r] })(u v q:Tv)(k:a.eval x=u)(l:a.eval y=v)(m:a.eval z=q)(g:∀args w,(callFunc f args).run prog w=.ok (.enter f args) w)(R:Ending->Tw->Prop)(i:Zc f #[u,v,q] W R)(h:∀e d,R e d->∃v,e=Zr v/\K (a.put o.dst v) d):
 if Region.wanted o (yielded c a.tmps)=true then Oper.wp prog o a W K Q else E :=
 Ih b f #[x,y,z] #[t,s,r] j #[u,v,q] (by simp[k,l,m]) g R i h
theorem AF1(w:Tw)(X Y Z:Obj):(((w.alloc X).alloc Y).alloc Z).heap[w.heap.size]? = some X/\(((w.alloc X).alloc Y).alloc Z).heap[w.heap.size+1]? = some Y/\(((w.alloc X).alloc Y).alloc Z).heap[w.heap.size+2]? = some Z:=by
 have b:Below (w.alloc X).heap.size (w.alloc X) (((w.alloc X).alloc Y).alloc Z):=S.Gj (w.alloc X) Y Z;have a:Below ((w.alloc X).alloc Y).heap.size ((w.alloc X).alloc Y) (((w.alloc X).alloc Y).alloc Z):=Zal;refine⟨(b.block _ (by simp)).trans (heap_alloc_new w X),?_,?_⟩
 ·have:=heap_alloc_new (w.alloc X) Y
  rw[XC] at this;exact(a.block _ (by simp)).trans this
 have:=heap_alloc_new ((w.alloc X).alloc Y) Z;rwa[XC,XC] at this
def Uk(l:List Aj)(r:List V)(s:ByteArray):V:=r[(Ce l s).toNat]?.getD zV
theorem AEu{c:Aj}{v:V}(h:Lx c v=true):v.1=0\/v.1=kd c:=by unfold Lx Cm at h;simp only[Bool.and_eq_true,Bool.or_eq_true,beq_iff_eq] at h;omega
end F
theorem AHr{w:Tw}(h:Lw w):Lw w:=h
theorem AJI{w:Tw}(h:B.Ob w):Ob w:=h
def Eh(p:ByteArray):ByteArray:=⟨#[100,97,116,97,47]⟩++p
theorem lS(p:Tb):(Eh p).size=5+p.size:=by simp[Eh,ByteArray.size_append];rfl
theorem tC(p:Tb)(w:Tw)(c:p.size<=1000):Zc 49 #[Zt p] w λe b=>e=Zr (Zt (Eh p))/\b=w:=by have a:Hid ((⟨#[100,97,116,97,47]⟩:Tb)++p=Eh p):=rfl;go_enter func49,ntmps49;go_wp2;go_ret;exact⟨by rw[a.o];rfl,rfl⟩
def iB(D:DataW Unit)(p:ByteArray)(w:World)(e:Ending)(a:World):Prop :=
 (Maps.has D (B.lit (Eh p))=false/\e=.returned (.tuple #[.agg #[.slice none 0 0,.slice none 0 0],.iface 90 (.int .i64 7)])/\Zb w a) \/
 (Maps.has D (B.lit (Eh p))=true/\∃t:ByteArray,D.atKey (B.lit (Eh p)) (B.Gw ByteArray.empty)=B.Gw t/\F.Kx (F.Kj t.data.toList) w e a)
theorem AD9(bb n:Nat)(D:Td)(mv:Tv)(p:Tb)(w:Tw)(h:Ground w bb n D mv)(O:B.Ob w)(P:p.size<=1000)(R:∀t:Tb,Maps.has D (B.lit (Eh p))=true->D.atKey (B.lit (Eh p)) (B.Gw ByteArray.empty)=B.Gw t->t.size<=1000000):
 Zc 28 #[Zp (some ⟨bb,0,none⟩),Zt p] w (iB D p w):=by
 have W:=Aa (λV=>tC p V P);have M:=Aa (λV(r:Zb w V)=>B.aP bb n D mv (Eh p) V (h.up r).c0 (h.up r).th (by rw[lS];unfold maxLen;omega));have q:Hid (Zb w (w.alloc (Zk #[Zs none 0 0,Zs none 0 0] 98))):=Aa (Zal);have J:=Aa (heap_alloc_new w (Zk #[Zs none 0 0,Zs none 0 0] 98))
 have X:Hid (∀(t:Tb)V,Zb w V->t.size<=1000000->Zc 50 #[Zt t] V (F.Kx (F.Kj t.data.toList) V)):=Aa λt V r ht=>by
  have:=F.Vf t.data.toList V (by rw[<-Lib.size_eq];exact ht) (AHr (h.nc.below r)) (AJI (O.below r));have e:E.str t.data.toList=t:=by simp[E.str]
  rw[e] at this;exact this
 have Y:=Aa R;clear h O P R;unfold iB;unfold B.Um at M;go_enter func28,ntmps28;go_wp2_with fail;refine(W.o _).mono ?_;rintro e w1⟨rfl,rfl⟩;go_wp2_with fail;refine(M.o _ q.o).mono ?_;rintro e T⟨t,rfl,o,u,g⟩;have j:=Below.Ap q.o g;have c:=Aa ((g.block w.heap.size (by simp)).trans J.o);have z:=cell_of_heap c.o 0;have n1:=cell_of_heap c.o 1;simp at z n1;have N:∀i,T.frozen? ⟨w.heap.size,i,none⟩=false:=λi=>by simp[World.frozen?,c.o]
 clear g;cases hh:Maps.has D (B.lit (Eh p)) with
 | false=>rw[if_neg (by simp)];have e7:B.L8 7=Zf 90 (Zi 7):=rfl;rw[e7];have d:=Aa j;clear j o u;go_wp2;exact bodyPost_ret (v:=Zu #[Zg #[Zs none 0 0,Zs none 0 0],Zf 90 (Zi 7)]) (by simp[results,results28,go_sem,z,n1]) rfl (.inl ⟨hh,rfl,(d.o.setCell (XA _) _).setCell (XA _) _⟩)
 | true=>
   rw[if_pos rfl];have e0:B.L8 0=Zn:=rfl;rw[e0];have G:=Aa (o hh);have HZ:=Aa (Y.o t hh G.o);have d:=Aa j;clear j o u;go_wp2_with fail;refine(X.o t T d.o HZ.o).mono ?_;intro e U l;have s:=Ac c.o;cases hr:F.Kj t.data.toList with
   | none=>
     rw[hr] at l;obtain⟨rfl,b⟩:=l;have a:=(b.block w.heap.size s).trans c.o;have x:=cell_of_heap a 0;have y:=cell_of_heap a 1;simp at x y;have g0:∀i,U.frozen? ⟨w.heap.size,i,none⟩=false:=λi=>by simp[World.frozen?,a]
     have m:=Aa (Below.Ap d.o b);clear b a z n1 N;go_wp2;refine bodyPost_ret (v:=Zu #[Zg #[Zs none 0 0,Zs none 0 0],Zf 90 (Zi 3)]) (by simp[results,results28,go_sem,x,y]) rfl (.inr ⟨hh,t,G.o,?_⟩);rw[hr];exact⟨rfl,(m.o.setCell (XA _) _).setCell (XA _) _⟩
   | some f=>
     rw[hr] at l;obtain⟨cv,gv,rfl,k,b⟩:=l;obtain⟨ca,cc,ec,_⟩:=k.1.slice;obtain⟨ga,gc,eg,_⟩:=k.2.slice;subst ec eg;have a:=(b.block w.heap.size s).trans c.o;have x:=cell_of_heap a 0;have y:=cell_of_heap a 1;simp at x y;have g0:∀i,U.frozen? ⟨w.heap.size,i,none⟩=false:=λi=>by simp[World.frozen?,a]
     have m:=Aa (Below.Ap d.o b);have I:=Aa k;have L:=Aa a;clear b a z n1 N k;go_wp2;refine bodyPost_ret (v:=Zu #[Zg #[Zs ca f.1.length cc,Zs ga f.2.length gc],Zn]) (by simp[results,results28,go_sem,x,y]) rfl (.inr ⟨hh,t,G.o,?_⟩);rw[hr];exact⟨_,_,rfl,I.o.far L.o ((Aq _ _ 0 _).trans (Aq _ _ 1 _)),(m.o.setCell (XA _) _).setCell (XA _) _⟩
namespace F
variable{u v:Tv}{W w:Tw}
theorem AFz(k:Nat)(cv gv:Tv)(cols:List Aj)(gs:List Fk)(g:Fk)(c1:Int)(y:Tb)(z:Int)(D:Bool)(m n:Int)(o:Tb)(w:Tw)(O:Hm w cv gv (cols,gs))(hk:gs[k]? = some g)(h1:1<=cols.length)(h8:cols.length<=8)(t:Gb cols g=true)(hp:cM cols c1 = -1):
 Zc 95 #[Zg #[cv,gv],Zi k,Zg #[Zi c1,Zt y,Zi z,Zo D,Zi m,Zi n,Zt o]] w λe P=>e=Zr (Zg (S.E6 (S.Iv (List.replicate g.1 (m,n,o)))))/\Zb w P:=by
 have I:=Aa (λW(hW:Zb w W)=>nL k cv gv cols gs g W (O.up hW).1 (O.up hW).2 hk);have J:=Aa (λW(hW:Zb w W)=>U9 cv gv cols c1 y z D m n o W (O.up hW).1 h1 h8);have s:1<=g.1/\g.1<=6:=by simp only[Gb,decide_eq_true_eq] at t;exact⟨t.2.2.1,t.2.2.2⟩
 have am:Hid (∀W(i f:To)(sn j bn h:Nat),Zc 152 #[Zg #[Zi g.1,Zs i sn j,Zs f bn h],Zg #[Zi c1,Zt y,Zi z,Zo D,Zi m,Zi n,Zt o]] W λe P=>∃v',e=Zr v'/\P.ownsRow W.heap.size 56 3 v' g.1 (rep (m,n,o) g.1)/\Zb W P):=Aa λW i f sn j bn h=>Sf g.1 _ _ i f sn j bn h c1 y z D m n o W s.1 s.2 rfl rfl
 have u:Hid (∀v W B,W.ownsRow B 56 3 v g.1 (rep (m,n,o) g.1)->Zc 151 #[v] W λe P=>e=Zr (Zg (S.E6 (S.Iv (List.replicate g.1 (m,n,o)))))/\Zb W P):=Aa λv W B ho=>S.yU v _ W (E.Cy (by rw[XN];exact ho)) (by simp;omega)
 obtain⟨ga,gc,rfl,_⟩:=O.2.slice;obtain⟨ca,cc,rfl,_⟩:=O.1.slice;dsimp only at I J ⊢;rw[t] at I;rw[hp] at J;clear O t s;obtain⟨⟨s1,s2,⟨k1,n1,t1⟩,⟨k2,n2,t2⟩⟩,af⟩:∃st,S.Iv (List.replicate g.1 (m,n,o))=st:=⟨_,rfl⟩;rw[af] at u ⊢;unfold S.E6 at u ⊢;simp only at u ⊢;clear af;obtain⟨N,V,q,X,aa⟩:=Jl w (Zk #[Zs ca cols.length cc,Zs ga gs.length gc] 98) (Zk #[Zi c1,Zt y,Zi z,Zo D,Zi m,Zi n,Zt o] 72) (Zk #[Zi 0,Zi 0,Zi 0,Zi 0,Zt ⟨#[]⟩,Zi 0,Zi 0,Zt ⟨#[]⟩] 186);have HA:=Aa V;have HB:=Aa q;have U:=Aa X;have R:=Aa aa;have ao:=Aa N;clear V q X aa N;go_enter func95,ntmps95;go_wp2_with fail;generalize ((w.alloc (Zk #[Zs ca cols.length cc,Zs ga gs.length gc] 98)).alloc (Zk #[Zi c1,Zt y,Zi z,Zo D,Zi m,Zi n,Zt o] 72)).alloc (Zk #[Zi 0,Zi 0,Zi 0,Zi 0,Zt ⟨#[]⟩,Zi 0,Zi 0,Zt ⟨#[]⟩] 186)=W3 at *;refine(I.o W3 R.o).mono ?_;rintro e l⟨sv,bv,rfl,ag,ad,ab⟩;obtain⟨i,j,rfl,_⟩:=ag.slice;obtain⟨f,h,rfl,_⟩:=ad.slice;have N:=ao.o;have ac:Zb l (l.alloc (Zk #[Zi g.1,Zs i g.2.1.length j,Zs f g.2.2.length h] 128)):=Zal;have b:=Ap ab ac;have V:=(b.block w.heap.size (by omega)).trans HA.o;have q:=(b.block (w.heap.size+1) (by omega)).trans HB.o;have aj:=Aa q;have ak:=Aa ((b.block (w.heap.size+2) (by omega)).trans U.o);obtain⟨f0,f1⟩:=Hg V;have x0:(l.alloc (Zk #[Zi g.1,Zs i g.2.1.length j,Zs f g.2.2.length h] 128)).cell? ⟨w.heap.size+1,0,none⟩=some (Zi c1):=A4 q rfl;have x1:(l.alloc (Zk #[Zi g.1,Zs i g.2.1.length j,Zs f g.2.2.length h] 128)).cell? ⟨w.heap.size+1,1,none⟩=some (Zt y):=A4 q rfl;have x2:(l.alloc (Zk #[Zi g.1,Zs i g.2.1.length j,Zs f g.2.2.length h] 128)).cell? ⟨w.heap.size+1,2,none⟩=some (Zi z):=A4 q rfl;have x3:(l.alloc (Zk #[Zi g.1,Zs i g.2.1.length j,Zs f g.2.2.length h] 128)).cell? ⟨w.heap.size+1,3,none⟩=some (Zo D):=A4 q rfl;have x4:(l.alloc (Zk #[Zi g.1,Zs i g.2.1.length j,Zs f g.2.2.length h] 128)).cell? ⟨w.heap.size+1,4,none⟩=some (Zi m):=A4 q rfl;have x5:(l.alloc (Zk #[Zi g.1,Zs i g.2.1.length j,Zs f g.2.2.length h] 128)).cell? ⟨w.heap.size+1,5,none⟩=some (Zi n):=A4 q rfl;have x6:(l.alloc (Zk #[Zi g.1,Zs i g.2.1.length j,Zs f g.2.2.length h] 128)).cell? ⟨w.heap.size+1,6,none⟩=some (Zt o):=A4 q rfl;have an:=Aa (heap_alloc_new l (Zk #[Zi g.1,Zs i g.2.1.length j,Zs f g.2.2.length h] 128));have T:=Aa (Ap R.o b);have ar:=b.size;have ap:l.heap.size<(l.alloc (Zk #[Zi g.1,Zs i g.2.1.length j,Zs f g.2.2.length h] 128)).heap.size:=by simp
 clear ag ad ab ac b V q HA HB U;go_wp2_with fail;generalize l.alloc (Zk #[Zi g.1,Zs i g.2.1.length j,Zs f g.2.2.length h] 128)=W5 at *;refine(J.o W5 T.o).mono ?_;rintro e G⟨rfl,r⟩;have L:=(r.block (w.heap.size+2) (by omega)).trans ak.o;have Y:=(r.block l.heap.size ap).trans an.o;have c:=(r.block (w.heap.size+1) (by omega)).trans aj.o;have al:=Aa L;have aq:w.heap.size+2<G.heap.size:=E.Ac L;obtain⟨g0,g1,g2,_⟩:=J5 Y;have y0:G.cell? ⟨w.heap.size+1,0,none⟩=some (Zi c1):=A4 c rfl;have y1:G.cell? ⟨w.heap.size+1,1,none⟩=some (Zt y):=A4 c rfl;have y2:G.cell? ⟨w.heap.size+1,2,none⟩=some (Zi z):=A4 c rfl;have y3:G.cell? ⟨w.heap.size+1,3,none⟩=some (Zo D):=A4 c rfl;have y4:G.cell? ⟨w.heap.size+1,4,none⟩=some (Zi m):=A4 c rfl;have y5:G.cell? ⟨w.heap.size+1,5,none⟩=some (Zi n):=A4 c rfl;have y6:G.cell? ⟨w.heap.size+1,6,none⟩=some (Zt o):=A4 c rfl;have ah:=Aa (Ap T.o r);clear r x0 x1 x2 x3 x4 x5 x6 f0 f1 L Y c;go_wp2_with fail;refine(am.o _ _ _ _ _ _ _).mono ?_;rintro e w7⟨v7,rfl,ae,x⟩;go_wp2_with fail;refine(u.o v7 w7 _ ae).mono ?_;rintro e d⟨rfl,M⟩;have a:=(M.block (w.heap.size+2) (by have:=x.size;omega)).trans ((x.block (w.heap.size+2) aq).trans al.o);have r0:d.cell? ⟨w.heap.size+2,0,none⟩=some (Zi 0):=A4 a rfl;have r1:d.cell? ⟨w.heap.size+2,1,none⟩=some (Zi 0):=A4 a rfl;have r2:d.cell? ⟨w.heap.size+2,2,none⟩=some (Zi 0):=A4 a rfl;have r3:d.cell? ⟨w.heap.size+2,3,none⟩=some (Zi 0):=A4 a rfl;have r4:d.cell? ⟨w.heap.size+2,4,none⟩=some (Zt ⟨#[]⟩):=A4 a rfl;have r5:d.cell? ⟨w.heap.size+2,5,none⟩=some (Zi 0):=A4 a rfl;have r6:d.cell? ⟨w.heap.size+2,6,none⟩=some (Zi 0):=A4 a rfl;have r7:d.cell? ⟨w.heap.size+2,7,none⟩=some (Zt ⟨#[]⟩):=A4 a rfl;have z0:=frozen_of_row d (w.heap.size+2) 0 _ _ a;have z1:=frozen_of_row d (w.heap.size+2) 1 _ _ a;have z2:=frozen_of_row d (w.heap.size+2) 2 _ _ a;have z3:=frozen_of_row d (w.heap.size+2) 3 _ _ a;have z4:=frozen_of_row d (w.heap.size+2) 4 _ _ a;have z5:=frozen_of_row d (w.heap.size+2) 5 _ _ a;have z6:=frozen_of_row d (w.heap.size+2) 6 _ _ a;have z7:=frozen_of_row d (w.heap.size+2) 7 _ _ a;have ai:=Aa (Ap (Ap ah.o x) M);clear x M a ae y0 y1 y2 y3 y4 y5 y6 g0 g1 g2;go_wp2;refine bodyPost_ret (v:=Zg #[Zi s1,Zi s2,Zi k1,Zi n1,Zt t1,Zi k2,Zi n2,Zt t2]) (by simp[results,results95,go_sem,r0,r1,r2,r3,r4,r5,r6,r7]) rfl ⟨rfl,?_⟩;exact(((((((ai.o.setCell (p:=⟨w.heap.size+2,0,none⟩) (Y9 _ _) _).setCell (p:=⟨w.heap.size+2,1,none⟩) (Y9 _ _) _).setCell (p:=⟨w.heap.size+2,2,none⟩) (Y9 _ _) _).setCell (p:=⟨w.heap.size+2,3,none⟩) (Y9 _ _) _).setCell (p:=⟨w.heap.size+2,4,none⟩) (Y9 _ _) _).setCell (p:=⟨w.heap.size+2,5,none⟩) (Y9 _ _) _).setCell (p:=⟨w.heap.size+2,6,none⟩) (Y9 _ _) _).setCell (p:=⟨w.heap.size+2,7,none⟩) (Y9 _ _) _
def I5(b:List Aj)(p:List (List V))(a:List Aj)(s:ByteArray):S.St:=if Ce a s<0 then S.F6 else S.Iv (p.map λr=>pick b r (a[(Ce a s).toNat]?.getD zC))
theorem AB3(k:Nat)(l m:Tv)(a:List Aj)(gs:List Fk)(p:List (List V))(c1:Int)(f:Tb)(g:Int)(h:Bool)(b c:Int)(d:Tb)(w:Tw)(q:Hm w l m (a,gs))(s:gs[k]? = some (An a p))(n:1<=a.length)(o:a.length<=8)(i:1<=p.length)(j:p.length<=6):
 Zc 95 #[Zg #[l,m],Zi k,Zg #[Zi c1,Zt f,Zi g,Zo h,Zi b,Zi c,Zt d]] w λe t=>e=Zr (Zg (S.E6 (S.Iv (p.map λr=>pick a r (c1,f,g,h,b,c,d)))))/\Zb w t:=by
 by_cases hp:pos a c1<a.length
 ·have e:(p.map λr=>pick a r (c1,f,g,h,b,c,d))=D7 p (pos a c1):=by
   unfold D7 pick;simp only[if_pos hp]
  rw[e];exact V5 k (pos a c1) l m a gs (An a p) _ c1 f g h b c d w q s n o (dF a p i j) (by unfold cM;rw[if_pos hp]) (ACi a p hp)
 have e:(p.map λr=>pick a r (c1,f,g,h,b,c,d))=List.replicate (An a p).1 (b,c,d):=by unfold pick;simp only[if_neg hp];rw[List.map_const'];rfl
 rw[e];exact AFz k l m a gs (An a p) c1 f g h b c d w q s n o (dF a p i j) (ABF hp)
theorem AFd(f l:List Aj)(gs:List Fk)(p:List (List V))(k:Nat)(cv gv:Tv)(g o cp L y M:Nat)(s:Tb)(w:Tw)(T:Hm w cv gv (f,gs))(hk:gs[k]? = some (An f p))(aj:1<=f.length)(ak:f.length<=8)(h8:l.length<=8)(al:1<=p.length)(am:p.length<=6)(hs:I1 w g o l)(Y:w.cell? ⟨L,0,none⟩=some (Zs (some ⟨g,o,none⟩) l.length cp))(U:w.cell? ⟨y,0,none⟩=some cv)(X:w.cell? ⟨y,1,none⟩=some gv)(aa:w.cell? ⟨M,0,none⟩=some (Zi k))(ab:L<w.heap.size)(J:y<w.heap.size)(ad:M<w.heap.size):
 Zc 94 #[Zt s,Zp (some ⟨L,0,none⟩),Zp (some ⟨y,0,none⟩),Zp (some ⟨M,0,none⟩)] w λe w'=>e=Zr (Zg (S.E6 (I5 f p l s)))/\Zb w w':=by
 have P:=Aa (λW(b:Zb w W)=>E8 g o cp l s W (hs.below b) h8);have h:Zb w (w.alloc (Zk (S.E6 S.F6) 186)):=Zal;obtain⟨ca,cc,ec,_⟩:=T.1.slice;obtain⟨ga,gc,eg,_⟩:=T.2.slice;dsimp only at ec eg;subst ec eg
 rcases Gz l s with⟨N,_⟩|⟨j,hj,N,_⟩
 ·have R:Hid (I5 f p l s=S.F6):=Aa (by unfold I5;rw[if_pos (by omega)])
  rw[R.o];simp only[N] at P;clear R N T hk hs;go_enter func94,ntmps94;go_wp2_with fail;refine(P.o _ h).mono ?_;rintro e i⟨rfl,a⟩;have G:S.Nq i w.heap.size S.F6:=S.Nq.up (heap_alloc_new _ _) a;obtain⟨c0,c1,c2,c3,c4,c5,c6,c7⟩:=S.Nq.cells (c:=0) (m:=0) (k:=0) (n:=0) (t:=⟨#[]⟩) (k':=0) (n':=0) (t':=⟨#[]⟩) G;obtain⟨f0,f1,f2,f3,f4,f5,f6,f7⟩:=G.free;have B1:Hid (Zb w i):=Aa (Ap h a);clear a G h;go_wp2;exact bodyPost_ret (v:=Zg #[Zi 0,Zi 0,Zi 0,Zi 0,Zt ⟨#[]⟩,Zi 0,Zi 0,Zt ⟨#[]⟩]) (by simp[results,results94,go_sem,c0,c1,c2,c3,c4,c5,c6,c7]) rfl ⟨rfl,S.b8c B1.o (XA _) _ _ _ _ _ _ _ _⟩
 have R:Hid (I5 f p l s=S.Iv (p.map λr=>pick f r (l[j]?.getD zC))):=Aa (by unfold I5;rw[if_neg (by omega),N];rfl);rw[R.o];simp only[N] at P;have ex:∃x,l[j]! = x:=⟨_,rfl⟩;obtain⟨⟨y1,y2,y3,y4,y5,y6,y7⟩,hx⟩:=ex
 have hx? : (l[j]?.getD zC)=(y1,y2,y3,y4,y5,y6,y7):=by rw[Y' hj,Option.getD_some,<-hx,getElem!_pos l j hj]
 have q:=Aa (λW(b:Zb w W)=>AB3 k (Zs ca f.length cc) (Zs ga gs.length gc) f gs p y1 y2 y3 y4 y5 y6 y7 W (T.up b) hk aj ak al am);rw[<-hx?] at q;have HS:=Aa hs;have aq:(j:Int)<(l.length:Int):=by omega
 have ao:¬(j:Int)<0:=by omega
 have ap:(0:Int)<=(j:Int):=by omega
 obtain⟨⟨s1,s2,⟨k1,n1,t1⟩,⟨k2,n2,t2⟩⟩,af⟩:∃st,S.Iv (p.map λr=>pick f r (l[j]?.getD zC))=st:=⟨_,rfl⟩;rw[af] at q ⊢;unfold S.E6 at q ⊢;simp only at q ⊢;clear af;clear R N T hk hs hx?;go_enter func94,ntmps94;go_wp2_with fail;refine(P.o _ h).mono ?_;rintro e i⟨rfl,u⟩;have G:S.Nq i w.heap.size S.F6:=S.Nq.up (heap_alloc_new _ _) u;have a:=Ap h u;have an:w.heap.size<i.heap.size:=E.Ac G;clear u h;obtain⟨e0,e1,e2,e3,e4,e5,e6⟩:=(HS.o.below a).cells hj hx;have d0:=(a.cell (p:=⟨L,0,none⟩) ab).trans Y;have d1:=(a.cell (p:=⟨y,0,none⟩) J).trans U;have d2:=(a.cell (p:=⟨y,1,none⟩) J).trans X;have d3:=(a.cell (p:=⟨M,0,none⟩) ad).trans aa;clear Y U X aa hx P;have d:g<i.heap.size:=(HS.o.below a).1;have ac:L<i.heap.size:=Ya ab a.size;have D:y<i.heap.size:=Ya J a.size;have ae:M<i.heap.size:=Ya ad a.size
 have HK:Hid (∀W,Zb i W->W.cell? ⟨L,0,none⟩=some (Zs (some ⟨g,o,none⟩) l.length cp)/\W.cell? ⟨y,0,none⟩=some (Zs ca f.length cc)/\W.cell? ⟨y,1,none⟩=some (Zs ga gs.length gc)/\W.cell? ⟨M,0,none⟩=some (Zi k)/\W.cell? ⟨g,o+j*7,none⟩=some (Zi y1)/\W.cell? ⟨g,o+j*7+1,none⟩=some (Zt y2)/\W.cell? ⟨g,o+j*7+2,none⟩=some (Zi y3)/\W.cell? ⟨g,o+j*7+3,none⟩=some (Zo y4)/\W.cell? ⟨g,o+j*7+4,none⟩=some (Zi y5)/\W.cell? ⟨g,o+j*7+5,none⟩=some (Zi y6)/\W.cell? ⟨g,o+j*7+6,none⟩=some (Zt y7)):=Aa (λW b=>⟨(b.cell (p:=⟨L,0,none⟩) ac).trans d0,(b.cell (p:=⟨y,0,none⟩) D).trans d1,(b.cell (p:=⟨y,1,none⟩) D).trans d2,(b.cell (p:=⟨M,0,none⟩) ae).trans d3,(b.cell (p:=⟨g,o+j*7,none⟩) d).trans e0,(b.cell (p:=⟨g,o+j*7+1,none⟩) d).trans e1,(b.cell (p:=⟨g,o+j*7+2,none⟩) d).trans e2,(b.cell (p:=⟨g,o+j*7+3,none⟩) d).trans e3,(b.cell (p:=⟨g,o+j*7+4,none⟩) d).trans e4,(b.cell (p:=⟨g,o+j*7+5,none⟩) d).trans e5,(b.cell (p:=⟨g,o+j*7+6,none⟩) d).trans e6⟩)
 have ai:Hid (∀W,Zb i W->S.Nq W w.heap.size S.F6):=Aa (λW b=>S.Nq.up G b);have O:=Aa a;have ah:Hid (∀args w,(callFunc 95 args).run prog w=.ok (.enter 95 args) w):=Aa (enters_of func95 (by kernel_rfl) rfl);clear G a;go_wp2_with fail;clear HK
 go_region_law
  (first
    | (refine Nh (by rfl) 95 (.tmp 13) (.tmp 14) (.tmp 18) 98 3 72 (by rfl) (Zg #[Zs ca f.length cc,Zs ga gs.length gc]) (Zi k) (Zg #[Zi y1,Zt y2,Zi y3,Zo y4,Zi y5,Zi y6,Zt y7]) (by rfl) (by rfl) (by rfl) ah.o _ (q.o i.drew O.o.drew) ?_
       rintro e w2⟨rfl,z⟩;have I:Zb i w2:=Ap (XB _ _).drew z;have K2:=ai.o w2 I;obtain⟨c0,c1,c2,c3,c4,c5,c6,c7⟩:=S.Nq.cells (c:=0) (m:=0) (k:=0) (n:=0) (t:=⟨#[]⟩) (k':=0) (n':=0) (t':=⟨#[]⟩) K2;obtain⟨f0,f1,f2,f3,f4,f5,f6,f7⟩:=K2.free;clear K2;refine⟨_,rfl,?_⟩)
    | fail)
 all_goals
  have ag:=Aa (Ap O.o I);clear I z;go_wp2;exact bodyPost_ret (v:=Zg #[Zi s1,Zi s2,Zi k1,Zi n1,Zt t1,Zi k2,Zi n2,Zt t2]) (by simp[results,results94,go_sem,c0,c1,c2,c3,c4,c5,c6,c7]) rfl ⟨rfl,S.b8c ag.o (XA _) _ _ _ _ _ _ _ _⟩
theorem pE(a l:List Aj)(gs:List Fk)(p:List (List V))(k:Nat)(d f:Tv)(g o j:Nat)(T:S.CT)(v:Tv)(w:Tw)(m:Hm w d f (a,gs))(L:gs[k]? = some (An a p))(q:1<=a.length)(r:a.length<=8)(h8:l.length<=8)(t:1<=p.length)(u:p.length<=6)(N:I1 w g o l)(O:S.Gy w T v)(M:S.Lp w)(J:S.C9 T 24=true):
 Zc 51 #[Zg #[d,f],Zi k,Zs (some ⟨g,o,none⟩) l.length j,v] w λe y=>e=Zr (Zo (S.Bp (I5 a p l) false T))/\Zb w y:=by
 have i:Zb w (((w.alloc (Zk #[d,f] 98)).alloc (Zk #[Zi k] 3)).alloc (Zk #[Zs (some ⟨g,o,none⟩) l.length j] 34)):=b3 w _ _ _
 have X:Hid (∀W,Zb w W->W.heap[w.heap.size]? = some (Zk #[d,f] 98)->W.heap[w.heap.size+1]? = some (Zk #[Zi k] 3)->W.heap[w.heap.size+2]? = some (Zk #[Zs (some ⟨g,o,none⟩) l.length j] 34) ->
  Zc 93 #[v,.func (.func 94) #[] #[Zp (some ⟨w.heap.size+2,0,none⟩),Zp (some ⟨w.heap.size,0,none⟩),Zp (some ⟨w.heap.size+1,0,none⟩)]] W λe y=>e=Zr (Zo (S.Bp (I5 a p l) false T))/\Zb W y):=Aa (λW hW q0 q1 q2=>
  S.AG4 _ (I5 a p l) T v W (O.up hW) (λY s h=>S.r8 _ _ _ (I5 a p l) s Y (λW2 s2 hW2=>by have I:=Ap (Ap hW h) hW2;have b:=Ap h hW2;have x:=(b.block _ (E.Ac q0)).trans q0;have P:=(b.block _ (E.Ac q1)).trans q1;have U:=(b.block _ (E.Ac q2)).trans q2;exact AFd a l gs p k d f g o j _ _ _ s2 W2 (m.up I) L q r h8 t u (N.below I) (S.cell_of_heap U 0) (S.cell_of_heap x 0) (S.cell_of_heap x 1) (S.cell_of_heap P 0) (E.Ac U) (E.Ac x) (E.Ac P))) (M.below hW) J)
 have aa:∀(G:Fn)(first c:Array Tv)(w:Tw),(Instr.makeFunc G first c).run prog w=.ok (.func G first c) w:=λ_ _ _ _=>rfl
 obtain⟨ca,cc,z,_⟩:=m.1.slice;obtain⟨ga,gc,D,_⟩:=m.2.slice;dsimp only at z D;subst z D;generalize S.Bp (I5 a p l) false T=R at *;clear m L N O M J;go_enter func51,ntmps51;go_wp2_with fail;refine(X.o _ i (AF1 w _ _ _).1 (AF1 w _ _ _).2.1 (AF1 w _ _ _).2.2).mono ?_;rintro e w1⟨rfl,n⟩;go_wp2;go_ret;exact⟨rfl,Ap i n⟩
theorem ADM(l:List Aj)(r:List V)(g o G D z a b q:Nat)(s:Tb)(w:Tw)(h8:l.length<=8)(hs:I1 w g o l)(N:r.length=l.length)(h:Rf l s)(t:w.cell? ⟨z,0,none⟩=some (Zs (some ⟨g,o,none⟩) l.length G))(i:w.cell? ⟨D,0,none⟩=some (Zs (some ⟨a,b,none⟩) l.length q))(hc:∀j x,r[j]? = some x->w.cell? ⟨a,b+j*3,none⟩=some (Zi x.1)/\w.cell? ⟨a,b+j*3+1,none⟩=some (Zi x.2.1)/\w.cell? ⟨a,b+j*3+2,none⟩=some (Zt x.2.2))(q1:z<w.heap.size)(q4:D<w.heap.size)(O:a<w.heap.size):
 Zc 155 #[Zt s,Zp (some ⟨D,0,none⟩),Zp (some ⟨z,0,none⟩)] w λe w'=>e=Zr (Zg #[Zi (Uk l r s).1,Zi (Uk l r s).2.1,Zt (Uk l r s).2.2])/\Zb w w':=by
 obtain⟨j,hj,n⟩:∃j:Nat,j<l.length/\Ce l s=j:=by
  rcases Gz l s with⟨n,_⟩|⟨j,hj,n,_⟩
  ·unfold Rf at h;omega
  exact⟨j,hj,n⟩
 have X:=Aa (λW(c:Zb w W)=>E8 g o G l s W (hs.below c) h8);simp only[n] at X;obtain⟨⟨P,R,T⟩,y⟩:∃v,Uk l r s=v:=⟨_,rfl⟩
 have u:r[j]? = some (P,R,T):=by unfold Uk at y;rw[n,Int.toNat_natCast,Y' (by omega)] at y;rw[Y' (by omega)];simpa using y
 rw[y];obtain⟨x0,x1,x2⟩:=hc j _ u;have ab:(j:Int)<(l.length:Int):=by omega
 have aa:(0:Int)<=(j:Int):=by omega
 have L:Hid (∀args w,(callFunc 15 args).run prog w=.ok (.enter 15 args) w):=Aa (enters_of func15 (by kernel_rfl) rfl);clear y u hc hs h n N;go_enter func155,ntmps155;go_wp2_with fail;have m:Zb w (w.alloc (Zk #[Zi 0,Zi 0,Zt ⟨#[]⟩] 56)):=Zal;have M:=heap_alloc_new w (Zk #[Zi 0,Zi 0,Zt ⟨#[]⟩] 56)
 have Y:Hid (∀W,Zb w W->W.cell? ⟨z,0,none⟩=some (Zs (some ⟨g,o,none⟩) l.length G)/\W.cell? ⟨D,0,none⟩=some (Zs (some ⟨a,b,none⟩) l.length q)/\W.cell? ⟨a,b+j*3,none⟩=some (Zi P)/\W.cell? ⟨a,b+j*3+1,none⟩=some (Zi R)/\W.cell? ⟨a,b+j*3+2,none⟩=some (Zt T)):=Aa (λW c=>⟨(c.cell (p:=⟨z,0,none⟩) q1).trans t,(c.cell (p:=⟨D,0,none⟩) q4).trans i,(c.cell (p:=⟨a,b+j*3,none⟩) O).trans x0,(c.cell (p:=⟨a,b+j*3+1,none⟩) O).trans x1,(c.cell (p:=⟨a,b+j*3+2,none⟩) O).trans x2⟩)
 generalize w.alloc (Zk #[Zi 0,Zi 0,Zt ⟨#[]⟩] 56)=I at *;obtain⟨p0,p3,p4,p5,p6⟩:=Y.o I m;have HZ:Hid (∀W,Zb I W->W.heap[w.heap.size]? = some (Zk #[Zi 0,Zi 0,Zt ⟨#[]⟩] 56)):=Aa (λW c=>(c.block _ (E.Ac M)).trans M);have k:=Aa m;clear t i x0 x1 x2 m M
 go_region_law
  (first
    | (refine Gc (by rfl) 15 (.tmp 6) (.tmp 7) 34 9 (by rfl) (Zs (some ⟨g,o,none⟩) l.length G) (Zt s) (by rfl) (by rfl) L.o _ (X.o I.drew k.o.drew) ?_
       rintro e U⟨rfl,f⟩;have d:Zb I U:=Ap (XB _ _).drew f;obtain⟨r0,r3,r4,r5,r6⟩:=Y.o U (Ap k.o d);obtain⟨z0,z1,z2,t0,t1,t2⟩:=J5 (HZ.o U d);refine⟨_,rfl,?_⟩)
    | fail)
 all_goals
  have J:=Aa (Ap k.o d);clear d f;go_wp2;exact bodyPost_ret (v:=Zg #[Zi P,Zi R,Zt T]) (by simp[results,results155,go_sem,z0,z1,z2]) rfl ⟨rfl,((J.o.setCell (p:=⟨w.heap.size,0,none⟩) (XA _) _).setCell (p:=⟨w.heap.size,1,none⟩) (XA _) _).setCell (p:=⟨w.heap.size,2,none⟩) (XA _) _⟩
theorem ACq(pa i:Tv)(g h:Tb->Int)(gt:Tb->Tb)(P:Tb->Prop)(s:Tb)(w:Tw)(r:P s)(l:∀(W:Tw)(s:Tb),P s->Zb w W->Zc 155 #[Zt s,pa,i] W λe d=>e=Zr (Zg #[Zi (g s),Zi (h s),Zt (gt s)])/\Zb W d):
 Zc 57 #[.func (.func 155) #[] #[pa,i],Zt s] w λe d=>e=Zr (Zg #[Zi (g s),Zi (h s),Zt (gt s)])/\Zb w d:=by
 have o:Hid (∀W,Zb w W->Zc 155 #[Zt s,pa,i] W λe d=>e=Zr (Zg #[Zi (g s),Zi (h s),Zt (gt s)])/\Zb W d):=λW hb=>l W s r hb
 clear l;have u:∀(j:Fn)(first c:Array Tv)(w:Tw),(Instr.makeFunc j first c).run prog w=.ok (.func j first c) w:=λ_ _ _ _=>rfl
 generalize g s=k,h s=n,gt s=t at *
 go_enter_defers func57,ntmps57
 go_wp2_with fail;refine(o.o _ (Zal)).mono ?_;rintro e b⟨rfl,a⟩;have c0:b.cell? ⟨w.heap.size,0,none⟩=some (Zi 0):=(a.cell (p:=⟨w.heap.size,0,none⟩) (by simp)).trans (by go_simp);have c1:b.cell? ⟨w.heap.size,1,none⟩=some (Zi 0):=(a.cell (p:=⟨w.heap.size,1,none⟩) (by simp)).trans (by go_simp);have q:b.cell? ⟨w.heap.size,2,none⟩=some (Zt ⟨#[]⟩):=(a.cell (p:=⟨w.heap.size,2,none⟩) (by simp)).trans (by go_simp);have x:b.frozen? ⟨w.heap.size,0,none⟩=false:=(a.frozen (p:=⟨w.heap.size,0,none⟩) (by simp)).trans (by go_simp);have y:b.frozen? ⟨w.heap.size,1,none⟩=false:=(a.frozen (p:=⟨w.heap.size,1,none⟩) (by simp)).trans (by go_simp);have z:b.frozen? ⟨w.heap.size,2,none⟩=false:=(a.frozen (p:=⟨w.heap.size,2,none⟩) (by simp)).trans (by go_simp);have m:Hid (Zb w b):=((XB _ w).alloc (XA _) _).trans (a.mono (by simp));clear a;go_wp2;refine leaves_cons (f:=100) (args:=#[Zp (some ⟨w.heap.size,0,none⟩)]) (by simp) (by simp[go_sem]) ?_;refine(S.AEX ⟨w.heap.size,0,none⟩ _).mono ?_;rintro e D v⟨rfl,rfl,rfl⟩;simp[Leaves,settle,results,results57,go_sem,c0,c1,q];exact((m.o.setCell (XA _) _).setCell (XA _) _).setCell (XA _) _
structure kI(W:World)(a b:Nat)(lv vv:Value):Prop where
 va:W.heap[a]? = some (.cells #[vv] 51)
 lb:W.heap[b]? = some (.cells #[lv] 34)
theorem kI.up{W V:Tw}{a b:Nat}(h:kI W a b v u)(c:Zb W V):kI V a b v u :=
 ⟨(c.block a (E.Ac h.va)).trans h.va,(c.block b (E.Ac h.lb)).trans h.lb⟩
def AA0(a b:Nat):Value:=.func (.func 155) #[] #[.pointer (some ⟨a,0,none⟩),.pointer (some ⟨b,0,none⟩)]
theorem AGC(d h:To)(g f j i:Nat)(w:Tw):Zc 99 #[Zs d g f,Zs h j i] w λe m=>∃a b,e=Zr (AA0 a b)/\kI m a b (Zs d g f) (Zs h j i)/\Below w.heap.size w m:=by
 have n:∀(k:Fn)(first c:Array Tv)(w:Tw),(Instr.makeFunc k first c).run prog w=.ok (.func k first c) w:=λ_ _ _ _=>rfl
 go_enter func99,ntmps99;go_wp2;go_ret;have l:=heap_alloc_new (w.alloc (Zk #[Zs d g f] 34)) (Zk #[Zs h j i] 51);rw[XC] at l;exact⟨w.heap.size+1,w.heap.size,rfl,⟨l,(XI _ _ _ (by simp)).trans (heap_alloc_new w _)⟩,S.Gj w _ _⟩
def evR(l:List Aj)(r:List V)(T:S.CT):Int:=S.Io (λs=>(Uk l r s).1) (λs=>(Uk l r s).2.1) (λs=>(Uk l r s).2.2) T
theorem AB4(l:List Aj)(r:List V)(g o m a b:Nat)(n:Tv)(T:S.CT)(v:Tv)(w:Tw)(q:l.length<=8)(I:I1 w g o l)(f:r.length=l.length)(O:1<=l.length)(J:E.Sl w n r)(t:kI w a b (Zs (some ⟨g,o,none⟩) l.length m) n)(G:S.Gy w T v)(x:S.Kg (Rf l) T)(D:S.C9 T 24=true):
 Zc 13 #[v,AA0 a b] w λe M=>e=Zr (Zi (evR l r T))/\Zb w M:=by
 refine S.AAk (Rf l) (AA0 a b) _ _ _ T v w G x (λW s u y=>?_) D;refine ACq (Zp (some ⟨a,0,none⟩)) (Zp (some ⟨b,0,none⟩)) (λs=>(Uk l r s).1) (λs=>(Uk l r s).2.1) (λs=>(Uk l r s).2.2) (Rf l) s W u (λW2 s2 hP2 hb2=>?_);have h:=Ap y hb2;have d:=t.up h;obtain⟨N,c,rfl,_,z⟩:=J.up h;obtain⟨p,L,rfl,k,i⟩:=z (by intro e;rw[e] at f;simp at f;omega);have j:=d.va;rw[f] at j;exact ADM l r g o m a b p L c s2 W2 q (I.below h) f hP2 (S.cell_of_heap d.lb 0) (S.cell_of_heap j 0) i (E.Ac d.lb) (E.Ac d.va) k
abbrev Px:=ByteArray×Int×List V
def Og(x:ByteArray×Int×Value):List Value:=[.string x.1,Zi x.2.1,x.2.2]
def Fp(I B:Nat)(w:World)(v:Value)(rs:List Px):Prop:=∃xs:List (ByteArray×Int×Value),xs.length=rs.length/\w.ownsRow B 53 3 v rs.length (xs.flatMap Og)/\∀(j:Nat)x r,xs[j]? = some x->rs[j]? = some r->x.1=r.1/\x.2.1=r.2.1/\w.ownsRow I 56 3 x.2.2 r.2.2.length (E.A1 r.2.2)
theorem Fp.up{I B:Nat}{rs:List Px}(h:Fp I B w v rs)(d:Zb w W):Fp I B W v rs:=by obtain⟨xs,e,f,a⟩:=h;exact⟨xs,e,E.Ad f d,λj x r c b=>⟨(a j x r c b).1,(a j x r c b).2.1,E.Ad (a j x r c b).2.2 d⟩⟩
theorem P6(I B:Nat)(w:Tw):Fp I B w (Zs none 0 0) []:=⟨[],rfl,World.ownsRow_nil _ _ _ _,λj x r a=>by simp at a⟩
def Jw(path:ByteArray)(mask:List Int)(l:List Aj)(T:S.CT):Int->List (List V)->List Px
 | _,[]=>[]
 | p,r :: rs=>if (mask.any λy=>p==y)=false/\evR l r T=1 then (path,p,r) :: Jw path mask l T (p+1) rs else Jw path mask l T (p+1) rs
theorem rC(path:Tb)(mask:List Int)(l:List Aj)(T:S.CT):∀(rs:List (List V))(p:Int)(r:List V),Jw path mask l T p (rs++[r])=Jw path mask l T p rs++(if (mask.any λy=>(p+rs.length)==y)=false/\evR l r T=1 then [(path,p+rs.length,r)] else [])
 | [],p,r=>by simp only[XR,Jw,List.length_nil,XQ,XT]
 | q :: rs,p,r=>by
   have a:=rC path mask l T rs (p+1) r;have e:p+1+(rs.length:Int)=p+((q :: rs).length:Int):=by simp only[XJ];omega
   rw[e] at a;simp only[XK,Jw];split
   ·rw[a];rfl
   exact a
def ABC:Value:=.agg #[.string ⟨#[]⟩,Zi 0,.slice none 0 0]
theorem AEA:(prog.info? 53).map (λi=>(i.zero,i.size,i.bytes))=some (some ABC,3,48):=by kernel_rfl
def Ev:Value->Nat
 | .int _ n=>n.toNat
 | _=>0
theorem yF.at{I:Nat}{w:Tw}{v:Tv}{rows:List (List V)}(h:yF I w v rows){k:Nat}{r:List V}(i:rows[k]? = some r):∃d c x,v=Zs (some ⟨d,0,none⟩) rows.length c/\d<w.heap.size/\rows.length<=c/\w.cell? ⟨d,k,none⟩=some x/\w.ownsRow I 56 3 x r.length (E.A1 r):=by
 obtain⟨p,s,e,m⟩:=h;have o:=Ax i;obtain⟨x,j⟩:∃x,p[k]? = some x:=⟨_,Y' (by omega)⟩
 rcases e.2 with⟨_,q⟩|⟨g,b,l,rfl,t,n,a,_,_⟩
 ·omega
 have f:=e.cells (g:=g) rfl;simp only[E.addr_add] at f;have:=f k x j;exact⟨g,b,x,rfl,E.Ac n,a,by simpa using this,m k x r j i⟩
theorem a8{n i j m n1 n2:Nat}{c d:TypeId}{X Y:List Tv}(e:w.ownsRow n c j v n1 X)(f:w.ownsRow i d m u n2 Y)(g:c≠d):∀k,v.ownBlock=some k->u.ownBlock≠some k:=λk h b=>by
 obtain⟨c1,l⟩:=Ho e h;obtain⟨o,a⟩:=Ho f b;rw[l] at a;injection a with a;injection a with _ a;exact g a
theorem Fp.snoc{I B:Nat}{v v':Tv}{rs:List Px}{p:Tb}{i:Int}{x:Tv}{r:List V}{xs:List (Tb×Int×Tv)}(o:xs.length=rs.length)(t:w.ownsRow B 53 3 v rs.length (xs.flatMap Og))(u:∀(j:Nat)x r,xs[j]? = some x->rs[j]? = some r->x.1=r.1/\x.2.1=r.2.1/\w.ownsRow I 56 3 x.2.2 r.2.2.length (E.A1 r.2.2))(G:w.ownsRow I 56 3 x r.length (E.A1 r))(z:w.grownBy W v.ownBlock)(D:W.ownsRow B 53 3 v' (rs.length+1) (xs.flatMap Og++Og (p,i,x))):Fp I B W v' (rs++[(p,i,r)]):=by
 have g:∀{y:Tv}{n:Nat}{s:List Tv},w.ownsRow I 56 3 y n s->W.ownsRow I 56 3 y n s:=λd=>Az d z λk g e=>a8 t d (by decide) k e g
 refine⟨xs++[(p,i,x)],by simp[o],?_,λj y q d f=>?_⟩
 ·simpa using D
 rcases Yc j xs.length with l|h
 ·rw[XF l] at d
  rw[XF (by omega)] at f;obtain⟨a,b,c⟩:=u j y q d f;exact⟨a,b,g c⟩
 rw[XE h] at d;rw[XE (by omega)] at f;rw[o] at d;cases hj:j-rs.length with
 | zero=>rw[hj] at d f;simp at d f;subst d f;exact⟨rfl,rfl,g G⟩
 | succ m=>rw[hj] at d;simp at d
theorem rI(I:Nat)(gr:Tv)(rows:List (List V))(first:Nat)(path:Tb)(er:Int)(ma:To)(mn mc:Nat)(mask:List Int)(g o cp:Nat)(l:List Aj)(T:S.CT)(v:Tv)(w:Tw)(hR:yF I w gr rows)(bb:rows.length<=6)(ah:∀r∈rows,r.length=l.length)(hf:first<=1000)(hm:Ph w (Zs ma mn mc) mask)(a9:mask.length<=1000)(h8:l.length<=8)(h1:1<=l.length)(hs:I1 w g o l)(hi:S.Gy w T v)(ha:S.Kg (Rf l) T)(hd:S.C9 T 24=true):
 Zc 53 #[gr,Zi (first:Int),Zg #[Zt path,Zi er,Zs ma mn mc],Zs (some ⟨g,o,none⟩) l.length cp,v] w λe w'=>∃v',e=Zr v'/\Fp I w.heap.size w' v' (Jw path mask l T first rows)/\Zb w w':=by
 obtain⟨ga,gc,rfl,a7⟩:=hR.o.slr.slice;go_enter func53,ntmps53;go_wp2_with fail;have HR:=Aa hR;have av:=Aa ah;have HM:=Aa hm;have HS:=Aa hs;have HI:=Aa hi;have HA:=Aa ha;have HD:=Aa hd;have ar:=Aa (heap_alloc_new w (Zk #[Zt path,Zi er,Zs ma mn mc] 65));have an:Hid (Zb w (w.alloc (Zk #[Zt path,Zi er,Zs ma mn mc] 65))):=Aa (Zal);obtain⟨iC,aj,ak,al,am⟩:=info_parts AEA;have s:=Zy aj ak al am;clear hR ah hm hs hi ha hd aj ak al am
 go_loopw [11,17] (λvr vi wr=>∃(k:Nat)(a:To)(n c:Nat),k<=rows.length/\vi=Zi (k:Int)/\vr=Zs a n c/\n<=k/\Hid (Fp I w.heap.size wr (Zs a n c) (Jw path mask l T first (rows.take k))/\n=(Jw path mask l T first (rows.take k)).length)/\Hid (Zb w wr)/\Hid (wr.heap[w.heap.size]? = some (Zk #[Zt path,Zi er,Zs ma mn mc] 65))) (λ_ vi _=>rows.length-Ev vi)
 case atStart=>exact⟨0,none,0,0,XG _,rfl,rfl,XA _,Aa ⟨P6 _ _ _,rfl⟩,an,ar⟩
 case round=>
  obtain⟨k,a,n,c,hk,rfl,rfl,ba,HF,HB,Y⟩:=hrel
  rcases Yc k rows.length with a1|a8
  ·obtain⟨r,X⟩:∃r,rows[k]? = some r:=⟨_,Y' a1⟩
   obtain⟨gb,a5,x,eg,a6,a3,hx,U⟩:=(HR.o.up HB.o).at X;injection eg with ax _ ay;subst ax ay;obtain⟨xa,xc,rfl,_⟩:=(E.Cy U);have a0:(k:Int)<(rows.length:Int):=by omega
   have n0:=S.cell_of_heap Y.o 0;have n1:=S.cell_of_heap Y.o 1;have n2:=S.cell_of_heap Y.o 2;simp at n0 n1 n2;have HX:=Aa U;clear U;have ai:rows.take (k+1)=rows.take k++[r]:=S.Cs X;have ag:(rows.take k).length=k:=by rw[XL];omega
   have t:=Aa (rC path mask l T (rows.take k) first r);rw[ag,<-ai] at t;clear ai ag;have ao:=Aa (Nc (Zs ma mn mc) mask ((first:Int)+(k:Int)) wr (HM.o.below HB.o) (by unfold maxLen;omega));go_wp2_with fail;refine ao.o.mono ?_;rintro e w1⟨rfl,rfl⟩;cases hb:mask.any (λy=>((first:Int)+(k:Int))==y) with
   | true=>have HQ:Hid (Jw path mask l T first (rows.take (k+1))=Jw path mask l T first (rows.take k)):=Aa (by rw[t.o,if_neg (by rw[hb];simp),XM]);clear hb;go_wp2;refine⟨⟨k+1,a,n,c,by omega,rfl,rfl,by omega,?_,HB,Y⟩,by simp only[Ev];omega⟩;rw[HQ.o];exact HF
   | false=>
     have aa:=Aa (λ(A B:Nat)W(hW:Zb w W)(hS:kI W A B (Zs (some ⟨g,o,none⟩) l.length cp) (Zs xa r.length xc))(hv:E.Sl W (Zs xa r.length xc) r)=>AB4 l r g o cp A B (Zs xa r.length xc) T v W h8 (HS.o.below hW) (av.o r (XD X)) h1 hv hS (HI.o.up hW) HA.o HD.o);go_wp2_with fail;refine(AGC _ _ _ _ _ _ _).mono ?_;rintro e w2⟨A,B,rfl,ad,f⟩;have z:=Aa (Ap HB.o f);have P:=Aa (E.Ad HX.o f);have L:=Aa (And.intro (HF.o.1.up f) HF.o.2);have O:=Aa ((f.block _ (E.Ac Y.o)).trans Y.o);have ac:=Aa ad;clear f ad;unfold AA0 at aa ⊢;go_wp2_with fail;refine(aa.o A B w2 z.o ac.o (E.Cy P.o)).mono ?_;rintro e w3⟨rfl,i⟩;have D:=Aa (Ap z.o i);have aw:=Aa (E.Ad P.o i);have M:=Aa (And.intro (L.o.1.up i) L.o.2);have d:=Aa ((i.block _ (E.Ac O.o)).trans O.o);clear i z P L O ac n0 n1 n2;have n0:=S.cell_of_heap d.o 0;have n1:=S.cell_of_heap d.o 1;have n2:=S.cell_of_heap d.o 2;simp at n0 n1 n2
     by_cases hev:evR l r T=1
     ·have HQ:Hid (Jw path mask l T first (rows.take (k+1))=Jw path mask l T first (rows.take k)++[(path,(first:Int)+(k:Int),r)]):=Aa (by rw[t.o,if_pos ⟨hb,hev⟩])
      rw[hev];clear hb hev;obtain⟨⟨xs,e1,e2,e3⟩,hn⟩:=M.o;rw[<-hn] at e1 e2;have ap:=Aa e1;have p:=Aa e2;have G:=Aa e3;have au:=Aa hn;have b:Hid (Zb w3 (w3.alloc (Zk #[Zt path,Zi ((first:Int)+(k:Int)),Zs xa r.length xc] 53))):=Aa (Zal);clear e1 e2 e3 hn M
      go_wp2_with (first
       | (at_builtin;refine wpList_append_own _ rfl _ _ 47 rfl w.heap.size 53 iC ABC 3 48 underlying47 s.o.1 s.o.2.1 s.o.2.2.1 s.o.2.2.2 rfl (by decide) (.slice a n c) n (xs.flatMap Og) rfl (E.Ad p.o b.o) ⟨w3.heap.size,0,none⟩ 1 1 (Og (path,(first:Int)+(k:Int),.slice xa r.length xc)) rfl rfl (λj u hj=>XO (heap_alloc_new _ _) j u hj) (by intro u hu;simp[Og] at hu;rcases hu with rfl|rfl|rfl <;> rfl) (by unfold maxLen;omega) (by omega) (XU D.o.size b.o.size) ?_
          intro v1 w5 m af _;have ab:=Aa m;have N:=Aa af;clear m af))
      obtain⟨a',c',rfl,_⟩:=Au ab.o;have ae:=Ap D.o b.o;have R:=(b.o.block _ (E.Ac d.o)).trans d.o;have hn:=au.o;subst hn;refine⟨⟨k+1,a',_,c',by omega,by simp,rfl,by omega,Aa ⟨?_,?_⟩,Aa (ae.grown N.o ae.size (λj hj=>Fu p.o hj)),Aa ?_⟩,by simp only[Ev];omega⟩
      ·rw[HQ.o]
       exact Fp.snoc ap.o (E.Ad p.o b.o) (λj x r hx X=>⟨(G.o j x r hx X).1,(G.o j x r hx X).2.1,E.Ad (G.o j x r hx X).2.2 b.o⟩) (E.Ad aw.o b.o) N.o ab.o
      ·rw[HQ.o]
       simp
      refine(N.o.block _ (E.Ac R) (λe=>?_)).trans R;obtain⟨a4,q⟩:=Ho (E.Ad p.o b.o) e.symm;rw[R] at q;injection q with q;injection q with _ q;exact absurd q (by decide)
     have HQ:Hid (Jw path mask l T first (rows.take (k+1))=Jw path mask l T first (rows.take k)):=Aa (by rw[t.o,if_neg (λh=>hev h.2),XM]);have a2:(evR l r T==1)=false:=by simpa using hev
     generalize evR l r T=ev at *;go_wp2;refine⟨⟨k+1,a,n,c,by omega,rfl,rfl,by omega,?_,D,d⟩,by simp only[Ev];omega⟩;rw[HQ.o];exact M
  have a0:¬((k:Int)<(rows.length:Int)):=by omega
  have az:k=rows.length:=by omega
  subst az;have J:=HF.o;rw[Ye] at J;have aq:=Aa J;clear J;go_wp2;go_ret;exact⟨_,rfl,aq.o.1,HB.o⟩
def Cw(a l:List Aj)(p:List (List V)):List (List V):=p.map λr=>l.map (pick a r)
def Oe(path:ByteArray)(mask:List Int)(l:List Aj)(T:S.CT)(a:List Aj):Int->List (List (List V))->List Px×Nat
 | _,[]=>([],0)
 | f,p :: ps=>if S.Bp (I5 a p l) false T=true then (Jw path mask l T f (Cw a l p)++(Oe path mask l T a (f+p.length) ps).1,(Oe path mask l T a (f+p.length) ps).2+1) else Oe path mask l T a (f+p.length) ps
def En:List (List (List V))->Nat
 | []=>0
 | p :: ps=>p.length+En ps
theorem sQ(a:List (List (List V)))(p:List (List V)):En (a++[p])=En a+p.length:=by
 induction a with
 | nil=>simp[En]
 | cons q a ih=>simp only[XK,En,ih];omega
theorem tQ(path:Tb)(mask:List Int)(l:List Aj)(T:S.CT)(b:List Aj)(p:List (List V)):∀(a:List (List (List V)))(f:Int),Oe path mask l T b f (a++[p])=if S.Bp (I5 b p l) false T=true then ((Oe path mask l T b f a).1++Jw path mask l T (f+En a) (Cw b l p),(Oe path mask l T b f a).2+1) else Oe path mask l T b f a
 | [],f=>by simp only[XR,Oe,En,XQ,XT,XM,Nat.zero_add]
 | q :: a,f=>by
   have c:=tQ path mask l T b p a (f+q.length);have e:f+(q.length:Int)+(En a:Int)=f+(En (q :: a):Int):=by simp only[En];omega
   rw[e] at c;simp only[XK,Oe,c];split <;> split <;> simp
theorem AGe(path:Tb)(mask:List Int)(l:List Aj)(T:S.CT)(rs:List (List V)):∀p:Int,(Jw path mask l T p rs).length<=rs.length:=by
 induction rs with
 | nil=>intro p;simp[Jw]
 | cons r rs ih=>intro p;simp only[Jw];split <;> simp <;> have:=ih (p+1) <;> omega
theorem xP(path:Tb)(mask:List Int)(l:List Aj)(T:S.CT)(b:List Aj):∀(a:List (List (List V)))(f:Int),(Oe path mask l T b f a).2<=a.length/\(Oe path mask l T b f a).1.length<=En a
 | [],f=>by simp[Oe,En]
 | q :: a,f=>by
   have e:=xP path mask l T b a (f+q.length);have c:=AGe path mask l T (Cw b l q) f;have d:(Cw b l q).length=q.length:=by simp[Cw]
   simp only[Oe,En,XJ];split
   ·simp only[List.length_append];omega
   omega
theorem Mk{base z n b:Nat}{e t:TypeId}{xs:List Tv}{cs:Array Tv}(h:w.ownsRow base e z v n xs)(d:w.heap[b]? = some (Zk cs t))(i:t≠e)(f:w.grownBy W (some b)):W.ownsRow base e z v n xs :=
 Az h f λk g a=>by obtain⟨c,q⟩:=Ho h g;injection a with a;subst a;rw[d] at q;injection q with q;injection q with _ q;exact i q
theorem Hq{base z n b:Nat}{e t:TypeId}{xs:List Tv}{cs:Array Tv}(a:w.heap[b]? = some (Zk cs t))(g:w.ownsRow base e z v n xs)(h:t≠e)(f:w.grownBy W v.ownBlock):W.heap[b]? = some (Zk cs t):=by refine(f.block _ (E.Ac a) (λd=>?_)).trans a;obtain⟨c,q⟩:=Ho g d.symm;rw[a] at q;injection q with q;injection q with _ q;exact h q
theorem Fp.app{I B:Nat}{v v':Tv}{rs h:List Px}{xs i:List (Tb×Int×Tv)}(o:xs.length=rs.length)(p:w.ownsRow B 53 3 v rs.length (xs.flatMap Og))(s:∀(j:Nat)x r,xs[j]? = some x->rs[j]? = some r->x.1=r.1/\x.2.1=r.2.1/\w.ownsRow I 56 3 x.2.2 r.2.2.length (E.A1 r.2.2))(z:i.length=h.length)(D:∀(j:Nat)x r,i[j]? = some x->h[j]? = some r->x.1=r.1/\x.2.1=r.2.1/\w.ownsRow I 56 3 x.2.2 r.2.2.length (E.A1 r.2.2))(t:w.grownBy W v.ownBlock)(u:W.ownsRow B 53 3 v' (rs.length+h.length) (xs.flatMap Og++i.flatMap Og)):Fp I B W v' (rs++h):=by
 have f:∀{y:Tv}{n:Nat}{zs:List Tv},w.ownsRow I 56 3 y n zs->W.ownsRow I 56 3 y n zs:=λd=>Az d t λk f e=>a8 p d (by decide) k e f
 refine⟨xs++i,by simp[o,z],?_,λj y q d g=>?_⟩
 ·simpa using u
 rcases Yc j xs.length with m|l
 ·rw[XF m] at d
  rw[XF (by omega)] at g;obtain⟨a,b,c⟩:=s j y q d g;exact⟨a,b,f c⟩
 rw[XE l] at d;rw[XE (by omega)] at g;rw[o] at d;obtain⟨a,b,c⟩:=D _ y q d g;exact⟨a,b,f c⟩
theorem ABB{I:Nat}{xs:List (Tb×Int×Tv)}{rs:List Px}(i:xs.length=rs.length)(f:∀(j:Nat)x r,xs[j]? = some x->rs[j]? = some r->x.1=r.1/\x.2.1=r.2.1/\w.ownsRow I 56 3 x.2.2 r.2.2.length (E.A1 r.2.2)):∀u∈xs.flatMap Og,u.oneCell'=true:=by
 intro u b;obtain⟨x,h,b⟩:=List.mem_flatMap.1 b;obtain⟨j,d⟩:=List.getElem?_of_mem h;obtain⟨r,g⟩:∃r,rs[j]? = some r:=⟨_,Y' (by have:=Ax d;omega)⟩;obtain⟨a,c,e,_⟩:=Au (f j x r d g).2.2;simp only[Og,List.mem_cons,List.not_mem_nil,or_false] at b
 rcases b with rfl|rfl|rfl
 ·rfl
 ·rfl
 rw[e];rfl
theorem wE(I:Nat)(cv gv:Tv)(d:List Aj)(f:List (List (List V)))(path:Tb)(er:Int)(Y:To)(mn mc:Nat)(mask:List Int)(g o cp:Nat)(l:List Aj)(T:S.CT)(v:Tv)(w:Tw)(hF:Hm w cv gv (d,f.map (An d)))(ce:f.length<=10)(t:∀p∈f,Gr d p/\1<=p.length/\p.length<=6)(hK:Kl d)(a8:∀p∈f,∀b∈(An d p).2.2,b.length<=1000000)(a2:1<=d.length)(a3:d.length<=8)(hm:Ph w (Zs Y mn mc) mask)(b9:mask.length<=1000)(h8:l.length<=8)(h1:1<=l.length)(b6:l.length<=cp)(hs:I1 w g o l)(hi:S.Gy w T v)(ha:S.Kg (Rf l) T)(hd:S.C9 T 24=true)(a6:S.Lp w)(hI:I<=w.heap.size):
 Zc 29 #[Zg #[cv,gv],Zg #[Zt path,Zi er,Zs Y mn mc],Zs (some ⟨g,o,none⟩) l.length cp,v] w λe w'=>∃v',e=Zr (Zu #[v',Zi ((Oe path mask l T d 0 f).2:Int)])/\Fp I w.heap.size w' v' (Oe path mask l T d 0 f).1/\Below w.heap.size w w':=by
 obtain⟨O,P,ec,_⟩:=hF.1.slice;obtain⟨R,U,eg,a4⟩:=hF.2.slice;dsimp only at ec eg a4;subst ec eg;have ax:=Aa (λ(k:Nat)(p:List (List V))(hk:f[k]? = some p)W(x:Below w.heap.size w W)=>pE d l (f.map (An d)) p k (Zs O d.length P) (Zs R (f.map (An d)).length U) g o cp T v W (hF.up x) (by rw[XH,hk];rfl) a2 a3 h8 (t p (XD hk)).2.1 (t p (XD hk)).2.2 (hs.below x) (hi.up x) (a6.below x) hd)
 have az:Hid (∀(k:Nat)(p:List (List V))W,f[k]? = some p->Below w.heap.size w W->Zc 52 #[Zg #[Zs O d.length P,Zs R (f.map (An d)).length U],Zi k,Zs (some ⟨g,o,none⟩) l.length cp] W (l4 (some (Cw d l p)) W)):=Aa λk p W hk x=>by have hm:=XD hk;have:=AFP k (Zs O d.length P) (Zs R (f.map (An d)).length U) (Zs (some ⟨g,o,none⟩) l.length cp) d (f.map (An d)) (An d p) l W (hF.up x) (by rw[XH,hk];rfl) (AI5 (hs.below x) b6) h8 a2 a3 (a8 p hm);rw[cG (Xl d) (t p hm).1 hK (t p hm).2.1 (t p hm).2.2 l] at this;exact this
 have bu:=Aa (λ(p:List (List V))(f0:Nat)(gr:Tv)W(x:Below w.heap.size w W)(hR:yF I W gr (Cw d l p))(al:p.length<=6)(b3:f0<=1000)=>rI I gr (Cw d l p) f0 path er Y mn mc mask g o cp l T v W hR (by simpa[Cw] using al) (λr hr=>by obtain⟨q,_,rfl⟩:=List.mem_map.1 hr;simp) b3 (hm.below x) b9 h8 h1 (hs.below x) (hi.up x) ha hd);have ar:=Aa (λW(x:Below w.heap.size w W)=>(hF.up x).2);obtain⟨iC,bd,bf,bg,bh⟩:=info_parts AEA;have N:=Zy bd bf bg bh;have bw:=Aa t
 have a5:∀qs:List (List (List V)),(∀p∈qs,p.length<=6)->En qs<=6*qs.length:=by
  intro qs
  induction qs with
  | nil=>intro _;simp[En]
  | cons q qs ih=>intro h;have:=ih (λp X=>h p (Yg _ X));have:=h q (Yf ..);simp only[En,XJ];omega
 have aw:Hid (∀k,En (f.take k)<=60):=Aa λk=>by
  have:=a5 (f.take k) (λp X=>(t p (Yk X)).2.2);have hl:(f.take k).length<=f.length:=by rw[XL];omega
  omega
 have br:Hid (∀k,(Oe path mask l T d 0 (f.take k)).2<=10):=Aa λk=>by
  have:=(xP path mask l T d (f.take k) 0).1;have hl:(f.take k).length<=f.length:=by rw[XL];omega
  omega
 clear a5;clear hF t a8 hm hs hi ha hd a6 hK bd bf bg bh;simp only[XS] at ax az ar a4 ⊢
 have bi:∀W0:Tw,((W0.alloc (Zk #[Zs O d.length P,Zs R f.length U] 98)).alloc (Zk #[Zt path,Zi er,Zs Y mn mc] 65)).heap[W0.heap.size]? = some (Zk #[Zs O d.length P,Zs R f.length U] 98)/\((W0.alloc (Zk #[Zs O d.length P,Zs R f.length U] 98)).alloc (Zk #[Zt path,Zi er,Zs Y mn mc] 65)).heap[W0.heap.size+1]? = some (Zk #[Zt path,Zi er,Zs Y mn mc] 65):=λW0=>by have hn:=heap_alloc_new (W0.alloc (Zk #[Zs O d.length P,Zs R f.length U] 98)) (Zk #[Zt path,Zi er,Zs Y mn mc] 65);rw[XC] at hn;exact⟨(XI _ _ _ (by simp)).trans (heap_alloc_new W0 _),hn⟩
 have bx:=Aa (bi w);have bj:=Aa (S.Gj w (Zk #[Zs O d.length P,Zs R f.length U] 98) (Zk #[Zt path,Zi er,Zs Y mn mc] 65));clear bi;go_enter func29,ntmps29;go_wp2_with fail
 go_loopw [10,11,12,20] (λvr vl vf vi wr=>∃(k:Nat)(a:To)(n c:Nat),k<=f.length/\vi=Zi (k:Int)/\vr=Zs a n c/\n<=6*k/\vl=Zi ((Oe path mask l T d 0 (f.take k)).2:Int)/\vf=Zi (En (f.take k):Int)/\Hid (Fp I w.heap.size wr (Zs a n c) (Oe path mask l T d 0 (f.take k)).1/\n=(Oe path mask l T d 0 (f.take k)).1.length)/\Hid (Below w.heap.size w wr)/\Hid (wr.heap[w.heap.size]? = some (Zk #[Zs O d.length P,Zs R f.length U] 98)/\wr.heap[w.heap.size+1]? = some (Zk #[Zt path,Zi er,Zs Y mn mc] 65))) (λ_ _ _ vi _=>f.length-Ev vi)
 case atStart=>exact⟨0,none,0,0,XG _,rfl,rfl,XG _,rfl,rfl,Aa ⟨P6 _ _ _,rfl⟩,bj,bx⟩
 case round=>
  obtain⟨k,a,n,c,hk,rfl,rfl,ck,rfl,rfl,HF,HB,HN⟩:=hrel
  rcases Yc k f.length with b8|ci
  ·obtain⟨p,X⟩:∃p,f[k]? = some p:=⟨_,Y' b8⟩
   obtain⟨_,cl,al⟩:=bw.o p (XD X);obtain⟨gb,go,cg,nn,sv,bv,eg,ch,en,g0,g1,g2,a7,a1⟩:=(ar.o wr HB.o).at (k:=k) (g:=An d p) (by rw[XH,X];rfl);obtain⟨sa,sc,rfl,_⟩:=a7.slice;obtain⟨ba,bc,rfl,_⟩:=a1.slice;clear a7 a1;simp only[XS] at eg;injection eg with b0 _ b1;subst b0 b1;have b2:nn=(p.length:Int):=en;subst b2;have b5:(k:Int)<(f.length:Int):=by omega
   have bb:f.take (k+1)=f.take k++[p]:=S.Cs X;have ah:=Aa (tQ path mask l T d p (f.take k) 0);have ag:=Aa (sQ (f.take k) p);rw[<-bb] at ah ag;clear bb en;have n0:=S.cell_of_heap HN.o.1 0;have n1:=S.cell_of_heap HN.o.1 1;simp at n0 n1;have cd:En (f.take k)<=60:=aw.o k;have b7:(Oe path mask l T d 0 (f.take k)).2<=10:=br.o k;have cj:(En (f.take k):Int)+(p.length:Int)<=1000:=by omega
   have cf:=Aa b7;generalize hS:(An d p).2.1.length=sn at *;generalize hT:(An d p).2.2.length=bn at *;clear hS hT;have af:Hid (Below wr.heap.size wr (wr.alloc (Zk #[Zi (p.length:Int),Zs sa sn sc,Zs ba bn bc] 128))):=Aa (Zal);have aq:=Aa (heap_alloc_new wr (Zk #[Zi (p.length:Int),Zs sa sn sc,Zs ba bn bc] 128));have am:=(XI wr (Zk #[Zi (p.length:Int),Zs sa sn sc,Zs ba bn bc] 128) _ (E.Ac HN.o.1)).trans HN.o.1;have m0:=S.cell_of_heap am 0;have m1:=S.cell_of_heap am 1;simp at m0 m1;clear am;generalize aj:(Oe path mask l T d 0 (f.take k)).2=lk at *;generalize hlen:En (f.take k)=ln at *;go_wp2_with fail;refine(ax.o k p X _ (Ap HB.o af.o)).mono ?_;rintro e w1⟨rfl,ai⟩;have s:=Ap af.o ai;have G:=Aa (Ap HB.o s);have L:=Aa (And.intro (HF.o.1.up s) HF.o.2);have i:=Aa (And.intro ((s.block _ (E.Ac HN.o.1)).trans HN.o.1) ((s.block _ (E.Ac HN.o.2)).trans HN.o.2));have M:=Aa ((ai.block wr.heap.size (by simp)).trans aq.o);clear ai s m0 m1 n0 n1 g0 g1 g2 af aq;cases hmay:S.Bp (I5 d p l) false T with
   | false=>have HQ:Hid (Oe path mask l T d 0 (f.take (k+1))=Oe path mask l T d 0 (f.take k)):=Aa (by rw[ah.o,if_neg (by rw[hmay];simp)]);have x0:=S.cell_of_heap M.o 0;simp at x0;clear hmay;go_wp2;refine⟨⟨k+1,a,n,c,by omega,rfl,rfl,by omega,by rw[HQ.o,aj],by rw[ag.o];simp,?_,G,i⟩,by simp only[Ev];omega⟩;rw[HQ.o];exact L
   | true=>
     have HQ:Hid (Oe path mask l T d 0 (f.take (k+1))=((Oe path mask l T d 0 (f.take k)).1++Jw path mask l T (ln:Int) (Cw d l p),lk+1)):=Aa (by rw[ah.o,if_pos hmay,Int.zero_add]);clear hmay;have y0:=S.cell_of_heap i.o.1 0;have y1:=S.cell_of_heap i.o.1 1;simp at y0 y1;go_wp2_with fail;refine(az.o k p w1 X G.o).mono ?_;rintro e w2⟨v2,rfl,J,y⟩;have ab:=Aa (Ap G.o y);have ad:=Aa (And.intro (L.o.1.up y) L.o.2);have m:=Aa (And.intro ((y.block _ (E.Ac i.o.1)).trans i.o.1) ((y.block _ (E.Ac i.o.2)).trans i.o.2));have ae:=Aa ((y.block _ (E.Ac M.o)).trans M.o);have a0:=Aa (J.low (I':=I) (XU hI G.o.size));obtain⟨va,vc,rfl,_⟩:=J.o.slr.slice;have z0:=S.cell_of_heap m.o.2 0;have z1:=S.cell_of_heap m.o.2 1;have z2:=S.cell_of_heap m.o.2 2;simp at z0 z1 z2;clear J y y0 y1 G L i M;go_wp2_with fail;refine(bu.o p ln _ w2 ab.o a0.o al (by omega)).mono ?_;rintro e w3⟨v3,rfl,aa,z⟩;have an:=Aa (Ap ab.o z);have ay:=Aa (And.intro ((z.block _ (E.Ac m.o.1)).trans m.o.1) ((z.block _ (E.Ac m.o.2)).trans m.o.2));have bp:=Aa ((z.block _ (E.Ac ae.o)).trans ae.o);have ao:=Aa (And.intro (ad.o.1.up z) ad.o.2);have ap:=Aa aa;clear z aa z0 z1 z2 ab ad m ae a0;obtain⟨⟨xs,e1,e2,e3⟩,hn⟩:=ao.o;obtain⟨ys,k1,k2,k3⟩:=ap.o;rw[<-hn] at e1 e2;obtain⟨ya,yc,rfl,_⟩:=Au k2
     have cm:(Jw path mask l T (ln:Int) (Cw d l p)).length<=6:=by
      have h2:=AGe path mask l T (Cw d l p) (ln:Int);have h3:(Cw d l p).length=p.length:=by simp[Cw]
      omega
     have bl:=Aa e1;have u:=Aa e2;have bm:=Aa e3;have au:=Aa k1;have bq:=Aa k2;have av:=Aa k3;have bt:=Aa hn;generalize cb:Jw path mask l T (ln:Int) (Cw d l p)=qs at *;have a9:=an.o.size;clear e1 e2 e3 k1 k2 k3 hn ao ap cb;go_wp2_with (at_builtin;refine E.Ck rfl _ _ 47 rfl w.heap.size 53 iC ABC 3 48 underlying47 N.o.1 N.o.2.1 N.o.2.2.1 N.o.2.2.2 rfl (by decide) _ _ _ rfl u.o _ _ _ _ rfl bq.o (ABB au.o av.o) ?f1 ?f2 ?f3 ?_)
     case f1=>unfold maxLen;omega
     case f2=>omega
     case f3=>omega
     intro v4 w4 ak D;obtain⟨a',c',rfl,_⟩:=Au ak;have hn:=bt.o;subst hn;have bz:=Aa (Fp.app bl.o u.o bm.o au.o av.o D ak);have bk:=Aa (an.o.grown D a9 (λj hj=>Fu u.o hj));have bs:=Aa (And.intro (Hq ay.o.1 u.o (by decide) D) (Hq ay.o.2 u.o (by decide) D));have x0:=S.cell_of_heap (Hq bp.o u.o (by decide) D) 0;simp at x0;clear ak D;go_wp2;refine⟨⟨k+1,a',_,c',by omega,rfl,rfl,by omega,by rw[HQ.o];simp,by rw[ag.o];simp,Aa ⟨?_,?_⟩,bk,bs⟩,by simp only[Ev];omega⟩
     ·rw[HQ.o]
      exact bz.o
     rw[HQ.o];simp
  have b5:¬((k:Int)<(f.length:Int)):=by omega
  have b4:k=f.length:=by omega
  subst b4;have ac:=HF.o;rw[Ye] at ac ⊢;have bo:=Aa ac;clear ac;go_wp2;go_ret2;exact⟨_,rfl,bo.o.1,HB.o⟩
