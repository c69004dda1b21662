import Derived.Test.YtcfgbbpgoailaaaGreatDoorSL3
import Derived.Test.YtcfgbbpgoailaaaGreatDoorCards
set_option maxHeartbeats 0
set_option maxRecDepth 100000
open List renaming length_map->Y',getElem?_eq_getElem->XC,mem_of_getElem?->XD,map_append->XI,length_cons->XJ,drop_succ_cons->XL,take_succ_cons->XM,length_append->XN,getElem?_map->XO,not_mem_nil->XP,length_take->XQ,drop_zero->XR,take_zero->XS,getD_eq_getElem?_getD->XT,getElem?_drop->XV,mem_cons->XW,map_map->XZ,mem_zipIdx->X2,nil_append->X4,mem_of_mem_drop->WA,append_toArray->WB,flatMap_cons->WD,size_toArray->WE,push_toArray->WG,cons_append->WI,length_drop->WJ,length_nil->WK,map_cons->WL,map_nil->WM
open Nat renaming le_refl->XA,zero_le->XB,le_trans->XH,add_zero->XY,le_succ->X6,zero_add->WN
open Go.RowKit.Below renaming refl->XE,heap_alloc->WH
open Go.World renaming news_of_block->XF,putObj_heap_other->XG,ownsRow_nil->XK,cell?_alloc_past->XX,new_ne->WC
open Int renaming tdiv_eq_ediv_of_nonneg->XU
open Array renaming replicate_succ->X',replicate_zero->Wb
namespace Go.Proofs.YtcfgbbpgoailaaaGreatDoor
open _root_.Go.Proofs.Tryz RowKit ChangeShapes WideShapes ChangeAt Joins Deep Shelf Lib
open Go.Sort (grow)
namespace S
variable{w:Tw}{T:CT}{g i k n q:Nat}{X Y:List Tv}
theorem Ip:(prog.info? 95).map (λi=>(i.zero,i.size,i.bytes))=some (some (Zp none),1,8):=by kernel_rfl
theorem wrap_small(m:Nat)(h:m<=1000):IntKind.i64.wrap (m:Int)=(m:Int):=by rw[IntKind.wrap_i64];omega
theorem Gy.ptr:∀{T:CT}{v:Tv},Gy w T v->∃p,v=Zp p
 | .nil,_,h=>⟨none,h⟩
 | .node _ _ ⟨_,_,_,_,_⟩ _ _,_,⟨b,_,_,e,_⟩=>⟨some ⟨b,0,none⟩,e⟩
theorem L9(w:Tw)(X Y Z:Obj):Zb w (((w.alloc X).alloc Y).alloc Z).drew:=((Zal.alloc (by simp) _).alloc (by simp;omega) _).drew
theorem AFv(w:Tw)(X Y Z:Obj):(((w.alloc X).alloc Y).alloc Z).drew.heap[w.heap.size+1+1]? = some Z:=by rw[<-show ((w.alloc X).alloc Y).heap.size=w.heap.size+1+1 by simp];exact Y8 _ _
theorem second(w:Tw)(X Y Z:Obj):(((w.alloc X).alloc Y).alloc Z).drew.heap[w.heap.size+1]? = some Y:=by refine(WH _ _ _ (by simp)).trans ?_;rw[<-show (w.alloc X).heap.size=w.heap.size+1 by simp];exact Y8 _ _
theorem Nr(w:Tw)(cs:Array Tv)(Y Z:Obj):(((w.alloc (Zk cs 64)).alloc Y).alloc Z).drew.cell? ⟨w.heap.size,0,none⟩=cs[0]? := by
 show (((w.alloc (Zk cs 64)).alloc Y).alloc Z).cell? ⟨w.heap.size,0,none⟩=cs[0]?;rw[XX _ _ _ (by simp;omega),XX _ _ _ (by simp),World.cell?_alloc_at _ _ _ _ rfl]
theorem take_one{b:List CT}(h:b[0]? = some T):A2 T<=((b.take 1).map A2).sum:=by
 cases b with
 | nil=>simp at h
 | cons a l=>simp at h;subst h;simp
theorem Br{a:List CT}(h:a[q]? = some T):((a.take (q+1)).map A2).sum=((a.take q).map A2).sum+A2 T:=by
 have c:q<a.length:=by
  rcases Yc q a.length with b|b
  ·exact b
  rw[Yb b] at h;cases h
 rw[Ys c,XI,List.sum_append];rw[XC c] at h;injection h with h;simp[h]
theorem jQ{w0 wr:Tw}{f:List CT}(h:Stack w0 wr i (Zs (some ⟨g,0,none⟩) n k) n X f)(m:Nat):
 ∀W,Zb wr W->∀b,(some ⟨g,0,none⟩:To)=some b->∀(j:Nat)(u:Tv),(X.take m)[j]? = some u->W.cell? (b.add j)=some u:=by
 intro W l b e j u c;cases e;have a:(⟨g,0,none⟩:Addr).add j=⟨g,j,none⟩:=by unfold Addr.add;split <;> simp_all
 rw[a]
 have d:X[j]? = some u:=by
  rw[List.getElem?_take] at c;split at c
  ·exact c
  cases c
 have:=(h.up l (XA _)).cells d;exact this
theorem fP{w0 wr:Tw}{e:List CT}(h:Stack w0 wr i (Zs (some ⟨g,0,none⟩) n k) n Y e):
 ∃a:Tw->Prop,Hid (a wr/\(∀W X,a W->a (W.alloc X))/\(∀W,a W->∀q,q<n->∃b c,W.cell? ⟨g,q,none⟩=some (Zp b)/\Gy W c (Zp b)/\0<A2 c/\e[q]? = some c)/\(∀W,a W->Zb w0 W)):=by
 refine⟨λW=>Zb wr W,XE _ _,λW X hb=>hb.alloc hb.size _,λW hb q hq=>?_,λW hb=>Below.up h.xL hb⟩;obtain⟨u,T,l,d,f,j⟩:=h.last hq;obtain⟨b,rfl⟩:=f.ptr;exact⟨b,T,(h.up hb (XA _)).cells l,f.up hb,j,d⟩
theorem rA{a:CT}{p b:To}{c:List CT}{d:Tw->Prop}(f:Gy w T (Zp p))(g:Gy w a (Zp b))(j:0<A2 T)(k:0<A2 a)(l:A2 T<=((c.take q).map A2).sum)(i:c[q]? = some a)(h:d (w.alloc (Zk #[Zi 9,Zt ⟨#[]⟩,Zi 0,Zi 0,Zt ⟨#[]⟩,Zp p,Zp b] 140))):
 Gy (w.alloc (Zk #[Zi 9,Zt ⟨#[]⟩,Zi 0,Zi 0,Zt ⟨#[]⟩,Zp p,Zp b] 140)) (.node 0 0 ⟨9,⟨#[]⟩,0,0,⟨#[]⟩⟩ T a) (Zp (some ⟨w.heap.size,0,none⟩))/\0<A2 (.node 0 0 ⟨9,⟨#[]⟩,0,0,⟨#[]⟩⟩ T a)/\A2 (.node 0 0 ⟨9,⟨#[]⟩,0,0,⟨#[]⟩⟩ T a)<=((c.take (q+1)).map A2).sum/\d (w.alloc (Zk #[Zi 9,Zt ⟨#[]⟩,Zi 0,Zi 0,Zt ⟨#[]⟩,Zp p,Zp b] 140)):=by
 have e:Zb w (w.alloc (Zk #[Zi 9,Zt ⟨#[]⟩,Zi 0,Zi 0,Zt ⟨#[]⟩,Zp p,Zp b] 140)):=Zal;refine⟨?_,by simp only[A2];omega,by rw[Br i];simp only[A2];omega,h⟩;unfold Gy;exact⟨_,Zp p,Zp b,rfl,Y8 _ _,by omega,f.up e,g.up e⟩
theorem vI(w:Tw):Gy w .nil (Zp none):=rfl
theorem Stack.step{w0 wr w:Tw}{m:Nat}{v v':Tv}{d:List CT}{a b:CT}{u f:Tv}{c k n':Int}{Bl t:Tb}{X Z:Obj}(h:Stack w0 wr i v n Y d)(o:m<=n)(g:1<=c/\c<=11)(l:Gy wr a u)(q:Gy wr b f)(r:((d.take m).map A2).sum+(1+max (A2 a) (A2 b))<=i+1)(j:(((wr.alloc X).alloc (Zk #[Zi c,Zt Bl,Zi k,Zi n',Zt t,u,f] 140)).alloc Z).drew.grownBy w none)(p:w.ownsRow (((wr.alloc X).alloc (Zk #[Zi c,Zt Bl,Zi k,Zi n',Zt t,u,f] 140)).alloc Z).drew.heap.size 95 1 v' (m+1) (Y.take m++[Zp (some ⟨wr.heap.size+1,0,none⟩)])):
 Stack w0 w (i+1) v' (m+1) (Y.take m++[Zp (some ⟨wr.heap.size+1,0,none⟩)]) (d.take m++[.node 0 0 ⟨c,Bl,k,n',t⟩ a b]):=by
 have e:=L9 wr X (Zk #[Zi c,Zt Bl,Zi k,Zi n',Zt t,u,f] 140) Z;refine(h.up e (XA _)).replace m o ?_ (by simp only[A2];omega) (by simp only[A2];omega) j p;unfold Gy;exact⟨_,u,f,rfl,second wr _ _ _,g,l.up e,q.up e⟩
theorem M4(w:Tw)(X Y:Obj):Zb w ((w.alloc X).alloc Y):=Zal.alloc (by simp) _
theorem AJC(w:Tw)(X Y:Obj)(H:Nat)(a:w.heap.size=H):((w.alloc X).alloc Y).heap[H]? = some X:=by subst a;exact(WH _ _ _ (by simp)).trans (Y8 _ _)
theorem bG(w:Tw)(X Y:Obj)(H:Nat)(a:w.heap.size+1=H):((w.alloc X).alloc Y).heap[H]? = some Y:=by subst a;rw[<-show (w.alloc X).heap.size=w.heap.size+1 by simp];exact Y8 _ _
theorem Stack.leaf{w0 wr w W:Tw}{v v':Tv}{b:List CT}{c k n':Int}{Bl t:Tb}{Z:Obj}{H:Nat}(h:Stack w0 wr i v n X b)(a:1<=c/\c<=11)(e:Zb wr w)(d:w.heap.size=H)(f:((w.alloc (Zk #[Zi c,Zt Bl,Zi k,Zi n',Zt t,Zp none,Zp none] 140)).alloc Z).grownBy W v.ownBlock)(g:W.ownsRow w0.heap.size 95 1 v' (n+1) (X++[Zp (some ⟨H,0,none⟩)])):
 Stack w0 W (i+1) v' (n+1) (X++[Zp (some ⟨H,0,none⟩)]) (b++[.node 0 0 ⟨c,Bl,k,n',t⟩ .nil .nil]):=by
 refine(h.up (Below.up e (M4 w _ _)) (XA _)).push ?_ (by simp[A2]) f g;unfold Gy;exact⟨_,Zp none,Zp none,rfl,AJC w _ _ H d,a,vI _,vI _⟩
theorem ADb(z N L ah:Nat)(PC PK PN:Nat->Int)(PL PT:Nat->Tb)(w:Tw)(_hL:L<=ah)(_hcap:ah<=maxLen)(hT:∀j,(PT j).size<=maxLen)(Y:z<w.heap.size)(q0:∀j,j<L->w.cell? ⟨z,N+j*5,none⟩=some (Zi (PC j)))(q1:∀j,j<L->w.cell? ⟨z,N+j*5+1,none⟩=some (Zt (PL j)))(q2:∀j,j<L->w.cell? ⟨z,N+j*5+2,none⟩=some (Zi (PK j)))(q3:∀j,j<L->w.cell? ⟨z,N+j*5+3,none⟩=some (Zi (PN j)))(q4:∀j,j<L->w.cell? ⟨z,N+j*5+4,none⟩=some (Zt (PT j))):
 Zc 29 #[Zs (some ⟨z,N,none⟩) L ah] w λe V=>∃v T,e=Zr v/\Gy V T v/\A2 T<=14/\Zb w V:=by
 obtain⟨i0,ax,a1,a2,a3⟩:=info_parts Ip;have r:Hid (prog.info? 95=some i0/\i0.zero=some (Zp none)/\i0.size=1/\i0.bytes=8):=⟨ax,a1,a2,a3⟩;clear ax a1 a2 a3;have Q0:=Ab q0;have Q1:=Ab q1;have Q2:=Ab q2;have Q3:=Ab q3;have Q4:=Ab q4;have HT:=Ab hT;clear q0 q1 q2 q3 q4 hT;unfold maxLen at _hcap;go_enter func29,ntmps29;go_wp2
 go_loopw [3,4] (λo i wr=>∃(k n:Nat)(y:List Tv)(M:List CT),k<=14/\i=Zi k/\Hid (Stack w wr k o n y M)) (λ_ i _=>14-(intOf i).toNat)
 case atStart=>exact⟨0,0,[],[],by omega,rfl,⟨XK _ _ _ _,rfl,λj T u h=>by simp at h,by simp,XE _ _⟩⟩
 case round=>
  obtain⟨k,n,y,M,hk,rfl,d⟩:=hrel;obtain⟨ao,cp,rfl,bc,a4⟩:=Ak d.o.own;have bp:=d.o.AK5;unfold maxLen at a4
  by_cases P:k<L/\k<14
  ·obtain⟨O,ay⟩:=P
   have hb:=d.o.xL;have bb:z<wr.heap.size:=Ya Y hb.size;have c0:wr.cell? ⟨z,N+k*5,none⟩=some (Zi (PC k)):=(hb.cell (p:=⟨z,N+k*5,none⟩) Y).trans (Q0.o k O);have c1:wr.cell? ⟨z,N+k*5+1,none⟩=some (Zt (PL k)):=(hb.cell (p:=⟨z,N+k*5+1,none⟩) Y).trans (Q1.o k O);have c2:wr.cell? ⟨z,N+k*5+2,none⟩=some (Zi (PK k)):=(hb.cell (p:=⟨z,N+k*5+2,none⟩) Y).trans (Q2.o k O);have c3:wr.cell? ⟨z,N+k*5+3,none⟩=some (Zi (PN k)):=(hb.cell (p:=⟨z,N+k*5+3,none⟩) Y).trans (Q3.o k O);have c4:wr.cell? ⟨z,N+k*5+4,none⟩=some (Zt (PT k)):=(hb.cell (p:=⟨z,N+k*5+4,none⟩) Y).trans (Q4.o k O);have ht:=HT.o k;clear hb Q0 Q1 Q2 Q3 Q4 HT;generalize PC k=c at *;generalize PL k=Bl at *;generalize PK k=kk at *;generalize PN k=nn at *;generalize PT k=tt at *;have R:Hid (∀X,Zb wr (wr.alloc X)):=λX=>Zal
   by_cases h11:c=11
   ·subst h11
    by_cases hn0:n=0
    ·subst hn0
     go_wp2
     all_goals
      go_roundw
      case rel=>exact⟨k+1,_,y,M,by omega,by go_num,Ab (d.o.up (R.o _) (by omega))⟩
      case measure=>simp[intOf];omega
    obtain⟨m,rfl⟩:∃m,n=m+1:=⟨n-1,by omega⟩;obtain⟨g,rfl,an,aa⟩:=d.o.Hc (by omega);obtain⟨u,T,hu,am,J⟩:=d.o.AK1;obtain⟨pu,rfl⟩:=am.ptr;have cu:=d.o.cells hu;have U:Hid (Gy wr T (Zp pu)/\y[m]? = some (Zp pu)):=⟨am,hu⟩;have HD:=Ab J;have a5:(0:Int)<=(m:Int):=by omega
    have a6:(m:Int)<(m:Int)+1:=by omega
    clear hu am J;have HC:Hid (∀W,Zb wr W->∀b,(some ⟨g,0,none⟩:To)=some b->∀(j:Nat)(u':Tv),(y.take m)[j]? = some u'->W.cell? (b.add j)=some u'):=jQ d.o m;have HV:Hid ((y.take m).length=m*1):=Ab (by simp[d.o.sS]);have bo:=WC wr ⟨g,m,none⟩ cu;have HK:Hid (∀W,Zb wr W->W.cell? ⟨g,m,none⟩=some (Zp pu)):=λW hb=>(hb.cell (p:=⟨g,m,none⟩) aa).trans cu
    have ba:IntKind.i64.wrap (m:Int)=(m:Int):=wrap_small m (by omega);have a7:(m:Int)<=(cp:Int):=by omega
    go_wp2_with fail
    go_region_held3 (λV=>V.cell? ⟨g,m,none⟩=some (Zp pu))
     (first
       | (go_keep;done)
       | exact HK.o _ (L9 wr _ _ _)
       | exact HK.o _ (Below.up (L9 wr _ _ _) (below_grown a)))
     ((refine step_append_grows (by rfl) (.tmp 38) (.tmp 46) 138 (by rfl) 95 i0 (.pointer none) 1 8 underlying138 r.o.1 r.o.2.1 r.o.2.2.1 r.o.2.2.2 rfl (by omega) (some ⟨g,0,none⟩) m m (y.take m) (by rfl) (by simp) HV.o (HC.o _ (L9 wr _ _ _)) ⟨wr.heap.size+1+1,0,none⟩ 1 1 [.pointer (some ⟨wr.heap.size+1,0,none⟩)] (by rfl) (by rfl) (XF (cs:=#[.pointer (some ⟨wr.heap.size+1,0,none⟩)]) (t:=95) (fr:=(0,0)) (AFv wr _ _ _)) (by simp[Value.oneCell']) (by omega) (by unfold maxLen;omega) (by omega) ?_;intro v' D f a))
    go_wp2
    go_roundw
    case rel=>exact⟨k+1,m+1,_,_,by omega,by go_num,Ab (d.o.step (by omega) (by omega) U.o.1 (vI wr) (by have:=HD.o;simp only[A2];omega) a f)⟩
    case measure=>simp[intOf];omega
   have bj:(c==11)=false:=by simpa using h11
   by_cases h9:c=9\/c=10
   ·by_cases af:n<=1
    ·rcases h9 with rfl|rfl
     ·go_wp2
      all_goals
       go_roundw
       case rel=>exact⟨k+1,_,y,M,by omega,by go_num,Ab (d.o.up (R.o _) (by omega))⟩
       case measure=>simp[intOf];omega
     go_wp2
     all_goals
      go_roundw
      case rel=>exact⟨k+1,_,y,M,by omega,by go_num,Ab (d.o.up (R.o _) (by omega))⟩
      case measure=>simp[intOf];omega
    obtain⟨m,rfl⟩:∃m,n=m+2:=⟨n-2,by omega⟩;obtain⟨g,rfl,an,aa⟩:=d.o.Hc (by omega);obtain⟨u1,u2,T1,T2,az,a0,ak,al,av,aw,J⟩:=d.o.AKv;have ar:=d.o.cells az;have ai:=d.o.cells a0;obtain⟨p1,rfl⟩:=ak.ptr;obtain⟨p2,rfl⟩:=al.ptr;have U:Hid (Gy wr T1 (Zp p1)/\Gy wr T2 (Zp p2)):=⟨ak,al⟩;have HD:Hid (0<A2 T1/\0<A2 T2/\((M.take m).map A2).sum+A2 T1+A2 T2<=k):=⟨av,aw,J⟩;have a5:(0:Int)<=(m:Int):=by omega
    have a6:(m:Int)<(m:Int)+2:=by omega
    obtain⟨m1,ag⟩:∃m1:Nat,m1=m+1:=⟨_,rfl⟩;have bm:(m1:Int)<(m:Int)+2:=by omega
    have bn:(0:Int)<=(m1:Int):=by omega
    have bh:IntKind.i64.wrap ((m:Int)+2-1)=(m1:Int):=by rw[show ((m:Int)+2-1)=(m1:Int) by omega];exact wrap_small m1 (by omega)
    rw[<-ag] at ai;clear ag;clear az a0 ak al av aw J;have HC:Hid (∀W,Zb wr W->∀b,(some ⟨g,0,none⟩:To)=some b->∀(j:Nat)(u':Tv),(y.take m)[j]? = some u'->W.cell? (b.add j)=some u'):=jQ d.o m;have HV:Hid ((y.take m).length=m*1):=Ab (by simp[d.o.sS]);have bd:=WC wr ⟨g,m,none⟩ ar;have bf:=WC wr ⟨g,m1,none⟩ ai;have HK:Hid (∀W,Zb wr W->∀X,W.cell? ⟨wr.heap.size,0,none⟩=some X->W.cell? ⟨g,m,none⟩=some (Zp p1)/\W.cell? ⟨g,m1,none⟩=some (Zp p2)/\W.cell? ⟨wr.heap.size,0,none⟩=some X):=λW hb X hX=>⟨(hb.cell (p:=⟨g,m,none⟩) aa).trans ar,(hb.cell (p:=⟨g,m1,none⟩) aa).trans ai,hX⟩
    have ba:IntKind.i64.wrap (m:Int)=(m:Int):=wrap_small m (by omega);have a7:(m:Int)<=(cp:Int):=by omega
    rcases h9 with rfl|rfl
    ·go_wp2_with fail
     go_region_held3 (λV=>V.cell? ⟨g,m,none⟩=some (Zp p1)/\V.cell? ⟨g,m1,none⟩=some (Zp p2)/\V.cell? ⟨wr.heap.size,0,none⟩=some (Zi 9))
      (first
        | (go_keep;done)
        | exact HK.o _ (L9 wr _ _ _) _ (Nr wr _ _ _)
        | exact HK.o _ (Below.up (L9 wr _ _ _) (below_grown a)) _ ((a.cell_far _ (by simp;omega) (by simp)).trans (Nr wr _ _ _)))
      ((refine step_append_grows (by rfl) (.tmp 66) (.tmp 81) 138 (by rfl) 95 i0 (.pointer none) 1 8 underlying138 r.o.1 r.o.2.1 r.o.2.2.1 r.o.2.2.2 rfl (by omega) (some ⟨g,0,none⟩) m m (y.take m) (by rfl) (by simp) HV.o (HC.o _ (L9 wr _ _ _)) ⟨wr.heap.size+1+1,0,none⟩ 1 1 [.pointer (some ⟨wr.heap.size+1,0,none⟩)] (by rfl) (by rfl) (XF (cs:=#[.pointer (some ⟨wr.heap.size+1,0,none⟩)]) (t:=95) (fr:=(0,0)) (AFv wr _ _ _)) (by simp[Value.oneCell']) (by omega) (by unfold maxLen;omega) (by omega) ?_;intro v' D f a))
     go_wp2
     go_roundw
     case rel=>exact⟨k+1,m+1,_,_,by omega,by go_num,Ab (d.o.step (by omega) (by omega) U.o.1 U.o.2 (by have:=HD.o;omega) a f)⟩
     case measure=>simp[intOf];omega
    go_wp2_with fail
    go_region_held3 (λV=>V.cell? ⟨g,m,none⟩=some (Zp p1)/\V.cell? ⟨g,m1,none⟩=some (Zp p2)/\V.cell? ⟨wr.heap.size,0,none⟩=some (Zi 10))
     (first
       | (go_keep;done)
       | exact HK.o _ (L9 wr _ _ _) _ (Nr wr _ _ _)
       | exact HK.o _ (Below.up (L9 wr _ _ _) (below_grown a)) _ ((a.cell_far _ (by simp;omega) (by simp)).trans (Nr wr _ _ _)))
     ((refine step_append_grows (by rfl) (.tmp 66) (.tmp 81) 138 (by rfl) 95 i0 (.pointer none) 1 8 underlying138 r.o.1 r.o.2.1 r.o.2.2.1 r.o.2.2.2 rfl (by omega) (some ⟨g,0,none⟩) m m (y.take m) (by rfl) (by simp) HV.o (HC.o _ (L9 wr _ _ _)) ⟨wr.heap.size+1+1,0,none⟩ 1 1 [.pointer (some ⟨wr.heap.size+1,0,none⟩)] (by rfl) (by rfl) (XF (cs:=#[.pointer (some ⟨wr.heap.size+1,0,none⟩)]) (t:=95) (fr:=(0,0)) (AFv wr _ _ _)) (by simp[Value.oneCell']) (by omega) (by unfold maxLen;omega) (by omega) ?_;intro v' D f a))
    go_wp2
    go_roundw
    case rel=>exact⟨k+1,m+1,_,_,by omega,by go_num,Ab (d.o.step (by omega) (by omega) U.o.1 U.o.2 (by have:=HD.o;omega) a f)⟩
    case measure=>simp[intOf];omega
   have b9:(c==9)=false:=by simp;omega
   have bi:(c==10)=false:=by simp;omega
   by_cases h16:1<=c/\c<=6
   ·obtain⟨h1,h6⟩:=h16
    have b7:(c==7)=false:=by simp;omega
    have b8:(c==8)=false:=by simp;omega
    by_cases hsz:(tt.size:Int)<=100
    ·have x:Hid (∀W,Zc 54 #[Zg #[Zi kk,Zi nn,Zt tt]] W λe V=>e=Zr (Zo (E.A9 kk nn tt))/\Zb W V):=λW=>E.Ln kk nn tt W ht
     cases hrv:E.A9 kk nn tt
     ·rw[hrv] at x
      clear hrv;go_wp2_with fail;refine(x.o _).mono ?_;rintro e D⟨rfl,s⟩;have x0:D.cell? ⟨wr.heap.size,0,none⟩=some (Zi c):=(s.cell (p:=⟨wr.heap.size,0,none⟩) (by simp)).trans (by go_simp);have HX:=Ab s;clear s;go_wp2
      all_goals
       go_roundw
       case rel=>exact⟨k+1,n,y,M,by omega,by go_num,Ab (d.o.up (Below.up (R.o _) HX.o) (by omega))⟩
       case measure=>simp[intOf];omega
     rw[hrv] at x;clear hrv;go_wp2_with fail;refine(x.o _).mono ?_;rintro e D⟨rfl,s⟩;have x0:D.cell? ⟨wr.heap.size,0,none⟩=some (Zi c):=(s.cell (p:=⟨wr.heap.size,0,none⟩) (by simp)).trans (by go_simp);have x1:D.cell? ⟨wr.heap.size,1,none⟩=some (Zt Bl):=(s.cell (p:=⟨wr.heap.size,1,none⟩) (by simp)).trans (by go_simp);have x2:D.cell? ⟨wr.heap.size,2,none⟩=some (Zi kk):=(s.cell (p:=⟨wr.heap.size,2,none⟩) (by simp)).trans (by go_simp);have x3:D.cell? ⟨wr.heap.size,3,none⟩=some (Zi nn):=(s.cell (p:=⟨wr.heap.size,3,none⟩) (by simp)).trans (by go_simp);have x4:D.cell? ⟨wr.heap.size,4,none⟩=some (Zt tt):=(s.cell (p:=⟨wr.heap.size,4,none⟩) (by simp)).trans (by go_simp);have HX:Hid (Zb wr D):=Below.up (R.o _) s;clear s;go_wp2_with (at_builtin;refine wpList_append_lies _ rfl (.tmp 104) (.tmp 113) 138 rfl w.heap.size 95 i0 (.pointer none) 1 8 underlying138 r.o.1 r.o.2.1 r.o.2.2.1 r.o.2.2.2 rfl (by omega) (.slice ao n cp) n y rfl (Ad d.o.own (Below.up HX.o (M4 D _ _))) ⟨D.heap.size+1,0,none⟩ 1 1 [.pointer (some ⟨D.heap.size,0,none⟩)] rfl rfl (XF (cs:=#[.pointer (some ⟨D.heap.size,0,none⟩)]) (t:=95) (fr:=(0,0)) (bG D _ _ _ (by simp))) (by simp[Value.oneCell']) (by omega) (by unfold maxLen;omega) (by omega) (XH d.o.xL.size (Below.up HX.o (M4 D _ _)).size) (D.heap.size+1+1) (by simp) ?_;intro gg aq w2 f a au P)
     go_roundw
     case rel=>exact⟨k+1,n+1,_,_,by omega,by go_num,Ab (d.o.leaf (by omega) HX.o (by simp) a f)⟩
     case measure=>simp[intOf];omega
    have bg:(100:Int)<tt.size:=by omega
    clear hsz;go_wp2
    all_goals
     go_roundw
     case rel=>exact⟨k+1,_,y,M,by omega,by go_num,Ab (d.o.up (R.o _) (by omega))⟩
     case measure=>simp[intOf];omega
   by_cases aj:c=7\/c=8
   ·skip
    clear h16 h9 h11
    rcases aj with rfl|rfl
    ·go_wp2_with (at_builtin;refine wpList_append_lies _ rfl (.tmp 124) (.tmp 131) 138 rfl w.heap.size 95 i0 (.pointer none) 1 8 underlying138 r.o.1 r.o.2.1 r.o.2.2.1 r.o.2.2.2 rfl (by omega) (.slice ao n cp) n y rfl (Ad d.o.own (Below.up (R.o _) (M4 _ _ _))) ⟨wr.heap.size+1+1,0,none⟩ 1 1 [.pointer (some ⟨wr.heap.size+1,0,none⟩)] rfl rfl (XF (cs:=#[.pointer (some ⟨wr.heap.size+1,0,none⟩)]) (t:=95) (fr:=(0,0)) (bG (wr.alloc _) _ _ _ (by simp))) (by simp[Value.oneCell']) (by omega) (by unfold maxLen;omega) (by omega) (XH d.o.xL.size (Below.up (R.o _) (M4 _ _ _)).size) (wr.heap.size+1+1+1) (by simp) ?_;intro gg aq w2 f a au P)
     go_roundw
     case rel=>exact⟨k+1,n+1,_,_,by omega,by go_num,Ab (d.o.leaf (by omega) (R.o _) (by simp) a f)⟩
     case measure=>simp[intOf];omega
    go_wp2_with (at_builtin;refine wpList_append_lies _ rfl (.tmp 124) (.tmp 131) 138 rfl w.heap.size 95 i0 (.pointer none) 1 8 underlying138 r.o.1 r.o.2.1 r.o.2.2.1 r.o.2.2.2 rfl (by omega) (.slice ao n cp) n y rfl (Ad d.o.own (Below.up (R.o _) (M4 _ _ _))) ⟨wr.heap.size+1+1,0,none⟩ 1 1 [.pointer (some ⟨wr.heap.size+1,0,none⟩)] rfl rfl (XF (cs:=#[.pointer (some ⟨wr.heap.size+1,0,none⟩)]) (t:=95) (fr:=(0,0)) (bG (wr.alloc _) _ _ _ (by simp))) (by simp[Value.oneCell']) (by omega) (by unfold maxLen;omega) (by omega) (XH d.o.xL.size (Below.up (R.o _) (M4 _ _ _)).size) (wr.heap.size+1+1+1) (by simp) ?_;intro gg aq w2 f a au P)
    go_roundw
    case rel=>exact⟨k+1,n+1,_,_,by omega,by go_num,Ab (d.o.leaf (by omega) (R.o _) (by simp) a f)⟩
    case measure=>simp[intOf];omega
   have b7:(c==7)=false:=by simp;omega
   have b8:(c==8)=false:=by simp;omega
   by_cases hc1:1<=c
   ·have bk:¬c<=6:=by omega
    clear h16 aj h9 h11;go_wp2
    all_goals
     go_roundw
     case rel=>exact⟨k+1,_,y,M,by omega,by go_num,Ab (d.o.up (R.o _) (by omega))⟩
     case measure=>simp[intOf];omega
   clear h16 aj h9 h11;go_wp2
   all_goals
    go_roundw
    case rel=>exact⟨k+1,_,y,M,by omega,by go_num,Ab (d.o.up (R.o _) (by omega))⟩
    case measure=>simp[intOf];omega
  by_cases O:k<L
  ·have ay:¬k<14:=λhh=>P ⟨O,hh⟩
   clear P
   by_cases hn0:n=0
   ·subst hn0
    go_wp2;go_ret;exact⟨_,.nil,rfl,vI _,by simp[A2],d.o.xL⟩
   obtain⟨g,rfl,an,aa⟩:=d.o.Hc (by omega);obtain⟨BW,l⟩:=fP d.o;obtain⟨p0,T0,cu,ab,ad,G⟩:=l.o.2.2.1 _ l.o.1 0 (by omega);have H0:Hid (Gy wr T0 (Zp p0)/\0<A2 T0/\M[0]? = some T0):=⟨ab,ad,G⟩;have HD:=Ab d.o.dep;have HL:=Ab d.o.len;clear ab ad G d Q0 Q1 Q2 Q3 Q4 HT;have af:(n==0)=false:=by simpa using hn0
   have ap:(0:Int)<(n:Int):=by omega
   go_wp2
   go_loopw [7,8] (λcv iv w2=>∃(q:Nat)(T:CT)(p:To),1<=q/\q<=n/\iv=Zi q/\cv=Zp p/\Hid (Gy w2 T (Zp p)/\0<A2 T/\A2 T<=((M.take q).map A2).sum/\BW w2)) (λ_ iv _=>n-(intOf iv).toNat)
   case atStart=>exact⟨1,T0,p0,by omega,by omega,rfl,rfl,⟨H0.o.1,H0.o.2.1,take_one H0.o.2.2,l.o.1⟩⟩
   case round=>
    obtain⟨q,T,p,a8,a9,rfl,rfl,x⟩:=hrel;clear cu af ap
    by_cases hq:q<n
    ·obtain⟨pu,Tq,cq,ac,ae,I⟩:=l.o.2.2.1 _ x.o.2.2.2 q hq
     have U:Hid (Gy wr Tq (Zp pu)/\0<A2 Tq/\M[q]? = some Tq):=⟨ac,ae,I⟩;clear ac ae I;go_wp2
     go_roundw
     case rel=>exact⟨q+1,.node 0 0 ⟨9,⟨#[]⟩,0,0,⟨#[]⟩⟩ T Tq,some ⟨wr.heap.size,0,none⟩,by omega,by omega,by go_num,rfl,Ab (rA x.o.1 U.o.1 x.o.2.1 U.o.2.1 x.o.2.2.1 U.o.2.2 (l.o.2.1 _ _ x.o.2.2.2))⟩
     case measure=>simp[intOf];omega
    have HF:Hid (A2 T<=14):=Ab (by have h1:=x.o.2.2.1;have h2:=HD.o;rw[Yd (by have:=HL.o;omega)] at h1;omega)
    go_wp2;go_ret;exact⟨_,T,rfl,x.o.1,HF.o,l.o.2.2.2 _ x.o.2.2.2⟩
  clear P
  by_cases hn0:n=0
  ·subst hn0
   go_wp2;go_ret;exact⟨_,.nil,rfl,vI _,by simp[A2],d.o.xL⟩
  obtain⟨g,rfl,an,aa⟩:=d.o.Hc (by omega);obtain⟨BW,l⟩:=fP d.o;obtain⟨p0,T0,cu,ab,ad,G⟩:=l.o.2.2.1 _ l.o.1 0 (by omega);have H0:Hid (Gy wr T0 (Zp p0)/\0<A2 T0/\M[0]? = some T0):=⟨ab,ad,G⟩;have HD:=Ab d.o.dep;have HL:=Ab d.o.len;clear ab ad G d Q0 Q1 Q2 Q3 Q4 HT;have af:(n==0)=false:=by simpa using hn0
  have ap:(0:Int)<(n:Int):=by omega
  go_wp2
  go_loopw [7,8] (λcv iv w2=>∃(q:Nat)(T:CT)(p:To),1<=q/\q<=n/\iv=Zi q/\cv=Zp p/\Hid (Gy w2 T (Zp p)/\0<A2 T/\A2 T<=((M.take q).map A2).sum/\BW w2)) (λ_ iv _=>n-(intOf iv).toNat)
  case atStart=>exact⟨1,T0,p0,by omega,by omega,rfl,rfl,⟨H0.o.1,H0.o.2.1,take_one H0.o.2.2,l.o.1⟩⟩
  case round=>
   obtain⟨q,T,p,a8,a9,rfl,rfl,x⟩:=hrel;clear cu af ap
   by_cases hq:q<n
   ·obtain⟨pu,Tq,cq,ac,ae,I⟩:=l.o.2.2.1 _ x.o.2.2.2 q hq
    have U:Hid (Gy wr Tq (Zp pu)/\0<A2 Tq/\M[q]? = some Tq):=⟨ac,ae,I⟩;clear ac ae I;go_wp2
    go_roundw
    case rel=>exact⟨q+1,.node 0 0 ⟨9,⟨#[]⟩,0,0,⟨#[]⟩⟩ T Tq,some ⟨wr.heap.size,0,none⟩,by omega,by omega,by go_num,rfl,Ab (rA x.o.1 U.o.1 x.o.2.1 U.o.2.1 x.o.2.2.1 U.o.2.2 (l.o.2.1 _ _ x.o.2.2.2))⟩
    case measure=>simp[intOf];omega
   have HF:Hid (A2 T<=14):=Ab (by have h1:=x.o.2.2.1;have h2:=HD.o;rw[Yd (by have:=HL.o;omega)] at h1;omega)
   go_wp2;go_ret;exact⟨_,T,rfl,x.o.1,HF.o,l.o.2.2.2 _ x.o.2.2.2⟩
theorem V8(c:To)(a:Nat)(w:Tw):
 Zc 29 #[Zs c 0 a] w λe b=>∃v T,e=Zr v/\Gy b T v/\A2 T<=14/\Zb w b:=by
 go_enter func29,ntmps29;go_wp2
 go_loopw [3,4] (λo i wr=>o=Zs none 0 0/\i=Zi 0/\wr=w) (λ_ _ _=>0)
 case atStart=>exact⟨rfl,rfl,rfl⟩
 case round=>obtain⟨rfl,rfl,rfl⟩:=hrel;go_wp2;go_ret;exact⟨_,.nil,rfl,rfl,by simp[A2],XE _ _⟩
theorem AHt:prog.cellsOf 64=5:=by kernel_rfl
theorem Db:prog.cellsOf 3=1:=by kernel_rfl
theorem zS:prog.cellsOf 2=1:=by kernel_rfl
theorem Vw:prog.cellsOf 9=1:=by kernel_rfl
theorem gQ:prog.cellsOf 56=3:=by kernel_rfl
theorem ABw{H:Type}{enc:TypeId×Tv->H}{W:Tw}{base:Nat}{s:Nat->Bool}{held:Bool}{n:Nat}{cs:List Tv}{x:DataW H×List MemPlace}(h:DataW.trod enc prog W base s held n 64 cs=some x):
 ∃(c k m:Int)(l t:Tb),cs=[Zi c,Zt l,Zi k,Zi m,Zt t]/\t.size<=maxLen:=by
 obtain⟨u,v,w,n1,_,q,j,o,p⟩:=trod_struct3 underlying64 h;rw[AHt] at q
 match cs,q with
 | [v0,v1,v2,v3,v4],_=>simp only[Db,Vw,gQ,XR,XL,XM,XS] at j o p;obtain⟨c,e0,_,_⟩:=DataW.trod_int underlying3 j;obtain⟨l,a,_,_⟩:=DataW.trod_string underlying9 o;obtain⟨y,z,D,n2,_,_,f,g,i⟩:=trod_struct3 underlying56 p;simp only[Db,Vw,zS,XR,XL,XM,XS] at f g i;obtain⟨k,b,_,_⟩:=DataW.trod_int underlying3 f;obtain⟨m,d,_,_⟩:=DataW.trod_int underlying2 g;obtain⟨t,e,_,r⟩:=DataW.trod_string underlying9 i;simp at e0 a b d e;subst e0 a b d e;exact⟨c,k,m,l,t,rfl,r⟩
structure Pt where
 c:Int
 k:Int
 m:Int
 l:ByteArray
 t:ByteArray
end S
namespace F
variable{w:Tw}{v:Tv}{H:Type}
theorem kM:prog.cellsOf 38=8:=by kernel_rfl
theorem pR:prog.cellsOf 58=4:=by kernel_rfl
theorem ACj:prog.cellsOf 64=5:=by kernel_rfl
theorem AH4:prog.cellsOf 33=1:=by kernel_rfl
theorem AID:prog.cellsOf 34=1:=by kernel_rfl
theorem AH3:prog.cellsOf 35=1:=by kernel_rfl
theorem AHJ:prog.cellsOf 36=1:=by kernel_rfl
structure DdS where
 x:J4
 ca:Option Addr
 cc:Nat
 ra:Option Addr
 rc:Nat
 pa:Option Addr
 pn:Nat
 pc:Nat
 sa:Option Addr
 sc:Nat
def AGa(q:DdS):List Value:=[Zi q.x.Qk,.slice q.ca q.x.cols.length q.cc,.slice q.ra q.x.rows.length q.rc,.slice q.pa q.pn q.pc,.slice q.sa q.x.A3.length q.sc,Zi q.x.change,.string q.x.name,.string q.x.tw]
structure Nf(w:World)(q:DdS):Prop where
 cols:F7 7 Cc w (.slice q.ca q.x.cols.length q.cc) q.x.cols
 ACl:∀c∈q.x.cols,c.2.1.size<=maxLen/\c.2.2.2.2.2.2.size<=maxLen
 uB:∀c∈q.x.cols,Vp c
 rows:iJ w (.slice q.ra q.x.rows.length q.rc) q.x.rows
 ACg:∀r∈q.x.rows,∀v∈r,Ks v/\v.2.2.size<=maxLen
 A3:F7 4 Wu w (.slice q.sa q.x.A3.length q.sc) q.x.A3
 wX:∀s∈q.x.A3,Ks s.2/\s.2.2.2.size<=maxLen
 cnd:∀W,Zb w W->Zc 29 #[.slice q.pa q.pn q.pc] W λe w'=>∃v T,e=.returned v/\S.Gy w' T v/\q.x.tree T/\Zb W w'
 nm:q.x.name.size<=maxLen
 tw:q.x.tw.size<=maxLen
structure U8(q:DdS):Prop where
 cols:ABP q.x.cols
 rows:RowsFit q.x.rows
 parts:q.pn<=20
 A3:q.x.A3.length<=10
 wX:∀s∈q.x.A3,s.2.2.2.size<=100
theorem ADe{l:List Aj}(h:F7 7 Cc w v l):bH w v l:=by
 obtain⟨a,c,e,k,n⟩:=h
 by_cases hn:l=[]
 ·subst hn;exact .inl ⟨⟨_,_,e⟩,rfl⟩
 obtain⟨b,off,f,g,d⟩:=n hn;subst f;refine .inr ⟨b,off,c,e,k,g,λj m i v o=>?_⟩;exact d j l[j]! (by rw[List.getElem!_eq_getElem?_getD,XC m];rfl) i v o
theorem Nf.at{q:DdS}(h:Nf w q)(f:U8 q):K8 w q.x q.ca q.cc q.ra q.rc q.pa q.pn q.pc q.sa q.sc :=
 ⟨ADe h.cols,h.ACl,h.rows,λr a v b=>(h.ACg r a v b).2,h.A3,by have:=f.A3;omega,λs hs=>(h.wX s hs).2,h.cnd,h.tw,⟨h.uB,f.cols.1,λr a v b=>(h.ACg r a v b).1,by have:=f.rows.1;omega,λs hs=>(h.wX s hs).1⟩⟩
theorem oC{enc:TypeId×Tv->H}{P:Program}{base:Nat}{spare:Nat->Bool}{held:Bool}{t:TypeId}{b c d e f g i j:Field}{fuel:Nat}{cs:List Tv}{x:DataW H×List MemPlace}(m:P.underlying t=some (.struct #[b,c,d,e,f,g,i,j]))(h:DataW.trod enc P w base spare held fuel t cs=some x):
 ∃(n:Nat),cs.length=P.cellsOf t/\(∃y,DataW.trod enc P w base spare held n b.type ((cs.drop b.offset).take (P.cellsOf b.type))=some y)/\(∃y,DataW.trod enc P w base spare held n c.type ((cs.drop c.offset).take (P.cellsOf c.type))=some y)/\(∃y,DataW.trod enc P w base spare held n d.type ((cs.drop d.offset).take (P.cellsOf d.type))=some y)/\(∃y,DataW.trod enc P w base spare held n e.type ((cs.drop e.offset).take (P.cellsOf e.type))=some y)/\(∃y,DataW.trod enc P w base spare held n f.type ((cs.drop f.offset).take (P.cellsOf f.type))=some y)/\(∃y,DataW.trod enc P w base spare held n g.type ((cs.drop g.offset).take (P.cellsOf g.type))=some y)/\(∃y,DataW.trod enc P w base spare held n i.type ((cs.drop i.offset).take (P.cellsOf i.type))=some y)/\(∃y,DataW.trod enc P w base spare held n j.type ((cs.drop j.offset).take (P.cellsOf j.type))=some y):=by
 obtain⟨xs,n,_,_,l,k,a⟩:=DataW.trod_struct m h
 match xs,k with
 | [y0,y1,y2,y3,y4,y5,y6,y7],_=>exact⟨n,l,⟨y0,a 0 b rfl⟩,⟨y1,a 1 c rfl⟩,⟨y2,a 2 d rfl⟩,⟨y3,a 3 e rfl⟩,⟨y4,a 4 f rfl⟩,⟨y5,a 5 g rfl⟩,⟨y6,a 6 i rfl⟩,⟨y7,a 7 j rfl⟩⟩
section
variable {H : Type} {enc : TypeId × Value → H} {W : World} {sp : Nat → Bool} {held : Bool} {n : Nat} {cs : List Value} {x : DataW H × List MemPlace}
theorem AFs(h:DataW.trod enc prog W 0 sp held n 58 cs=some x):∃s:Vi,cs=Wu s/\Ks s.2/\s.2.2.2.size<=maxLen:=by
 obtain⟨k,l,n1,_,e,b,d⟩:=trod_struct2 underlying58 h;rw[pR] at e
 match cs,e with
 | [v0,v1,v2,v3],_=>simp only[Vw,gQ,XR,XL,XM,XS] at b d;obtain⟨c,e0,_,_⟩:=DataW.trod_string underlying9 b;obtain⟨v,a,j,i⟩:=qU d;simp at e0 a;obtain⟨a,f,g⟩:=a;subst e0 a f g;exact⟨(c,v),rfl,j,i⟩
theorem zP(h:DataW.trod enc prog W 0 sp held n 34 cs=some x):∃v,cs=[v]/\∃l:List (List V),iJ W v l/\∀r∈l,∀x∈r,Ks x/\x.2.2.size<=maxLen:=by
 obtain⟨v',e,l,z,p⟩:=M0 (α:=Tv×List V) (k:=1) (en:=λq=>[q.1]) (P:=λq=>E.Sl W q.1 q.2/\∀x∈q.2,Ks x/\x.2.2.size<=maxLen) (by decide) (λ_=>rfl) underlying34 AHc (λh=>by obtain⟨u,e,r,f,d⟩:=M0 (k:=3) (en:=AIQ) (P:=λx:V=>Ks x/\x.2.2.size<=maxLen) (by decide) (λ_=>rfl) underlying62 gQ (λh=>qU h) h;exact⟨(u,r),e,mW f,d⟩) h
 refine⟨v',e,?_⟩;obtain⟨a,c,t,y,g⟩:=z;refine⟨l.map (·.2),⟨l.map (·.1),⟨a,c,by rw[Y'];exact t,by rw[Y'];exact y,λD=>?_⟩,by simp,λj x r m f=>?_⟩,λr f=>?_⟩
 ·obtain⟨b,off,s,w,o⟩:=g (by intro h0;exact D (by rw[h0];rfl))
  refine⟨b,off,s,w,λj x m i u G=>?_⟩;rw[XO] at m;obtain⟨q,d,rfl⟩:=Option.map_eq_some_iff.1 m;exact o j q d i u G
 ·rw[XO] at m f
  obtain⟨q,d,rfl⟩:=Option.map_eq_some_iff.1 m;rw[d] at f;simp at f;subst f;exact(p q (XD d)).1
 obtain⟨q,d,rfl⟩:=List.mem_map.1 f;exact(p q d).2
def AHF(q:S.Pt):List Value:=[Zi q.c,.string q.l,Zi q.k,Zi q.m,.string q.t]
def AEm(W:World)(v:Value):Prop:=∀a,Zb W a->Zc 29 #[v] a λe b=>∃u T,e=.returned u/\S.Gy b T u/\Zb a b
theorem AAi{l:List S.Pt}(h:F7 5 AHF W v l)(I:∀q∈l,q.t.size<=maxLen)(G:∀a n c,v=Zs a n c->c<=maxLen):AEm W v:=by
 intro s y;obtain⟨a,c,rfl,z,D⟩:=h
 by_cases hn:l=[]
 ·subst hn
  refine(S.V8 a c s).mono ?_;rintro e L⟨u,T,rfl,w,_,x⟩;exact⟨u,T,rfl,w,x⟩
 obtain⟨b,off,rfl,r,g⟩:=D hn;have M:∀j,j<l.length->∃q,l[j]? = some q:=λj d=>⟨_,XC d⟩
 have f:∀(j:Nat)(d:j<l.length)(i:Nat)u,(AHF l[j])[i]? = some u->s.cell? ⟨b,off+j*5+i,none⟩=some u:=λj d i u J=>(y.cell (p:=⟨b,off+j*5+i,none⟩) r).trans (g j _ (XC d) i u J)
 have o:∀(j:Nat)(d:j<l.length),l.getD j ⟨0,0,0,⟨#[]⟩,⟨#[]⟩⟩=l[j]:=λj d=>by rw[XT,XC d];rfl
 refine(S.ADb b off l.length c (λj=>(l.getD j ⟨0,0,0,⟨#[]⟩,⟨#[]⟩⟩).c) (λj=>(l.getD j ⟨0,0,0,⟨#[]⟩,⟨#[]⟩⟩).k) (λj=>(l.getD j ⟨0,0,0,⟨#[]⟩,⟨#[]⟩⟩).m) (λj=>(l.getD j ⟨0,0,0,⟨#[]⟩,⟨#[]⟩⟩).l) (λj=>(l.getD j ⟨0,0,0,⟨#[]⟩,⟨#[]⟩⟩).t) s z (G _ _ _ rfl) (λj=>?_) (Ya r y.size) (λj d=>?_) (λj d=>?_) (λj d=>?_) (λj d=>?_) (λj d=>?_)).mono ?_
 ·rcases Yc j l.length with d|d
  ·simp only[o j d];exact I _ (Yi d)
  rw[XT,Yb d];decide
 ·rw[o j d];exact f j d 0 _ rfl
 ·rw[o j d];exact f j d 1 _ rfl
 ·rw[o j d];exact f j d 2 _ rfl
 ·rw[o j d];exact f j d 3 _ rfl
 ·rw[o j d];exact f j d 4 _ rfl
 rintro e L⟨u,T,rfl,w,_,x⟩;exact⟨u,T,rfl,w,x⟩
theorem AAh(h:DataW.trod enc prog W 0 sp held n 64 cs=some x):∃q:S.Pt,cs=AHF q/\q.t.size<=maxLen:=by obtain⟨c,k,m,l,t,e,a⟩:=S.ABw h;exact⟨⟨c,k,m,l,t⟩,e,a⟩
theorem ACw{T E:TypeId}(g:prog.underlying T=some (.slice E))(h:DataW.trod enc prog W 0 sp held n T cs=some x)(e:cs=[v]):∀a l c,v=.slice a l c->c<=maxLen:=by
 intro a l c f;subst f
 rcases open_slice g h with⟨b,_⟩|⟨k,len,d,m,n,D,j,b,o,p,i,_⟩
 ·rw[e] at b
  simp at b;rw[b.2.2];exact XB _
 rw[e] at b;simp at b;rw[b.2.2];exact i
theorem qH(h:DataW.trod enc prog W 0 sp held n 35 cs=some x):∃a l c,cs=[.slice a l c]/\l<=c/\AEm W (.slice a l c):=by
 haveI:Inhabited S.Pt:=⟨⟨0,0,0,⟨#[]⟩,⟨#[]⟩⟩⟩
 obtain⟨v,e,l,f,i⟩:=M0 (k:=5) (en:=AHF) (P:=λq:S.Pt=>q.t.size<=maxLen) (by decide) (λ_=>rfl) underlying35 ACj (λh=>AAh h) h;have g:=ACw underlying35 h e;have b:=f;obtain⟨a,c,rfl,d,_⟩:=b;exact⟨a,l.length,c,e,d,AAi f i g⟩
theorem ADH(h:DataW.trod enc prog W 0 sp held n 38 cs=some x):∃q:DdS,cs=AGa q/\Nf W q/\q.x.tree=λ_=>True:=by
 obtain⟨n1,M,⟨y0,z⟩,⟨y1,g⟩,⟨y2,i⟩,⟨y3,D⟩,⟨y4,G⟩,⟨y5,I⟩,⟨y6,J⟩,⟨y7,L⟩⟩:=oC underlying38 h;rw[kM] at M
 match cs,M with
 | [v0,v1,v2,v3,v4,v5,v6,v7],_=>simp only[Db,Vw,AH4,AID,AH3,AHJ,XR,XL,XM,XS] at z g i D G I J L;obtain⟨wh,e0,_,_⟩:=DataW.trod_int underlying3 z;obtain⟨cv,p,cols,a,b⟩:=M0 (k:=7) (en:=Cc) (P:=λc:Aj=>(c.2.1.size<=maxLen/\c.2.2.2.2.2.2.size<=maxLen)/\Vp c) (by decide) (λ_=>rfl) underlying33 AGR (λh=>Go.Proofs.YtcfgbbpgoailaaaGreatDoor.AEc h) g;obtain⟨rv,r,rows,d,l⟩:=zP i;obtain⟨pa,X,V,t,_,U⟩:=qH D;obtain⟨sv,v,A3,f,m⟩:=M0 (k:=4) (en:=Wu) (P:=λs:Vi=>Ks s.2/\s.2.2.2.size<=maxLen) (by decide) (λ_=>rfl) underlying36 pR (λh=>AFs h) G;obtain⟨R,w,_,_⟩:=DataW.trod_int underlying3 I;obtain⟨nm,y,_,j⟩:=DataW.trod_string underlying9 J;obtain⟨tw,e7,_,o⟩:=DataW.trod_string underlying9 L;simp at e0 p r t v w y e7;subst e0 p r t v w y e7;obtain⟨N,O,rfl,_⟩:=a.slice;obtain⟨Y,rc,rfl,_⟩:=d.slice;obtain⟨sa,sc,rfl,_⟩:=f.slice;refine⟨⟨⟨wh,cols,rows,A3,R,nm,tw,λ_=>True⟩,N,O,Y,rc,pa,X,V,sa,sc⟩,rfl,⟨a,λc hc=>(b c hc).1,λc hc=>(b c hc).2,d,l,f,m,λW' hb=>?_,j,o⟩,rfl⟩;refine(U W' hb).mono ?_;rintro e w'⟨u,T,rfl,g,i⟩;exact⟨u,T,rfl,g,trivial,i⟩
end
theorem yI{enc:TypeId×Tv->H}{W:Tw}{n:Nat}{d:DataW H}{p:List MemPlace}(m:Value.okWide prog W .any n 22 v)(h:DataW.Trod enc prog W 0 (λ_=>true) true 22 v d p):
 ∃l:List DdS,F7 8 AGa W v l/\∀q∈l,Nf W q:=by
 haveI:Inhabited DdS:=⟨⟨⟨0,[],[],[],0,⟨#[]⟩,⟨#[]⟩,λ_=>True⟩,none,0,none,0,none,0,0,none,0⟩⟩
 obtain⟨b,len,a,rfl⟩:=okWide_slice underlying22 m;obtain⟨fuel,f⟩:=h;obtain⟨v',e,l,g,i⟩:=M0 (k:=8) (en:=AGa) (P:=λq:DdS=>Nf W q/\q.x.tree=λ_=>True) (by decide) (λ_=>rfl) underlying22 kM (λh=>ADH h) f;have c:v'=Zs b len a:=by simpa[Value.cells] using e.symm
 subst c;exact⟨l,g,λq j=>(i q j).1⟩
variable{i:Nat}{D:Td}{H:List (Dn×Ah)}{s:Ah}{a:Bool}{A:List A5}{v:Tv}{e:Ending}{U:List Tb}
theorem Py(lv:Tv)(l:List DdS)(w:Tw)(hl:F7 8 AGa w lv l)(T:∀q∈l,Nf w q):
 Zc 4 #[lv] w (Pb (l.length<=30/\∀q∈l,U8 q) w):=by
 have HL:=Aa hl;obtain⟨la,lc,rfl,_⟩:=hl.slice;have HR:=Aa T;clear hl T
 by_cases h30:l.length<=30
 ·have I:¬(30:Int)<(l.length:Int):=by omega
  go_enter func4,ntmps4;go_wp2
  go_loopw [3] (λy wr=>∃k:Nat,k<=l.length/\y=Zi k/\Hid (∀q∈l.take k,U8 q)/\Hid (Zb w wr)) (λy _=>l.length-(intOf y).toNat)
  case atStart=>exact⟨0,XB _,rfl,Aa (by simp),Aa (XE _ _)⟩
  case round=>
   obtain⟨k,hk,rfl,M,u⟩:=hrel
   by_cases hlt:k<l.length
   ·obtain⟨q,f⟩:∃q,l[k]? = some q:=⟨_,XC hlt⟩
    obtain⟨lb,lo,ap,el,_,an,a⟩:=(HL.o.up u.o).cons (by omega);injection el with ah _ ai;subst ah ai;have q0:=a k q f 0 _ rfl;have q1:=a k q f 1 _ rfl;have q2:=a k q f 2 _ rfl;have q3:=a k q f 3 _ rfl;have q4:=a k q f 4 _ rfl;have q5:=a k q f 5 _ rfl;have q6:=a k q f 6 _ rfl;have q7:=a k q f 7 _ rfl;simp only[XY] at q0;have d:=Aa (HR.o q (XD f));have HQ:=Aa f;have am:(k:Int)<(l.length:Int):=by omega
    clear a f;obtain⟨⟨wh,cols,rows,A3,ch,nm,z,tr⟩,ca,cc,ra,rc,pa,R,pc,sa,sc⟩:=q;simp only at q0 q1 q2 q3 q4 q5 q6 q7;have J:Zb wr (wr.alloc (Zk #[Zi wh,Zs ca cols.length cc,Zs ra rows.length rc,Zs pa R pc,Zs sa A3.length sc,Zi ch,Zt nm,Zt z] 38)):=Zal;have G:=Aa (Y8 wr (Zk #[Zi wh,Zs ca cols.length cc,Zs ra rows.length rc,Zs pa R pc,Zs sa A3.length sc,Zi ch,Zt nm,Zt z] 38));have D:=Aa (Ap u.o J);have m1:nm.size<=maxLen:=d.o.nm;have m2:z.size<=maxLen:=d.o.tw;have i:=Aa (pS (Zs ca cols.length cc) cols _ (d.o.cols.up D.o) d.o.ACl);have o:=Aa (λW(hW:Zb w W)=>oH (Zs ra rows.length rc) rows W (d.o.rows.up hW) (λr T v g=>(d.o.ACg r T v g).2));unfold Pb at i o;clear J;go_wp2_with fail;refine i.o.mono ?_;rintro e w2⟨b2,rfl,N,p⟩;have X:=Aa N;have h:=Aa (Ap D.o p);have m:=Aa ((p.block _ (Ac G.o)).trans G.o);clear N p i;obtain⟨y0,y1,y2,y3,y4,y5,y6,y7,yf⟩:=F2 m.o;clear q0 q1 q2 q3 q4 q5 q6 q7;cases b2 with
    | false=>go_wp2_with fail;go_ret;exact⟨_,rfl,by simp,h.o⟩
    | true=>
      go_wp2_with fail;refine(o.o _ h.o).mono ?_;rintro e w3⟨b3,rfl,O,t⟩;have Y:=Aa O;have c:=Aa (Ap h.o t);have V:=Aa ((t.block _ (Ac m.o)).trans m.o);clear O t o y0 y1 y2 y3 y4 y5 y6 y7 yf;obtain⟨y0,y1,y2,y3,y4,y5,y6,y7,yf⟩:=F2 V.o;cases b3 with
      | false=>go_wp2_with fail;go_ret;exact⟨_,rfl,by simp,c.o⟩
      | true=>
        by_cases a1:R<=20
        ·have ac:¬(20:Int)<(R:Int):=by omega
         by_cases a2:A3.length<=10
         ·have ad:¬(10:Int)<(A3.length:Int):=by omega
          by_cases a3:nm.size<=60
          ·have ae:¬(60:Int)<(nm.size:Int):=by omega
           by_cases a4:z.size<=60
           ·have af:¬(60:Int)<(z.size:Int):=by omega
            have ab:=Aa d.o.wX;have aa:=Aa (d.o.A3.up c.o);go_wp2_with fail
            go_loopw [5] (λy wi=>∃j:Nat,j<=A3.length/\y=Zi j/\Hid (∀s∈A3.take j,s.2.2.2.size<=100)/\wi=w3) (λy _=>A3.length-(intOf y).toNat)
            case atStart=>exact⟨0,XB _,rfl,Aa (by simp),rfl⟩
            case round=>
             obtain⟨j,hj,rfl,L,rfl⟩:=hrel
             by_cases hjl:j<A3.length
             ·obtain⟨⟨sn,vk,vn,U⟩,g⟩:∃x,A3[j]? = some x:=⟨_,XC hjl⟩
              obtain⟨sb,so,aq,es,_,ao,b⟩:=aa.o.cons (by omega);injection es with aj _ ak;subst aj ak;have s0:=b j _ g 0 _ rfl;have s1:=b j _ g 1 _ rfl;have s2:=b j _ g 2 _ rfl;have s3:=b j _ g 3 _ rfl;simp only[XY] at s0;have m3:U.size<=maxLen:=(ab.o _ (XD g)).2;have al:(j:Int)<(A3.length:Int):=by omega
              have HV:=Aa g;clear b g
              by_cases a5:U.size<=100
              ·have ag:¬(100:Int)<(U.size:Int):=by omega
               have n:=Aa (My (P:=λv:Vi=>v.2.2.2.size<=100) L.o HV.o a5);go_wp2;exact⟨⟨j+1,by omega,by go_num,n,trivial⟩,by simp[intOf];omega⟩
              have ag:(100:Int)<(U.size:Int):=by omega
              go_wp2;go_ret;exact⟨_,rfl,by simp,c.o⟩
             have al:¬(j:Int)<(A3.length:Int):=by omega
             have n:=Aa (My (P:=λq:DdS=>U8 q) M.o HQ.o ⟨X.o trivial,Y.o trivial,a1,a2,O1 (P:=λv:Vi=>v.2.2.2.size<=100) L.o (show A3.length<=j by omega)⟩);go_wp2;exact⟨⟨k+1,by omega,by go_num,n,c⟩,by simp[intOf];omega⟩
           have af:(60:Int)<(z.size:Int):=by omega
           go_wp2_with fail;go_ret;exact⟨_,rfl,by simp,c.o⟩
          have ae:(60:Int)<(nm.size:Int):=by omega
          go_wp2_with fail;go_ret;exact⟨_,rfl,by simp,c.o⟩
         have ad:(10:Int)<(A3.length:Int):=by omega
         go_wp2_with fail;go_ret;exact⟨_,rfl,by simp,c.o⟩
        have ac:(20:Int)<(R:Int):=by omega
        go_wp2_with fail;go_ret;exact⟨_,rfl,by simp,c.o⟩
   have am:¬(k:Int)<(l.length:Int):=by omega
   have HF:=Aa (O1 (P:=λq:DdS=>U8 q) M.o (by omega));go_wp2;go_ret;exact⟨_,rfl,λ_=>HF.o,u.o⟩
 have I:(30:Int)<(l.length:Int):=by omega
 go_enter func4,ntmps4;go_wp2;go_ret;exact⟨_,rfl,by simp,XE _ _⟩
theorem AIz:(List.range 31).all (λi=>Bx (wK i))=true:=by kernel_rfl
theorem AGv(h:i<=30):Bx (wK i)=true:=List.all_eq_true.1 AIz i (List.mem_range.2 (by omega))
def nms:Nat->List ByteArray
 | 0=>[]
 | i+1=>wK i :: nms i
theorem AD3:∀(i k:Nat),i<=k->k<=600->¬wK k∈nms i
 | 0,_,_,_,h=>by cases h
 | i+1,k,h1,h2,h=>by
   rcases List.mem_cons.1 h with e|e
   ·have:=AHh (by omega) (by omega) e
    omega
   exact AD3 i k (by omega) h2 e
structure LwT(w0 w:World)(bb i m:Nat)(D:DataW Unit)(fs:List Int)(mv fv:Value)(H:List (Dn×Ah)):Prop where
 base:Ey w0 w 0 bb m D fs mv fv
 inv:Inv D H (nms i)
 Iz:H.length<=i
 AFx:m<=i*100
theorem LwT.sit{w0 w:Tw}{bb i m:Nat}{fs:List Int}{mv v:Tv}(h:LwT w0 w bb i m D fs mv v H)(b:i<=30)(a:B.Ob w0)(c:S.Lp w0):iK w0 w 0 bb m D fs mv v H (nms i) (wK i) :=
 ⟨h.base,h.inv,a,c,XB _,by have:=h.AFx;omega,by have:=h.Iz;omega,AGv b,by show 3<=12;decide,AFl i,AD3 i i (XA _) (by omega)⟩
theorem LwT.up{w0 w W:Tw}{bb i m:Nat}{D:Td}{fs:List Int}{mv v:Tv}{H:List (Dn×Ah)}(h:LwT w0 w bb i m D fs mv v H)(a:Zb w W):LwT w0 W bb i m D fs mv v H:=⟨h.base.up a,h.inv,h.Iz,h.AFx⟩
theorem uF(w:Tw)(a:Ik w)(g:Lw w)(f:Jp w):Ey w (w.alloc (Zk #[.map none,Zs none 0 0] 29)) 0 w.heap.size 0 (.map []) [] (.map none) (Zs none 0 0) :=
 ⟨B.AJj w,Zal,XA _,λk d=>(by cases d),a,g,f,λb off l c e=>(by cases e)⟩
theorem LwT.start(w:Tw)(a:Ik w)(c:Lw w)(b:Jp w):LwT w (w.alloc (Zk #[.map none,Zs none 0 0] 29)) w.heap.size 0 0 (.map []) [] (.map none) (Zs none 0 0) [] :=
 ⟨uF w a c b,Inv.nil,XA _,XA _⟩
theorem AHq(l:Mw)(w0:Tw)(bb i m:Nat)(D:Td)(fs:List Int)(mv t:Tv)(H:List (Dn×Ah))(x:J4)(g:To)(j:Nat)(p:To)(q:Nat)(pa:To)(o n:Nat)(r:To)(s:Nat)(w:Tw)(h:LwT w0 w bb i m D fs mv t H)(P:i<30)(I:B.Ob w0)(J:S.Lp w0)(L:K8 w x g j p q pa o n r s):
 Zc 6 #[Zp (some ⟨bb,0,none⟩),Zg #[Zi x.Qk,Zs g x.cols.length j,Zs p x.rows.length q,Zs pa o n,Zs r x.A3.length s,Zi x.change,Zt x.name,Zt x.tw],Zt (wK i)] w λe u=>∃k,e=Zr k/\∃M d a c b f,LwT w0 u bb (i+1) M d a c b f:=by
 obtain⟨xs,z⟩:=h.inv.wU H.length (XA _);refine(V1 l w0 0 bb m D fs mv t H (nms i) (wK i) xs x g j p q pa o n r s w (h.sit (by omega) I J) (by have:=h.Iz;omega) z L).mono ?_;intro e u G;obtain⟨k,rfl,n',d,a,c,b,f,v,N,_,_,y,_,O⟩:=G.wU;exact⟨k,rfl,n',d,a,c,b,f,v,y,by have:=h.Iz;omega,by have:=h.AFx;omega⟩
def cA:Aj:=(1,⟨#[97]⟩,1,false,0,0,⟨#[]⟩)
def iL:ByteArray:=⟨#[116]⟩
def Pz:ByteArray:=⟨#[117]⟩
def txV:ByteArray:=⟨#[118]⟩
def aT:List A5:=[(4,⟨#[]⟩,0,[],[cA],2)]
def sT:Ah:=⟨1,[cA],2,[]⟩
def R2:List (List V):=[[(1,1,⟨#[]⟩)],[(1,2,⟨#[]⟩)]]
def aU:List A5:=[(1,Bw Pz 0,2,[],[],0)]
def sU:Ah:=⟨2,[cA],2,[(Bw Pz 0,2,[])]⟩
def xU:List A6:=[((Bw Pz 0,2,[]),[cA],R2)]
def tV:S.CT:=.node 0 0 ⟨1,⟨#[97]⟩,1,1,⟨#[]⟩⟩ .nil .nil
def aV:List A5:=[(3,Bw Pz 0,0,[0],[],0)]
def sV:Ah:=⟨3,[cA],2,[(Bw Pz 0,2,[0])]⟩
def xV:List A6:=[((Bw Pz 0,2,[0]),[cA],R2)]
def H1:List (Dn×Ah):=[((iL,false,aT),sT)]
def H2:List (Dn×Ah):=[((iL,false,aT),sT),((Pz,false,aU),sU)]
def H3:List (Dn×Ah):=[((iL,false,aT),sT),((Pz,false,aU),sU),((txV,true,aV),sV)]
theorem AJd:Go.Proofs.YtcfgbbpgoailaaaGreatDoor.Be [cA] 2=true:=by kernel_rfl
theorem AIh:De [cA] R2=true:=by kernel_rfl
theorem AJ4:Ex [cA] tV=0:=by kernel_rfl
theorem ABN:Ct [cA] tV ((Bw Pz 0,2,[]),[cA],R2)=[0]:=by kernel_rfl
theorem AFC:(E4 [cA] ((Bw Pz 0,2,[]),[cA],R2)).length=2:=by kernel_rfl
theorem goV:xU.flatMap (Vm [cA] tV)=aV:=by show Vm [cA] tV ((Bw Pz 0,2,[]),[cA],R2)++[]=aV;unfold Vm;rw[ABN,AFC];rfl
theorem AKR:xU.filterMap (pO [cA] tV)=xV:=by
 have h:pO [cA] tV ((Bw Pz 0,2,[]),[cA],R2)=some ((Bw Pz 0,2,[0]),[cA],R2):=by unfold pO;rw[ABN,AFC];simp[N6,Ir]
 unfold xU xV;rw[YP,h];rfl
theorem AKF:Fc [cA] xV=[[(1,2,⟨#[]⟩)]]:=by kernel_rfl
theorem okT:Cv (iL,false,aT)=true:=by kernel_rfl
theorem okU:Cv (Pz,false,aU)=true:=by kernel_rfl
theorem okV:Cv (txV,true,aV)=true:=by kernel_rfl
theorem apT:Bi F6 (iL,false,aT) sT:=⟨by kernel_rfl,sT,.inr (.inr (.inr ⟨rfl,⟨(I9 _ _).1 (by kernel_rfl),by decide⟩,rfl⟩)),rfl⟩
theorem nX{s:Tb}{fs:List Int}{t:Ah}(g:Cv (s,a,A)=true)(e:Bi (Ae H H.length) (s,a,A) t)(f:fs=[])(h:AD8 (s,a,A) H fs H.length v):False:=by
 rcases h with h|⟨i,b,j,_,h⟩|⟨i,c,b,d,_⟩|⟨_,h⟩
 ·rw[g] at h;cases h
 ·have:i=H.length:=by omega
  subst this;exact h t e
 ·rw[Yb b] at d;cases d
 subst f;cases h
theorem apU:Bi sT (Pz,false,aU) sU:=⟨by kernel_rfl,sU,.inl ⟨rfl,⟨by kernel_rfl,by decide,by decide,by decide +kernel,(λe=>by cases e),by decide⟩,rfl⟩,rfl⟩
theorem AJN:Bt (bump sU).files (Bw Pz 0)=0:=by kernel_rfl
theorem AKq:sV=gJ (bump sU) (3,Bw Pz 0,0,[0],[],0):=by unfold gJ;simp only[AJN];simp[N6,Ir,sV,bump,sU]
theorem apV:Bi sU (txV,true,aV) sV:=⟨by kernel_rfl,sV,.inr (.inr (.inl ⟨rfl,⟨by decide +kernel,by kernel_rfl,by kernel_rfl⟩,AKq⟩)),rfl⟩
def dT:J4:=⟨0,[(0,⟨#[97]⟩,1,false,0,0,⟨#[]⟩)],[],[],0,⟨#[]⟩,⟨#[]⟩,λ_=>True⟩
def dU:J4:=⟨2,[],R2,[],0,⟨#[]⟩,⟨#[]⟩,λ_=>True⟩
def dV:J4:=⟨3,[],[],[],0,⟨#[]⟩,⟨#[]⟩,λT=>T=tV⟩
theorem mkT{D b:Td}{xs:List A6}{t:Tb}{rows:Int}(h:V7 D s xs t dT b a A rows):a=false/\A=aT:=by
 rcases h with⟨_,_,_,_,rfl,rfl,_⟩|⟨e,_⟩|⟨e,_⟩|⟨e,_⟩|⟨e,_⟩|⟨e,_⟩
 ·exact⟨rfl,rfl⟩
 all_goals exact absurd e (by decide)
theorem mkU{a:Td}{xs:List A6}{b:Bool}{rows:Int}(c:s.cols=[cA])(h:V7 D s xs Pz dU a b A rows):b=false/\A=aU/\a=D.put (B.lit (Eh (Bw Pz 0))) (Pa [cA] R2):=by
 rcases h with⟨e,_⟩|⟨e,_⟩|⟨_,_,_,rfl,rfl,rfl,_⟩|⟨e,_⟩|⟨e,_⟩|⟨e,_⟩
 rotate_left 2
 ·exact⟨rfl,rfl,by rw[c];rfl⟩
 all_goals exact absurd e (by decide)
theorem mkV{D b:Td}{t:Tb}{c:Bool}{rows:Int}(f:s.cols=[cA])(h:V7 D s xU t dV b c A rows):c=true/\A=aV/\b=D:=by
 rcases h with⟨e,_⟩|⟨e,_⟩|⟨e,_⟩|⟨_,T,d,_,_,rfl,rfl,rfl,_⟩|⟨e,_⟩|⟨e,_⟩
 rotate_left 3
 ·have a:T=tV:=d
  subst a;exact⟨rfl,by rw[f,goV],rfl⟩
 all_goals exact absurd e (by decide)
theorem AJW{w0 w W:Tw}{bb n:Nat}{fs:List Int}{mv:Tv}(h:Xt w0 w 0 bb n (.map []) fs mv [] [] iL [] dT e W):e=Zr Zn/\∃n' d b a c,Ey w0 W 0 bb n' d b a c/\n'<=n+100/\B.A0 (B.Own bb mv) w W/\(∀k,a=.map (some k)->mv=.map (some k)\/w.heap.size<=k)/\Inv d H1 [iL]:=by
 obtain⟨n',d,b,a,c,z,o,s,u,r,p,⟨rfl,j,x,A,rows,g,h⟩|⟨T,y,rfl,rfl,h⟩⟩:=h
 ·obtain⟨rfl,rfl⟩:=mkT g
  rcases h with⟨e,_⟩|⟨_,_,t,q,rfl,rfl⟩
  ·cases e
  obtain⟨rfl,_⟩:=Ry q;exact⟨rfl,n',_,b,a,c,o,s,u,r,p⟩
 exfalso
 rcases h with h|⟨j,x,A,rows,l,G,n1,v,m,g,D,f,i⟩
 ·rcases h.1 rfl with h|h
  ·have:=AJd
   rw[show Go.Proofs.YtcfgbbpgoailaaaGreatDoor.Be [cA] 2=false from h] at this;cases this
  exact h rfl
 obtain⟨rfl,rfl⟩:=mkT g;exact nX (H:=[]) okT apT (bJ f) i
theorem AKO(D:Td):C7 D sT []:=⟨⟨rfl,(λx a=>by cases a),XB _,by decide,λe=>by cases e⟩,(λx a=>by cases a),(λx a=>by cases a),(λx a=>by cases a)⟩
theorem AEL:K9 R2:=λr a v b=>by
 simp only[R2,XW,XP,or_false] at a
 rcases a with rfl|rfl <;> (simp at b;subst b;exact⟨by decide,by decide⟩)
theorem AI4{w0 w W:Tw}{bb n:Nat}{fs:List Int}{mv:Tv}(G:fs=[])(j:Inv D H1 [iL])(f:Maps.has D (B.lit (Eh (Bw Pz 0)))=false)(h:Xt w0 w 0 bb n D fs mv H1 [iL] Pz [] dU e W):e=.returned .nilIface/\∃n' g b a c,Ey w0 W 0 bb n' g b a c/\n'<=n+100/\B.A0 (B.Own bb mv) w W/\(∀k,a=.map (some k)->mv=.map (some k)\/w.heap.size<=k)/\Inv g H2 [Pz,iL]/\C7 g sU xU:=by
 obtain⟨n',g,b,a,c,P,u,J,L,I,v,⟨rfl,q,O,A,rows,o,h⟩|⟨T,y,rfl,rfl,h⟩⟩:=h
 ·obtain⟨rfl,rfl,rfl⟩:=mkU rfl o
  rcases h with⟨e,_⟩|⟨_,l,t,x,rfl,rfl⟩
  ·cases e
  have M:=eH x;subst M
  have m:C7 (D.put (B.lit (Eh (Bw Pz 0))) (Pa [cA] R2)) sU xU:=((AKO D).put f _).add (bD j.Lm.1 AIh AEL (by decide +kernel)) (λd z=>by
   have:d=cA:=by simpa[sT] using z
   subst this;decide) (by decide) 2
  exact⟨rfl,n',_,b,a,c,u,J,L,I,v,m.put ((l.Lm.2 1 (by decide)).2 (XA _)) _⟩
 exfalso
 rcases h with h|⟨q,O,A,rows,r,U,n1,N,s,o,R,i,p⟩
 ·rcases h.2.1 rfl with h|h|h
  ·cases h
  ·have:=AIh
   rw[show De [cA] R2=false from h] at this;cases this
  subst G;cases h
 obtain⟨rfl,rfl,_⟩:=mkU rfl o;exact nX (H:=H1) okU apU (bJ i) p
theorem AI9{w0 w W:Tw}{bb n:Nat}{fs:List Int}{mv:Tv}(g:Inv D H2 [Pz,iL])(x:C7 D sU xU)(h:Xt w0 w 0 bb n D fs mv H2 [Pz,iL] txV xU dV e W):e=Zr Zn/\∃n' d b a c,Ey w0 W 0 bb n' d b a c/\n'<=n+100/\B.A0 (B.Own bb mv) w W/\(∀k,a=.map (some k)->mv=.map (some k)\/w.heap.size<=k)/\Inv d H3 [txV,Pz,iL]/\C7 d sV xV:=by
 obtain⟨n',d,b,a,c,P,u,J,L,I,v,⟨rfl,q,O,A,rows,o,h⟩|⟨T,y,rfl,rfl,h⟩⟩:=h
 ·obtain⟨rfl,rfl,rfl⟩:=mkV rfl o
  rcases h with⟨e,_⟩|⟨_,j,t,z,rfl,rfl⟩
  ·cases e
  have M:=K6 z.2 apV.2;subst M;have G:Good Bv Cm sU:=(Jb g.past (i:=2) (XA _)).1
  have m:C7 q sV xV:=by have:=x.go G tV 3;rw[show sU.cols=[cA] from rfl,AKR] at this;exact this
  exact⟨rfl,n',_,b,a,c,u,J,L,I,v,m.put ((j.Lm.2 2 (by decide)).2 (XA _)) _⟩
 exfalso
 rcases h with h|⟨q,O,A,rows,r,U,n1,N,s,o,R,f,p⟩
 ·obtain⟨T,l,h⟩:=h.2.2.1 rfl
  have e:T=tV:=l;subst e
  rcases h with h|h
  ·cases h
  exact h AJ4
 obtain⟨rfl,rfl,_⟩:=mkV rfl o;exact nX (H:=H2) okV apV (bJ f) p
def AAx(s:Ah):Prop:=∀p∈s.files.map (·.1),Bx p=true
theorem AGm{s t:Ah}{a:A5}(h:pQ Bx Bv Cm s a t)(g:AAx s):AAx t:=by
 rcases h with⟨_,h,rfl⟩|⟨_,_,rfl⟩|⟨_,h,rfl⟩|⟨_,_,rfl⟩
 ·intro p c
  simp only[oE,XI,List.mem_append,WL,WM,List.mem_singleton] at c
  rcases c with c|rfl
  ·exact g p c
  exact h.1
 ·intro p c
  obtain⟨e,b,rfl⟩:=List.mem_map.1 c;exact g _ (List.mem_map.2 ⟨e,Yz b,rfl⟩)
 ·intro p c
  obtain⟨e,b,rfl⟩:=List.mem_map.1 c
  rcases Yr b with b|rfl
  ·exact g _ (List.mem_map.2 ⟨e,b,rfl⟩)
  by_cases hk:(Bt s.files a.2.1).toNat<s.files.length
  ·exact g _ (List.mem_map.2 ⟨_,bB hk,rfl⟩)
  simp only[gJ] at b;rw[List.set_eq_of_length_le (by omega)] at b;exact g _ (List.mem_map.2 ⟨_,b,rfl⟩)
 exact g
theorem AD2:∀{l:List A5}{s t:Ah},Il Bx Bv Cm s l t->AAx s->AAx t
 | [],_,_,h,g=>by simp only[Il] at h;subst h;exact g
 | _ :: _,_,_,⟨_,h1,h2⟩,g=>AD2 h2 (AGm h1 g)
theorem AC0:∀{s:Ah}{H:List (Dn×Ah)},Xv s H->AAx s->∀i,i<=H.length->AAx (Ic s (H.take i))
 | _,_,_,g,0,_=>by simpa[Ic] using g
 | _,x :: l,h,g,k+1,hk=>by have:=AC0 (s:=x.2) (H:=l) h.2.2 (AD2 h.1.2 g) k (by simpa using hk);simpa[Ic] using this
theorem AHD(h:La H)(a:i<=H.length):AAx (Ae H i):=AC0 h (λp b=>by cases b) i a
theorem ALH:Mm ⟨#[]⟩ 0 0 0 0=true:=by kernel_rfl
def zB:ByteArray:=⟨#[122]⟩
theorem ALL:∀i,¬zB∈nms i
 | 0,h=>by cases h
 | i+1,h=>by
   rcases List.mem_cons.1 h with e|e
   ·have:=congrArg ByteArray.size e
    revert this
    show ¬(1=3);decide
   exact ALL i e
theorem ALU:Bx zB=true:=by kernel_rfl
theorem LwT.ALy{w0 w:Tw}{bb i m:Nat}{fs:List Int}{mv v:Tv}(h:LwT w0 w bb i m D fs mv v H)(d:i<=30)(a:B.Ob w0)(b:S.Lp w0):iK w0 w 0 bb m D fs mv v H (nms i) zB :=
 ⟨h.base,h.inv,a,b,XB _,by have:=h.AFx;omega,by have:=h.Iz;omega,ALU,by show 1<=12;decide,λx c=>by have:x∈([122]:List UInt8):=c;obtain rfl:=List.mem_singleton.1 this;decide,ALL i⟩
def AIa(b:ByteArray)(l:List Aj)(a:List (List (List V))):List A6:=(a.zipIdx 0).map λq=>((Bw b q.2,(q.1.length:Int),[]),l,q.1)
def ALO(a:ByteArray):Prop:=Plain a/\Bx a=true/\∀k,k<=40->Bx (Bw a k)=true
theorem AJ1{s:Tb}(b:Plain s):∀(a:List (List (List V)))(k:Nat),k+a.length<=1000->((a.zipIdx k).map λq=>Bw s q.2).Nodup
 | [],_,_=>List.nodup_nil
 | p :: a,k,h=>by rw[List.zipIdx_cons,WL,List.nodup_cons];refine⟨λc=>?_,AJ1 b a (k+1) (by simp at h;omega)⟩;obtain⟨q,d,e⟩:=List.mem_map.1 c;have f:=X2 d;simp only[XJ] at h;have:=(S5 b b e).2 (by omega) (by omega);simp only at this;omega
theorem AIW{xs:List A6}{t:Tb}(j:Bool)(i:C7 D s xs)(c:Good Bv Cm s)(a:s.cols≠[])(b:ALO t):Bi s (t,j,(s.files.map λe=>((2,e.1,0,[],[],0):A5))++N5 t 0 (Gd (Fc s.cols xs))) ⟨s.Eb+1,s.cols,s.next,(AIa t s.cols (Gd (Fc s.cols xs))).map (·.1)⟩:=by
 have l:n60 (Fc s.cols xs).length<=40:=nH (by unfold Fc;rw[Y'];exact aN i c .nil);have f:=qO (nb:=Bx) (cb:=Bv) (fb:=Cm) s.files [] (bump s) (by simp[bump]) c.once
 have g:=AKc (nb:=Bx) (cb:=Bv) (fb:=Cm) (((Gd (Fc s.cols xs)).zipIdx 0).map λq=>(Bw t q.2,(q.1.length:Int))) ⟨(bump s).Eb,(bump s).cols,(bump s).next,[]⟩ (λe he=>by obtain⟨q,d,rfl⟩:=List.mem_map.1 he;have h:=X2 d;have k:=Xj (XD (List.mem_zipIdx_iff_getElem?.1 d));rw[Oz] at h;exact⟨b.2.2 _ (by omega),by show (1:Int)<=(q.1.length:Int);omega,by show (q.1.length:Int)<=60;omega⟩) a (by simp only[WM,X4,XZ];exact AJ1 b.1 _ 0 (by rw[Oz];omega)) (by simp[Oz];omega)
 refine⟨b.2.1,?_⟩
 have e:(AIa t s.cols (Gd (Fc s.cols xs))).map (·.1)=(((Gd (Fc s.cols xs)).zipIdx 0).map λq=>(Bw t q.2,(q.1.length:Int))).map λe=>(e.1,e.2,[]):=by unfold AIa;rw[XZ,XZ];rfl
 rw[AHC,e];exact tE f g
theorem ALR{xs:List A6}{t:Tb}(k:Bool)(h:C7 D s xs)(j:Good Bv Cm s)(g:AAx s)(d:ALO t):Cv (t,k,(s.files.map λe=>((2,e.1,0,[],[],0):A5))++N5 t 0 (Gd (Fc s.cols xs)))=true:=by
 have m:n60 (Fc s.cols xs).length<=40:=nH (by unfold Fc;rw[Y'];exact aN h j .nil);unfold Cv;simp only[Bool.and_eq_true,List.all_eq_true];refine⟨d.2.1,λa b=>?_⟩
 rcases List.mem_append.1 b with b|b
 ·obtain⟨e,i,rfl⟩:=List.mem_map.1 b
  show (Bx e.1 && _)=true;rw[g e.1 (List.mem_map.2 ⟨e,i,rfl⟩)];exact ALH
 obtain⟨q,c,rfl⟩:=List.mem_map.1 b;have f:=X2 c;have l:=Xj (XD (List.mem_zipIdx_iff_getElem?.1 c));rw[Oz] at f;show (rfB (Bw t q.2) (q.1.length:Int) && _)=true
 have:rfB (Bw t q.2) (q.1.length:Int)=true:=by unfold rfB;rw[d.2.2 _ (by omega),decide_eq_true (by omega),decide_eq_true (by omega)];rfl
 rw[this];exact ALH
theorem ALl{xs:List A6}(b:Tb)(a:∀p∈Gd (Fc s.cols xs),De s.cols p=true):Fc s.cols (AIa b s.cols (Gd (Fc s.cols xs)))=Fc s.cols xs:=by rw[sW];have:=AJ2 s.cols (Bw b) (Gd (Fc s.cols xs)) 0 a;rw[AKg] at this;exact this
theorem AMA{xs:List A6}(a:Tb)(Eb:Int)(m:Nat)(d:m=(Fc s.cols xs).length):Tog ⟨Eb,s.cols,s.next,(AIa a s.cols (Gd (Fc s.cols xs))).map (·.1)⟩ m/\((AIa a s.cols (Gd (Fc s.cols xs))).map (·.1)).length=n60 m:=by
 have b:((AIa a s.cols (Gd (Fc s.cols xs))).map (·.1)).length=n60 m:=by unfold AIa;rw[Y',Y',List.length_zipIdx,Oz,d]
 refine⟨⟨λe c=>?_,Nat.le_of_eq b⟩,b⟩;obtain⟨y,f,rfl⟩:=List.mem_map.1 c;obtain⟨q,_,rfl⟩:=List.mem_map.1 f;rfl
theorem AL9{xs:List A6}{t:Tb}(k:Maps.IsMap D)(i:C7 D s xs)(b:Good Bv Cm s)(l:∀c∈s.cols,Ib c)(m:Plain t)(x:t.size<=12)(g:s.cols≠[])(f:∀p∈Gd (Fc s.cols xs),De s.cols p=true):C7 (Km t s.cols 0 (Gd (Fc s.cols xs)) D) ⟨s.Eb+1,s.cols,s.next,(AIa t s.cols (Gd (Fc s.cols xs))).map (·.1)⟩ (AIa t s.cols (Gd (Fc s.cols xs))):=by
 have G:n60 (Fc s.cols xs).length<=40:=nH (by unfold Fc;rw[Y'];exact aN i b .nil)
 have d:∀p∈Gd (Fc s.cols xs),K9 p:=λp a r o v u=>by have j:=(Xj a).2.2 r o;unfold Fc at j;obtain⟨z,h,rfl⟩:=List.mem_map.1 j;exact(No i b l z h v u).1
 have e:=ABh t m x s.cols (Gd (Fc s.cols xs)) 0 D k (by rw[Oz];omega) (λp a=>⟨f p a,d p a⟩)
 exact AHL (M9 b) (We b) (s.Eb+1) _ (λy w=>by obtain⟨q,n,rfl⟩:=List.mem_map.1 w;exact⟨e q n,rfl,rfl⟩) (by simp[AIa,Oz];omega) g (ADC b)
def AMO(w0 w:World)(bb n:Nat)(mv:Value)(H:List (Dn×Ah))(U:List ByteArray)(i:ByteArray)(s:Ah)(xs:List A6)(e:Ending)(g:World):Prop :=
 ∃n' b c f d a,Ey w0 g 0 bb n' b c f d/\n'<=n+100/\B.A0 (B.Own bb mv) w g/\Inv b a (i :: U)/\a.length<=H.length+1 /\
  ((s.cols=[]/\e=.returned (.iface 47 (Zi 6))/\a=H) \/
   (s.cols≠[]/\e=.returned .nilIface/\(Tog s (Fc s.cols xs).length->a=H)/\∃h,C7 b (Ae a a.length) h/\(Ae a a.length).cols=s.cols/\Fc s.cols h=Fc s.cols xs/\Tog (Ae a a.length) (Fc s.cols xs).length))
theorem ALk{w0 w W:Tw}{bb n:Nat}{fs:List Int}{mv v:Tv}{p:Tb}{xs:List A6}{x:J4}(h:iK w0 w 0 bb n D fs mv v H U p)(u:C7 D (Ae H H.length) xs)(ht:ALO p)(hx:4<x.Qk)(hd:Xt w0 w 0 bb n D fs mv H U p xs x e W):AMO w0 w bb n mv H U p (Ae H H.length) xs e W:=by
 have j:=h.Of;have hN:=AHD h.inv.past (XA H.length);have ab:(Bo (Ae H H.length).cols .nil xs).1.length=(Fc (Ae H H.length).cols xs).length:=by unfold Fc;rw[Y']
 have J:∀{M:Td}{g:Bool}{A2:List A5}{a:Int},V7 D (Ae H H.length) xs p x M g A2 a->AEz D (Ae H H.length) xs p M g A2 a:=λG=>by
  rcases G with⟨q,_⟩|⟨q,_⟩|⟨q,_⟩|⟨q,_⟩|⟨q,_⟩|⟨_,q⟩
  ·omega
  ·omega
  ·omega
  ·omega
  ·omega
  exact q
 obtain⟨n',D',k,o,l,H',O,P,R,_,T,⟨rfl,D1,rd,A,rows,G,hc⟩|⟨ty,y,rfl,rfl,f⟩⟩:=hd
 ·obtain⟨d,_,_,i⟩:=J G
  rw[ab] at i
  rcases i with⟨b,rfl,rfl⟩|⟨b,I,rfl,rfl⟩
  ·rcases hc with⟨_,rfl,rfl⟩|⟨r,_⟩
   ·exact⟨n',_,k,o,l,_,O,P,R,T,X6 _,.inr ⟨d,rfl,λ_=>rfl,xs,u,rfl,rfl,b⟩⟩
   exact absurd rfl r
  have m:=Mq h.inv.past (XA H.length);have X:=AL9 h.inv.Lm.1 u j m h.plain h.short d I
  rcases hc with⟨r,_,_⟩|⟨r,hI,t,ha,rfl,rfl⟩
  ·exfalso
   have h0:=List.append_eq_nil_iff.1 r;have z:(Ae H H.length).files=[]:=by simpa using h0.1
   exact b ⟨(λe L=>by rw[z] at L;cases L),by rw[z];exact XB _⟩
  have Y:=AIW rd u j d ht;have N:=K6 ha.2 Y.2
  have hs:∀c:Dn,Ae (H++[(c,t)]) (H++[(c,t)]).length=t:=λc=>by rw[XN];exact AAM
  have hG:=AMA (s:=Ae H H.length) (xs:=xs) p ((Ae H H.length).Eb+1) _ rfl;refine⟨n',_,k,o,l,_,O,P,R,T,by simp,.inr ⟨d,rfl,λq=>absurd q b,AIa p (Ae H H.length).cols (Gd (Fc (Ae H H.length).cols xs)),?_,?_,ALl p I,?_⟩⟩
  ·rw[hs,N]
   exact X.put ((hI.Lm.2 H.length (by have:=h.O5;omega)).2 (XA _)) _
  ·rw[hs,N]
  rw[hs,N];exact hG.1
 rcases f with f|⟨M,g,A2,a,ac,af,n2,ae,ad,G,r,V,f⟩
 ·rcases f.2.2.2 (.inr hx) with⟨aa,L⟩|hq
  ·rw[L]
   exact⟨n',D',k,o,l,_,O,P,R,T,X6 _,.inl ⟨aa,rfl,rfl⟩⟩
  exact absurd rfl hq
 exfalso;obtain⟨d,_,_,i⟩:=J G
 rcases i with⟨_,_,e⟩|⟨_,_,_,e⟩
 ·exact r e
 subst e;exact nX (ALR g u j hN ht) (AIW g u j d ht) (bJ V) f
def dCq:J4:=⟨5,[],[],[],0,⟨#[]⟩,⟨#[]⟩,λ_=>True⟩
theorem AMc(W:Tw):K8 W dCq none 0 none 0 none 0 0 none 0:=by refine⟨.inl ⟨⟨_,_,rfl⟩,rfl⟩,(λc a=>by cases a),⟨[],⟨_,_,rfl,XB _,λh=>absurd rfl h⟩,rfl,λj x r hx _=>by simp at hx⟩,(λr hr=>by cases hr),⟨_,_,rfl,XB _,λh=>absurd rfl h⟩,XB _,(λs hs=>by cases hs),λV hV=>?_,XB _,⟨(λc a=>by cases a),XB _,(λr hr=>by cases hr),XB _,λs hs=>by cases hs⟩⟩;refine(S.V8 none 0 V).mono ?_;rintro e f⟨v,T,rfl,b,_,d⟩;exact⟨v,T,rfl,b,trivial,d⟩
theorem ALm(c:Mw)(w0:Tw)(bb n:Nat)(D:Td)(fs:List Int)(mv d:Tv)(H:List (Dn×Ah))(U:List Tb)(a:Tb)(xs:List A6)(w:Tw)(h:iK w0 w 0 bb n D fs mv d H U a)(b:H.length<40)(e:C7 D (Ae H H.length) xs)(g:ALO a):
 Zc 6 #[Zp (some ⟨bb,0,none⟩),Zg #[Zi 5,Zs none 0 0,Zs none 0 0,Zs none 0 0,Zs none 0 0,Zi 0,Zt ⟨#[]⟩,Zt ⟨#[]⟩],Zt a] w (AMO w0 w bb n mv H U a (Ae H H.length) xs) :=
 (V1 c w0 0 bb n D fs mv d H U a xs dCq none 0 none 0 none 0 0 none 0 w h b e (AMc w)).mono λ_ _ f=>ALk h e g (show (4:Int)<5 by decide) f
def zzB:ByteArray:=⟨#[122,122]⟩
theorem AME:Plain zB:=λx a=>by
 have:x∈([122]:List UInt8):=a;obtain rfl:=List.mem_singleton.1 this;decide
theorem AKj:Plain zzB:=λx a=>by
 have:x∈([122,122]:List UInt8):=a;simp at this;subst this;decide
theorem AMD:(List.range 41).all (λk=>Bx (Bw zB k))=true:=by kernel_rfl
theorem ALt:(List.range 41).all (λk=>Bx (Bw zzB k))=true:=by kernel_rfl
theorem AM1:ALO zB:=⟨AME,ALU,λk a=>List.all_eq_true.1 AMD k (List.mem_range.2 (by omega))⟩
theorem AML:ALO zzB:=⟨AKj,by kernel_rfl,λk a=>List.all_eq_true.1 ALt k (List.mem_range.2 (by omega))⟩
theorem AMV(i:Nat):¬zzB∈zB :: nms i:=λh=>by
 rcases List.mem_cons.1 h with e|e
 ·have:=congrArg ByteArray.size e
  revert this
  show ¬(2=1);decide
 revert e
 induction i with
 | zero=>intro e;cases e
 | succ i ih=>
   intro e
   rcases List.mem_cons.1 e with e|e
   ·have:=congrArg ByteArray.size e
    revert this
    show ¬(2=3);decide
   exact ih (Yg _ e) e
def AGA:Prop:=∀w:World,Ik w->Lw w->Jp w->B.Ob w->S.Lp w->Zc 5 #[] w λe a=>e=.returned (.bool true)/\Zb w a
theorem AMK(l:List Aj):∀xs:List A6,(∀x∈xs,(E4 l x).length<=60)->(xs.flatMap (E4 l)).length<=60*xs.length
 | [],_=>XA _
 | x :: xs,h=>by
   have b:=h x (Ye ..);have c:=AMK l xs λy a=>h y (Yg _ a)
   simp only[WD,XN,XJ];omega
theorem AMF{a:List A6}{n:Nat}(h:C7 D s a)(b:Good Bv Cm s)(e:(Fc s.cols a).length=n)(f:Tog s n):s.files.length=(n+59) / 60:=by
 have g:s.files.length=a.length:=by rw[<-h.Lz.files,Y']
 have i:=AMK s.cols a λx c=>by have j:=h.count b c;have k:=b.rows x.1 (by rw[<-h.Lz.files];exact List.mem_map.2 ⟨x,c,rfl⟩);omega
 have d:=f.2;rw[sW,Y'] at e;unfold n60 at d;omega
def ALi(w0 w:World)(bb:Nat)(mv:Value)(H:List (Dn×Ah))(e:Ending)(f:World):Prop :=
 e=.returned .nilIface/\B.A0 (B.Own bb mv) w f/\∃n' d a c b g,Ey w0 f 0 bb n' d a c b/\Inv d H g
theorem ALQ{w0 w W:Tw}{bb n:Nat}{mv:Tv}{t:Tb}{xs:List A6}(h:AMO w0 w bb n mv H U t s xs e W)(f:s.cols≠[])(m:Tog s (Fc s.cols xs).length):ALi w0 w bb mv H e W:=by
 obtain⟨n',k,a,j,b,o,c,_,g,d,_,⟨l,_,_⟩|⟨_,rfl,i,_⟩⟩:=h
 ·exact absurd l f
 obtain rfl:=i m;exact⟨rfl,g,n',k,a,j,b,_,c,d⟩
theorem AKb(a3:Mw)(db:AGA)(lv:Tv)(l:List DdS)(w:Tw)(hl:F7 8 AGa w lv l)(hr:∀q∈l,Nf w q)(he:Ik w)(hw:Lw w)(ht:Jp w)(hg:B.Ob w)(ho:S.Lp w):
 Zc 3 #[lv] w λe w'=>e=Zr (Zo true)/\Zb w w':=by
 have au:=Aa (Py lv l w hl hr);unfold Pb at au;have HL:=Aa hl;have HR:=Aa hr;have V:=Aa (Yad he (Yad hw (Yad ht (Yad hg ho))));obtain⟨la,lc,rfl,_⟩:=hl.slice;clear hl hr he hw ht hg ho;go_enter func3,ntmps3;go_wp2_with fail;refine au.o.mono ?_;rintro e w1⟨b1,rfl,cr,ci⟩;have s:=Aa ci;have ar:=Aa cr;clear ci cr au;cases b1 with
 | false=>go_wp2_with fail;go_ret;exact⟨rfl,s.o⟩
 | true=>
   have dw:=(ar.o rfl).1;have bq:=Aa (ar.o rfl).2;have b8:=Aa (db w1 (V.o.1.below s.o) (V.o.2.1.below s.o) (V.o.2.2.1.below s.o) (V.o.2.2.2.1.below s.o) (V.o.2.2.2.2.below s.o));clear ar;go_wp2_with fail;refine b8.o.mono ?_;rintro e f⟨rfl,cj⟩;have o:=Aa (Ap s.o cj);have b:Hid (Ik f/\Lw f/\Jp f/\B.Ob f/\S.Lp f):=Aa ⟨V.o.1.below o.o,V.o.2.1.below o.o,V.o.2.2.1.below o.o,V.o.2.2.2.1.below o.o,V.o.2.2.2.2.below o.o⟩;have b4:=Aa (LwT.start f b.o.1 b.o.2.1 b.o.2.2.1);clear cj b8 s V;go_wp2_with fail
   go_loopw [4] (λvi wr=>∃(i m:Nat)(D:Td)(fs:List Int)(mv fv:Tv)(H:List (Dn×Ah)),i<=l.length/\vi=Zi i/\Hid (LwT f wr f.heap.size i m D fs mv fv H)) (λvi _=>l.length-(intOf vi).toNat)
   case atStart=>exact⟨0,0,_,_,_,_,[],XB _,rfl,b4⟩
   case round=>
    obtain⟨i,m,D,fs,mv,fv,H,hi,rfl,I⟩:=hrel;clear b4
    by_cases hlt:i<l.length
    ·obtain⟨q,hq⟩:∃q,l[i]? = some q:=⟨_,XC hlt⟩
     have ac:=Aa (Ap o.o I.o.base.low);obtain⟨lb,v,ea,el,_,d4,a⟩:=HL.o.cons (by omega);injection el with c8 _ c9;subst c8 c9;have ct:=Aa ((HR.o q (XD hq)).at (bq.o q (XD hq)));have q0:=a i q hq 0 _ rfl;have q1:=a i q hq 1 _ rfl;have q2:=a i q hq 2 _ rfl;have q3:=a i q hq 3 _ rfl;have q4:=a i q hq 4 _ rfl;have q5:=a i q hq 5 _ rfl;have q6:=a i q hq 6 _ rfl;have q7:=a i q hq 7 _ rfl;simp only[XY] at q0;have df:(i:Int)<(l.length:Int):=by omega
     clear a hq;obtain⟨⟨wh,cols,rows,A3,ch,nm,tw,tr⟩,ca,cc,ra,rc,pa,pn,pc,sa,sc⟩:=q;simp only at q0 q1 q2 q3 q4 q5 q6 q7;have bw:=Aa (λW=>ADi i (by omega) W);have bm:=Aa (λW(hW:Zb wr W)=>AHq a3 f f.heap.size i m D fs mv fv H ⟨wh,cols,rows,A3,ch,nm,tw,tr⟩ ca cc ra rc pa pn pc sa sc W (I.o.up hW) (by omega) b.o.2.2.2.1 b.o.2.2.2.2 (ct.o.up (Ap ac.o hW)));have U:Hid (∀W,Zb w W->W.cell? ⟨lb,v+i*8,none⟩=some (Zi wh)/\W.cell? ⟨lb,v+i*8+1,none⟩=some (Zs ca cols.length cc)/\W.cell? ⟨lb,v+i*8+2,none⟩=some (Zs ra rows.length rc)/\W.cell? ⟨lb,v+i*8+3,none⟩=some (Zs pa pn pc)/\W.cell? ⟨lb,v+i*8+4,none⟩=some (Zs sa A3.length sc)/\W.cell? ⟨lb,v+i*8+5,none⟩=some (Zi ch)/\W.cell? ⟨lb,v+i*8+6,none⟩=some (Zt nm)/\W.cell? ⟨lb,v+i*8+7,none⟩=some (Zt tw)):=Aa λW hb=>⟨Ag hb q0,Ag hb q1,Ag hb q2,Ag hb q3,Ag hb q4,Ag hb q5,Ag hb q6,Ag hb q7⟩
     have ap:=Aa ((XE wr.heap.size wr).drew);clear q0 q1 q2 q3 q4 q5 q6 q7;obtain⟨q0,q1,q2,q3,q4,q5,q6,q7⟩:=U.o _ (Ap ac.o ap.o);go_wp2_with fail
     go_region_held3 (λW=>W.cell? ⟨lb,v+i*8,none⟩=some (Zi wh)/\W.cell? ⟨lb,v+i*8+1,none⟩=some (Zs ca cols.length cc)/\W.cell? ⟨lb,v+i*8+2,none⟩=some (Zs ra rows.length rc)/\W.cell? ⟨lb,v+i*8+3,none⟩=some (Zs pa pn pc)/\W.cell? ⟨lb,v+i*8+4,none⟩=some (Zs sa A3.length sc)/\W.cell? ⟨lb,v+i*8+5,none⟩=some (Zi ch)/\W.cell? ⟨lb,v+i*8+6,none⟩=some (Zt nm)/\W.cell? ⟨lb,v+i*8+7,none⟩=some (Zt tw))
      (first
        | exact U.o _ (Ap ac.o ap.o)
        | exact U.o _ (Ap ac.o P)
        | exact U.o _ (Ap o.o dc)
        | (go_keep;done)
        | fail)
      (first
        | (go_at_call 7
           refine(bw.o _).mono ?_;rintro e w3⟨rfl,al⟩;have P:=Ap ap.o al;clear al)
        | (go_at_call 6
           refine(bm.o _ P).mono ?_;rintro e w4⟨er,rfl,m',D',ax,T,ay,d,a5⟩;have dc:=a5.base.low;have cy:=Aa a5;clear a5)
        | fail)
     clear q0 q1 q2 q3 q4 q5 q6 q7 U bm bw;go_wp2;exact⟨⟨i+1,m',D',ax,T,ay,d,by omega,by go_num,cy⟩,by simp[intOf];omega⟩
    have df:¬(i:Int)<(l.length:Int):=by omega
    have dy:H.length<=30:=by have:=I.o.Iz;omega
    have cn:i<=30:=by omega
    obtain⟨xs,hT⟩:=I.o.inv.wU H.length (XA _);have bc:Good Bv Cm (Ae H H.length):=(Jb I.o.inv.past (i:=H.length) (XA _)).1;have HT:=Aa hT;have br:=Aa (ABH f.heap.size m D mv H (-1) H.length xs wr I.o.base.ground (b.o.2.2.2.1.below I.o.base.low) (b.o.2.2.2.2.below I.o.base.low) I.o.inv.Lm I.o.inv.past (by omega) (XA _) (.inl ⟨by omega,rfl⟩) hT.Lz);have bt:=Aa (λW(hW:Zb wr W)=>Ua f.heap.size m D mv H (-1) H.length W (I.o.base.ground.up hW) I.o.inv.Lm I.o.inv.past (by omega) (XA _) (.inl ⟨by omega,rfl⟩));have dr:(Fc (Ae H H.length).cols xs).length<=60*40:=by unfold Fc;rw[Y'];exact aN hT bc .nil
    have c0:Hid (∀r∈Fc (Ae H H.length).cols xs,r.length=(Ae H H.length).cols.length):=Aa (λr hr=>by rw[sW] at hr;obtain⟨z,hz,rfl⟩:=List.mem_map.1 hr;obtain⟨x,_,dl⟩:=List.mem_flatMap.1 hz;exact ADa dl)
    have h8:=M9 bc;have b7:=Aa (λW(hW:Zb wr W)=>(I.o.up hW).ALy cn b.o.2.2.2.1 b.o.2.2.2.2);clear hT bc HL HR bq;generalize cg:Fc (Ae H H.length).cols xs=R at *;have c5:=Aa cg;clear cg;go_wp2_with fail;refine br.o.mono ?_;rintro e w3⟨v3,rfl,a6,P⟩;obtain⟨ra,rc,rfl,d6⟩:=a6.slr.slice;have bg:=Aa P;have bx:=Aa (Sc.base a6 (XB _));have aj:=Aa (bt.o w3 P);clear P a6 br bt;go_wp2_with fail;refine aj.o.mono ?_;rintro e w5⟨a1,n1,c1,x2,a2,n2,c2,rfl,a8,ba⟩;unfold K4 at a8;unfold K4;have p:Zb w5 (w5.alloc (Zk #[Zi (H.length:Int),Zs a1 n1 c1,Zi x2,Zs a2 n2 c2] 44)):=Zal;have cd:=Aa (Y8 w5 (Zk #[Zi (H.length:Int),Zs a1 n1 c1,Zi x2,Zs a2 n2 c2] 44));have bh:=Aa (Ap bg.o (Ap ba p));have bz:=Aa (bx.o.up (Ap ba p))
    have dj:n1=(Ae H H.length).cols.length:=by obtain⟨b1,d1,b2,d2,t,ev,hV⟩:=a8;simp only[Value.agg.injEq,Array.mk.injEq,List.cons.injEq,Value.int.injEq,Value.slice.injEq] at ev;exact ev.2.1.2.1
    subst dj;have ad:=Aa (b7.o _ bh.o);have bl:Hid (Zc 6 #[Zp (some ⟨f.heap.size,0,none⟩),Zg #[Zi 5,Zs none 0 0,Zs none 0 0,Zs none 0 0,Zs none 0 0,Zi 0,Zt ⟨#[]⟩,Zt ⟨#[]⟩],Zt ⟨#[122]⟩] _ _):=Aa (ALm a3 f f.heap.size m D fs mv fv H (nms i) zB xs _ ad.o (by omega) HT.o AM1);clear p ba a8 aj b7 bx;go_wp2_with fail;refine bl.o.mono ?_;rintro e w7⟨n',D',ax,T,ay,d,az,di,bd,ce,dg,bb⟩;have ae:=Aa (Ut ad.o.base.bu bd cd.o (by decide));have b0:=Aa ((Mv.put (base:=0) bd ⟨λ_ e=>.inl e,B.St.refl _⟩).slO ad.o.base.bu bz.o);have G:=Aa az;have O:=Aa ce;have cv:=Aa (Ap o.o az.low);have d5:n'<=4000:=by have:=I.o.AFx;omega
    have dx:d.length<=31:=by omega
    clear az ce bd di dg bl ad cd bz bh bg
    rcases bb with⟨ck,rfl,_⟩|⟨cq,rfl,dk,ys,af,N,c,u⟩
    ·have z1:w7.cell? ⟨w5.heap.size,1,none⟩=some (Zs a1 0 c1):=by
      rw[S.cell_of_heap ae.o,ck];rfl
     have c6:=Aa (B.AGB 6 w7 (b.o.2.2.2.1.below G.o.low));clear ae ck;go_wp2_with fail;refine c6.o.mono ?_;rintro e w8⟨rfl,L⟩;have cw:=Aa (Ap cv.o L);clear L z1;go_wp2;go_ret;exact⟨rfl,cw.o⟩
    have d0:((Ae H H.length).cols.length:Int)≠0:=by intro h0;exact cq (Yac.1 (by omega))
    have z1:w7.cell? ⟨w5.heap.size,1,none⟩=some (Zs a1 (Ae H H.length).cols.length c1):=by rw[S.cell_of_heap ae.o];rfl
    have an:Good Bv Cm (Ae d d.length):=(Jb O.o.past (i:=d.length) (XA _)).1;rw[c5.o] at c u;have am:=AMF af an (n:=R.length) (by rw[N,c]) u;have cx:=Aa am;have c4:=Aa u.1;have aq:=Aa (ABH f.heap.size n' D' T d (-1) d.length ys w7 G.o.ground (b.o.2.2.2.1.below G.o.low) (b.o.2.2.2.2.below G.o.low) O.o.Lm O.o.past (by omega) (XA _) (.inl ⟨by omega,rfl⟩) af.Lz);rw[N,c] at aq;have bv:=Aa (λW(hW:Zb w7 W)=>Ua f.heap.size n' D' T d (-1) d.length W (G.o.ground.up hW) O.o.Lm O.o.past (by omega) (XA _) (.inl ⟨by omega,rfl⟩))
    have cu:Hid (∀W,Zb w7 W->Zc 6 #[Zp (some ⟨f.heap.size,0,none⟩),Zg #[Zi 5,Zs none 0 0,Zs none 0 0,Zs none 0 0,Zs none 0 0,Zi 0,Zt ⟨#[]⟩,Zt ⟨#[]⟩],Zt ⟨#[122,122]⟩] W (ALi f W f.heap.size T d)):=Aa (λW hW=>(ALm a3 f f.heap.size n' D' ax T ay d (zB :: nms i) zzB ys W ⟨G.o.up hW,O.o,b.o.2.2.2.1,b.o.2.2.2.2,XB _,by omega,by omega,AML.2.1,by show 2<=12;decide,AKj,AMV i⟩ (by omega) af AML).mono λe w' h=>ALQ h (by rw[N];exact cq) (by rw[N,c];exact u))
    clear dk af c u am an ae;go_wp2_with fail;refine aq.o.mono ?_;rintro e w8⟨v8,rfl,a7,L⟩;obtain⟨na,nc,rfl,_⟩:=a7.slr.slice;have bi:=Aa L;have b3:=Aa (Sc.base a7 (XB _));have b9:=Aa (b0.o.up L);have ak:=Aa (bv.o w8 L);clear L a7 aq bv z1 b0;go_wp2_with fail;refine ak.o.mono ?_;rintro e w9⟨b1,m1,d1,y2,b2,m2,d2,rfl,a9,ag⟩;unfold K4 at a9;unfold K4;have p:Zb w9 (w9.alloc (Zk #[Zi (d.length:Int),Zs b1 m1 d1,Zi y2,Zs b2 m2 d2] 44)):=Zal;have av:=Aa (Y8 w9 (Zk #[Zi (d.length:Int),Zs b1 m1 d1,Zi y2,Zs b2 m2 d2] 44));have bj:=Aa (Ap bi.o (Ap ag p));have b6:=Aa (Dl.up a9 p);have bs:=Aa (ACk (Zs ra R.length rc) (Zs na R.length nc) R _ (b9.o.up (Ap ag p)).slr (b3.o.up (Ap ag p)).slr (by omega) (λr hr=>by have:=c0.o r hr;omega));clear p ag a9 ak b9 b3 bi;go_wp2_with fail;refine bs.o.mono ?_;rintro e ai⟨rfl,M⟩;have bf:=Aa (Ap bj.o M);have Y:=Aa ((M.block _ (Ac av.o)).trans av.o);have b5:=Aa (Dl.up b6.o M);clear M bs bj av b6;obtain⟨g1,f1,g2,f2,t,ev,hV⟩:=b5.o;simp only[Value.agg.injEq,Array.mk.injEq,List.cons.injEq,Value.int.injEq,Value.slice.injEq] at ev;obtain⟨-,⟨e1,e2,e3⟩,-,⟨e4,e5,e6⟩,-⟩:=ev;subst e1 e2 e3 e4 e5 e6;have X:=Aa hV;have cm:(Ae d d.length).files.length=t.length:=by rw[hV.files,Y']
    have cf:t.length=(R.length+59) / 60:=by rw[<-cm];exact cx.o
    have dz:t.length<=40:=by omega
    have c3:=Aa cf;clear hV cm cf
    obtain⟨z0,z3⟩:ai.cell? ⟨w9.heap.size,0,none⟩=some (Zi (d.length:Int))/\ai.cell? ⟨w9.heap.size,3,none⟩=some (Zs b2 t.length d2):=by refine⟨?_,?_⟩ <;> (rw[S.cell_of_heap Y.o];rfl)
    go_wp2_with fail
    go_loopw [12] (λvi wi=>∃j:Nat,j<=t.length/\vi=Zi (j:Int)/\Hid (Zb ai wi)) (λvi _=>t.length-(intOf vi).toNat)
    case atStart=>exact⟨0,XB _,rfl,Aa (XE _ _)⟩
    case round=>
     obtain⟨j,hj,rfl,J⟩:=hrel
     by_cases hjl:j<t.length
     ·obtain⟨y,ah⟩:∃y,t[j]? = some y:=⟨_,XC hjl⟩
      have cl:(Ae d d.length).files[j]? = some y.1:=by rw[X.o.files,XO,ah];rfl
      have cp:=X.o.Cl y (XD ah);have co:=c4.o _ (XD cl);obtain⟨⟨dn,er,mask⟩,ma,mn,mc⟩:=y;simp only at co;subst co;obtain⟨eb,ec,em,_⟩:=Au cp
      have dh:mn=0:=by unfold sv at em;injection em with _ em _
      subst dh;have c:=X.o.row
      obtain⟨fb,dd,g2⟩:∃fb,b2=some ⟨fb,0,none⟩/\ai.cell? ⟨fb,j*3+2,none⟩=some (Zs ma 0 mc):=by
       rcases c.2 with⟨_,h0⟩|⟨fb,ds,dt,ev,_,hh,_,_,_⟩
       ·omega
       injection ev with da _ _;subst da;have hc:=c.cells (g:=fb) rfl;simp only[E.addr_add] at hc;have:=hc (j*3+2) _ (Hi (k:=3) (enc:=Lv) (λ_=>rfl) ah (show (Lv ((dn,er,[]),ma,0,mc))[2]? = some _ from rfl));exact⟨fb,rfl,by simpa using this⟩
      subst dd;replace g2:=Ag J.o g2;have cs:=Ag J.o z3;have de:(j:Int)<(t.length:Int):=by omega
      have d3:(0:Int)<=(j:Int):=by omega
      clear c cp em cl ah;go_wp2;exact⟨⟨j+1,by omega,by go_num,J⟩,by simp[intOf];omega⟩
     have de:¬(j:Int)<(t.length:Int):=by omega
     have cs:=Ag J.o z3;have dq:=Ag J.o z0;have HD:=Aa ((XE wr.heap.size wr).drew);have bk:=Aa (Ap (Ap bf.o J.o) HD.o);have bn:=Aa (cu.o wr.drew bk.o);have aw:=Aa (((Ap J.o HD.o).block _ (Ac Y.o)).trans Y.o)
     have HK:Hid (∀W:Tw,W.heap[w9.heap.size]? = some (Zk #[Zi (d.length:Int),Zs b1 (Ae d d.length).cols.length d1,Zi y2,Zs b2 t.length d2] 44)->W.cell? ⟨w9.heap.size,3,none⟩=some (Zs b2 t.length d2)/\W.cell? ⟨w9.heap.size,0,none⟩=some (Zi (d.length:Int))):=Aa λW hx=>by refine⟨?_,?_⟩ <;> (rw[S.cell_of_heap hx];rfl)
     have cz:=Aa (G.o.up bk.o).bu;have d7:IntKind.i64.wrap ((R.length:Int)+60)=(R.length:Int)+60:=by rw[IntKind.wrap_i64];omega
     have d8:IntKind.i64.wrap ((R.length:Int)+60-1)=(R.length:Int)+60-1:=by rw[IntKind.wrap_i64];omega
     have hQ:((R.length:Int)+60-1).tdiv 60=(t.length:Int):=by have:=c3.o;rw[XU (by omega)];omega
     have d9:IntKind.i64.wrap (t.length:Int)=(t.length:Int):=by rw[IntKind.wrap_i64];omega
     go_wp2_with fail;clear z0 z3 dq cs;obtain⟨z3,z0⟩:=HK.o _ aw.o
     go_region_held3 (λW=>W.cell? ⟨w9.heap.size,3,none⟩=some (Zs b2 t.length d2)/\W.cell? ⟨w9.heap.size,0,none⟩=some (Zi (d.length:Int)))
      (first
        | exact HK.o _ aw.o
        | exact HK.o _ aa.o
        | exact HK.o _ cb.o
        | (go_keep;done)
        | fail)
      (first
        | (go_at_call 6
           refine bn.o.mono ?_;rintro e dp⟨rfl,ao,n2,D2,du,dm,dv,U2,a0,a4⟩;have aa:=Aa (Ut cz.o ao aw.o (by decide));have c7:=Aa (qQ f.heap.size n2 D2 dm d dp a0.ground a4.Lm a4.past (by omega));have bo:=Aa (Ap o.o a0.low);clear ao a0 a4)
        | (go_at_call 12
           refine c7.o.mono ?_;rintro e ed⟨rfl,ab⟩;have cb:=Aa ((ab.block _ (Ac aa.o)).trans aa.o);have bp:=Aa (Ap bo.o ab);clear ab)
        | fail)
     all_goals
      clear z3 z0;go_wp2;go_ret;exact⟨rfl,bp.o⟩
def mO(e:Vc):Gx:=((2,e.1,0,[],[],0),(none,0,0),(none,0,0))
theorem sL(s:Ah)(v:Int)(a1:To)(n1 c1:Nat)(x2:Int)(V:To)(n2 c2:Nat)(w:Tw)(hS:Dl w s (K4 v a1 n1 c1 x2 V n2 c2))(O5:s.files.length<=1000)(hz:∀e∈s.files,e.1.size<=maxLen):
 Zc 60 #[Zs V n2 c2] w λe w'=>∃a c,e=Zr (Zs a s.files.length c)/\w'.ownsRow w.heap.size 131 6 (Zs a s.files.length c) s.files.length (Ci (s.files.map mO))/\Zb w w':=by
 obtain⟨b1,d1,b2,d2,Ls,x,X⟩:=hS;unfold K4 at x;simp only[Value.agg.injEq,Array.mk.injEq,List.cons.injEq,Value.int.injEq,Value.slice.injEq] at x;obtain⟨-,-,-,⟨e1,e2,e3⟩,-⟩:=x;subst e1 e3;have o:s.files.length=Ls.length:=by rw[X.files,Y']
 have r:=Aa o;have ac:n2=s.files.length:=by omega
 subst ac;have HV:=Aa X;obtain⟨iA,I,p⟩:=Option.map_eq_some_iff.1 gO;simp only[Prod.mk.injEq] at p;have h:=Aa (Yad I p);have HZ:=Aa hz;clear X o I p hz e2;go_enter func60,ntmps60;go_wp2_with fail
 go_loopw [3,8] (λvo vi wr=>∃(k:Nat)(a:To)(c:Nat),k<=s.files.length/\vi=Zi (k:Int)/\vo=Zs a k c/\Hid (wr.ownsRow w.heap.size 131 6 (Zs a k c) k (Ci ((s.files.take k).map mO)))/\Hid (Zb w wr)) (λ_ vi _=>s.files.length-Ev vi)
 case atStart=>exact⟨0,none,0,XB _,rfl,rfl,Aa (XK _ _ _ _),Aa (XE _ _)⟩
 case round=>
  obtain⟨k,a,c,hk,rfl,rfl,R,L⟩:=hrel
  rcases Yc k s.files.length with ah|ag
  ·obtain⟨y,q⟩:∃y,Ls[k]? = some y:=⟨_,XC (by have:=r.o;omega)⟩
   have D:s.files[k]? = some y.1:=by rw[HV.o.files,XO,q];rfl
   obtain⟨⟨b,M,mask⟩,ma,mn,mc⟩:=y;have f:=Bc HV.o.row L.o
   obtain⟨fb,Y,o,e0,e1,af⟩:∃fb,V=some ⟨fb,0,none⟩/\fb<wr.heap.size/\wr.cell? ⟨fb,k*3,none⟩=some (Zt b)/\wr.cell? ⟨fb,k*3+1,none⟩=some (Zi M)/\wr.cell? ⟨fb,k*3+2,none⟩=some (Zs ma mn mc):=by
    rcases f.2 with⟨_,h0⟩|⟨fb,ad,ae,x,_,hh,_,_,_⟩
    ·have:=r.o;omega
    injection x with W _ _;subst W;have hc:=f.cells (g:=fb) rfl;simp only[E.addr_add] at hc
    have n:∀(i:Nat)u,(Lv ((b,M,mask),ma,mn,mc))[i]? = some u->wr.cell? ⟨fb,k*3+i,none⟩=some u:=λi u N=>by have:=hc (k*3+i) u (Hi (k:=3) (enc:=Lv) (λ_=>rfl) q N);simpa using this
    exact⟨fb,rfl,E.Ac hh,n 0 _ rfl,n 1 _ rfl,n 2 _ rfl⟩
   subst Y;have ab:(k:Int)<(s.files.length:Int):=by omega
   have U:Hid ((s.files.take (k+1)).map mO=(s.files.take k).map mO++[mO (b,M,mask)]):=Aa (by rw[S.Cs D];simp);obtain⟨t0,t1,t2,t3⟩:=C1 wr (Zk #[Zt b,Zi M,Zs ma mn mc] 51) (Zk #[Zi 2,Zt b,Zi 0,Zs none 0 0,Zs none 0 0,Zi 0] 131);have l:=Aa t3;have P:=Aa t2;have J:=L.o.size;clear f q D t0 t1 t2 t3
   go_wp2_with (first
    | (at_builtin;refine wpList_append_own _ rfl _ _ 78 rfl w.heap.size 131 iA Mi 6 88 underlying78 h.o.1 h.o.2.1 h.o.2.2.1 h.o.2.2.2 rfl (by decide) (.slice a k c) k _ rfl (Bc R.o l.o) ⟨wr.heap.size+1,0,none⟩ 1 1 [Zi 2,.string b,Zi 0,.slice none 0 0,.slice none 0 0,Zi 0] rfl rfl (λj u hj=>XF P.o j u hj) (by intro u N;simp only[XW,XP,or_false] at N;rcases N with rfl|rfl|rfl|rfl|rfl|rfl <;> rfl) (by unfold maxLen;omega) (by omega) (XH J l.o.size) ?_
       intro v5 w5 d G _;have t:=Aa d;have O:=Aa G;clear d G))
   obtain⟨a',c',rfl,_⟩:=Au t.o;have z:=Ap L.o l.o;refine⟨⟨k+1,a',c',by omega,by simp,rfl,Aa ?_,Aa (z.grown O.o z.size (λj hj=>Fu R.o hj))⟩,by simp only[Ev];omega⟩;rw[U.o];simpa[Ci,nU,mO,sv] using t.o
  have ab:¬((k:Int)<(s.files.length:Int)):=by omega
  have aa:k=s.files.length:=by omega
  subst aa;have m:=R.o;rw[Yf] at m;have T:=Aa m;clear m;go_wp2;go_ret;exact⟨_,_,rfl,T.o,L.o⟩
def Uj(x:Ef):Bool:=decide (0<x.2.2.1)
theorem AES(w:Tw):PredBelow prog 95 #[] (λx:Ef=>Zg (Lv x).toArray) Uj w:=λW c hb=>by
 obtain⟨⟨p,r,m⟩,b,a,d⟩:=c;show Zc 95 #[Zg #[Zt p,Zi r,Zs b a d]] W _;have e:Hid (Uj ((p,r,m),b,a,d)=decide (0<a)):=rfl;generalize Uj ((p,r,m),b,a,d)=q at *
 by_cases hq:0<a
 ·have f:(0:Int)<(a:Int):=by omega
  go_enter func95,ntmps95;go_wp2
  all_goals (go_ret;exact⟨(by rw[e.o];simp[hq]),hb.alloc hb.size _⟩)
 have f:¬(0:Int)<(a:Int):=by omega
 go_enter func95,ntmps95;go_wp2
 all_goals (go_ret;exact⟨(by rw[e.o];simp[hq]),hb.alloc hb.size _⟩)
theorem dO(a:To)(c:Nat)(b:Tv)(w:Tw):Zc 152 #[Zs a 0 c,b] w λe d=>e=Zr (Zi (-1))/\d=w:=by go_enter func152,ntmps152;go_wp2_with fail;refine wp_loop_rounds 1 ?_;rw[rounds_succ];go_wp2;go_ret;exact⟨rfl,rfl⟩
theorem AF2(a:To)(c:Nat)(b:Tv)(w:Tw):Zc 94 #[Zs a 0 c,b] w λe d=>e=Zr (Zo false)/\d=w:=by go_enter func94,ntmps94;go_wp2_with fail;refine(dO a c _ _).mono ?_;rintro e f⟨rfl,rfl⟩;go_wp2;go_ret;exact⟨rfl,rfl⟩
theorem AGc(a:To)(c:Nat)(b:List Ef)(w:Tw)(h:w.ownsRow 0 51 3 (Zs a b.length c) b.length (A8 b))(y:b.length<=1000):
 Zc 94 #[Zs a b.length c,.func (.func 95) #[] #[]] w λe o=>e=Zr (Zo (b.any Uj))/\Zb w o:=by
 rcases h.2 with⟨e0,t⟩|⟨g,p,q,s,_,u,_,_,_⟩
 ·have:b=[]:=Yac.1 t
  subst this;refine(AF2 a c _ w).mono ?_;rintro e o⟨rfl,rfl⟩;exact⟨rfl,XE _ _⟩
 injection s with l _ _;subst l;have r:∀args w,(callFunc 95 args).run prog w=.ok (.enter 95 args) w:=enters_of func95 (by kernel_rfl) rfl
 have f:∀j,j<b.length->∀i v,(Lv b[j]!)[i]? = some v->w.cell? ⟨g,0+j*3+i,none⟩=some v:=λj n i v x=>by have m:=h.cells (g:=g) rfl;simp only[E.addr_add] at m;have:=m (j*3+i) v (Hi (k:=3) (enc:=Lv) (λ_=>rfl) (by rw[XC n,<-getElem!_pos b j n]) x);simpa using this
 have d:=AnyQ.slices_ContainsFunc layConE 3 isAgg51 sizeOf51 Lv (λ_=>rfl) Uj 95 #[] r g 0 b.length c b w (AES w) (XA _) (by omega) (E.Ac u) f;rw[Yf] at d;exact d
theorem AGE{w:Tw}{u:Tv}{d:List Ef}(h:X8 w s v u d):d.any Uj=!decide (∀e∈s.files,e.2.2=[]):=by
 have g:∀x∈d,x.2.2.1=x.1.2.2.length:=λx b=>by obtain⟨a,c,e,_⟩:=Au (h.Cl x b);obtain⟨_,m,n,o⟩:=x;unfold sv at e;injection e with _ e _
 rw[Bool.eq_iff_iff];simp only[List.any_eq_true,Bool.not_eq_true',decide_eq_false_iff_not,Uj,decide_eq_true_eq,h.files,List.mem_map];constructor
 ·rintro⟨x,b,f⟩j
  have i:=j _ ⟨x,b,rfl⟩;rw[g x b,i] at f;simp at f
 intro l;refine Classical.byContradiction λk=>l ?_
 rintro e⟨x,b,rfl⟩;refine Yac.1 (Classical.byContradiction λf=>k ⟨x,b,?_⟩);rw[g x b];omega
theorem nW(s:Ah)(v:Int)(o:To)(n1 c1:Nat)(D:Int)(i:To)(n2 j:Nat)(n:Nat)(w:Tw)(u:Dl w s (K4 v o n1 c1 D i n2 j))(O5:s.files.length<=1000)(N:n<=100000):
 Zc 57 #[Zs i n2 j,Zi (n:Int)] w λe y=>∃q,e=Zr (Zo q)/\(q=true↔Tog s n)/\Zb w y:=by
 obtain⟨I,L,J,M,c,k,g⟩:=u;unfold K4 at k;simp only[Value.agg.injEq,Array.mk.injEq,List.cons.injEq,Value.int.injEq,Value.slice.injEq] at k;obtain⟨-,-,-,⟨p,r,t⟩,-⟩:=k;subst p t;have f:s.files.length=c.length:=by rw[g.files,Y']
 have l:n2=c.length:=by omega
 subst l;have m:=AGE g;have a:=AGc i j c w g.row (by omega)
 have h:Hid ((!c.any Uj && decide (c.length<=(n+59) / 60))=true↔Tog s n):=Aa (by rw[m];unfold Tog n60;rw[f];simp)
 clear g f m r;generalize c.any Uj=z at *
 have x:(((n:Int)+60-1).tdiv 60)=(((n+59) / 60:Nat):Int):=by rw[XU (by omega)];omega
 have G:=Aa x;go_enter func57,ntmps57;go_wp2_with fail;refine a.mono ?_;rintro e O⟨rfl,d⟩;have b:=Aa d;clear d a;cases z with
 | true=>go_wp2;go_ret;exact⟨_,rfl,h.o,b.o⟩
 | false=>
   by_cases hle:c.length<=(n+59) / 60
   ·go_wp2
    go_ret;exact⟨true,(by simp;omega),(by simpa[hle] using h.o),b.o⟩
   go_wp2;go_ret;exact⟨false,(by simp;omega),(by simpa[hle] using h.o),b.o⟩
theorem cH:∀l:List Gx,(Ci l).length=l.length*6
 | []=>rfl
 | c :: l=>by simp only[Ci,WD,XN,XJ];have:=cH l;simp only[Ci] at this;rw[this];simp[nU];omega
theorem yB(l:List Gx):∀u∈Ci l,u.oneCell'=true:=by
 intro u b;simp only[Ci,List.mem_flatMap] at b;obtain⟨c,_,a⟩:=b;simp only[nU,XW,XP,or_false] at a
 rcases a with rfl|rfl|rfl|rfl|rfl|rfl <;> rfl
theorem iQ(a b:List Gx):Ci (a++b)=Ci a++Ci b:=by simp[Ci]
theorem pL(n:Nat):(Builtin.zeroCells Mi.cells n).size=n*6:=by simp[Builtin.zeroCells,show Mi.cells.size=6 from rfl]
theorem AB8(n:Nat)(w:Tw)(o:1<=n)(p:n<=1000):
 Zc 97 #[Zs none 0 0,Zi n] w λe i=>∃k j,e=Zr (Zs (some ⟨k,0,none⟩) 0 j)/\i.ownsRow w.heap.size 131 6 (Zs (some ⟨k,0,none⟩) 0 j) 0 (Ci [])/\Zb w i:=by
 obtain⟨m,f,b⟩:=Option.map_eq_some_iff.1 gO;simp only[Prod.mk.injEq] at b;obtain⟨g,l,h⟩:=b;refine(Any8.slices_Grow_grow layGroA m Mi f g (by omega) none 0 0 n [] w (XA _) (by omega) (by rw[h];omega) (by omega) (by simp) (λ_=>rfl) (λa ha=>by cases ha)).mono ?_;rintro e i⟨rfl,rfl⟩;have d:0+n<=grownCap w (0+n) 0 131:=grownCap_ge w _ _ _;have c:grownCap w (0+n) 0 131<=maxLen:=grownCap_le_maxLen w (0+n) 0 131 (by unfold maxLen;omega);refine⟨_,_,rfl,?_,((XE _ _).drew).alloc (XA _) _⟩
 change (w.drew.alloc (Zk (#[]++Builtin.zeroCells Mi.cells (0+n-0)++Builtin.zeroCells Mi.cells (grownCap w (0+n) 0 131-(0+n))) 131)).ownsRow w.heap.size 131 6 (Zs (some ⟨w.heap.size,0,none⟩) 0 (grownCap w (0+n) 0 131)) 0 []
 generalize grownCap w (0+n) 0 131=G at d c;exact YR (w:=w.drew) _ G (XA _) c (by simp only[Array.size_append,pL,Array.size_empty];omega)
theorem Oa{n:Array Oper}{rest:List Oper}{o:Oper}{a:Act}{Q:Exit->Act->Tw->Prop}{W:Tw}(i:o.guard=none)(s x:Operand)(z:o.op=.call { callee:=.builtin .append,args:=#[s,x],argTypes:=#[78,78] })(base g c:Nat)(l:List Gx)(D:a.eval s=Zs (some ⟨g,0,none⟩) l.length c)(b:W.ownsRow base 131 6 (Zs (some ⟨g,0,none⟩) l.length c) l.length (Ci l))(L:Nat)(J:Tv)(m:List Gx)(G:a.eval x=J)(y:W.ownsRow L 131 6 J m.length (Ci m))(U:l.length+m.length<=1000)(e:base<=W.heap.size)(h:∀q f p,Hid (p.ownsRow base 131 6 (Zs (some ⟨q,0,none⟩) (l.length+m.length) f) (l.length+m.length) (Ci (l++m))/\W.grownBy p (some g))->wpList prog n Q rest (a.put o.dst (Zs (some ⟨q,0,none⟩) (l.length+m.length) f)) p):wpList prog n Q (o :: rest) a W:=by
 obtain⟨I,j,k⟩:=Option.map_eq_some_iff.1 gO;simp only[Prod.mk.injEq] at k;obtain⟨r,t,u⟩:=k
 rcases Di y with⟨d,O⟩|⟨v,N,d,-,-,-,-⟩
 ·have:m=[]:=Yac.1 O
  subst this d;refine wpList_append_own_none i s x 78 z base 131 I 6 underlying78 j _ _ _ D b G ?_;exact h g c W ⟨by simpa using b,World.grownBy.refl _ _⟩
 subst d;have T:=y.cells (g:=v) rfl;refine wpList_append_own W i s x 78 z base 131 I Mi 6 88 underlying78 j r t u rfl (by omega) _ _ _ D b ⟨v,0,none⟩ m.length N (Ci m) G (cH m) T (yB m) (by unfold maxLen;omega) (by omega) e ?_;intro v' p w P R
 rcases Di w with⟨d,_⟩|⟨q,M,d,-,-,-,-⟩
 ·exact absurd (R.1 d).1 (by simp)
 subst d;exact h q M p ⟨by rw[iQ];exact w,P⟩
theorem uO(p:Nat)(n o:To)(c1 q:Nat)(a b:List Gx)(u v:Nat)(w:Tw)(s:w.cell? ⟨p,0,none⟩=some (Zs n a.length c1))(t:w.cell? ⟨p,1,none⟩=some (Zs o b.length q))(J:p<w.heap.size)(G:w.ownsRow u 131 6 (Zs n a.length c1) a.length (Ci a))(I:w.ownsRow v 131 6 (Zs o b.length q) b.length (Ci b))(V:1<=a.length+b.length)(X:a.length+b.length<=1000):
 Zc 59 #[Zs (some ⟨p,0,none⟩) 2 2] w λe m=>∃i h,e=Zr (Zs (some ⟨i,0,none⟩) (a.length+b.length) h)/\m.ownsRow w.heap.size 131 6 (Zs (some ⟨i,0,none⟩) (a.length+b.length) h) (a.length+b.length) (Ci (a++b))/\Zb w m:=by
 have O:Hid (Zc 97 #[Zs none 0 0,Zi ((a.length:Int)+(b.length:Int))] w λe m=>∃i h,e=Zr (Zs (some ⟨i,0,none⟩) 0 h)/\m.ownsRow w.heap.size 131 6 (Zs (some ⟨i,0,none⟩) 0 h) 0 (Ci [])/\Zb w m):=by have:=AB8 (a.length+b.length) w V X;rwa[show ((a.length+b.length:Nat):Int)=(a.length:Int)+(b.length:Int) by omega] at this
 have M:=Aa G;have N:=Aa I;have x:Hid (∀W,Zb w W->W.cell? ⟨p,0,none⟩=some (Zs n a.length c1)/\W.cell? ⟨p,1,none⟩=some (Zs o b.length q)):=λW D=>⟨(D.cell (p:=⟨p,0,none⟩) J).trans s,(D.cell (p:=⟨p,1,none⟩) J).trans t⟩
 clear G I;have n1:¬(a.length:Int)<0:=by omega
 have n2:¬(a.length:Int)+(b.length:Int)<0:=by omega
 have Y:IntKind.i64.wrap ((a.length:Int)+(b.length:Int))=(a.length:Int)+(b.length:Int):=by rw[IntKind.wrap_i64];omega
 have n4:IntKind.i64.wrap (a.length:Int)=(a.length:Int):=by rw[IntKind.wrap_i64];omega
 go_enter func59,ntmps59;go_wp2;refine wp_loop_rounds 3 ?_;rw[rounds_succ];go_wp2;rw[rounds_succ];go_wp2;rw[rounds_succ]
 go_wp2_with (first
  | (go_at_call 97;refine O.o.mono ?_;rintro e w1⟨T,P,rfl,k,c⟩;obtain⟨r0,r1⟩:=x.o _ c))
 refine wp_loop_rounds 3 ?_;rw[rounds_succ];go_wp2_with (at_builtin;refine Oa rfl _ _ rfl w.heap.size T P [] rfl k u _ a rfl (Bc M.o c) (by simp;omega) c.size ?_;intro z y L f;have d:Zb w L:=c.grown f.o.2 c.size (λj hj=>by cases hj;exact(k.lt _ rfl).1);obtain⟨s0,s1⟩:=x.o _ d;have g:Hid (L.ownsRow w.heap.size 131 6 (Zs (some ⟨z,0,none⟩) a.length y) a.length (Ci a)):=Aa (by have:=f.o.1;simpa using this);clear f);rw[rounds_succ];go_wp2_with (at_builtin;refine Oa rfl _ _ rfl w.heap.size z y a rfl g.o v _ b rfl (Bc N.o d) (by omega) d.size ?_;intro U R w5 l;have r:Zb w w5:=d.grown l.o.2 d.size (λj hj=>by cases hj;exact(g.o.lt _ rfl).1));rw[rounds_succ];go_wp2;go_ret;exact⟨U,R,rfl,l.o.1,r⟩
attribute [local go_sem] Oper.semAt_some
theorem qS(b:To)(len a:Nat)(w:Tw):
 Zc 58 #[Zs b len a,Zi 60] w λe c=>e=Zr (.func (.func 96) #[] #[Zp (some ⟨w.heap.size,0,none⟩),Zp (some ⟨w.heap.size+1,0,none⟩)])/\c=(w.alloc (Zk #[Zs b len a] 34)).alloc (Zk #[Zi 60] 3):=by
 go_enter func58,ntmps58;go_wp2;go_ret;exact⟨rfl,rfl⟩
abbrev CK6(n:Nat):={ k:Nat // 60*k<n }
def AG1{n:Nat}(x:CK6 n):Nat:=x.1
def nE(n k:Nat):Nat:=if n-60*k<60 then n-60*k else 60
def ACt(b off n:Nat)(k:CK6 n):Value:=.slice (some ⟨b,off+60*k.1,none⟩) (nE n k.1) (nE n k.1)
theorem xD(n:Nat)(_hn:1<=n)(l h g b off len a:Nat)(r:To)(d:0<len->r=some ⟨b,off,none⟩)(hlen:len<=100000)(N:len<=a)(J I:List (CK6 len)->Tw->Prop)(y:∀pre W,J pre W->J pre W.drew)(hY:∀pre x W,J pre W->pre.length<n60 len->YieldAt Fence.wide (n-1) prog l #[ACt b off len x] W λe f=>
   (e=Zr (Zo true)/\J (pre++[x]) f/\KpC h g W f)\/(e=Zr (Zo false)/\I (pre++[x]) f))(W:Tw)(u:W.cell? ⟨h,0,none⟩=some (Zs r len a))(t:W.cell? ⟨g,0,none⟩=some (Zi 60))(h0:J [] W):
 CallsIn Fence.wide n prog 96 #[.func (.yield l) #[] #[],Zp (some ⟨h,0,none⟩),Zp (some ⟨g,0,none⟩)] W λe f=>(∃v,e=Zr v) /\
  ((∃T:List (CK6 len),T.map AG1=List.range (n60 len)/\J T f)\/(∃pre:List (CK6 len),True/\I pre f)):=by
 refine callsIn_of_wp func96 rfl trivial ?_ rfl;simp only[ntmps96,WE,XJ,WK,Nat.reduceAdd,Nat.reduceSub,X',Wb,WG,WB,X4,WI];gi_wp2
 gi_loopw [4] (λi wr=>∃(k:Nat)(pre:List (CK6 len)),k<=n60 len/\i=Zi ((60*k:Nat):Int)/\pre.map AG1=List.range k/\J pre wr/\wr.cell? ⟨h,0,none⟩=some (Zs r len a)/\wr.cell? ⟨g,0,none⟩=some (Zi 60))
  (λi _=>len+60-(intOf i).toNat)
 case atStart=>exact⟨0,[],XB _,rfl,rfl,h0,u,t⟩
 case round=>
  obtain⟨k,pre,hk,rfl,c,j,R,q1⟩:=hrel;have D:pre.length=k:=by have:=congrArg List.length c;simpa using this
  by_cases hlt:60*k<len
  ·obtain⟨fn,tmps,assign,body,G,hR⟩:=hY pre ⟨k,hlt⟩ wr.drew (y _ _ j) (by rw[D];unfold n60;omega)
   have s:Hid (60*k<len):=Aa hlt;have z:k<n60 len:=by unfold n60;omega
   obtain⟨m,q⟩:∃m,60*k=m:=⟨_,rfl⟩;have M:nE len k=(((m:Int)+min 60 ((len-m:Nat):Int)).toNat-m):=by unfold nE;rw[q];split <;> omega
   unfold ACt at G;dsimp only at G;rw[M,q] at G;rw[q] at hlt ⊢;have O:(m:Int)<(len:Int):=by omega
   have P:(m:Int)<=(len:Int):=by omega
   have ac:(0:Int)<=(m:Int):=by omega
   have aa:¬a=m:=by omega
   have ad:m<=a:=by omega
   have U:=Aa q;have X:=Aa R;rw[d (by omega)] at R;have V:=Aa d;clear d;clear M q;gi_wp2;refine wpIn_wide.2 ?_
   go_region
   all_goals gi_wp2
   refine hR.mono ?_;rintro e L (⟨rfl,w,p⟩|⟨rfl,o⟩)
   ·have p0:L.cell? ⟨h,0,none⟩=some (Zs r len a):=p.1.trans X.o
    have p1:L.cell? ⟨g,0,none⟩=some (Zi 60):=p.2.trans q1;gi_wp2
    go_roundw
    case rel=>
     refine⟨k+1,pre++[⟨k,s.o⟩],z,?_,?_,w,p0,p1⟩
     ·have:=U.o
      congr 1;omega
     rw[XI,c,List.range_succ];rfl
    case measure=>simp[intOf];omega
   gi_wp2;refine bodyPost_ret (results_none rfl _ _ _) rfl ?_;exact⟨⟨_,rfl⟩,.inr ⟨_,trivial,o⟩⟩
  have ab:¬((60*k:Nat):Int)<(len:Int):=by omega
  have Y:k=n60 len:=by unfold n60 at hk ⊢;omega
  gi_wp2
  go_end0
  exact⟨⟨_,rfl⟩,.inl ⟨pre,by rw[c,Y],j⟩⟩
theorem jC(n:Nat)(o:1<=n)(d c b off len a:Nat)(k:To)(j:0<len->k=some ⟨b,off,none⟩)(hlen:len<=100000)(f:len<=a)(w:Tw)(i:d<w.heap.size)(g:c<w.heap.size)(q:w.cell? ⟨d,0,none⟩=some (Zs k len a))(m:w.cell? ⟨c,0,none⟩=some (Zi 60)):
 SeqStopsK Fence.wide n prog 96 #[Zp (some ⟨d,0,none⟩),Zp (some ⟨c,0,none⟩)] (λx:CK6 len=>#[ACt b off len x]) (KpC d c) (λys=>ys.map AG1=List.range (n60 len)) (λ_=>True) (n60 len) w:=λl J Jx W hW hJ _ hY h0=>
 xD n o l d c b off len a k j hlen f J Jx (λpre W h=>hJ pre W _ none h ⟨rfl,rfl,rfl,XA _,λ_ _ _=>rfl⟩ (λr e=>by cases e)) hY W ((hW.cell (p:=⟨d,0,none⟩) i).trans q) ((hW.cell (p:=⟨c,0,none⟩) g).trans m) h0
variable{W w:Tw}{u v:Tv}{i:Nat}{s:Ah}{L:List Gx}{D:Td}{x:Int}{R:List (List V)}
theorem qF{b off n c:Nat}{rows:List (List V)}(h:iJ w (Zs (some ⟨b,off,none⟩) n c) rows)(J:n=rows.length)(k:CK6 rows.length):iJ w (ACt b off rows.length k) (Gg rows k.1):=by
 obtain⟨m,q,s,t⟩:=h;have I:=k.2;obtain⟨z,l,D,e,G,v,a⟩:=q.cons (by omega);injection e with g _ _;injection g with g;injection g with o p _;subst o p;have y:(Gg rows k.1).length=nE rows.length k.1:=by simp only[Gg,XQ,WJ,nE];split <;> omega
 have d:((m.drop (60*k.1)).take 60).length=nE rows.length k.1:=by simp only[XQ,WJ,nE,s];split <;> omega
 refine⟨(m.drop (60*k.1)).take 60,⟨_,nE rows.length k.1,by rw[d];rfl,by rw[d];exact XA _,λ_=>⟨b,off+60*k.1,rfl,v,λj x hx i u hu=>?_⟩⟩,by rw[y,d],λj x r hx hr=>?_⟩
 ·have f:j<60:=by have:=Ax hx;rw[XQ] at this;omega
  rw[Ym f,XV] at hx;have:=a (60*k.1+j) x hx i u hu;rwa[show off+(60*k.1+j)*1+i=off+60*k.1+j*1+i by omega] at this
 have f:j<60:=by have:=Ax hx;rw[XQ] at this;omega
 rw[Ym f,XV] at hx;unfold Gg at hr;rw[Ym f,XV] at hr;exact t _ x r hx hr
theorem jX(b:Tb)(l:List Aj)(p:List (List V)):∀(a:List (List (List V)))(k:Nat)(D:Td),Km b l k (a++[p]) D=(Km b l k a D).put (B.lit (Eh (Bw b (k+a.length)))) (Pa l p)
 | [],k,D=>by simp[Km]
 | q :: a,k,D=>by show Km b l (k+1) (a++[p]) _=_;rw[jX b l p a (k+1)];simp only[Km,XJ];rw[show k+1+a.length=k+(a.length+1) by omega]
theorem ACh(b:Tb)(k:Nat)(a:List (List (List V)))(p:List (List V)):N5 b k (a++[p])=N5 b k a++[(1,Bw b (k+a.length),(p.length:Int),[],[],0)]:=by unfold N5;rw[List.zipIdx_append];simp
theorem eQ(b:Tb)(k:Nat)(a:List (List (List V))):(N5 b k a).length=a.length:=by simp[N5]
theorem V4{b e z n:Nat}{xs:List Tv}{row:Option Nat}(h:w.ownsRow b e z v n xs)(m:w.grownBy W row)(p:∀r,row=some r->∃o:Obj,w.heap[r]? = some o/\o.isCells=false):W.ownsRow b e z v n xs:=by
 refine⟨h.1,?_⟩
 rcases h.2 with k|⟨g,c,a,q,d,f,i⟩
 ·exact .inl k
 refine .inr ⟨g,c,a,q,d,(m.block g (Ac f) (λe=>?_)).trans f,i⟩;obtain⟨o,j,l⟩:=p g e.symm;rw[f] at j;cases j;cases l
theorem vX{cs:Array Tv}{t:TypeId}{row:Option Nat}(h:w.heap[i]? = some (Zk cs t (0,0)))(c:w.grownBy W row)(d:∀r,row=some r->∃o:Obj,w.heap[r]? = some o/\o.isCells=false):W.heap[i]? = some (Zk cs t (0,0)):=by refine(c.block i (Ac h) (λe=>?_)).trans h;obtain⟨o,a,b⟩:=d i e.symm;rw[h] at a;cases a;cases b
theorem Dv.no{base:Nat}{n:Nat}{v:Int}{d:To}{n1 c1:Nat}{y:Int}{f:To}{n2 k:Nat}{t:Tb}{l:Bool}{g:To}{rows:Int}{row:Option Nat}(h:Dv base w n s v d n1 c1 y f n2 k t l g i L rows)(a:w.grownBy W row)(b:∀r,row=some r->∃o:Obj,w.heap[r]? = some o/\o.isCells=false):Dv base W n s v d n1 c1 y f n2 k t l g i L rows:=by refine⟨vX h.box a b,?_,V4 h.row a b,λq j=>⟨V4 (h.own q j).1 a b,V4 (h.own q j).2 a b⟩,h.Vv,h.low⟩;obtain⟨p,z,u,D,m,e,c⟩:=h.snap;exact⟨p,z,u,D,m,e,V4 c.cols a b,c.files,V4 c.row a b,λx G=>V4 (c.Cl x G) a b⟩
theorem bF{w0 w W:Tw}{j bb n d:Nat}{fs:List Int}{row:Option Nat}{B0:Nat}(h:Ey w0 w j bb n D fs (.map (some d)) v)(s:d<B0)(u:w0.heap.size<=B0)(a:w.grownBy W row)(f:∀r,row=some r->B0<=r/\∃o:Obj,w.heap[r]? = some o/\o.isCells=false):Ey w0 W j bb n D fs (.map (some d)) v:=by
 have l:B.A0 (λi=>row=some i) w W:=⟨a.os,a.tape,a.output,a.size,λk s hn=>a.block k s (λe=>hn e.symm)⟩;refine⟨h.bu.only l (λe=>?_) (λm e q=>?_) (λp x b q=>?_),l.below h.low h.low.size (λi q=>XH u (f i q).1),h.hb,h.hm,h.er,h.nc,h.tb,h.hf⟩
 ·obtain⟨_,o,c,b⟩:=f bb e
  have g:w.heap[bb]? = _:=h.bu.1;rw[g] at c;cases c;cases b
 ·cases e
  have:=(f _ q).1;omega
 obtain⟨_,o,c,t⟩:=f _ q;unfold World.cell? at b;rw[c] at b;cases o <;> simp_all [Obj.isCells]
def CmI(w0:World)(e bb n:Nat)(D:DataW Unit)(c base l:Nat)(s:Ah)(v:Int)(f:Option Addr)(n1 c1:Nat)(m:Int)(g:Option Addr)(n2 j:Nat)(d:ByteArray)(rows:Int)(R:List (List V))(W8:World)(pre:List (CK6 R.length))(W:World):Prop :=
 ∃n' a b h i L,Ey w0 W e bb n' (Km d s.cols 0 (pre.map λk=>Gg R k.1) D) a (.map (some c)) b/\n'<=n+pre.length/\Dv base W l s v f n1 c1 m g n2 j d true h i L rows /\
  L.map (·.1)=N5 d 0 (pre.map λk=>Gg R k.1)/\(∀k∈pre,De s.cols (Gg R k.1)=true)/\Mv base bb (.map (some c)) (.map (some c)) W8 W
theorem CmI.own{w0:Tw}{k bb n:Nat}{i base j:Nat}{v:Int}{l:To}{n1 c1:Nat}{p:To}{n2 d:Nat}{t:Tb}{rows:Int}{W8:Tw}{B0:Nat}(J:i<B0)(N:w0.heap.size<=B0)(O:W8.heap.size<=B0):OwnFrom B0 (CmI w0 k bb n D i base j s v l n1 c1 x p n2 d t rows R W8):=λpre A C row M f g=>by
 obtain⟨n',a,b,q,u,L,w,y,z,G,I,c⟩:=M;have h:∀r,row=some r->∃o:Obj,A.heap[r]? = some o/\o.isCells=false:=λr e=>(g r e).2
 exact⟨n',a,b,q,u,L,bF w J N f g,y,z.no f h,G,I,⟨c.only.grown f (λm e P=>by have:=(g m e).1;omega),c.link,c.stay⟩⟩
theorem CmI.keeps{w0:Tw}{i bb n:Nat}{fs:List Int}{j base:Nat}{B0:Nat}(h:Ey w0 W i bb n D fs (.map (some j)) v)(l:j<B0)(d:Mv base bb (.map (some j)) (.map (some j)) W w):KeepsFrom B0 W w:=by
 refine⟨d.only.size,λk o g a c=>(d.only.block k (Array.getElem?_eq_some_iff.1 a).1 ?_).trans a⟩;rintro((e|e)|⟨_,cs,T,f,_⟩)
 ·subst e
  have b:W.heap[k]? = _:=h.bu.1;rw[b] at a;cases a;cases c
 ·cases e
  omega
 rw[f] at a;cases a;cases c
theorem CmI.step{w0:Tw}{i bb n:Nat}{j base m:Nat}{v:Int}{b:To}{n1 c1:Nat}{c:To}{n2 d:Nat}{t:Tb}{rows:Int}{W8 W w:Tw}{pre:List (CK6 R.length)}{k:CK6 R.length}{n' p:Nat}{z:List Int}{e:To}{g:Nat}(J:n'<=n+pre.length)(f:L.map (·.1)=N5 t 0 (pre.map λk=>Gg R k.1))(l:∀k∈pre,De s.cols (Gg R k.1)=true)(o:Mv base bb (.map (some j)) (.map (some j)) W8 W)(r:Ey w0 w i bb p ((Km t s.cols 0 (pre.map λk=>Gg R k.1) D).put (B.lit (Eh (Bw t L.length))) (Pa s.cols (Gg R k.1))) z (.map (some j)) u)(M:p<=n'+1)(y:Mv base bb (.map (some j)) (.map (some j)) W w)(I:De s.cols (Gg R k.1)=true)(G:Dv base w m s v b n1 c1 x c n2 d t true e g (L++[noA (Bw t L.length) (Gg R k.1).length]) rows):CmI w0 i bb n D j base m s v b n1 c1 x c n2 d t rows R W8 (pre++[k]) w:=by
 have h:L.length=pre.length:=by have:=congrArg List.length f;rw[Y',eQ,Y'] at this;exact this
 refine⟨p,z,u,e,g,_,?_,by rw[XN];simp;omega,G,?_,?_,o.trans y⟩
 ·rw[XI,Y2,jX,Y',WN,<-h]
  exact r
 ·rw[XI,XI,Y2,Y2,ACh,f,Y',WN,h]
  rfl
 intro q a
 rcases List.mem_append.1 a with a|a
 ·exact l q a
 simp at a;subst a;exact I
theorem lC(a:Tb)(c:Plain a)(l:List Aj):∀(b:List (List (List V)))(k:Nat)(D:Td)(j:Nat),k+b.length<=j->j<=1000000->Maps.has D (B.lit (Eh (Bw a j)))=false->Maps.has (Km a l k b D) (B.lit (Eh (Bw a j)))=false
 | [],_,_,_,_,_,h=>h
 | p :: b,k,D,j,hk,hj,h=>by
   simp at hk;refine lC a c l b (k+1) _ j (by omega) hj ?_;rw[Maps.has_put_other (λe=>?_)]
   ·exact h
   have:=(S5 c c (Uw (B.Jr e))).2 (by omega) (by omega);omega
theorem Xo(a:Tb)(f:Plain a)(l:List Aj)(D:Td):∀(c:List (List (List V)))(k:Nat)(b:Td),k+c.length<=1000->Grown a D b->(∀j,k<=j->j<=1000->Maps.has b (B.lit (Eh (Bw a j)))=false)->Grown a D (Km a l k c b)
 | [],_,_,_,h,_=>h
 | p :: c,k,b,hk,h,hf=>by
   simp at hk;refine Xo a f l D c (k+1) _ (by omega) (.put k _ h (hf k (XA _) (by omega))) (λj g d=>?_);rw[Maps.has_put_other (λe=>?_)]
   ·exact hf j (by omega) d
   have:=(S5 f f (Uw (B.Jr e))).2 (by omega) (by omega);omega
theorem fM(a:Tb)(d:Plain a)(l:List Aj)(D:Td)(c:∀k,Maps.has D (B.lit (Eh (Bw a k)))=false)(b:List (List (List V)))(h:b.length<=100):Grown a D (Km a l 0 b D) :=
 Xo a d l D b 0 D (by omega) .refl λj _ _=>c j
theorem AGz{w0 w:Tw}{k bb n:Nat}{fs:List Int}{mv v:Tv}{H:List (Dn×Ah)}{U:List Tb}{s:Tb}(h:iK w0 w k bb n D fs mv v H U s)(c:(Ae H H.length).cols≠[]):∃a,mv=.map (some a)/\a<w.heap.size:=by
 have f:B.Th w mv n D:=h.base.bu.2.1
 rcases f with⟨g,b⟩|⟨m,e,d⟩
 ·exfalso
  cases H with
  | nil=>exact c rfl
  | cons x H=>have:=((h.inv.Lm.2 0 (by omega)).1 x.1 rfl).1;rw[b] at this;exact absurd this (by simp[Maps.has])
 exact⟨m,e,B.Th.lt (.inr ⟨m,e,d⟩) e⟩
theorem Uu{w0 W:Tw}{j bb n d b:Nat}{fs:List Int}{x:Tv}{t:TypeId}(h:Ey w0 W j bb n D fs (.map (some d)) u)(l:W.heap[b]? = some (Zk #[x] t))(r:∀i,x≠Zi i)(f:b≠bb)(g:b≠d)(o:w0.heap.size<=b)(v:Tv):Ey w0 (W.setCell ⟨b,0,none⟩ v) j bb n D fs (.map (some d)) u:=by
 have a:=E.Ar W b 0 v;have c:B.A0 (λi=>i=b) W (W.setCell ⟨b,0,none⟩ v):=⟨a.os,a.tape,a.output,a.size,λk hk hn=>a.block k hk (λe=>hn (Yv e))⟩;refine⟨h.bu.only c (λe=>f e.symm) (λm e q=>?_) (λp y hc q=>?_),c.below h.low h.low.size (λi q=>by rw[q];exact o),h.hb,h.hm,h.er,h.nc,h.tb,h.hf⟩
 ·cases e
  exact g q.symm
 obtain⟨s,off,st⟩:=p;simp only at q;subst q;unfold World.cell? at hc;simp only[l] at hc
 rcases off with _|off
 ·cases st <;> simp at hc
  exact r _ hc
 cases st <;> simp at hc
variable{W w:Tw}{n:Nat}{u v:Tv}
attribute [local go_sem] Oper.semAt_some
theorem one_cell{b:Nat}{x:Tv}{T:TypeId}(h:W.heap[b]? = some (Zk #[x] T)):W.cell? ⟨b,0,none⟩=some x:=by simp[World.cell?,h]
theorem Dv.far{base:Nat}{w:Tw}{n:Nat}{s:Ah}{v:Int}{f:To}{n1 c1:Nat}{y:Int}{g:To}{n2 k:Nat}{p:Tb}{D:Bool}{j:To}{i:Nat}{L:List Gx}{rows:Int}{W:Tw}{b:Nat}{cs:Array Tv}{t:TypeId}(h:Dv base w n s v f n1 c1 y g n2 k p D j i L rows)(a:w.heap[b]? = some (Zk cs t (0,0)))(o:w.grownBy W (some b))(O:t≠100)(P:t≠131)(R:t≠60)(U:t≠51)(V:t≠3):Dv base W n s v f n1 c1 y g n2 k p D j i L rows:=by
 have c:∀{l z m:Nat}{T:TypeId}{u:Tv}{xs:List Tv},w.ownsRow l T z u m xs->t≠T->W.ownsRow l T z u m xs:=λY X=>Mk Y a X o
 refine⟨(o.block n (Ac h.box) ?_).trans h.box,?_,c h.row P,λq r=>⟨c (h.own q r).1 (by assumption),c (h.own q r).2 (by assumption)⟩,h.Vv,h.low⟩
 ·intro e
  injection e with e;subst e;rw[h.box] at a;injection a with a;injection a with _ a;exact O a.symm
 obtain⟨I,M,J,N,G,e,d⟩:=h.snap;exact⟨I,M,J,N,G,e,c d.cols R,d.files,c d.row U,λx hx=>c (d.Cl x hx) V⟩
theorem AGq{P:Program}{c:Code}{K:Act->Tw->Prop}{Q:Exit->Act->Tw->Prop}{a:Act}(h:c.wp P (Exit.then K (λ_ _ _=>False)) a w):c.wp P (Exit.then K Q) a w :=
 wp_mono h λe _ _ q=>by
  cases e with
  | normal=>exact q
  | _=>exact q.elim
theorem AKh{b:Nat}{u f a e c d j g:Tv}{t:TypeId}(h:W.heap[b]? = some (Zk #[u,f,a,e,c,d,j,g] t (0,0)))(v:Tv):(W.setCell ⟨b,6,none⟩ v).heap[b]? = some (Zk #[u,f,a,e,c,d,v,g] t (0,0)):=by have i:=As W b 6 _ _ v h;simpa using i
theorem Dv.Bz{base:Nat}{s:Ah}{v:Int}{l:To}{n1 c1:Nat}{y:Int}{o:To}{n2 k:Nat}{t:Tb}{r:Bool}{G:To}{i:Nat}{L:List Gx}{rows:Int}{g m c:Nat}{a:List Gx}(h:Dv base w n s v l n1 c1 y o n2 k t r G i L rows)(V:w.ownsRow base 131 6 (Zs (some ⟨g,0,none⟩) m c) m (Ci a))(U:m=a.length)(p:∀q∈a,pC 0 w q)(P:∀q∈a,pM q.1):Dv base (w.setCell ⟨n,6,none⟩ (Zs (some ⟨g,0,none⟩) m c)) n s v l n1 c1 y o n2 k t r (some ⟨g,0,none⟩) c a rows:=by
 subst U;have R:=E.Ar w n 6 (Zs (some ⟨g,0,none⟩) a.length c);have d:∀{b z m:Nat}{T:TypeId}{u:Tv}{xs:List Tv},w.ownsRow b T z u m xs->T≠100->(w.setCell ⟨n,6,none⟩ (Zs (some ⟨g,0,none⟩) a.length c)).ownsRow b T z u m xs:=λW O=>Mk W h.box (λe=>O e.symm) R
 refine⟨AKh h.box _,?_,d V (by decide),λq f=>⟨d (p q f).1 (by decide),d (p q f).2 (by decide)⟩,P,h.low⟩;obtain⟨I,M,J,N,D,e,j⟩:=h.snap;exact⟨I,M,J,N,D,e,d j.cols (by decide),j.files,d j.row (by decide),λx X=>d (j.Cl x X) (by decide)⟩
theorem AEx(h:w.cell? ⟨n,3,none⟩=some u):(w.setCell ⟨n,6,none⟩ v).cell? ⟨n,3,none⟩=some u:=by rw[YO _ _ _ _ (by simp)];exact h
theorem Ei{n b:Nat}(a:b≠n)(h:w.cell? ⟨b,0,none⟩=some u):(w.setCell ⟨n,6,none⟩ v).cell? ⟨b,0,none⟩=some u:=by rw[World.cell?_setCell_far _ _ _ _ (Ne.symm a)];exact h
def ldA:Oper:={ dst:=some 52,op:=Op.load 78 (Operand.tmp 51),type:=78,pos := "rows.go:83",after:=#[{ on:=10,ground:=Ground.data }],guard:=none }
theorem AGS:ldA={ dst:=some 52,op:=Op.load 78 (Operand.tmp 51),type:=78,pos := "rows.go:83",after:=#[{ on:=10,ground:=Ground.data }],guard:=none }:=rfl
theorem rK(w0:Tw)(NF bb n:Nat)(D:Td)(fs:List Int)(mv fv:Tv)(H:List (Dn×Ah))(U:List Tb)(tx:Tb)(xs:List A6)(w:Tw)(h:iK w0 w NF bb n D fs mv fv H U tx)(hT:C7 D (Ae H H.length) xs):
 Zc 31 #[Zp (some ⟨bb,0,none⟩),Zt tx] w (Kd w0 w NF bb n D mv H tx (AMN (Ae H H.length) NF) (AEz D (Ae H H.length) xs tx)):=by
 have O:=Aa h;have HT:=Aa hT;obtain⟨es,hX,hY,hZ,bp⟩:=Jl w (Zk #[Zp (some ⟨bb,0,none⟩)] 25) (Zk #[Zp none] 65) (Zk #[Zn] 31);have h3:=h.up bp;have a6:=Aa (Wo bb n D mv H tx xs .nil (Zp none) _ h3.base.ground (h3.et.below h3.base.low) (h3.Pw.below h3.base.low) h3.inv.Lm h3.inv.past h3.O5 h3.name h3.short hT.Lz rfl);have bh:=aN hT h.Of .nil;have ed:=h.Of.Iz;have a5:=Aa bp;have HX:=Aa (Yad hX (Yad hY hZ));have ag:=Aa h3;clear h hT h3 hX hY hZ bp;unfold tK at a6;generalize de:Ae H H.length=l at *;have ao:=Aa de;clear de;refine(callsIn_wide (n:=5)).1 ?_;refine callsIn_of_wp_marks func31 rfl trivial ?_ rfl;simp only[ntmps31,WE,XJ,WK,Nat.reduceAdd,Nat.reduceSub,X',Wb,WG,WB,X4,WI];refine wpIn_wide.2 ?_;go_wp2_with fail;generalize ((w.alloc (Zk #[Zp (some ⟨bb,0,none⟩)] 25)).alloc (Zk #[Zp none] 65)).alloc (Zk #[Zn] 31)=W3 at *;refine a6.o.mono ?_;rintro e w1⟨ap,⟨hc,rfl⟩|⟨hc,d5,rfl⟩|⟨hc,hz,g,v1,a1,n1,c1,x2,a2,n2,c2,rfl,hP,hF⟩⟩
 ·have r1:=(ap.block (w.heap.size+1) (by omega)).trans HX.o.2.1
  have r2:=(ap.block (w.heap.size+2) (by omega)).trans HX.o.2.2;have b9:=Aa (Ap a5.o ap);have hA:Zb w1 (w1.alloc (Zk #[Zp none] 65)):=Zal;have HA:=Aa hA;have dh:=(hA.block _ (Ac r1)).trans r1;have bg:=(hA.block _ (Ac r2)).trans r2;have f1:=one_cell dh;have f2:=one_cell bg;have g1:=Yab _ (w.heap.size+1) 0 _ _ dh;have g2:=Yab _ (w.heap.size+2) 0 _ _ bg;have dk:=Aa hc;clear hc ap a6 hA r1 r2;go_wp2;refine⟨Zu #[Zp none,Zf 47 (Zi 6)],by simp[results,results31,go_sem,f1,f2],?_⟩;have a0:=((Ap b9.o HA.o).setCell (p:=⟨w.heap.size+1,0,none⟩) (X6 _) (Zp none)).setCell (p:=⟨w.heap.size+2,0,none⟩) (by show w.heap.size<=w.heap.size+2;omega) (Zf 47 (Zi 6));exact⟨n,D,fs,mv,fv,O.o.base.up a0,by omega,B.A0.Ba a0,λ_ e=>.inl e,.refl,.inr ⟨_,_,.inl ⟨dk.o,rfl⟩,rfl⟩⟩
 ·exact absurd (dB _) d5
 have b9:=Aa ap;have HC:=Aa hc;have HP:=Aa hP;have HF:=Aa hF
 obtain⟨fa,fc,rfl,_⟩:∃a c,v1=Zs a (Bo l.cols .nil xs).1.length c/\(Bo l.cols .nil xs).1.length<=c:=by obtain⟨zs,_,e2,_⟩:=hF;exact Au e2
 have hA:Zb w1 (w1.alloc (Zk #[Zp (some ⟨g,0,none⟩)] 65)):=Zal;have HA:=Aa hA;have b0:=Y8 w1 (Zk #[Zp (some ⟨g,0,none⟩)] 65);have N:=Aa b0;have p0:=one_cell b0;have cp:=Aa (hP.up hA);obtain⟨y0,y1,y2,y3,y4,y5,y6,y7,yf⟩:=F2 (hP.up hA).box;have a8:=Aa (nW l (H.length:Int) a1 n1 c1 x2 a2 n2 c2 (Bo l.cols .nil xs).1.length _ (hP.up hA).snap (by omega) (by omega));have ds:Hid (Zb W3 (w1.alloc (Zk #[Zp (some ⟨g,0,none⟩)] 65))):=Aa (Ap ap hA);clear ap hc hz hP hF a6 hA b0;generalize c9:(Bo l.cols .nil xs).1.length=m at *;have aw:=Aa c9;clear c9;go_wp2_with fail;refine a8.o.mono ?_;rintro e w6⟨q,rfl,hq,bd⟩;have HQ:=Aa hq;have M:=Aa bd;have ax:=Aa (Ap ds.o bd);have p6:=Ag bd p0;clear bd hq a8 y0 y1 y2 y3 y4 y5 y6 y7 yf p0;cases q with
 | true=>have a8:=Aa (HQ.o.1 rfl);clear HQ;have r1:=(ax.o.block (w.heap.size+1) (by omega)).trans HX.o.2.1;have r2:=(ax.o.block (w.heap.size+2) (by omega)).trans HX.o.2.2;have f1:=one_cell r1;have f2:=one_cell r2;have g1:=Yab w6 (w.heap.size+1) 0 _ _ r1;have g2:=Yab w6 (w.heap.size+2) 0 _ _ r2;go_wp2;refine⟨Zu #[Zp (some ⟨g,0,none⟩),Zn],by simp[results,results31,go_sem,f1,f2],?_⟩;have a0:Zb w ((w6.setCell ⟨w.heap.size+1,0,none⟩ (Zp (some ⟨g,0,none⟩))).setCell ⟨w.heap.size+2,0,none⟩ Zn):=((Ap a5.o ax.o).setCell (p:=⟨w.heap.size+1,0,none⟩) (X6 _) _).setCell (p:=⟨w.heap.size+2,0,none⟩) (by show w.heap.size<=w.heap.size+2;omega) _;have q1:=(cp.o.up M.o).far r1 (E.Ar w6 (w.heap.size+1) 0 (Zp (some ⟨g,0,none⟩))) (by decide) (by decide) (by decide) (by decide) (by decide);have bg:=((E.Ar w6 (w.heap.size+1) 0 (Zp (some ⟨g,0,none⟩))).block (w.heap.size+2) (Ac r2) (by simp)).trans r2;have q2:=q1.far bg (E.Ar _ (w.heap.size+2) 0 Zn) (by decide) (by decide) (by decide) (by decide) (by decide);exact⟨n,D,fs,mv,fv,O.o.base.up a0,by omega,B.A0.Ba a0,λ_ e=>.inl e,.refl,.inl ⟨g,[],true,(m:Int),a1,n1,c1,x2,a2,n2,c2,none,0,rfl,by rw[ao.o];exact⟨q2.box,q2.snap,E.Ai q2.row (by omega),q2.own,q2.Vv,by have:=q2.low;omega⟩,HC.o,rfl,(by rw[aw.o]),.inl ⟨(by rw[aw.o];exact a8.o),rfl,rfl⟩⟩⟩
 | false=>
   have ck:Hid (¬Tog l m):=Aa (λh=>by cases HQ.o.2 h);clear HQ;obtain⟨R,hR⟩:∃R,R=Fc l.cols xs:=⟨_,rfl⟩
   have dn:Hid (∀k,k<n60 R.length->De l.cols (Gg R k)=true):=Aa (λk hk=>by have ae:=O.o.Of;have d7:=O.o.inv.next H.length (XA _);have O5:=O.o.O5;rw[ao.o] at ae d7;refine ALD (ALu (ae.cols.resolve_left HC.o) (by show _<=(1099511627777:Int);omega)) (λr hr=>?_) (List.mem_map.2 ⟨k,List.mem_range.2 hk,rfl⟩);rw[hR] at hr;exact HT.o.right (sM ae) r hr)
   have dw:R.length=m:=by rw[hR];unfold Fc;rw[Y'];exact aw.o
   have cr:=Aa (X7 W3.heap.size W3.heap.size (Zs fa m fc) (Bo l.cols .nil xs).1 w6 ((HF.o.up HA.o).up M.o) (by rw[aw.o];omega));have HR:=Aa hR;clear hR;subst dw;go_wp2_with fail;refine cr.o.mono ?_;rintro e w7⟨v7,rfl,hJ,c6⟩;have bw:Sc w6.heap.size w7 v7 R:=by rw[HR.o];exact hJ.o
   have c3:=bw.slr;obtain⟨ra,rc,rfl,d8⟩:=c3.slice;have cn:=Aa bw;have av:=Aa c6;have cc:=Aa (qS ra R.length rc w7);clear cr hJ c6 bw c3;go_wp2_with fail;refine cc.o.mono ?_;rintro e w8⟨rfl,rfl⟩;clear cc;obtain⟨ew,c4,cy,bx⟩:=Kt w7 (Zk #[Zs ra R.length rc] 34) (Zk #[Zi 60] 3);have u:=Aa (Ap (Ap ax.o av.o) bx);go_wp2_with fail;generalize (w7.alloc (Zk #[Zs ra R.length rc] 34)).alloc (Zk #[Zi 60] 3)=W9 at *
   have cs:Hid (∀r∈R,∀v∈r,Ks v/\v.2.2.size<=40):=Aa (λr hr v hv=>by rw[HR.o] at hr;obtain⟨z,hz,rfl⟩:=List.mem_map.1 hr;exact No HT.o (by rw[<-ao.o];exact O.o.Of) (by rw[<-ao.o];exact Mq O.o.inv.past (XA _)) z hz v hv)
   obtain⟨k0,d2,el⟩:=AGz O.o (by rw[ao.o];exact HC.o);subst d2;have ev:=av.o.size;have eu:=ax.o.size;have ai:=Aa bx;have d1:W9.cell? ⟨w7.heap.size,0,none⟩=some (Zs ra R.length rc):=one_cell c4;have dz:W9.cell? ⟨w7.heap.size+1,0,none⟩=some (Zi 60):=one_cell cy
   obtain⟨rb,ro,dd⟩:∃rb ro,0<R.length->ra=some ⟨rb,ro,none⟩:=by
    by_cases h0:0<R.length
    ·obtain⟨vs,ea,ex,ey⟩:=cn.o.slr
     obtain⟨rb,ro,e3,er,_,_,_⟩:=ea.cons (by omega);injection er with du _ _;exact⟨rb,ro,λ_=>du⟩
    exact⟨0,0,λh=>absurd h h0⟩
   have dr:=Aa (((cp.o.up M.o).up av.o).up ai.o);have b:=Aa (ag.o.base.up u.o);clear bx;refine(wpIn_wide (n:=5)).1 ?_
   refine wpIn_rangeFunc_ownG (w0:=W9) rfl (by decide) (gf:=96) (lb:=#[Zp (some ⟨w7.heap.size,0,none⟩),Zp (some ⟨w7.heap.size+1,0,none⟩)]) (by rfl) trivial (enters_of func96 (by kernel_rfl) rfl)
    (jC _ (by decide) w7.heap.size (w7.heap.size+1) rb ro R.length rc ra dd (by omega) d8 W9 (by omega) (by omega) d1 dz) KpC.t ?hKb (XE _ _) (λ_=>rfl) (CmI w0 NF bb n D k0 W3.heap.size g l (H.length:Int) a1 n1 c1 x2 a2 n2 c2 tx (R.length:Int) R W9) (λc _ W=>c=.ret/\NF≠0/\∃T x n' D' ah al,Ey w0 W NF bb n' D' ah (.map (some k0)) al/\n'<=n+50/\Grown tx D D'/\B.A0 (B.Own bb (.map (some k0))) w W/\W.heap[w.heap.size+1]? = some (Zk #[Zp none] 65)/\W.heap[w.heap.size+2]? = some (Zk #[Zf T x] 31)) (CmI.own (by omega) (XH ag.o.base.low.size u.o.size) (XA _)) ?ownX ⟨n,fs,fv,none,0,[],b.o,XA _,dr.o,rfl,(λk hk=>by cases hk),Mv.refl⟩ ?a1 ?assign ?body ?done ?stop
   case hKb=>
    intro W q o1 o2 hq ep _ _;constructor
    ·unfold World.cell?;rw[XG (by show w7.heap.size≠q;omega)]
    unfold World.cell?;rw[XG (by show w7.heap.size+1≠q;omega)]
   case ownX=>
    intro c s A C row hs hg hr;obtain⟨e,bv,T,x,n',D',ah,al,h1,h2,h3,h4,h5,h6⟩:=hs;have dc:∀r,row=some r->∃o:Obj,A.heap[r]? = some o/\o.isCells=false:=λr e=>(hr r e).2
    exact⟨e,bv,T,x,n',D',ah,al,bF h1 (by omega) (XH ag.o.base.low.size u.o.size) hg hr,h2,h3,h4.grown hg (λm e hm=>by have:=(hr m e).1;omega),vX h5 hg dc,vX h6 hg dc⟩
   case assign=>intro q x W K hK;gi_wp2;exact hK
   case stop=>rintro D1 c pre W bq _⟨rfl,bv,T,x,n',D',ah,al,h1,h2,h3,h4,h5,h6⟩hK;gi_wp2;have b5:=(XG (w:=W) (r:=D1) (k:=w.heap.size+1) (o:=.deferred none) (by omega)).trans h5;have b6:=(XG (w:=W) (r:=D1) (k:=w.heap.size+2) (o:=.deferred none) (by omega)).trans h6;have f1:=one_cell b5;have f2:=one_cell b6;refine⟨by simp,.inl ⟨_,_,rfl,run_takeDeferred hK,?_⟩⟩;refine⟨Zu #[Zp none,Zf T x],by simp[results,results31,go_sem,f1,f2],?_⟩;have ae:=grownBy_putObj' W D1 (.deferred none);exact⟨n',D',ah,_,al,bF (B0:=W9.heap.size) h1 (by omega) (XH ag.o.base.low.size u.o.size) ae (λr e=>by cases e;exact⟨bq,_,hK,rfl⟩),h2,h4.grown ae (λm e hm=>by cases e;omega),λ_ e=>.inl e,h3,.inr ⟨T,x,.inr bv,rfl⟩⟩
   case body=>
    rintro q pre k W⟨n',ah,al,aa,ac,L,ab,an,G,hL,am,d⟩eo;have em:=k.2;have c8:k.1<n60 R.length:=by unfold n60;omega
    have a3:n60 R.length<=40:=nH bh
    have bt:L.length=pre.length:=by have:=congrArg List.length hL;rw[Y',eQ,Y'] at this;exact this
    have bz:=d.zG b.o.bu ((u.o.block w.heap.size (by omega)).trans HX.o.1) (by decide) (by decide) (by decide);have X:=d.zG b.o.bu ((ai.o.block w1.heap.size (by have:=Ac N.o;have:=M.o.size;omega)).trans ((av.o.block w1.heap.size (by have:=Ac N.o;have:=M.o.size;omega)).trans ((M.o.block w1.heap.size (Ac N.o)).trans N.o))) (by decide) (by decide) (by decide);have c0:=one_cell bz;have ej:=one_cell X;have b7:=(d.slO b.o.bu (cn.o.up ai.o)).slr;rw[dd (by omega)] at b7;have c7:=qF b7 rfl k;have dx:=d.only.size;have en:=bU c8
    have a7:=Aa (bK w0 NF W3.heap.size bb n' _ ah (.map (some k0)) al g l (H.length:Int) a1 n1 c1 x2 a2 n2 c2 tx true aa ac L (R.length:Int) (ACt rb ro R.length k) (Gg R k.1) W ab ag.o.nf ag.o.base.low.size (by have:=O.o.Iz;omega) (uX _ _ _ _ _ O.o.inv.Lm.1) G (by omega) (by rw[<-ao.o];exact O.o.Of) O.o.et c7 (by omega) (λr hr v hv=>by have:=cs.o r (WA (Yl hr)) v hv;unfold maxLen;omega) (λr hr v hv=>(cs.o r (WA (Yl hr)) v hv).1) O.o.short (by omega) (lC tx O.o.plain _ _ _ _ _ (by rw[Y'];omega) (by omega) (O.o.free _)))
    have cj:Hid (ah.headD 0=1->NF≠0):=Aa (λh1 e0=>by subst e0;rw[bJ ab] at h1;exact absurd h1 (by decide))
    have ci:=Aa (dn.o k.1 c8);unfold AIr at a7;have HI:=Aa (Yad ab (Yad an (Yad G (Yad hL (Yad am d)))));have dj:=Aa (Yad bz X);clear ab an G hL am d bz X b7 c7;generalize ek:ACt rb ro R.length k=cv at *;gi_wp2_with fail;refine⟨trivial,(CallsIn.inRound q (callsIn_wide.2 a7.o)).mono ?_⟩;rintro e W'⟨ec,eg,ct,ef,cu,bc,da,ad,h⟩;have dt:=ad.stay k0 rfl;subst dt;have HM:=Aa ad;have di:=Aa bc
    rcases h with⟨rfl,db,_,rfl,rfl,eh,ei,cz⟩|⟨T,x,rfl,rfl,bk⟩
    ·have bi:=CmI.step (W8:=W9) (n:=n) HI.o.2.1 HI.o.2.2.2.1 HI.o.2.2.2.2.1 HI.o.2.2.2.2.2 bc da ad db cz
     have cd:=Aa bi;have bm:=Aa (CmI.keeps (B0:=W9.heap.size) HI.o.1 (by omega) ad)
     have dl:Hid (KpC w7.heap.size (w7.heap.size+1) W W'):=Aa (by have e1:=HI.o.2.2.2.2.2.zG b.o.bu c4 (by decide) (by decide) (by decide);have e2:=HI.o.2.2.2.2.2.zG b.o.bu cy (by decide) (by decide) (by decide);exact⟨by rw[one_cell e1,one_cell (ad.zG HI.o.1.bu e1 (by decide) (by decide) (by decide))],by rw[one_cell e2,one_cell (ad.zG HI.o.1.bu e2 (by decide) (by decide) (by decide))]⟩)
     clear bi bc ad cz db a7;gi_wp2;exact⟨bm.o,dl.o,cd.o⟩
    have dq:Hid (NF≠0):=Aa (by
     rcases bk with⟨h1,_⟩|⟨_,h1,_⟩
     ·rw[ci.o] at h1;cases h1
     exact cj.o h1)
    clear bk cj ci;have bf:=HI.o.2.2.2.2.2.trans ad;have r1:=bf.zG b.o.bu ((u.o.block (w.heap.size+1) (by omega)).trans HX.o.2.1) (by decide) (by decide) (by decide);have r2:=bf.zG b.o.bu ((u.o.block (w.heap.size+2) (by omega)).trans HX.o.2.2) (by decide) (by decide) (by decide);have f1:=one_cell r1;have f2:=one_cell r2;have g1:=Yab W' (w.heap.size+1) 0 _ _ r1;have g2:=Yab W' (w.heap.size+2) 0 _ _ r2;have dm:=Aa bf;have bm:=Aa (CmI.keeps (B0:=W9.heap.size) HI.o.1 (by omega) ad);have Y:=Aa (Yad r1 r2);clear bc ad a7 bf r1 r2;gi_wp2;have dy:bb<w.heap.size:=Ac O.o.base.bu.1;have eb:=O.o.base.low.size;have b1:=Uu di.o Y.o.1 (λi e=>by cases e) (by omega) (by omega) (by omega) (Zp none);have y:=((E.Ar W' (w.heap.size+1) 0 (Zp none)).block (w.heap.size+2) (Ac Y.o.2) (by simp)).trans Y.o.2;have b2:=Uu b1 y (λi e=>by cases e) (by omega) (by omega) (by omega) (Zf T x);have I:=heap_setCell_same W' (w.heap.size+1) 0 _ _ (Zp none) Y.o.1;have b3:=((E.Ar (W'.setCell ⟨w.heap.size+1,0,none⟩ (Zp none)) (w.heap.size+2) 0 (Zf T x)).block (w.heap.size+1) (Ac I) (by simp)).trans I;have b4:=heap_setCell_same _ (w.heap.size+2) 0 _ _ (Zf T x) y;have hO:B.A0 (B.Own bb (.map (some k0))) w W':=(B.A0.Ba (Ap a5.o u.o)).trans dm.o.only (λi hi e=>e.elim id λe=>by have:=e.1;omega);refine⟨(bm.o.trans (KeepsFrom.of_grownBy (E.Ar W' (w.heap.size+1) 0 (Zp none)) (λj e=>by cases e;omega))).trans (KeepsFrom.of_grownBy (E.Ar _ (w.heap.size+2) 0 (Zf T x)) (λj e=>by cases e;omega)),rfl,dq.o,T,x,ec,_,ct,cu,b2,by have:=HI.o.2.1;omega,fM tx O.o.plain _ _ O.o.free _ (by rw[Y'];omega),?_,b3,b4⟩;exact(hO.grown (E.Ar W' (w.heap.size+1) 0 (Zp none)) (λm e hm=>by cases e;omega)).grown (E.Ar _ (w.heap.size+2) 0 (Zf T x)) (λm e hm=>by cases e;omega)
   case done=>
    rintro D1 ys W bq b8⟨n',ah,al,aa,ac,L,ab,an,G,hL,am,d⟩hK;have dx:=d.only.size;have br:=E.Ac hK;have a3:n60 R.length<=40:=nH bh;have df:ys.length=n60 R.length:=by have:=congrArg List.length b8;simpa using this
    have dg:(ys.map λk=>Gg R k.1)=Gd R:=by unfold Gd;rw[<-b8];simp[AG1]
    have bt:L.length=ys.length:=by have:=congrArg List.length hL;rw[Y',eQ,Y'] at this;exact this
    have X:=d.zG b.o.bu ((ai.o.block w1.heap.size (by have:=Ac N.o;have:=M.o.size;omega)).trans ((av.o.block w1.heap.size (by have:=Ac N.o;have:=M.o.size;omega)).trans ((M.o.block w1.heap.size (Ac N.o)).trans N.o))) (by decide) (by decide) (by decide);have I:=d.zG b.o.bu ((u.o.block (w.heap.size+1) (by omega)).trans HX.o.2.1) (by decide) (by decide) (by decide);have y:=d.zG b.o.bu ((u.o.block (w.heap.size+2) (by omega)).trans HX.o.2.2) (by decide) (by decide) (by decide);have p0:=one_cell X;obtain⟨y0,y1,y2,y3,y4,y5,y6,y7,yf⟩:=F2 G.box;have hd:=(XE W.heap.size W).drew
    have ce:Hid (∀e∈l.files,e.1.size<=maxLen):=Aa (λe he=>by have c5:=HT.o;rw[<-c5.Lz.files] at he;obtain⟨x,hx,rfl⟩:=List.mem_map.1 he;have:=(c5.Lz.each x hx).name;unfold maxLen;omega)
    have ee:1<=l.files.length:=by
     rcases Yu l.files.length with h0|h0
     ·refine absurd (show Tog l R.length from⟨λe he=>?_,by omega⟩) ck.o
      rw[Yac.1 h0] at he;cases he
     exact h0
    have cq:=Aa (sL l (H.length:Int) a1 n1 c1 x2 a2 n2 c2 W.drew (G.snap.up hd) (by omega) ce.o);have HI:=Aa (Yad ab (Yad an (Yad G (Yad hL (Yad am d)))));have dj:=Aa (Yad X (Yad I y));have cf:=Aa hK;have bo:=Aa dg;have ch:=Aa (Yad bt (Yad df a3));have bl:=Aa hd
    have dp:Hid (w1.heap.size≠g):=Aa (λe=>by have:=G.box;rw[<-e,X] at this;injection this with this;injection this with _ this;exact absurd this (by decide))
    have d0:W.drew.cell? ⟨w1.heap.size,0,none⟩=some (Zp (some ⟨g,0,none⟩)):=p0;have d3:W.drew.cell? ⟨g,3,none⟩=some (Zs a2 n2 c2):=y3;have d6:W.drew.cell? ⟨g,6,none⟩=some (Zs aa L.length ac):=y6;have aj:Hid (∀W',Zb W W'->(W'.cell? ⟨w1.heap.size,0,none⟩=some (Zp (some ⟨g,0,none⟩))/\W'.cell? ⟨g,3,none⟩=some (Zs a2 n2 c2))/\W'.cell? ⟨g,6,none⟩=some (Zs aa L.length ac)):=Aa λW' hb=>⟨⟨Ag hb p0,Ag hb y3⟩,Ag hb y6⟩
    have cb:Hid (∀(af:Tw)(qa:To)(qc:Nat),Zb W af->af.ownsRow W.heap.size 131 6 (Zs qa l.files.length qc) l.files.length (Ci (l.files.map mO))->Zc 59 #[Zs (some ⟨af.heap.size,0,none⟩) 2 2] (af.alloc (Zk #[Zs qa l.files.length qc,Zs aa L.length ac] 78)) λe w'=>∃g' c',e=Zr (Zs (some ⟨g',0,none⟩) (l.files.length+L.length) c')/\Hid (w'.ownsRow W.heap.size 131 6 (Zs (some ⟨g',0,none⟩) (l.files.length+L.length) c') (l.files.length+L.length) (Ci (l.files.map mO++L)))/\Zb W w'):=Aa (λaf qa qc J au=>by have bj:=Y8 af (Zk #[Zs qa l.files.length qc,Zs aa L.length ac] 78);have ar:Zb af (af.alloc (Zk #[Zs qa l.files.length qc,Zs aa L.length ac] 78)):=Zal;have hc:=uO af.heap.size qa aa qc ac (l.files.map mO) L W.heap.size w.heap.size _ (by rw[Y'];exact(Hg bj).1) (Hg bj).2 (by simp) (by rw[Y'];exact Bc au ar) (E.Ai (Bc (Bc G.row J) ar) (by omega)) (by rw[Y'];omega) (by rw[Y'];omega);rw[Y'] at hc;refine hc.mono ?_;rintro e w'⟨g',c',rfl,h1,h2⟩;exact⟨g',c',rfl,Aa (E.Ai h1 (Ap J ar).size),Ap (Ap J ar) h2⟩)
    clear ab an G hL am d X I y hK b8 dg y0 y1 y2 y3 y4 y5 y6 y7 yf p0 bt df a3 hd;gi_wp2;go_wp2_with fail;refine AGq ?_;rw[<-AGS];have d4:=AGS
    go_region_held3 (λw'=>w'.cell? ⟨w1.heap.size,0,none⟩=some (Zp (some ⟨g,0,none⟩))/\w'.cell? ⟨g,3,none⟩=some (Zs a2 n2 c2))
     (first
       | (go_keep;done)
       | exact(aj.o _ bl.o).1
       | exact(aj.o _ J).1
       | exact(aj.o _ (Ap J Zal)).1
       | exact(aj.o _ f).1
       | exact⟨Ei dp.o (aj.o _ f).1.1,AEx (aj.o _ f).1.2⟩
       | fail)
     (first
       | (go_at_call 60
          refine cq.o.mono ?_;rintro e af⟨qa,qc,rfl,au,az⟩;have J:=Ap bl.o az;have cl:=Aa au;have e6:=(aj.o _ J).2;clear au az)
       | (go_at_call 59
          refine(cb.o _ _ _ J cl.o).mono ?_;rintro e a4⟨g',c',rfl,cm,f⟩;obtain⟨t0,t1,t2,t3,t4,t5,t6,t7,tf⟩:=F2 (HI.o.2.2.1.up f).box;have t8:=tf 6;clear t0 t1 t2 t3 t4 t5 t7 tf)
       | fail)
    all_goals
     obtain⟨ab,an,G,hL,am,d⟩:=HI.o;have P:=G.up f;have V:=E.Ar a4 g 6 (Zs (some ⟨g',0,none⟩) (l.files.length+L.length) c');have ay:B.A0 (PA a4 W3.heap.size) a4 (a4.setCell ⟨g,6,none⟩ (Zs (some ⟨g',0,none⟩) (l.files.length+L.length) c')):=⟨V.os,V.tape,V.output,V.size,λk hk hn=>V.block k hk (λe=>hn (by cases e;exact⟨P.low,_,_,P.box,.inl rfl⟩))⟩;have ca:=Aa (Kv (ab.up f) ag.o.nf ag.o.base.low.size ay);have aq:=Aa ((d.trans (Mv.below f)).trans (Mv.ACV ay))
     have co:=Aa (P.Bz (E.Ai cm.o (by omega)) (by simp) (λq hq=>by
      rcases List.mem_append.1 hq with hq|hq
      ·obtain⟨e,_,rfl⟩:=List.mem_map.1 hq
       exact⟨XK _ _ _ _,XK _ _ _ _⟩
      ·exact P.own q hq) (λq hq=>by
      rcases List.mem_append.1 hq with hq|hq
      ·obtain⟨e,he,rfl⟩:=List.mem_map.1 hq
       exact⟨ce.o e he,XB _,λx hx=>by cases hx⟩
      exact P.Vv q hq))
     have I:=aq.o.zG b.o.bu ((u.o.block (w.heap.size+1) (by omega)).trans HX.o.2.1) (by decide) (by decide) (by decide);have y:=aq.o.zG b.o.bu ((u.o.block (w.heap.size+2) (by omega)).trans HX.o.2.2) (by decide) (by decide) (by decide);have X:=aq.o.zG b.o.bu ((ai.o.block w1.heap.size (by have:=Ac N.o;have:=M.o.size;omega)).trans ((av.o.block w1.heap.size (by have:=Ac N.o;have:=M.o.size;omega)).trans ((M.o.block w1.heap.size (Ac N.o)).trans N.o))) (by decide) (by decide) (by decide)
     have cx:=(V.block D1 (Ya br f.size) (λe=>by
      cases e;have:=(f.block _ br).trans cf.o;rw[P.box] at this;cases this)).trans ((f.block D1 br).trans cf.o)
     have bn:=Aa (Yad an (Yad hL am));have Y:=Aa (Yad I y);have cg:=Aa cx;clear ab an G hL am d P ay V t6 t8 d4 cq cb aj bl;generalize a4.setCell ⟨g,6,none⟩ (Zs (some ⟨g',0,none⟩) (l.files.length+L.length) c')=ak at *;have f1:=one_cell I;have f2:=one_cell y;have ez:=one_cell X;have g1:=Yab ak (w.heap.size+1) 0 _ _ I;have g2:=Yab ak (w.heap.size+2) 0 _ _ y;clear I y X cx;go_wp2;have dy:bb<w.heap.size:=Ac O.o.base.bu.1;have eb:=O.o.base.low.size;have b1:=Uu ca.o Y.o.1 (λi e=>by cases e) (by omega) (by omega) (by omega) (Zp (some ⟨g,0,none⟩));have a9:=E.Ar ak (w.heap.size+1) 0 (Zp (some ⟨g,0,none⟩));have y:=(a9.block (w.heap.size+2) (Ac Y.o.2) (by simp)).trans Y.o.2;have b2:=Uu b1 y (λi e=>by cases e) (by omega) (by omega) (by omega) Zn;have I:=heap_setCell_same ak (w.heap.size+1) 0 _ _ (Zp (some ⟨g,0,none⟩)) Y.o.1;have ba:=E.Ar (ak.setCell ⟨w.heap.size+1,0,none⟩ (Zp (some ⟨g,0,none⟩))) (w.heap.size+2) 0 Zn;have b3:=(ba.block (w.heap.size+1) (Ac I) (by simp)).trans I;have b4:=heap_setCell_same _ (w.heap.size+2) 0 _ _ Zn y;have q1:=co.o.far Y.o.1 a9 (by decide) (by decide) (by decide) (by decide) (by decide);have q2:=q1.far y ba (by decide) (by decide) (by decide) (by decide) (by decide);have cw:=(a9.block D1 (E.Ac cg.o) (λe=>by have:=Yv e;omega)).trans cg.o;have bs:=(ba.block D1 (E.Ac cw) (λe=>by have:=Yv e;omega)).trans cw;have hO:B.A0 (B.Own bb (.map (some k0))) w ak:=(B.A0.Ba (Ap a5.o u.o)).trans aq.o.only (λi hi e=>e.elim id λe=>by have:=e.1;omega);have dv:=(hO.grown a9 (λm e hm=>by cases e;omega)).grown ba (λm e hm=>by cases e;omega);have b5:=(XG (r:=D1) (k:=w.heap.size+1) (o:=.deferred none) (by omega)).trans b3;have b6:=(XG (r:=D1) (k:=w.heap.size+2) (o:=.deferred none) (by omega)).trans b4;have k1:=one_cell b5;have k2:=one_cell b6;refine⟨by simp,.inl ⟨_,_,rfl,run_takeDeferred bs,?_⟩⟩;refine⟨Zu #[Zp (some ⟨g,0,none⟩),Zn],by simp[results,results31,go_sem,k1,k2],?_⟩;have ae:=grownBy_putObj' ((ak.setCell ⟨w.heap.size+1,0,none⟩ (Zp (some ⟨g,0,none⟩))).setCell ⟨w.heap.size+2,0,none⟩ Zn) D1 (.deferred none);have d9:∀r,some D1=some r->∃o:Obj,((ak.setCell ⟨w.heap.size+1,0,none⟩ (Zp (some ⟨g,0,none⟩))).setCell ⟨w.heap.size+2,0,none⟩ Zn).heap[r]? = some o/\o.isCells=false:=λr e=>by cases e;exact⟨_,bs,rfl⟩
     have q3:=q2.no ae d9;refine⟨_,_,_,_,_,bF (B0:=W9.heap.size) b2 (by omega) (XH ag.o.base.low.size u.o.size) ae (λr e=>by cases e;exact⟨bq,_,bs,rfl⟩),?_,dv.grown ae (λm e hm=>by cases e;omega),λ_ e=>.inl e,?_,.inl ⟨g,_,true,(R.length:Int),a1,n1,c1,x2,a2,n2,c2,_,_,rfl,by rw[ao.o];exact⟨q3.box,q3.snap,E.Ai q3.row (by omega),q3.own,q3.Vv,by have:=q3.low;omega⟩,HC.o,rfl,by rw[aw.o],.inr ⟨by rw[aw.o];exact ck.o,?_,?_,?_⟩⟩⟩
     ·have:=bn.o.1
      have:=ch.o;omega
     ·exact fM tx O.o.plain _ _ O.o.free _ (by rw[Y'];have:=ch.o;omega)
     ·rw[<-HR.o,<-bo.o]
      intro p hp;obtain⟨k,hk,rfl⟩:=List.mem_map.1 hp;exact bn.o.2.2 k hk
     ·rw[<-HR.o,<-bo.o]
     rw[<-HR.o,<-bo.o,XI,bn.o.2.1,XZ];rfl
end F
namespace S
theorem AE9(b:Nat)(c q r:Int)(Bl d:Tb)(w:Tw)(hc:1<=c/\c<=6)(ht:d.size<=100)(hr:E.A9 q r d=true)(h:w.heap[b]? = some (Zk #[Zi c,Zt Bl,Zi q,Zi r,Zt d] 64)):
 Zc 29 #[Zs (some ⟨b,0,none⟩) 1 1] w λe O=>∃v,e=Zr v/\Gy O (.node 0 0 ⟨c,Bl,q,r,d⟩ .nil .nil) v/\Zb w O:=by
 obtain⟨L,z,G,I,J⟩:=info_parts Ip;have M:Hid (prog.info? 95=some L/\L.zero=some (Zp none)/\L.size=1/\L.bytes=8):=⟨z,G,I,J⟩
 have n:b<w.heap.size:=by
  rcases Yc b w.heap.size with U|U
  ·exact U
  rw[Array.getElem?_eq_none U] at h;cases h
 have y:Hid (∀i,w.cell? ⟨b,i,none⟩=#[Value.int .i64 c,Zt Bl,Zi q,Zi r,Zt d][i]?):=Ab (cell_of_heap h);clear z G I J h;have al:(d.size:Int)<=100:=by omega
 obtain⟨h1,h6⟩:=hc;have ae:(c==11)=false:=by simp;omega
 have b9:(c==9)=false:=by simp;omega
 have ad:(c==10)=false:=by simp;omega
 have b7:(c==7)=false:=by simp;omega
 have b8:(c==8)=false:=by simp;omega
 have ab:d.size<=maxLen:=by unfold maxLen;omega
 go_enter func29,ntmps29;go_wp2
 go_loopw [3,4] (λo i wr=>∃(k:Nat)(vs:List Tv)(N:List CT),k<=1/\i=Zi k/\Hid (Stack w wr k o k vs N/\(k=1->N=[.node 0 0 ⟨c,Bl,q,r,d⟩ .nil .nil]))) (λ_ i _=>1-(intOf i).toNat)
 case atStart=>exact⟨0,[],[],by omega,rfl,⟨⟨XK _ _ _ _,rfl,λj T u h=>by simp at h,by simp,XE _ _⟩,λe=>by cases e⟩⟩
 case round=>
  obtain⟨k,vs,N,hk,rfl,l⟩:=hrel;obtain⟨ao,cp,rfl,ac,aa⟩:=Ak l.o.1.own;unfold maxLen at aa
  rcases Yu k with rfl|aj
  ·have x:=l.o.1.xL
   have c0:wr.cell? ⟨b,0,none⟩=some (Zi c):=(x.cell (p:=⟨b,0,none⟩) n).trans (y.o 0);have c1:wr.cell? ⟨b,1,none⟩=some (Zt Bl):=(x.cell (p:=⟨b,1,none⟩) n).trans (y.o 1);have c2:wr.cell? ⟨b,2,none⟩=some (Zi q):=(x.cell (p:=⟨b,2,none⟩) n).trans (y.o 2);have c3:wr.cell? ⟨b,3,none⟩=some (Zi r):=(x.cell (p:=⟨b,3,none⟩) n).trans (y.o 3);have c4:wr.cell? ⟨b,4,none⟩=some (Zt d):=(x.cell (p:=⟨b,4,none⟩) n).trans (y.o 4);have m:N=[]:=Yac.1 l.o.1.len;subst m;clear x;have P:Hid (∀X,Zb wr (wr.alloc X)):=λX=>Zal
   have HR:Hid (∀W,Zc 54 #[Zg #[Zi q,Zi r,Zt d]] W λe O=>e=Zr (Zo (E.A9 q r d))/\Zb W O):=λW=>E.Ln q r d W ab
   rw[hr] at HR;go_wp2_with fail;refine(HR.o _).mono ?_;rintro e f⟨rfl,a⟩;have x0:f.cell? ⟨wr.heap.size,0,none⟩=some (Zi c):=(a.cell (p:=⟨wr.heap.size,0,none⟩) (by simp)).trans (by go_simp);have x1:f.cell? ⟨wr.heap.size,1,none⟩=some (Zt Bl):=(a.cell (p:=⟨wr.heap.size,1,none⟩) (by simp)).trans (by go_simp);have x2:f.cell? ⟨wr.heap.size,2,none⟩=some (Zi q):=(a.cell (p:=⟨wr.heap.size,2,none⟩) (by simp)).trans (by go_simp);have x3:f.cell? ⟨wr.heap.size,3,none⟩=some (Zi r):=(a.cell (p:=⟨wr.heap.size,3,none⟩) (by simp)).trans (by go_simp);have x4:f.cell? ⟨wr.heap.size,4,none⟩=some (Zt d):=(a.cell (p:=⟨wr.heap.size,4,none⟩) (by simp)).trans (by go_simp);have R:Hid (Zb wr f):=Below.up (P.o _) a;clear a;go_wp2_with (at_builtin;refine wpList_append_lies _ rfl (.tmp 104) (.tmp 113) 138 rfl w.heap.size 95 L (.pointer none) 1 8 underlying138 M.o.1 M.o.2.1 M.o.2.2.1 M.o.2.2.2 rfl (by omega) (.slice ao 0 cp) 0 vs rfl (Ad l.o.1.own (Below.up R.o (M4 f _ _))) ⟨f.heap.size+1,0,none⟩ 1 1 [.pointer (some ⟨f.heap.size,0,none⟩)] rfl rfl (XF (cs:=#[.pointer (some ⟨f.heap.size,0,none⟩)]) (t:=95) (fr:=(0,0)) (bG f _ _ _ (by simp))) (by simp[Value.oneCell']) (by omega) (by unfold maxLen;omega) (by omega) (XH l.o.1.xL.size (Below.up R.o (M4 f _ _)).size) (f.heap.size+1+1) (by simp) ?_;intro gg af w2 D s ag ak)
   go_roundw
   case rel=>exact⟨1,_,_,by omega,by go_num,Ab ⟨l.o.1.leaf (by omega) R.o (by simp) s D,λ_=>rfl⟩⟩
   case measure=>simp[intOf]
  obtain rfl:k=1:=by omega
  obtain⟨g,rfl,ah,ai⟩:=l.o.1.Hc (by omega);obtain⟨u,T,hu,m,V,_⟩:=l.o.1.last (j:=0) (by omega);rw[l.o.2 rfl] at m;have Y:T=.node 0 0 ⟨c,Bl,q,r,d⟩ .nil .nil:=by simpa using m.symm
  subst Y;obtain⟨pu,rfl⟩:=V.ptr;have cu:=l.o.1.cells hu;have HT:=Ab V;have P:=Ab l.o.1.xL;clear V hu m l;go_wp2
  go_loopw [7,8] (λcv iv w2=>cv=Zp pu/\iv=Zi 1/\w2=wr) (λ_ _ _=>0)
  case atStart=>exact⟨rfl,rfl,rfl⟩
  case round=>obtain⟨rfl,rfl,rfl⟩:=hrel;go_wp2;go_ret;exact⟨_,rfl,HT.o,P.o⟩
end S
namespace F
variable{W:Tw}{T:TypeId}{g:Nat}
theorem Qf:Mw:=rK
theorem Sy(n:Int)(w:Tw):
 Zc 15 #[Zi n] w λe a=>e=Zr (Zg #[Zi 1,Zi n,Zt ⟨#[]⟩])/\Zb w a:=by
 go_enter func15,ntmps15;go_wp2;exact bodyPost_ret (v:=Zg #[Zi 1,Zi n,Zt ⟨#[]⟩]) (by simp[results,results15,go_sem]) rfl ⟨rfl,Zal⟩
theorem AAo{α:Type}{k:Nat}{en:α->List Tv}{b:Nat}{cs:Array Tv}{x:α}(h:W.heap[b]? = some (Zk cs T (0,0)))(a:en x=cs.toList):F7 k en W (Zs (some ⟨b,0,none⟩) 1 1) [x]:=by
 refine⟨some ⟨b,0,none⟩,1,rfl,XA _,λ_=>⟨b,0,rfl,Ac h,λj y hj i u hu=>?_⟩⟩
 have c:j=0:=by
  rcases Yu j with d|d
  ·exact d
  rw[Yb (by simp;omega)] at hj;cases hj
 subst c;have e:x=y:=by simpa using hj
 subst e;rw[show 0+0*k+i=i by omega,S.cell_of_heap h i];rw[a] at hu;simpa using hu
theorem AH9{α:Type}{en:α->List Tv}{b:Nat}{f a:Tv}{x y:α}(h:W.heap[b]? = some (Zk #[f,a] T (0,0)))(l:en x=[f])(m:en y=[a]):F7 1 en W (Zs (some ⟨b,0,none⟩) 2 2) [x,y]:=by
 refine⟨some ⟨b,0,none⟩,2,rfl,XA _,λ_=>⟨b,0,rfl,Ac h,λj z hj i u hu=>?_⟩⟩
 have n:j<2:=by
  rcases Yc j 2 with c|c
  ·exact c
  rw[Yb (by simp;omega)] at hj;cases hj
 have d:∀v,en z=[v]->i=0/\v=u:=λv e=>by
  rw[e] at hu
  rcases Yu i with c|c
  ·subst c;exact⟨rfl,by simpa using hu⟩
  rw[Yb (by simp;omega)] at hu;cases hu
 rcases Yu j with g|o
 ·subst g
  have k:x=z:=by simpa using hj
  subst k;obtain⟨rfl,rfl⟩:=d _ l;rw[S.cell_of_heap h];rfl
 obtain rfl:j=1:=by omega
 have k:y=z:=by simpa using hj
 subst k;obtain⟨rfl,rfl⟩:=d _ m;rw[S.cell_of_heap h];rfl
theorem AKC{x y:Nat}(n:W.heap[g]? = some (Zk #[Zs (some ⟨x,0,none⟩) 1 1,Zs (some ⟨y,0,none⟩) 1 1] 62 (0,0)))(q:W.heap[x]? = some (Zk #[Zi 1,Zi 1,Zt ⟨#[]⟩] 56 (0,0)))(t:W.heap[y]? = some (Zk #[Zi 1,Zi 2,Zt ⟨#[]⟩] 56 (0,0))):K8 W dU none 0 (some ⟨g,0,none⟩) 2 none 0 0 none 0:=by
 refine⟨.inl ⟨⟨_,_,rfl⟩,rfl⟩,(λc f=>by cases f),⟨[Zs (some ⟨x,0,none⟩) 1 1,Zs (some ⟨y,0,none⟩) 1 1],AH9 n rfl rfl,rfl,λj v r hv hr=>?_⟩,λr hr v hv=>?_,⟨_,_,rfl,XB _,λh=>absurd rfl h⟩,XB _,(λs hs=>by cases hs),λV hV=>?_,XB _,⟨(λc f=>by cases f),XB _,AEL,by decide,λs hs=>by cases hs⟩⟩
 ·have o:j<2:=by
   rcases Yc j 2 with k|k
   ·exact k
   rw[Yb (by simp;omega)] at hv;cases hv
  rcases Yu j with i|p
  ·subst i
   have b:Value.slice (some ⟨x,0,none⟩) 1 1=v:=by simpa using hv
   have d:[(1,1,⟨#[]⟩)]=r:=by simpa[dU,R2] using hr
   subst b d;exact mW (AAo q rfl)
  obtain rfl:j=1:=by omega
  have b:Value.slice (some ⟨y,0,none⟩) 1 1=v:=by simpa using hv
  have d:[(1,2,⟨#[]⟩)]=r:=by simpa[dU,R2] using hr
  subst b d;exact mW (AAo t rfl)
 ·have a:r∈R2:=hr
  simp only[R2,XW,XP,or_false] at a
  rcases a with rfl|rfl <;> (simp at hv;subst hv;decide)
 refine(S.V8 none 0 V).mono ?_;rintro e u⟨v,T,rfl,l,_,m⟩;exact⟨v,T,rfl,l,trivial,m⟩
theorem AJp(b:W.heap[g]? = some (Zk #[Zi 1,Zt ⟨#[97]⟩,Zi 1,Zi 1,Zt ⟨#[]⟩] 64 (0,0))):K8 W dV none 0 none 0 (some ⟨g,0,none⟩) 1 1 none 0:=by refine⟨.inl ⟨⟨_,_,rfl⟩,rfl⟩,(λc a=>by cases a),⟨[],⟨_,_,rfl,XB _,λh=>absurd rfl h⟩,rfl,λj x r hx _=>by simp at hx⟩,(λr hr=>by cases hr),⟨_,_,rfl,XB _,λh=>absurd rfl h⟩,XB _,(λs hs=>by cases hs),λV hV=>?_,XB _,⟨(λc a=>by cases a),XB _,(λr hr=>by cases hr),XB _,λs hs=>by cases hs⟩⟩;refine(S.AE9 g 1 1 1 ⟨#[97]⟩ ⟨#[]⟩ V ⟨by decide,by decide⟩ (by decide) (by kernel_rfl) ((hV.block _ (Ac b)).trans b)).mono ?_;rintro e i⟨v,rfl,d,f⟩;exact⟨v,tV,rfl,d,rfl,f⟩
theorem AJi:Plain iL:=λx a=>by simp[iL] at a;subst a;decide
theorem AJh:Plain Pz:=λx a=>by simp[Pz] at a;subst a;decide
theorem AGr:Plain txV:=λx a=>by simp[txV] at a;subst a;decide
theorem AKG{i k x y:Int}{s t:Tb}{mu:Bool}(h:W.heap[g]? = some (Zk #[Zi i,Zt s,Zi k,Zo mu,Zi x,Zi y,Zt t] 60 (0,0))):bH W (Zs (some ⟨g,0,none⟩) 1 1) [(i,s,k,mu,x,y,t)]:=by
 refine .inr ⟨g,0,1,rfl,XA _,Ac h,λj c n v d=>?_⟩;have a:j=0:=by have:j<1:=c;omega
 subst a;rw[show 0+0*7+n=n by omega,S.cell_of_heap h n];have b:[Value.int .i64 i,Zt s,Zi k,Zo mu,Zi x,Zi y,Zt t][n]? = some v:=d;simpa using b
theorem AJ7(h:W.heap[g]? = some (Zk #[Zi 0,Zt ⟨#[97]⟩,Zi 1,Zo false,Zi 0,Zi 0,Zt ⟨#[]⟩] 60 (0,0))):K8 W dT (some ⟨g,0,none⟩) 1 none 0 none 0 0 none 0:=by
 refine⟨AKG h,λc a=>?_,⟨[],⟨_,_,rfl,XB _,λh=>absurd rfl h⟩,rfl,λj x r hx _=>by simp at hx⟩,(λr hr=>by cases hr),⟨_,_,rfl,XB _,λh=>absurd rfl h⟩,XB _,(λs hs=>by cases hs),λV hV=>?_,XB _,⟨λc a=>?_,by decide,(λr hr=>by cases hr),XB _,λs hs=>by cases hs⟩⟩
 ·have:c=(0,⟨#[97]⟩,1,false,0,0,⟨#[]⟩):=by simpa[dT] using a
  subst this;exact⟨by decide,by decide⟩
 ·refine(S.V8 none 0 V).mono ?_
  rintro e f⟨v,T,rfl,b,_,d⟩;exact⟨v,T,rfl,b,trivial,d⟩
 have:c=(0,⟨#[97]⟩,1,false,0,0,⟨#[]⟩):=by simpa[dT] using a
 subst this;exact⟨⟨by decide,by decide⟩,⟨by decide,by decide⟩,⟨by decide,by decide⟩⟩
theorem AAS(w:Tw)(he:Ik w)(hw:Lw w)(ht:Jp w)(hg:B.Ob w)(ho:S.Lp w):Zc 5 #[] w λe w'=>e=Zr (Zo true)/\Zb w w':=by
 have z:=Aa ((uF w he hw ht).up ((XE _ _).alloc (XA _) (Zk #[Zi 0,Zt ⟨#[97]⟩,Zi 1,Zo false,Zi 0,Zi 0,Zt ⟨#[]⟩] 60)));have ag:=Y8 (w.alloc (Zk #[.map none,Zs none 0 0] 29)) (Zk #[Zi 0,Zt ⟨#[97]⟩,Zi 1,Zo false,Zi 0,Zi 0,Zt ⟨#[]⟩] 60);have D:Hid (Zc 6 #[Zp (some ⟨w.heap.size,0,none⟩),Zg #[Zi 0,Zs (some ⟨w.heap.size+1,0,none⟩) 1 1,Zs none 0 0,Zs none 0 0,Zs none 0 0,Zi 0,Zt ⟨#[]⟩,Zt ⟨#[]⟩],Zt ⟨#[116]⟩] _ _):=Aa (V1 Qf w 0 w.heap.size 0 (.map []) [] _ _ [] [] iL [] dT (some ⟨w.heap.size+1,0,none⟩) 1 none 0 none 0 0 none 0 _ ⟨z.o,Inv.nil,hg,ho,XB _,by decide,by decide,by kernel_rfl,by decide,AJi,λh=>by cases h⟩ (by decide) (vA _) (AJ7 (by simpa using ag)));have u:=Aa (Yad hg ho);clear he hw ht hg ho ag;go_enter func5,ntmps5;go_wp2_with fail;refine D.o.mono ?_;intro e w2 ah;obtain⟨rfl,n2,D2,M,an,O,R,a1,au,_,U⟩:=AJW ah;have H2:=Aa (Yad R U);clear ah R au U D z;go_wp2_with fail;refine(Sy 1 w2).mono ?_;rintro e w3⟨rfl,ad⟩;have ak:=Y8 w3 (Zk #[Zi 1,Zi 1,Zt ⟨#[]⟩] 56);have x:=Aa (Ap ad ((XE _ w3).alloc (XA _) (Zk #[Zi 1,Zi 1,Zt ⟨#[]⟩] 56)));have o:=Aa ak;clear ad ak;go_wp2_with fail;refine(Sy 2 _).mono ?_;rintro e v⟨rfl,q⟩;obtain⟨ax,Y,X,s⟩:=Kt v (Zk #[Zi 1,Zi 2,Zt ⟨#[]⟩] 56) (Zk #[Zs (some ⟨w3.heap.size,0,none⟩) 1 1,Zs (some ⟨v.heap.size,0,none⟩) 1 1] 62);have L:=Aa ((Ap q s).block _ (Ac o.o) |>.trans o.o);have ap:=Aa (Ap x.o (Ap q s));have n:Hid (iK w ((v.alloc (Zk #[Zi 1,Zi 2,Zt ⟨#[]⟩] 56)).alloc (Zk #[Zs (some ⟨w3.heap.size,0,none⟩) 1 1,Zs (some ⟨v.heap.size,0,none⟩) 1 1] 62)) 0 w.heap.size n2 D2 M an O H1 [iL] Pz):=Aa ⟨H2.o.1.up ap.o,H2.o.2,u.o.1,u.o.2,XB _,by omega,by decide,by kernel_rfl,by decide,AJh,λh=>by simp[Pz,iL] at h⟩;have G:Hid (Zc 6 #[Zp (some ⟨w.heap.size,0,none⟩),Zg #[Zi 2,Zs none 0 0,Zs (some ⟨v.heap.size+1,0,none⟩) 2 2,Zs none 0 0,Zs none 0 0,Zi 0,Zt ⟨#[]⟩,Zt ⟨#[]⟩],Zt ⟨#[117]⟩] _ _):=Aa (V1 Qf w 0 w.heap.size n2 D2 M an O H1 [iL] Pz [] dU none 0 (some ⟨v.heap.size+1,0,none⟩) 2 none 0 0 none 0 _ n.o (by decide) (AKO _) (AKC X L.o Y));clear ax Y X s q o L x;go_wp2_with fail;refine G.o.mono ?_;intro e w6 ai;obtain⟨rfl,n6,D6,N,ao,P,T,a2,av,_,V,ab⟩:=AI4 (bJ H2.o.1) H2.o.2 (n.o.free 0) ai;have t:=Aa (Yad T (Yad V ab));clear ai T av V ab G n H2;go_wp2_with fail;refine(Sy 1 w6).mono ?_;rintro e w7⟨rfl,ae⟩;have al:=Y8 w7 (Zk #[Zi 1,Zt ⟨#[97]⟩,Zi 1,Zi 1,Zt ⟨#[]⟩] 64);have y:=Aa (Ap ae ((XE _ w7).alloc (XA _) (Zk #[Zi 1,Zt ⟨#[97]⟩,Zi 1,Zi 1,Zt ⟨#[]⟩] 64)));have J:Hid (iK w (w7.alloc (Zk #[Zi 1,Zt ⟨#[97]⟩,Zi 1,Zi 1,Zt ⟨#[]⟩] 64)) 0 w.heap.size n6 D6 N ao P H2 [Pz,iL] txV):=Aa ⟨t.o.1.up y.o,t.o.2.1,u.o.1,u.o.2,XB _,by omega,by decide,by kernel_rfl,by decide,AGr,λh=>by simp[Pz,iL,txV] at h⟩;have I:Hid (Zc 6 #[Zp (some ⟨w.heap.size,0,none⟩),Zg #[Zi 3,Zs none 0 0,Zs none 0 0,Zs (some ⟨w7.heap.size,0,none⟩) 1 1,Zs none 0 0,Zi 0,Zt ⟨#[]⟩,Zt ⟨#[]⟩],Zt ⟨#[118]⟩] _ _):=Aa (V1 Qf w 0 w.heap.size n6 D6 N ao P H2 [Pz,iL] txV xU dV none 0 none 0 (some ⟨w7.heap.size,0,none⟩) 1 1 none 0 _ J.o (by decide) t.o.2.2 (AJp al));clear al ae;go_wp2_with fail;refine I.o.mono ?_;intro e w8 aj;obtain⟨rfl,n8,D8,az,ay,a0,c,a3,aw,_,p,ac⟩:=AI9 t.o.2.1 t.o.2.2 aj;have m:=Aa (ABH w.heap.size n8 D8 ay H3 (-1) 3 xV w8 c.ground (u.o.1.below c.low) (u.o.2.below c.low) p.Lm p.past (by decide) (by decide) (.inl ⟨by decide,rfl⟩) ac.Lz);have H8:=Aa c.low;clear aj c aw p ac I J t y;rw[show (Ae H3 3).cols=[cA] from rfl,AKF] at m;go_wp2_with fail;refine m.o.mono ?_;rintro e w9⟨v9,rfl,aa,af⟩;obtain⟨rb,ro,rc,xv,er,a4,a,ar⟩:=aa.slr.at (k:=0) (r:=[(1,2,⟨#[]⟩)]) rfl;obtain⟨xa,xc,rfl,a6,am⟩:=ar;obtain⟨i,j,rfl,a5,b⟩:=am (by simp);obtain⟨y0,y1,y2⟩:=b 0 _ rfl;simp only[Nat.zero_mul,XY] at a y0 y1 y2;subst er;have f:Hid (∀W,Zb w9 W->W.cell? ⟨rb,ro,none⟩=some (Zs (some ⟨i,j,none⟩) 1 xc)/\W.cell? ⟨i,j,none⟩=some (Zi 1)/\W.cell? ⟨i,j+1,none⟩=some (Zi 2)/\W.cell? ⟨i,j+2,none⟩=some (Zt ⟨#[]⟩)):=Aa λW hb=>⟨Ag hb a,Ag hb y0,Ag hb y1,Ag hb y2⟩
 have l:=Aa ((XE w9.heap.size w9).drew);have aq:=Aa (Ap H8.o af);clear aa am b af m a y0 y1 y2;obtain⟨a,y0,y1,y2⟩:=f.o _ l.o;go_wp2_with fail
 go_region_held3 (λW=>W.cell? ⟨rb,ro,none⟩=some (Zs (some ⟨i,j,none⟩) 1 xc)/\W.cell? ⟨i,j,none⟩=some (Zi 1)/\W.cell? ⟨i,j+1,none⟩=some (Zi 2)/\W.cell? ⟨i,j+2,none⟩=some (Zt ⟨#[]⟩))
  (first
    | exact f.o _ l.o
    | exact f.o _ g
    | (go_keep;done)
    | fail)
  (first
    | (go_at_call 15
       refine(Sy 2 _).mono ?_;rintro e a7⟨rfl,d⟩;have g:=Ap l.o d;clear d)
    | fail)
 all_goals
  clear a y0 y1 y2 f;go_wp2;go_ret;exact⟨rfl,Ap aq.o g⟩
end F
namespace tableCompacts
theorem k10:(Rows.tableCompactsRow.inPlace==prog.inPlace 3)=true:=by kernel_rfl
theorem k11:(Rows.tableCompactsRow.unfollowed==prog.unfollowed 3)=true:=by kernel_rfl
theorem k12:(Rows.tableCompactsRow.recurses==prog.recurses 3)=true:=by kernel_rfl
theorem k13:(Rows.tableCompactsRow.named==prog.varsNamed 3)=true:=by kernel_rfl
