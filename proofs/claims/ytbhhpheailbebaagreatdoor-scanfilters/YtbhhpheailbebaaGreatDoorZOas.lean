import Derived.Test.YtbhhpheailbebaaGreatDoorSL3s
set_option maxHeartbeats 40000000
set_option maxRecDepth 100000
open List renaming getElem?_eq_getElem->Y9,drop_succ_cons->XA,take_succ_cons->XB,drop_zero->XC,take_zero->XD,getD_eq_getElem?_getD->XE,getElem?_map->XJ,length_map->XL
open Go.World renaming news_of_block->Y',cell?_alloc_past->XF,new_ne->XH
open Nat renaming le_refl->XG,le_trans->XI
open Go.RowKit.Below renaming heap_alloc->XK,refl->XM
namespace Go.Proofs.YtbhhpheailbebaaGreatDoor
open Tryz RowKit ChangeShapes WideShapes ChangeAt Joins Deep
namespace S
variable{w:Tw}{T:CT}{g i k n q:Nat}{X Y:List Tv}
theorem Ip:(prog.info? 45).map (λi=>(i.zero,i.size,i.bytes))=some (some (Zp none),1,8):=by kernel_rfl
theorem wrap_small(m:Nat)(h:m<=1000):IntKind.i64.wrap (m:Int)=(m:Int):=by rw[IntKind.wrap_i64];omega
theorem Gy.ptr:∀{T:CT}{v:Tv},Gy w T v->∃p,v=Zp p
 | .nil,_,h=>⟨none,h⟩
 | .node _ _ ⟨_,_,_,_,_⟩ _ _,_,⟨b,_,_,e,_⟩=>⟨some ⟨b,0,none⟩,e⟩
theorem L9(w:Tw)(X Y Z:Obj):Zb w (((w.alloc X).alloc Y).alloc Z).drew:=(((Zal).alloc (by simp) _).alloc (by simp;omega) _).drew
theorem AFv(w:Tw)(X Y Z:Obj):(((w.alloc X).alloc Y).alloc Z).drew.heap[w.heap.size+1+1]? = some Z:=by rw[<-show ((w.alloc X).alloc Y).heap.size=w.heap.size+1+1 by simp];exact heap_alloc_new _ _
theorem second(w:Tw)(X Y Z:Obj):(((w.alloc X).alloc Y).alloc Z).drew.heap[w.heap.size+1]? = some Y:=by refine(XK _ _ _ (by simp)).trans ?_;rw[<-show (w.alloc X).heap.size=w.heap.size+1 by simp];exact heap_alloc_new _ _
theorem Nr(w:Tw)(cs:Array Tv)(Y Z:Obj):(((w.alloc (Zk cs 75)).alloc Y).alloc Z).drew.cell? ⟨w.heap.size,0,none⟩=cs[0]? := by
 show (((w.alloc (Zk cs 75)).alloc Y).alloc Z).cell? ⟨w.heap.size,0,none⟩=cs[0]?;rw[XF _ _ _ (by simp;omega),XF _ _ _ (by simp),World.cell?_alloc_at _ _ _ _ rfl]
theorem take_one{b:List CT}(h:b[0]? = some T):A2 T<=((b.take 1).map A2).sum:=by
 cases b with
 | nil=>simp at h
 | cons a l=>simp at h;subst h;simp
theorem Br{a:List CT}(h:a[q]? = some T):((a.take (q+1)).map A2).sum=((a.take q).map A2).sum+A2 T:=by
 have c:q<a.length:=by
  rcases Yc q a.length with b|b
  ·exact b
  rw[Yb b] at h;cases h
 rw[Yr c,List.map_append,List.sum_append];rw[Y9 c] at h;injection h with h;simp[h]
theorem jQ{w0 wr:Tw}{f:List CT}(h:Stack w0 wr i (Zs (some ⟨g,0,none⟩) n k) n X f)(m:Nat):
 ∀W,Zb wr W->∀b,(some ⟨g,0,none⟩:To)=some b->∀(j:Nat)(u:Tv),(X.take m)[j]? = some u->W.cell? (b.add j)=some u:=by
 intro W l b e j u c;cases e;have a:(⟨g,0,none⟩:Addr).add j=⟨g,j,none⟩:=by unfold Addr.add;split <;> simp_all
 rw[a]
 have d:X[j]? = some u:=by
  rw[List.getElem?_take] at c;split at c
  ·exact c
  cases c
 have:=(h.up l (XG _)).cells d;exact this
theorem fP{w0 wr:Tw}{e:List CT}(h:Stack w0 wr i (Zs (some ⟨g,0,none⟩) n k) n Y e):
 ∃a:Tw->Prop,Hid (a wr/\(∀W X,a W->a (W.alloc X))/\(∀W,a W->∀q,q<n->∃b c,W.cell? ⟨g,q,none⟩=some (Zp b)/\Gy W c (Zp b)/\0<A2 c/\e[q]? = some c)/\(∀W,a W->Zb w0 W)):=by
 refine⟨λW=>Zb wr W,XM _ _,λW X hb=>hb.alloc hb.size _,λW hb q hq=>?_,λW hb=>Below.up h.xL hb⟩;obtain⟨u,T,l,d,f,j⟩:=h.last hq;obtain⟨b,rfl⟩:=f.ptr;exact⟨b,T,(h.up hb (XG _)).cells l,f.up hb,j,d⟩
theorem rA{a:CT}{p b:To}{c:List CT}{d:Tw->Prop}(f:Gy w T (Zp p))(g:Gy w a (Zp b))(j:0<A2 T)(k:0<A2 a)(l:A2 T<=((c.take q).map A2).sum)(i:c[q]? = some a)(h:d (w.alloc (Zk #[Zi 9,Zt ⟨#[]⟩,Zi 0,Zi 0,Zt ⟨#[]⟩,Zp p,Zp b] 94))):
 Gy (w.alloc (Zk #[Zi 9,Zt ⟨#[]⟩,Zi 0,Zi 0,Zt ⟨#[]⟩,Zp p,Zp b] 94)) (.node 0 0 ⟨9,⟨#[]⟩,0,0,⟨#[]⟩⟩ T a) (Zp (some ⟨w.heap.size,0,none⟩))/\0<A2 (.node 0 0 ⟨9,⟨#[]⟩,0,0,⟨#[]⟩⟩ T a)/\A2 (.node 0 0 ⟨9,⟨#[]⟩,0,0,⟨#[]⟩⟩ T a)<=((c.take (q+1)).map A2).sum/\d (w.alloc (Zk #[Zi 9,Zt ⟨#[]⟩,Zi 0,Zi 0,Zt ⟨#[]⟩,Zp p,Zp b] 94)):=by
 have e:Zb w (w.alloc (Zk #[Zi 9,Zt ⟨#[]⟩,Zi 0,Zi 0,Zt ⟨#[]⟩,Zp p,Zp b] 94)):=Zal;refine⟨?_,by simp only[A2];omega,by rw[Br i];simp only[A2];omega,h⟩;unfold Gy;exact⟨_,Zp p,Zp b,rfl,heap_alloc_new _ _,by omega,f.up e,g.up e⟩
theorem vI(w:Tw):Gy w .nil (Zp none):=rfl
theorem Stack.step{w0 wr w:Tw}{m:Nat}{v v':Tv}{d:List CT}{a b:CT}{u f:Tv}{c k n':Int}{Bl t:Tb}{X Z:Obj}(h:Stack w0 wr i v n Y d)(o:m<=n)(g:1<=c/\c<=11)(l:Gy wr a u)(q:Gy wr b f)(r:((d.take m).map A2).sum+(1+max (A2 a) (A2 b))<=i+1)(j:(((wr.alloc X).alloc (Zk #[Zi c,Zt Bl,Zi k,Zi n',Zt t,u,f] 94)).alloc Z).drew.grownBy w none)(p:w.ownsRow (((wr.alloc X).alloc (Zk #[Zi c,Zt Bl,Zi k,Zi n',Zt t,u,f] 94)).alloc Z).drew.heap.size 45 1 v' (m+1) (Y.take m++[Zp (some ⟨wr.heap.size+1,0,none⟩)])):
 Stack w0 w (i+1) v' (m+1) (Y.take m++[Zp (some ⟨wr.heap.size+1,0,none⟩)]) (d.take m++[.node 0 0 ⟨c,Bl,k,n',t⟩ a b]):=by
 have e:=L9 wr X (Zk #[Zi c,Zt Bl,Zi k,Zi n',Zt t,u,f] 94) Z;refine(h.up e (XG _)).replace m o ?_ (by simp only[A2];omega) (by simp only[A2];omega) j p;unfold Gy;exact⟨_,u,f,rfl,second wr _ _ _,g,l.up e,q.up e⟩
theorem M4(w:Tw)(X Y:Obj):Zb w ((w.alloc X).alloc Y):=(Zal).alloc (by simp) _
theorem AJC(w:Tw)(X Y:Obj)(H:Nat)(a:w.heap.size=H):((w.alloc X).alloc Y).heap[H]? = some X:=by subst a;exact(XK _ _ _ (by simp)).trans (heap_alloc_new _ _)
theorem bG(w:Tw)(X Y:Obj)(H:Nat)(a:w.heap.size+1=H):((w.alloc X).alloc Y).heap[H]? = some Y:=by subst a;rw[<-show (w.alloc X).heap.size=w.heap.size+1 by simp];exact heap_alloc_new _ _
theorem Stack.leaf{w0 wr w W:Tw}{v v':Tv}{b:List CT}{c k n':Int}{Bl t:Tb}{Z:Obj}{H:Nat}(h:Stack w0 wr i v n X b)(a:1<=c/\c<=11)(e:Zb wr w)(d:w.heap.size=H)(f:((w.alloc (Zk #[Zi c,Zt Bl,Zi k,Zi n',Zt t,Zp none,Zp none] 94)).alloc Z).grownBy W v.ownBlock)(g:W.ownsRow w0.heap.size 45 1 v' (n+1) (X++[Zp (some ⟨H,0,none⟩)])):
 Stack w0 W (i+1) v' (n+1) (X++[Zp (some ⟨H,0,none⟩)]) (b++[.node 0 0 ⟨c,Bl,k,n',t⟩ .nil .nil]):=by
 refine(h.up (Below.up e (M4 w _ _)) (XG _)).push ?_ (by simp[A2]) f g;unfold Gy;exact⟨_,Zp none,Zp none,rfl,AJC w _ _ H d,a,vI _,vI _⟩
theorem ADb(z N L ah:Nat)(PC PK PN:Nat->Int)(PL PT:Nat->Tb)(w:Tw)(_hL:L<=ah)(_hcap:ah<=maxLen)(hT:∀j,(PT j).size<=maxLen)(Y:z<w.heap.size)(q0:∀j,j<L->w.cell? ⟨z,N+j*5,none⟩=some (Zi (PC j)))(q1:∀j,j<L->w.cell? ⟨z,N+j*5+1,none⟩=some (Zt (PL j)))(q2:∀j,j<L->w.cell? ⟨z,N+j*5+2,none⟩=some (Zi (PK j)))(q3:∀j,j<L->w.cell? ⟨z,N+j*5+3,none⟩=some (Zi (PN j)))(q4:∀j,j<L->w.cell? ⟨z,N+j*5+4,none⟩=some (Zt (PT j))):
 Zc 10 #[Zs (some ⟨z,N,none⟩) L ah] w λe V=>∃v T,e=Zr v/\Gy V T v/\A2 T<=14/\Zb w V:=by
 obtain⟨i0,ax,a1,a2,a3⟩:=info_parts Ip;have r:Hid (prog.info? 45=some i0/\i0.zero=some (Zp none)/\i0.size=1/\i0.bytes=8):=⟨ax,a1,a2,a3⟩;clear ax a1 a2 a3;have Q0:=Ab q0;have Q1:=Ab q1;have Q2:=Ab q2;have Q3:=Ab q3;have Q4:=Ab q4;have HT:=Ab hT;clear q0 q1 q2 q3 q4 hT;unfold maxLen at _hcap;go_enter func10,ntmps10;go_wp2
 go_loopw [3,4] (λo i wr=>∃(k n:Nat)(y:List Tv)(M:List CT),k<=14/\i=Zi k/\Hid (Stack w wr k o n y M)) (λ_ i _=>14-(intOf i).toNat)
 case atStart=>exact⟨0,0,[],[],by omega,rfl,⟨World.ownsRow_nil _ _ _ _,rfl,λj T u h=>by simp at h,by simp,XM _ _⟩⟩
 case round=>
  obtain⟨k,n,y,M,hk,rfl,d⟩:=hrel;obtain⟨ao,cp,rfl,bc,a4⟩:=Ak d.o.own;have bp:=d.o.AK5;unfold maxLen at a4
  by_cases P:k<L/\k<14
  ·obtain⟨O,ay⟩:=P
   have hb:=d.o.xL;have bb:z<wr.heap.size:=Ya Y hb.size;have c0:wr.cell? ⟨z,N+k*5,none⟩=some (Zi (PC k)):=(hb.cell (p:=⟨z,N+k*5,none⟩) Y).trans (Q0.o k O);have c1:wr.cell? ⟨z,N+k*5+1,none⟩=some (Zt (PL k)):=(hb.cell (p:=⟨z,N+k*5+1,none⟩) Y).trans (Q1.o k O);have c2:wr.cell? ⟨z,N+k*5+2,none⟩=some (Zi (PK k)):=(hb.cell (p:=⟨z,N+k*5+2,none⟩) Y).trans (Q2.o k O);have c3:wr.cell? ⟨z,N+k*5+3,none⟩=some (Zi (PN k)):=(hb.cell (p:=⟨z,N+k*5+3,none⟩) Y).trans (Q3.o k O);have c4:wr.cell? ⟨z,N+k*5+4,none⟩=some (Zt (PT k)):=(hb.cell (p:=⟨z,N+k*5+4,none⟩) Y).trans (Q4.o k O);have ht:=HT.o k;clear hb Q0 Q1 Q2 Q3 Q4 HT;generalize PC k=c at *;generalize PL k=Bl at *;generalize PK k=kk at *;generalize PN k=nn at *;generalize PT k=tt at *;have R:Hid (∀X,Zb wr (wr.alloc X)):=λX=>Zal
   by_cases h11:c=11
   ·subst h11
    by_cases hn0:n=0
    ·subst hn0
     go_wp2
     all_goals
      go_roundw
      case rel=>exact⟨k+1,_,y,M,by omega,by go_num,Ab (d.o.up (R.o _) (by omega))⟩
      case measure=>simp[intOf];omega
    obtain⟨m,rfl⟩:∃m,n=m+1:=⟨n-1,by omega⟩;obtain⟨g,rfl,an,aa⟩:=d.o.Hc (by omega);obtain⟨u,T,hu,am,J⟩:=d.o.AK1;obtain⟨pu,rfl⟩:=am.ptr;have cu:=d.o.cells hu;have U:Hid (Gy wr T (Zp pu)/\y[m]? = some (Zp pu)):=⟨am,hu⟩;have HD:=Ab J;have a5:(0:Int)<=(m:Int):=by omega
    have a6:(m:Int)<(m:Int)+1:=by omega
    clear hu am J;have HC:Hid (∀W,Zb wr W->∀b,(some ⟨g,0,none⟩:To)=some b->∀(j:Nat)(u':Tv),(y.take m)[j]? = some u'->W.cell? (b.add j)=some u'):=jQ d.o m;have HV:Hid ((y.take m).length=m*1):=Ab (by simp[d.o.sS]);have bo:=XH wr ⟨g,m,none⟩ cu;have HK:Hid (∀W,Zb wr W->W.cell? ⟨g,m,none⟩=some (Zp pu)):=λW hb=>(hb.cell (p:=⟨g,m,none⟩) aa).trans cu
    have ba:IntKind.i64.wrap (m:Int)=(m:Int):=wrap_small m (by omega);have a7:(m:Int)<=(cp:Int):=by omega
    go_wp2_with fail
    go_region_held3 (λV=>V.cell? ⟨g,m,none⟩=some (Zp pu))
     (first
       | (go_keep;done)
       | exact HK.o _ (L9 wr _ _ _)
       | exact HK.o _ (Below.up (L9 wr _ _ _) (below_grown a)))
     ((refine step_append_grows (by rfl) (.tmp 38) (.tmp 46) 92 (by rfl) 45 i0 (.pointer none) 1 8 underlying92 r.o.1 r.o.2.1 r.o.2.2.1 r.o.2.2.2 rfl (by omega) (some ⟨g,0,none⟩) m m (y.take m) (by rfl) (by simp) HV.o (HC.o _ (L9 wr _ _ _)) ⟨wr.heap.size+1+1,0,none⟩ 1 1 [.pointer (some ⟨wr.heap.size+1,0,none⟩)] (by rfl) (by rfl) (Y' (cs:=#[.pointer (some ⟨wr.heap.size+1,0,none⟩)]) (t:=45) (fr:=(0,0)) (AFv wr _ _ _)) (by simp[Value.oneCell']) (by omega) (by unfold maxLen;omega) (by omega) ?_;intro v' D f a))
    go_wp2
    go_roundw
    case rel=>exact⟨k+1,m+1,_,_,by omega,by go_num,Ab (d.o.step (by omega) (by omega) U.o.1 (vI wr) (by have:=HD.o;simp only[A2];omega) a f)⟩
    case measure=>simp[intOf];omega
   have bj:(c==11)=false:=by simpa using h11
   by_cases h9:c=9\/c=10
   ·by_cases af:n<=1
    ·rcases h9 with rfl|rfl
     ·go_wp2
      all_goals
       go_roundw
       case rel=>exact⟨k+1,_,y,M,by omega,by go_num,Ab (d.o.up (R.o _) (by omega))⟩
       case measure=>simp[intOf];omega
     go_wp2
     all_goals
      go_roundw
      case rel=>exact⟨k+1,_,y,M,by omega,by go_num,Ab (d.o.up (R.o _) (by omega))⟩
      case measure=>simp[intOf];omega
    obtain⟨m,rfl⟩:∃m,n=m+2:=⟨n-2,by omega⟩;obtain⟨g,rfl,an,aa⟩:=d.o.Hc (by omega);obtain⟨u1,u2,T1,T2,az,a0,ak,al,av,aw,J⟩:=d.o.AKv;have ar:=d.o.cells az;have ai:=d.o.cells a0;obtain⟨p1,rfl⟩:=ak.ptr;obtain⟨p2,rfl⟩:=al.ptr;have U:Hid (Gy wr T1 (Zp p1)/\Gy wr T2 (Zp p2)):=⟨ak,al⟩;have HD:Hid (0<A2 T1/\0<A2 T2/\((M.take m).map A2).sum+A2 T1+A2 T2<=k):=⟨av,aw,J⟩;have a5:(0:Int)<=(m:Int):=by omega
    have a6:(m:Int)<(m:Int)+2:=by omega
    obtain⟨m1,ag⟩:∃m1:Nat,m1=m+1:=⟨_,rfl⟩;have bm:(m1:Int)<(m:Int)+2:=by omega
    have bn:(0:Int)<=(m1:Int):=by omega
    have bh:IntKind.i64.wrap ((m:Int)+2-1)=(m1:Int):=by rw[show ((m:Int)+2-1)=(m1:Int) by omega];exact wrap_small m1 (by omega)
    rw[<-ag] at ai;clear ag;clear az a0 ak al av aw J;have HC:Hid (∀W,Zb wr W->∀b,(some ⟨g,0,none⟩:To)=some b->∀(j:Nat)(u':Tv),(y.take m)[j]? = some u'->W.cell? (b.add j)=some u'):=jQ d.o m;have HV:Hid ((y.take m).length=m*1):=Ab (by simp[d.o.sS]);have bd:=XH wr ⟨g,m,none⟩ ar;have bf:=XH wr ⟨g,m1,none⟩ ai;have HK:Hid (∀W,Zb wr W->∀X,W.cell? ⟨wr.heap.size,0,none⟩=some X->W.cell? ⟨g,m,none⟩=some (Zp p1)/\W.cell? ⟨g,m1,none⟩=some (Zp p2)/\W.cell? ⟨wr.heap.size,0,none⟩=some X):=λW hb X hX=>⟨(hb.cell (p:=⟨g,m,none⟩) aa).trans ar,(hb.cell (p:=⟨g,m1,none⟩) aa).trans ai,hX⟩
    have ba:IntKind.i64.wrap (m:Int)=(m:Int):=wrap_small m (by omega);have a7:(m:Int)<=(cp:Int):=by omega
    rcases h9 with rfl|rfl
    ·go_wp2_with fail
     go_region_held3 (λV=>V.cell? ⟨g,m,none⟩=some (Zp p1)/\V.cell? ⟨g,m1,none⟩=some (Zp p2)/\V.cell? ⟨wr.heap.size,0,none⟩=some (Zi 9))
      (first
        | (go_keep;done)
        | exact HK.o _ (L9 wr _ _ _) _ (Nr wr _ _ _)
        | exact HK.o _ (Below.up (L9 wr _ _ _) (below_grown a)) _ ((a.cell_far _ (by simp;omega) (by simp)).trans (Nr wr _ _ _)))
      ((refine step_append_grows (by rfl) (.tmp 66) (.tmp 81) 92 (by rfl) 45 i0 (.pointer none) 1 8 underlying92 r.o.1 r.o.2.1 r.o.2.2.1 r.o.2.2.2 rfl (by omega) (some ⟨g,0,none⟩) m m (y.take m) (by rfl) (by simp) HV.o (HC.o _ (L9 wr _ _ _)) ⟨wr.heap.size+1+1,0,none⟩ 1 1 [.pointer (some ⟨wr.heap.size+1,0,none⟩)] (by rfl) (by rfl) (Y' (cs:=#[.pointer (some ⟨wr.heap.size+1,0,none⟩)]) (t:=45) (fr:=(0,0)) (AFv wr _ _ _)) (by simp[Value.oneCell']) (by omega) (by unfold maxLen;omega) (by omega) ?_;intro v' D f a))
     go_wp2
     go_roundw
     case rel=>exact⟨k+1,m+1,_,_,by omega,by go_num,Ab (d.o.step (by omega) (by omega) U.o.1 U.o.2 (by have:=HD.o;omega) a f)⟩
     case measure=>simp[intOf];omega
    go_wp2_with fail
    go_region_held3 (λV=>V.cell? ⟨g,m,none⟩=some (Zp p1)/\V.cell? ⟨g,m1,none⟩=some (Zp p2)/\V.cell? ⟨wr.heap.size,0,none⟩=some (Zi 10))
     (first
       | (go_keep;done)
       | exact HK.o _ (L9 wr _ _ _) _ (Nr wr _ _ _)
       | exact HK.o _ (Below.up (L9 wr _ _ _) (below_grown a)) _ ((a.cell_far _ (by simp;omega) (by simp)).trans (Nr wr _ _ _)))
     ((refine step_append_grows (by rfl) (.tmp 66) (.tmp 81) 92 (by rfl) 45 i0 (.pointer none) 1 8 underlying92 r.o.1 r.o.2.1 r.o.2.2.1 r.o.2.2.2 rfl (by omega) (some ⟨g,0,none⟩) m m (y.take m) (by rfl) (by simp) HV.o (HC.o _ (L9 wr _ _ _)) ⟨wr.heap.size+1+1,0,none⟩ 1 1 [.pointer (some ⟨wr.heap.size+1,0,none⟩)] (by rfl) (by rfl) (Y' (cs:=#[.pointer (some ⟨wr.heap.size+1,0,none⟩)]) (t:=45) (fr:=(0,0)) (AFv wr _ _ _)) (by simp[Value.oneCell']) (by omega) (by unfold maxLen;omega) (by omega) ?_;intro v' D f a))
    go_wp2
    go_roundw
    case rel=>exact⟨k+1,m+1,_,_,by omega,by go_num,Ab (d.o.step (by omega) (by omega) U.o.1 U.o.2 (by have:=HD.o;omega) a f)⟩
    case measure=>simp[intOf];omega
   have b9:(c==9)=false:=by simp;omega
   have bi:(c==10)=false:=by simp;omega
   by_cases h16:1<=c/\c<=6
   ·obtain⟨h1,h6⟩:=h16
    have b7:(c==7)=false:=by simp;omega
    have b8:(c==8)=false:=by simp;omega
    by_cases hsz:(tt.size:Int)<=100
    ·have x:Hid (∀W,Zc 27 #[Zg #[Zi kk,Zi nn,Zt tt]] W λe V=>e=Zr (Zo (E.A9 kk nn tt))/\Zb W V):=λW=>E.Ln kk nn tt W ht
     cases hrv:E.A9 kk nn tt
     ·rw[hrv] at x
      clear hrv;go_wp2_with fail;refine(x.o _).mono ?_;rintro e D⟨rfl,s⟩;have x0:D.cell? ⟨wr.heap.size,0,none⟩=some (Zi c):=(s.cell (p:=⟨wr.heap.size,0,none⟩) (by simp)).trans (by go_simp);have HX:=Ab s;clear s;go_wp2
      all_goals
       go_roundw
       case rel=>exact⟨k+1,n,y,M,by omega,by go_num,Ab (d.o.up (Below.up (R.o _) HX.o) (by omega))⟩
       case measure=>simp[intOf];omega
     rw[hrv] at x;clear hrv;go_wp2_with fail;refine(x.o _).mono ?_;rintro e D⟨rfl,s⟩;have x0:D.cell? ⟨wr.heap.size,0,none⟩=some (Zi c):=(s.cell (p:=⟨wr.heap.size,0,none⟩) (by simp)).trans (by go_simp);have x1:D.cell? ⟨wr.heap.size,1,none⟩=some (Zt Bl):=(s.cell (p:=⟨wr.heap.size,1,none⟩) (by simp)).trans (by go_simp);have x2:D.cell? ⟨wr.heap.size,2,none⟩=some (Zi kk):=(s.cell (p:=⟨wr.heap.size,2,none⟩) (by simp)).trans (by go_simp);have x3:D.cell? ⟨wr.heap.size,3,none⟩=some (Zi nn):=(s.cell (p:=⟨wr.heap.size,3,none⟩) (by simp)).trans (by go_simp);have x4:D.cell? ⟨wr.heap.size,4,none⟩=some (Zt tt):=(s.cell (p:=⟨wr.heap.size,4,none⟩) (by simp)).trans (by go_simp);have HX:Hid (Zb wr D):=Below.up (R.o _) s;clear s;go_wp2_with (at_builtin;refine wpList_append_lies _ rfl (.tmp 104) (.tmp 113) 92 rfl w.heap.size 45 i0 (.pointer none) 1 8 underlying92 r.o.1 r.o.2.1 r.o.2.2.1 r.o.2.2.2 rfl (by omega) (.slice ao n cp) n y rfl (Ad d.o.own (Below.up HX.o (M4 D _ _))) ⟨D.heap.size+1,0,none⟩ 1 1 [.pointer (some ⟨D.heap.size,0,none⟩)] rfl rfl (Y' (cs:=#[.pointer (some ⟨D.heap.size,0,none⟩)]) (t:=45) (fr:=(0,0)) (bG D _ _ _ (by simp))) (by simp[Value.oneCell']) (by omega) (by unfold maxLen;omega) (by omega) (XI d.o.xL.size (Below.up HX.o (M4 D _ _)).size) (D.heap.size+1+1) (by simp) ?_;intro gg aq w2 f a au P)
     go_roundw
     case rel=>exact⟨k+1,n+1,_,_,by omega,by go_num,Ab (d.o.leaf (by omega) HX.o (by simp) a f)⟩
     case measure=>simp[intOf];omega
    have bg:(100:Int)<tt.size:=by omega
    clear hsz;go_wp2
    all_goals
     go_roundw
     case rel=>exact⟨k+1,_,y,M,by omega,by go_num,Ab (d.o.up (R.o _) (by omega))⟩
     case measure=>simp[intOf];omega
   by_cases aj:c=7\/c=8
   ·skip
    clear h16 h9 h11
    rcases aj with rfl|rfl
    ·go_wp2_with (at_builtin;refine wpList_append_lies _ rfl (.tmp 124) (.tmp 131) 92 rfl w.heap.size 45 i0 (.pointer none) 1 8 underlying92 r.o.1 r.o.2.1 r.o.2.2.1 r.o.2.2.2 rfl (by omega) (.slice ao n cp) n y rfl (Ad d.o.own (Below.up (R.o _) (M4 _ _ _))) ⟨wr.heap.size+1+1,0,none⟩ 1 1 [.pointer (some ⟨wr.heap.size+1,0,none⟩)] rfl rfl (Y' (cs:=#[.pointer (some ⟨wr.heap.size+1,0,none⟩)]) (t:=45) (fr:=(0,0)) (bG (wr.alloc _) _ _ _ (by simp))) (by simp[Value.oneCell']) (by omega) (by unfold maxLen;omega) (by omega) (XI d.o.xL.size (Below.up (R.o _) (M4 _ _ _)).size) (wr.heap.size+1+1+1) (by simp) ?_;intro gg aq w2 f a au P)
     go_roundw
     case rel=>exact⟨k+1,n+1,_,_,by omega,by go_num,Ab (d.o.leaf (by omega) (R.o _) (by simp) a f)⟩
     case measure=>simp[intOf];omega
    go_wp2_with (at_builtin;refine wpList_append_lies _ rfl (.tmp 124) (.tmp 131) 92 rfl w.heap.size 45 i0 (.pointer none) 1 8 underlying92 r.o.1 r.o.2.1 r.o.2.2.1 r.o.2.2.2 rfl (by omega) (.slice ao n cp) n y rfl (Ad d.o.own (Below.up (R.o _) (M4 _ _ _))) ⟨wr.heap.size+1+1,0,none⟩ 1 1 [.pointer (some ⟨wr.heap.size+1,0,none⟩)] rfl rfl (Y' (cs:=#[.pointer (some ⟨wr.heap.size+1,0,none⟩)]) (t:=45) (fr:=(0,0)) (bG (wr.alloc _) _ _ _ (by simp))) (by simp[Value.oneCell']) (by omega) (by unfold maxLen;omega) (by omega) (XI d.o.xL.size (Below.up (R.o _) (M4 _ _ _)).size) (wr.heap.size+1+1+1) (by simp) ?_;intro gg aq w2 f a au P)
    go_roundw
    case rel=>exact⟨k+1,n+1,_,_,by omega,by go_num,Ab (d.o.leaf (by omega) (R.o _) (by simp) a f)⟩
    case measure=>simp[intOf];omega
   have b7:(c==7)=false:=by simp;omega
   have b8:(c==8)=false:=by simp;omega
   by_cases hc1:1<=c
   ·have bk:¬c<=6:=by omega
    clear h16 aj h9 h11;go_wp2
    all_goals
     go_roundw
     case rel=>exact⟨k+1,_,y,M,by omega,by go_num,Ab (d.o.up (R.o _) (by omega))⟩
     case measure=>simp[intOf];omega
   clear h16 aj h9 h11;go_wp2
   all_goals
    go_roundw
    case rel=>exact⟨k+1,_,y,M,by omega,by go_num,Ab (d.o.up (R.o _) (by omega))⟩
    case measure=>simp[intOf];omega
  by_cases O:k<L
  ·have ay:¬k<14:=λhh=>P ⟨O,hh⟩
   clear P
   by_cases hn0:n=0
   ·subst hn0
    go_wp2;go_ret;exact⟨_,.nil,rfl,vI _,by simp[A2],d.o.xL⟩
   obtain⟨g,rfl,an,aa⟩:=d.o.Hc (by omega);obtain⟨BW,l⟩:=fP d.o;obtain⟨p0,T0,cu,ab,ad,G⟩:=l.o.2.2.1 _ l.o.1 0 (by omega);have H0:Hid (Gy wr T0 (Zp p0)/\0<A2 T0/\M[0]? = some T0):=⟨ab,ad,G⟩;have HD:=Ab d.o.dep;have HL:=Ab d.o.len;clear ab ad G d Q0 Q1 Q2 Q3 Q4 HT;have af:(n==0)=false:=by simpa using hn0
   have ap:(0:Int)<(n:Int):=by omega
   go_wp2
   go_loopw [7,8] (λcv iv w2=>∃(q:Nat)(T:CT)(p:To),1<=q/\q<=n/\iv=Zi q/\cv=Zp p/\Hid (Gy w2 T (Zp p)/\0<A2 T/\A2 T<=((M.take q).map A2).sum/\BW w2)) (λ_ iv _=>n-(intOf iv).toNat)
   case atStart=>exact⟨1,T0,p0,by omega,by omega,rfl,rfl,⟨H0.o.1,H0.o.2.1,take_one H0.o.2.2,l.o.1⟩⟩
   case round=>
    obtain⟨q,T,p,a8,a9,rfl,rfl,x⟩:=hrel;clear cu af ap
    by_cases hq:q<n
    ·obtain⟨pu,Tq,cq,ac,ae,I⟩:=l.o.2.2.1 _ x.o.2.2.2 q hq
     have U:Hid (Gy wr Tq (Zp pu)/\0<A2 Tq/\M[q]? = some Tq):=⟨ac,ae,I⟩;clear ac ae I;go_wp2
     go_roundw
     case rel=>exact⟨q+1,.node 0 0 ⟨9,⟨#[]⟩,0,0,⟨#[]⟩⟩ T Tq,some ⟨wr.heap.size,0,none⟩,by omega,by omega,by go_num,rfl,Ab (rA x.o.1 U.o.1 x.o.2.1 U.o.2.1 x.o.2.2.1 U.o.2.2 (l.o.2.1 _ _ x.o.2.2.2))⟩
     case measure=>simp[intOf];omega
    have HF:Hid (A2 T<=14):=Ab (by have h1:=x.o.2.2.1;have h2:=HD.o;rw[Yd (by have:=HL.o;omega)] at h1;omega)
    go_wp2;go_ret;exact⟨_,T,rfl,x.o.1,HF.o,l.o.2.2.2 _ x.o.2.2.2⟩
  clear P
  by_cases hn0:n=0
  ·subst hn0
   go_wp2;go_ret;exact⟨_,.nil,rfl,vI _,by simp[A2],d.o.xL⟩
  obtain⟨g,rfl,an,aa⟩:=d.o.Hc (by omega);obtain⟨BW,l⟩:=fP d.o;obtain⟨p0,T0,cu,ab,ad,G⟩:=l.o.2.2.1 _ l.o.1 0 (by omega);have H0:Hid (Gy wr T0 (Zp p0)/\0<A2 T0/\M[0]? = some T0):=⟨ab,ad,G⟩;have HD:=Ab d.o.dep;have HL:=Ab d.o.len;clear ab ad G d Q0 Q1 Q2 Q3 Q4 HT;have af:(n==0)=false:=by simpa using hn0
  have ap:(0:Int)<(n:Int):=by omega
  go_wp2
  go_loopw [7,8] (λcv iv w2=>∃(q:Nat)(T:CT)(p:To),1<=q/\q<=n/\iv=Zi q/\cv=Zp p/\Hid (Gy w2 T (Zp p)/\0<A2 T/\A2 T<=((M.take q).map A2).sum/\BW w2)) (λ_ iv _=>n-(intOf iv).toNat)
  case atStart=>exact⟨1,T0,p0,by omega,by omega,rfl,rfl,⟨H0.o.1,H0.o.2.1,take_one H0.o.2.2,l.o.1⟩⟩
  case round=>
   obtain⟨q,T,p,a8,a9,rfl,rfl,x⟩:=hrel;clear cu af ap
   by_cases hq:q<n
   ·obtain⟨pu,Tq,cq,ac,ae,I⟩:=l.o.2.2.1 _ x.o.2.2.2 q hq
    have U:Hid (Gy wr Tq (Zp pu)/\0<A2 Tq/\M[q]? = some Tq):=⟨ac,ae,I⟩;clear ac ae I;go_wp2
    go_roundw
    case rel=>exact⟨q+1,.node 0 0 ⟨9,⟨#[]⟩,0,0,⟨#[]⟩⟩ T Tq,some ⟨wr.heap.size,0,none⟩,by omega,by omega,by go_num,rfl,Ab (rA x.o.1 U.o.1 x.o.2.1 U.o.2.1 x.o.2.2.1 U.o.2.2 (l.o.2.1 _ _ x.o.2.2.2))⟩
    case measure=>simp[intOf];omega
   have HF:Hid (A2 T<=14):=Ab (by have h1:=x.o.2.2.1;have h2:=HD.o;rw[Yd (by have:=HL.o;omega)] at h1;omega)
   go_wp2;go_ret;exact⟨_,T,rfl,x.o.1,HF.o,l.o.2.2.2 _ x.o.2.2.2⟩
theorem V8(c:To)(a:Nat)(w:Tw):
 Zc 10 #[Zs c 0 a] w λe b=>∃v T,e=Zr v/\Gy b T v/\A2 T<=14/\Zb w b:=by
 go_enter func10,ntmps10;go_wp2
 go_loopw [3,4] (λo i wr=>o=Zs none 0 0/\i=Zi 0/\wr=w) (λ_ _ _=>0)
 case atStart=>exact⟨rfl,rfl,rfl⟩
 case round=>obtain⟨rfl,rfl,rfl⟩:=hrel;go_wp2;go_ret;exact⟨_,.nil,rfl,rfl,by simp[A2],XM _ _⟩
theorem AHt:prog.cellsOf 75=5:=by kernel_rfl
theorem Db:prog.cellsOf 3=1:=by kernel_rfl
theorem zS:prog.cellsOf 2=1:=by kernel_rfl
theorem Vw:prog.cellsOf 9=1:=by kernel_rfl
theorem gQ:prog.cellsOf 56=3:=by kernel_rfl
theorem ABw{H:Type}{enc:TypeId×Tv->H}{W:Tw}{base:Nat}{s:Nat->Bool}{held:Bool}{n:Nat}{cs:List Tv}{x:DataW H×List MemPlace}(h:DataW.trod enc prog W base s held n 75 cs=some x):
 ∃(c k m:Int)(l t:Tb),cs=[Zi c,Zt l,Zi k,Zi m,Zt t]/\t.size<=maxLen:=by
 obtain⟨u,v,w,n1,_,q,j,o,p⟩:=trod_struct3 underlying75 h;rw[AHt] at q
 match cs,q with
 | [v0,v1,v2,v3,v4],_=>simp only[Db,Vw,gQ,XC,XA,XB,XD] at j o p;obtain⟨c,e0,_,_⟩:=DataW.trod_int underlying3 j;obtain⟨l,a,_,_⟩:=DataW.trod_string underlying9 o;obtain⟨y,z,D,n2,_,_,f,g,i⟩:=trod_struct3 underlying56 p;simp only[Db,Vw,zS,XC,XA,XB,XD] at f g i;obtain⟨k,b,_,_⟩:=DataW.trod_int underlying3 f;obtain⟨m,d,_,_⟩:=DataW.trod_int underlying2 g;obtain⟨t,e,_,r⟩:=DataW.trod_string underlying9 i;simp at e0 a b d e;subst e0 a b d e;exact⟨c,k,m,l,t,rfl,r⟩
structure Pt where
 c:Int
 k:Int
 m:Int
 l:ByteArray
 t:ByteArray
end S
namespace F
variable{W w:Tw}{v:Tv}{H:Type}{n:Nat}{d:DataW H}{p:List MemPlace}
theorem kM:prog.cellsOf 38=8:=by kernel_rfl
theorem pR:prog.cellsOf 70=4:=by kernel_rfl
theorem ACj:prog.cellsOf 75=5:=by kernel_rfl
theorem AH4:prog.cellsOf 34=1:=by kernel_rfl
theorem AID:prog.cellsOf 35=1:=by kernel_rfl
theorem AH3:prog.cellsOf 23=1:=by kernel_rfl
theorem AHJ:prog.cellsOf 36=1:=by kernel_rfl
structure DdS where
 x:J4
 ca:Option Addr
 cc:Nat
 ra:Option Addr
 rc:Nat
 pa:Option Addr
 pn:Nat
 pc:Nat
 sa:Option Addr
 sc:Nat
def AGa(q:DdS):List Value:=[Zi q.x.Qk,.slice q.ca q.x.cols.length q.cc,.slice q.ra q.x.rows.length q.rc,.slice q.pa q.pn q.pc,.slice q.sa q.x.A3.length q.sc,Zi q.x.change,.string q.x.name,.string q.x.tw]
structure Nf(w:World)(q:DdS):Prop where
 cols:F7 7 Cc w (.slice q.ca q.x.cols.length q.cc) q.x.cols
 ACl:∀c∈q.x.cols,c.2.1.size<=maxLen/\c.2.2.2.2.2.2.size<=maxLen
 uB:∀c∈q.x.cols,Vp c
 rows:iJ w (.slice q.ra q.x.rows.length q.rc) q.x.rows
 ACg:∀r∈q.x.rows,∀v∈r,Ks v/\v.2.2.size<=maxLen
 A3:F7 4 Wu w (.slice q.sa q.x.A3.length q.sc) q.x.A3
 wX:∀s∈q.x.A3,Ks s.2/\s.2.2.2.size<=maxLen
 cnd:∀W,Zb w W->Zc 10 #[.slice q.pa q.pn q.pc] W λe w'=>∃v T,e=.returned v/\S.Gy w' T v/\q.x.tree T/\Zb W w'
 nm:q.x.name.size<=maxLen
 tw:q.x.tw.size<=maxLen
structure U8(q:DdS):Prop where
 cols:ABP q.x.cols
 rows:RowsFit q.x.rows
 parts:q.pn<=20
 A3:q.x.A3.length<=10
 wX:∀s∈q.x.A3,s.2.2.2.size<=100
theorem ADe{l:List Aj}(h:F7 7 Cc w v l):bH w v l:=by
 obtain⟨a,c,e,k,n⟩:=h
 by_cases hn:l=[]
 ·subst hn;exact .inl ⟨⟨_,_,e⟩,rfl⟩
 obtain⟨b,off,f,g,d⟩:=n hn;subst f;refine .inr ⟨b,off,c,e,k,g,λj m i v o=>?_⟩;exact d j l[j]! (by rw[List.getElem!_eq_getElem?_getD,Y9 m];rfl) i v o
theorem Nf.at{q:DdS}(h:Nf w q)(f:U8 q):K8 w q.x q.ca q.cc q.ra q.rc q.pa q.pn q.pc q.sa q.sc :=
 ⟨ADe h.cols,h.ACl,h.rows,λr a v b=>(h.ACg r a v b).2,h.A3,by have:=f.A3;omega,λs hs=>(h.wX s hs).2,h.cnd,h.tw,⟨h.uB,f.cols.1,λr a v b=>(h.ACg r a v b).1,by have:=f.rows.1;omega,λs hs=>(h.wX s hs).1⟩⟩
theorem oC{enc:TypeId×Tv->H}{P:Program}{base:Nat}{spare:Nat->Bool}{held:Bool}{t:TypeId}{b c d e f g i j:Field}{fuel:Nat}{cs:List Tv}{x:DataW H×List MemPlace}(m:P.underlying t=some (.struct #[b,c,d,e,f,g,i,j]))(h:DataW.trod enc P w base spare held fuel t cs=some x):
 ∃(n:Nat),cs.length=P.cellsOf t/\(∃y,DataW.trod enc P w base spare held n b.type ((cs.drop b.offset).take (P.cellsOf b.type))=some y)/\(∃y,DataW.trod enc P w base spare held n c.type ((cs.drop c.offset).take (P.cellsOf c.type))=some y)/\(∃y,DataW.trod enc P w base spare held n d.type ((cs.drop d.offset).take (P.cellsOf d.type))=some y)/\(∃y,DataW.trod enc P w base spare held n e.type ((cs.drop e.offset).take (P.cellsOf e.type))=some y)/\(∃y,DataW.trod enc P w base spare held n f.type ((cs.drop f.offset).take (P.cellsOf f.type))=some y)/\(∃y,DataW.trod enc P w base spare held n g.type ((cs.drop g.offset).take (P.cellsOf g.type))=some y)/\(∃y,DataW.trod enc P w base spare held n i.type ((cs.drop i.offset).take (P.cellsOf i.type))=some y)/\(∃y,DataW.trod enc P w base spare held n j.type ((cs.drop j.offset).take (P.cellsOf j.type))=some y):=by
 obtain⟨xs,n,_,_,l,k,a⟩:=DataW.trod_struct m h
 match xs,k with
 | [y0,y1,y2,y3,y4,y5,y6,y7],_=>exact⟨n,l,⟨y0,a 0 b rfl⟩,⟨y1,a 1 c rfl⟩,⟨y2,a 2 d rfl⟩,⟨y3,a 3 e rfl⟩,⟨y4,a 4 f rfl⟩,⟨y5,a 5 g rfl⟩,⟨y6,a 6 i rfl⟩,⟨y7,a 7 j rfl⟩⟩
section
variable {H : Type} {enc : TypeId × Value → H} {W : World} {sp : Nat → Bool} {held : Bool} {n : Nat} {cs : List Value} {x : DataW H × List MemPlace}
theorem AFs(h:DataW.trod enc prog W 0 sp held n 70 cs=some x):∃s:Vi,cs=Wu s/\Ks s.2/\s.2.2.2.size<=maxLen:=by
 obtain⟨k,l,n1,_,e,b,d⟩:=trod_struct2 underlying70 h;rw[pR] at e
 match cs,e with
 | [v0,v1,v2,v3],_=>simp only[Vw,gQ,XC,XA,XB,XD] at b d;obtain⟨c,e0,_,_⟩:=DataW.trod_string underlying9 b;obtain⟨v,a,j,i⟩:=qU d;simp at e0 a;obtain⟨a,f,g⟩:=a;subst e0 a f g;exact⟨(c,v),rfl,j,i⟩
theorem zP(h:DataW.trod enc prog W 0 sp held n 35 cs=some x):∃v,cs=[v]/\∃l:List (List V),iJ W v l/\∀r∈l,∀x∈r,Ks x/\x.2.2.size<=maxLen:=by
 obtain⟨v',e,l,z,p⟩:=M0 (α:=Tv×List V) (k:=1) (en:=λq=>[q.1]) (P:=λq=>E.Sl W q.1 q.2/\∀x∈q.2,Ks x/\x.2.2.size<=maxLen) (by decide) (λ_=>rfl) underlying35 AHc (λh=>by obtain⟨u,e,r,f,d⟩:=M0 (k:=3) (en:=AIQ) (P:=λx:V=>Ks x/\x.2.2.size<=maxLen) (by decide) (λ_=>rfl) underlying51 gQ (λh=>qU h) h;exact⟨(u,r),e,mW f,d⟩) h
 refine⟨v',e,?_⟩;obtain⟨a,c,t,y,g⟩:=z;refine⟨l.map (·.2),⟨l.map (·.1),⟨a,c,by rw[XL];exact t,by rw[XL];exact y,λD=>?_⟩,by simp,λj x r m f=>?_⟩,λr f=>?_⟩
 ·obtain⟨b,off,s,w,o⟩:=g (by intro h0;exact D (by rw[h0];rfl))
  refine⟨b,off,s,w,λj x m i u G=>?_⟩;rw[XJ] at m;obtain⟨q,d,rfl⟩:=Option.map_eq_some_iff.1 m;exact o j q d i u G
 ·rw[XJ] at m f
  obtain⟨q,d,rfl⟩:=Option.map_eq_some_iff.1 m;rw[d] at f;simp at f;subst f;exact(p q (List.mem_of_getElem? d)).1
 obtain⟨q,d,rfl⟩:=List.mem_map.1 f;exact(p q d).2
def AHF(q:S.Pt):List Value:=[Zi q.c,.string q.l,Zi q.k,Zi q.m,.string q.t]
def AEm(W:World)(v:Value):Prop:=∀a,Zb W a->Zc 10 #[v] a λe b=>∃u T,e=.returned u/\S.Gy b T u/\Zb a b
theorem AAi{l:List S.Pt}(h:F7 5 AHF W v l)(I:∀q∈l,q.t.size<=maxLen)(G:∀a n c,v=Zs a n c->c<=maxLen):AEm W v:=by
 intro s y;obtain⟨a,c,rfl,z,D⟩:=h
 by_cases hn:l=[]
 ·subst hn
  refine(S.V8 a c s).mono ?_;rintro e L⟨u,T,rfl,w,_,x⟩;exact⟨u,T,rfl,w,x⟩
 obtain⟨b,off,rfl,r,g⟩:=D hn;have M:∀j,j<l.length->∃q,l[j]? = some q:=λj d=>⟨_,Y9 d⟩
 have f:∀(j:Nat)(d:j<l.length)(i:Nat)u,(AHF l[j])[i]? = some u->s.cell? ⟨b,off+j*5+i,none⟩=some u:=λj d i u J=>(y.cell (p:=⟨b,off+j*5+i,none⟩) r).trans (g j _ (Y9 d) i u J)
 have o:∀(j:Nat)(d:j<l.length),l.getD j ⟨0,0,0,⟨#[]⟩,⟨#[]⟩⟩=l[j]:=λj d=>by rw[XE,Y9 d];rfl
 refine(S.ADb b off l.length c (λj=>(l.getD j ⟨0,0,0,⟨#[]⟩,⟨#[]⟩⟩).c) (λj=>(l.getD j ⟨0,0,0,⟨#[]⟩,⟨#[]⟩⟩).k) (λj=>(l.getD j ⟨0,0,0,⟨#[]⟩,⟨#[]⟩⟩).m) (λj=>(l.getD j ⟨0,0,0,⟨#[]⟩,⟨#[]⟩⟩).l) (λj=>(l.getD j ⟨0,0,0,⟨#[]⟩,⟨#[]⟩⟩).t) s z (G _ _ _ rfl) (λj=>?_) (Ya r y.size) (λj d=>?_) (λj d=>?_) (λj d=>?_) (λj d=>?_) (λj d=>?_)).mono ?_
 ·rcases Yc j l.length with d|d
  ·simp only[o j d];exact I _ (Yh d)
  rw[XE,Yb d];decide
 ·rw[o j d];exact f j d 0 _ rfl
 ·rw[o j d];exact f j d 1 _ rfl
 ·rw[o j d];exact f j d 2 _ rfl
 ·rw[o j d];exact f j d 3 _ rfl
 ·rw[o j d];exact f j d 4 _ rfl
 rintro e L⟨u,T,rfl,w,_,x⟩;exact⟨u,T,rfl,w,x⟩
theorem AAh(h:DataW.trod enc prog W 0 sp held n 75 cs=some x):∃q:S.Pt,cs=AHF q/\q.t.size<=maxLen:=by obtain⟨c,k,m,l,t,e,a⟩:=S.ABw h;exact⟨⟨c,k,m,l,t⟩,e,a⟩
theorem ACw{T E:TypeId}(g:prog.underlying T=some (.slice E))(h:DataW.trod enc prog W 0 sp held n T cs=some x)(e:cs=[v]):∀a l c,v=.slice a l c->c<=maxLen:=by
 intro a l c f;subst f
 rcases open_slice g h with⟨b,_⟩|⟨k,len,d,m,n,D,j,b,o,p,i,_⟩
 ·rw[e] at b
  simp at b;rw[b.2.2];exact Nat.zero_le _
 rw[e] at b;simp at b;rw[b.2.2];exact i
theorem qH(h:DataW.trod enc prog W 0 sp held n 23 cs=some x):∃a l c,cs=[.slice a l c]/\l<=c/\AEm W (.slice a l c):=by
 haveI:Inhabited S.Pt:=⟨⟨0,0,0,⟨#[]⟩,⟨#[]⟩⟩⟩
 obtain⟨v,e,l,f,i⟩:=M0 (k:=5) (en:=AHF) (P:=λq:S.Pt=>q.t.size<=maxLen) (by decide) (λ_=>rfl) underlying23 ACj (λh=>AAh h) h;have g:=ACw underlying23 h e;have b:=f;obtain⟨a,c,rfl,d,_⟩:=b;exact⟨a,l.length,c,e,d,AAi f i g⟩
theorem ADH(h:DataW.trod enc prog W 0 sp held n 38 cs=some x):∃q:DdS,cs=AGa q/\Nf W q/\q.x.tree=λ_=>True:=by
 obtain⟨n1,M,⟨y0,z⟩,⟨y1,g⟩,⟨y2,i⟩,⟨y3,D⟩,⟨y4,G⟩,⟨y5,I⟩,⟨y6,J⟩,⟨y7,L⟩⟩:=oC underlying38 h;rw[kM] at M
 match cs,M with
 | [v0,v1,v2,v3,v4,v5,v6,v7],_=>simp only[Db,Vw,AH4,AID,AH3,AHJ,XC,XA,XB,XD] at z g i D G I J L;obtain⟨wh,e0,_,_⟩:=DataW.trod_int underlying3 z;obtain⟨cv,p,cols,a,b⟩:=M0 (k:=7) (en:=Cc) (P:=λc:Aj=>(c.2.1.size<=maxLen/\c.2.2.2.2.2.2.size<=maxLen)/\Vp c) (by decide) (λ_=>rfl) underlying34 AGR (λh=>Go.Proofs.YtbhhpheailbebaaGreatDoor.AEc h) g;obtain⟨rv,r,rows,d,l⟩:=zP i;obtain⟨pa,X,V,t,_,U⟩:=qH D;obtain⟨sv,v,A3,f,m⟩:=M0 (k:=4) (en:=Wu) (P:=λs:Vi=>Ks s.2/\s.2.2.2.size<=maxLen) (by decide) (λ_=>rfl) underlying36 pR (λh=>AFs h) G;obtain⟨R,w,_,_⟩:=DataW.trod_int underlying3 I;obtain⟨nm,y,_,j⟩:=DataW.trod_string underlying9 J;obtain⟨tw,e7,_,o⟩:=DataW.trod_string underlying9 L;simp at e0 p r t v w y e7;subst e0 p r t v w y e7;obtain⟨N,O,rfl,_⟩:=a.slice;obtain⟨Y,rc,rfl,_⟩:=d.slice;obtain⟨sa,sc,rfl,_⟩:=f.slice;refine⟨⟨⟨wh,cols,rows,A3,R,nm,tw,λ_=>True⟩,N,O,Y,rc,pa,X,V,sa,sc⟩,rfl,⟨a,λc hc=>(b c hc).1,λc hc=>(b c hc).2,d,l,f,m,λW' hb=>?_,j,o⟩,rfl⟩;refine(U W' hb).mono ?_;rintro e w'⟨u,T,rfl,g,i⟩;exact⟨u,T,rfl,g,trivial,i⟩
end
theorem yI{enc:TypeId×Tv->H}(m:Value.okWide prog W .any n 22 v)(h:DataW.Trod enc prog W 0 (λ_=>true) true 22 v d p):
 ∃l:List DdS,F7 8 AGa W v l/\∀q∈l,Nf W q:=by
 haveI:Inhabited DdS:=⟨⟨⟨0,[],[],[],0,⟨#[]⟩,⟨#[]⟩,λ_=>True⟩,none,0,none,0,none,0,0,none,0⟩⟩
 obtain⟨b,len,a,rfl⟩:=okWide_slice underlying22 m;obtain⟨fuel,f⟩:=h;obtain⟨v',e,l,g,i⟩:=M0 (k:=8) (en:=AGa) (P:=λq:DdS=>Nf W q/\q.x.tree=λ_=>True) (by decide) (λ_=>rfl) underlying22 kM (λh=>ADH h) f;have c:v'=Zs b len a:=by simpa[Value.cells] using e.symm
 subst c;exact⟨l,g,λq j=>(i q j).1⟩
theorem ACk{enc:TypeId×Tv->H}(o:Value.okWide prog W .any n 23 v)(h:DataW.Trod enc prog W 0 (λ_=>true) true 23 v d p):∃a l c,v=.slice a l c/\l<=c/\c<=maxLen/\AEm W (.slice a l c):=by
 obtain⟨j,len,b,rfl⟩:=okWide_slice underlying23 o;obtain⟨fuel,i⟩:=h;obtain⟨a,l,c,e,k,g⟩:=qH i;have f:Value.slice a l c=Zs j len b:=by simpa[Value.cells] using e.symm
 have m:=ACw underlying23 i e;rw[f] at g;injection f with q r s;subst q r s;exact⟨a,l,c,rfl,k,m _ _ _ rfl,g⟩
