import Derived.Test.YtcfgbbpgoailaaaGreatDoorSB1
set_option maxHeartbeats 0
set_option maxRecDepth 100000
open List renaming getElem?_eq_getElem->Y',mem_of_getElem?->XA,length_append->XD,getElem?_map->XF,append_assoc->XH,flatMap_cons->XJ,getElem?_append_right->XK,getElem?_append_left->XM,ext_getElem?->XN,length_take->XP,mem_map->XR,all_eq_true->XS,length_cons->XU,getElem?_range->XX,flatMap_append->XY,range_succ->X2,length_map->X4,mem_range->X6,setIfInBounds_toArray->X',getElem?_drop->WA,mem_take_iff_getElem->WB,any_eq_false->WD,length_drop->WG,drop_of_length_le->WI,map_append->WJ,set_cons_succ->WM,set_cons_zero->WN,idxOf_cons->WQ,length_set->WS,map_map->WT,map_id'->WU
open Nat renaming le_refl->XB,zero_le->XG,le_trans->XV,le_add_right->XW,le_succ->WE,lt_succ_self->WH,add_mul->WO,zero_add->WV,add_zero->WW,mul_one->WX
open Bool renaming and_eq_true->XC,not_eq_true'->WC,false_eq_true->WL,or_eq_true->WR
open Go.RowKit.Below renaming refl->XE,heap_alloc->XZ
open Go.World renaming size_alloc->XI,ownsRow_nil->XL,news_of_block->XO
open Option renaming map_some->XQ,getD_some->XT
open Int renaming toNat_of_nonneg->WK
namespace Go.Proofs.YtcfgbbpgoailaaaGreatDoor
open Tryz RowKit Joins Lib Shelf
open Go.Sort (grow)
namespace S
variable{W w:Tw}
theorem b3s{X Y Z:Obj}(a:Below (((w.alloc X).alloc Y).alloc Z).heap.size (((w.alloc X).alloc Y).alloc Z) W):Zb w W:=(b3 w X Y Z).trans (a.mono (by simp;omega))
theorem b3d{X Y Z:Obj}(a:Below (((w.alloc X).alloc Y).alloc Z).drew.heap.size (((w.alloc X).alloc Y).alloc Z).drew W):Zb w W:=(b3 w X Y Z).drew.trans (a.mono (by simp;omega))
theorem Below.Ap{a b c:Tw}(h:Zb a b)(k:Zb b c):Zb a c:=h.trans (k.mono h.size)
theorem b8c(b:Zb w W){g:Nat}(a:w.heap.size<=g)(c d e f h i j k:Tv):Zb w ((((((((W.setCell ⟨g,0,none⟩ c).setCell ⟨g,1,none⟩ d).setCell ⟨g,2,none⟩ e).setCell ⟨g,3,none⟩ f).setCell ⟨g,4,none⟩ h).setCell ⟨g,5,none⟩ i).setCell ⟨g,6,none⟩ j).setCell ⟨g,7,none⟩ k) :=
 (((((((b.setCell a _).setCell a _).setCell a _).setCell a _).setCell a _).setCell a _).setCell a _).setCell a _
theorem AD6(c1 f h n1:Int)(t1:Tb)(j l:Int)(n:Tb)(d g i n2:Int)(t2:Tb)(k m:Int)(o:Tb)(w:Tw)(t:0<=c1)(p:c1<=1000)(u:0<=d)(q:d<=1000)(x:0<=f)(r:f<=1000)(y:0<=g)(s:g<=1000):
 Zc 206 #[Zg #[Zi c1,Zi f,Zi h,Zi n1,Zt t1,Zi j,Zi l,Zt n],Zg #[Zi d,Zi g,Zi i,Zi n2,Zt t2,Zi k,Zi m,Zt o]] w
  λe a=>e=Zr (Zg #[Zi (c1+d),Zi (f+g),Zi (D9 (h,n1,t1) (i,n2,t2)).1,Zi (D9 (h,n1,t1) (i,n2,t2)).2.1,Zt (D9 (h,n1,t1) (i,n2,t2)).2.2,Zi (Gu (j,l,n) (k,m,o)).1,Zi (Gu (j,l,n) (k,m,o)).2.1,Zt (Gu (j,l,n) (k,m,o)).2.2])/\Zb w a:=by
 have I:=Aa (AB1 h n1 i n2 t1 t2);have G:=Aa (mX j l k m n o);generalize (D9 (h,n1,t1) (i,n2,t2))=X at *;generalize (Gu (j,l,n) (k,m,o))=J at *;obtain⟨V,W,lt⟩:=X;obtain⟨L,M,P⟩:=J;have hz:w.heap.size<w.heap.size+1+1+1:=by omega
 have U:w.heap.size<w.heap.size+1+1:=by omega
 have N:¬w.heap.size=w.heap.size+1+1:=by omega
 have O:¬w.heap.size+1+1=w.heap.size:=by omega
 have R:IntKind.i64.wrap (c1+d)=c1+d:=by rw[IntKind.wrap_i64];omega
 have T:IntKind.i64.wrap (f+g)=f+g:=by rw[IntKind.wrap_i64];omega
 clear t p u q x r y s;go_enter func206,ntmps206;go_wp2
 go_region_held3 (λa=>a.cell? ⟨w.heap.size,0,none⟩=some (Zi c1)/\a.cell? ⟨w.heap.size,1,none⟩=some (Zi f)/\a.cell? ⟨w.heap.size,2,none⟩=some (Zi h)/\a.cell? ⟨w.heap.size,3,none⟩=some (Zi n1)/\a.cell? ⟨w.heap.size,4,none⟩=some (Zt t1)/\a.cell? ⟨w.heap.size,5,none⟩=some (Zi j)/\a.cell? ⟨w.heap.size,6,none⟩=some (Zi l)/\a.cell? ⟨w.heap.size,7,none⟩=some (Zt n)
  /\a.cell? ⟨w.heap.size+1,0,none⟩=some (Zi d)/\a.cell? ⟨w.heap.size+1,1,none⟩=some (Zi g)/\a.cell? ⟨w.heap.size+1,2,none⟩=some (Zi i)/\a.cell? ⟨w.heap.size+1,3,none⟩=some (Zi n2)/\a.cell? ⟨w.heap.size+1,4,none⟩=some (Zt t2)/\a.cell? ⟨w.heap.size+1,5,none⟩=some (Zi k)/\a.cell? ⟨w.heap.size+1,6,none⟩=some (Zi m)/\a.cell? ⟨w.heap.size+1,7,none⟩=some (Zt o)) (go_keep)
  (first
    | (go_at_call 245;refine(I.o _).mono ?_;rintro e z⟨rfl,b⟩;obtain⟨hcl,hfl⟩:=Qv b;have z0:w.heap.size<z.heap.size:=Ya (by first|assumption|(simp;done)|(simp;omega)) b.size;have z1:w.heap.size+1<z.heap.size:=Ya (by first|assumption|(simp;done)|(simp;omega)) b.size;have Y:w.heap.size+1+1<z.heap.size:=Ya (by first|assumption|(simp;done)|(simp;omega)) b.size)
    | (go_at_call 246;refine(G.o _).mono ?_;rintro e D⟨rfl,c⟩;obtain⟨hcg,hfg⟩:=Qv c;have y0:w.heap.size<D.heap.size:=Ya (by first|assumption|(simp;done)|(simp;omega)) c.size;have y1:w.heap.size+1<D.heap.size:=Ya (by first|assumption|(simp;done)|(simp;omega)) c.size;have y2:w.heap.size+1+1<D.heap.size:=Ya (by first|assumption|(simp;done)|(simp;omega)) c.size))
 go_wp2;exact bodyPost_ret (v:=Zg #[Zi (c1+d),Zi (f+g),Zi V,Zi W,Zt lt,Zi L,Zi M,Zt P]) (by simp[results,results206,go_sem,hcl,hcg,Y]) rfl ⟨rfl,b8c (Below.Ap (b3d b) c) (by omega) _ _ _ _ _ _ _ _⟩
variable{g k r:Nat}{w:Tw}{s:St}
theorem Gj(w:Tw)(X Y:Obj):Zb w ((w.alloc X).alloc Y):=Zal.alloc (by simp) _
def Sl(w:World)(v:Value)(l:List V):Prop :=
 ∃a c,v=.slice a l.length c/\l.length<=c/\(l≠[]->∃b off,a=some ⟨b,off,none⟩/\b<w.heap.size /\
  ∀j x,l[j]? = some x->w.cell? ⟨b,off+j*3,none⟩=some (Zi x.1)/\w.cell? ⟨b,off+j*3+1,none⟩=some (Zi x.2.1)/\w.cell? ⟨b,off+j*3+2,none⟩=some (.string x.2.2))
theorem Hk{α:Type}{l:List α}(h:k<l.length):∃x,l[k]? = some x:=⟨_,Y' h⟩
theorem Cs{α:Type}{l:List α}{x:α}(h:l[k]? = some x):l.take (k+1)=l.take k++[x]:=by
 have b:k<l.length:=by
  rcases Yc k l.length with a|a
  ·exact a
  rw[Yb a] at h;cases h
 rw[Ys b];rw[Y' b] at h;injection h with h;rw[h]
def Iv(l:List V):St:=l.foldl (λs v=>lL s (K7 v)) F6
theorem Vl{l:List V}{x:V}(h:l[k]? = some x):Iv (l.take (k+1))=lL (Iv (l.take k)) (K7 x):=by rw[Cs h];simp[Iv]
theorem q8(x:V):(K7 x).1=1/\0<=(K7 x).2.1/\(K7 x).2.1<=1:=by unfold K7;split <;> simp
theorem Qx(l:List V):∀k,k<=l.length->(Iv (l.take k)).1=k/\0<=(Iv (l.take k)).2.1/\(Iv (l.take k)).2.1<=k
 | 0,_=>by simp[Iv,F6]
 | k+1,h=>by obtain⟨x,a⟩:=Hk (show k<l.length by omega);have c:=Qx l k (by omega);have b:=q8 x;rw[Vl a];simp only[lL];omega
theorem jK(l:List V)(a:∀x∈l,0<=x.1):∀k,k<=l.length->Pk (l.take k) (Iv (l.take k))
 | 0,_=>Pk.nil
 | k+1,h=>by obtain⟨x,b⟩:=Hk (show k<l.length by omega);rw[Vl b,Cs b];exact(jK l a k (by omega)).both (Pk.single x) (λy c=>a y (Yl c)) (λy c=>by rw[List.mem_singleton.1 c];exact a x (XA b))
theorem AHR(l:List V)(a:∀x∈l,0<=x.1):Pk l (Iv l):=by have:=jK l a l.length (XB _);rwa[Yd (XB _)] at this
def E6(s:St):Array Value:=#[Zi s.1,Zi s.2.1,Zi s.2.2.1.1,Zi s.2.2.1.2.1,.string s.2.2.1.2.2,Zi s.2.2.2.1,Zi s.2.2.2.2.1,.string s.2.2.2.2.2]
def Nq(w:World)(g:Nat)(s:St):Prop:=w.heap[g]? = some (.cells (E6 s) 231)
theorem Nq.lt(h:Nq w g s):g<w.heap.size:=by
 rcases Yc g w.heap.size with a|a
 ·exact a
 unfold Nq at h;rw[Array.getElem?_eq_none a] at h;cases h
theorem Nq.up{W:Tw}(h:Nq w g s)(a:Zb w W):Nq W g s:=(a.block g h.lt).trans h
theorem Nq.cells{w:Tw}{g:Nat}{c m k n:Int}{t:Tb}{k' n':Int}{t':Tb}(h:Nq w g (c,m,(k,n,t),(k',n',t'))):
 w.cell? ⟨g,0,none⟩=some (Zi c)/\w.cell? ⟨g,1,none⟩=some (Zi m)/\w.cell? ⟨g,2,none⟩=some (Zi k)/\w.cell? ⟨g,3,none⟩=some (Zi n)/\w.cell? ⟨g,4,none⟩=some (Zt t)/\w.cell? ⟨g,5,none⟩=some (Zi k')/\w.cell? ⟨g,6,none⟩=some (Zi n')/\w.cell? ⟨g,7,none⟩=some (Zt t') :=
 ⟨cell_of_block h 0,cell_of_block h 1,cell_of_block h 2,cell_of_block h 3,cell_of_block h 4,cell_of_block h 5,cell_of_block h 6,cell_of_block h 7⟩
theorem Nq.free(h:Nq w g s):
 w.frozen? ⟨g,0,none⟩=false/\w.frozen? ⟨g,1,none⟩=false/\w.frozen? ⟨g,2,none⟩=false/\w.frozen? ⟨g,3,none⟩=false/\w.frozen? ⟨g,4,none⟩=false/\w.frozen? ⟨g,5,none⟩=false/\w.frozen? ⟨g,6,none⟩=false/\w.frozen? ⟨g,7,none⟩=false :=
 ⟨unfrozen_of_block h 0,unfrozen_of_block h 1,unfrozen_of_block h 2,unfrozen_of_block h 3,unfrozen_of_block h 4,unfrozen_of_block h 5,unfrozen_of_block h 6,unfrozen_of_block h 7⟩
theorem Nq.put{s s':St}(h:Nq w g s):
 Nq ((((((((w.setCell ⟨g,0,none⟩ (Zi s'.1)).setCell ⟨g,1,none⟩ (Zi s'.2.1)).setCell ⟨g,2,none⟩ (Zi s'.2.2.1.1)).setCell ⟨g,3,none⟩ (Zi s'.2.2.1.2.1)).setCell ⟨g,4,none⟩ (Zt s'.2.2.1.2.2)).setCell ⟨g,5,none⟩ (Zi s'.2.2.2.1)).setCell ⟨g,6,none⟩ (Zi s'.2.2.2.2.1)).setCell ⟨g,7,none⟩ (Zt s'.2.2.2.2.2)) g s':=by
 unfold Nq at h ⊢;rw[block_setCell (block_setCell (block_setCell (block_setCell (block_setCell (block_setCell (block_setCell (block_setCell h _) _) _) _) _) _) _) _];simp[E6]
theorem Nq.AKz{s s':St}{c m k n:Int}{t:Tb}{k' n':Int}{t':Tb}(h:Nq w g s)(e:s'=(c,m,(k,n,t),(k',n',t'))):
 Nq ((((((((w.setCell ⟨g,0,none⟩ (Zi c)).setCell ⟨g,1,none⟩ (Zi m)).setCell ⟨g,2,none⟩ (Zi k)).setCell ⟨g,3,none⟩ (Zi n)).setCell ⟨g,4,none⟩ (Zt t)).setCell ⟨g,5,none⟩ (Zi k')).setCell ⟨g,6,none⟩ (Zi n')).setCell ⟨g,7,none⟩ (Zt t')) g s':=by
 subst e;have:=Nq.put (s':=(c,m,(k,n,t),(k',n',t'))) h;exact this
theorem Nq.off{i:Nat}{v:Tv}(h:Nq w r s)(a:r<g):Nq (w.setCell ⟨g,i,none⟩ v) r s :=
 (((XE g w).setCell (XB _) v).block r a).trans h
theorem Nq.AKr{v u f a e c d i:Tv}(h:Nq w r s)(b:r<g):
 Nq ((((((((w.setCell ⟨g,0,none⟩ v).setCell ⟨g,1,none⟩ u).setCell ⟨g,2,none⟩ f).setCell ⟨g,3,none⟩ a).setCell ⟨g,4,none⟩ e).setCell ⟨g,5,none⟩ c).setCell ⟨g,6,none⟩ d).setCell ⟨g,7,none⟩ i) r s :=
 (((((((h.off b).off b).off b).off b).off b).off b).off b).off b
theorem ACR(w:Tw)(X Y:Obj):((w.alloc X).alloc Y).heap[w.heap.size+1]? = some Y:=by rw[<-show (w.alloc X).heap.size=w.heap.size+1 by simp];exact Y8 _ _
theorem yU(v:Tv)(l:List V)(w:Tw)(hs:Sl w v l)(hl:l.length<=60):
 Zc 167 #[v] w λe w'=>e=Zr (Zg (E6 (Iv l)))/\Zb w w':=by
 obtain⟨a,c,rfl,_,R⟩:=hs;have M:=Aa R;clear R;go_enter func167,ntmps167;go_wp2
 go_loopw [8] (λJ wr=>∃k:Nat,k<=l.length/\J=Zi k/\Hid (Nq wr w.heap.size F6/\Nq wr (w.heap.size+1) (Iv (l.take k))/\Zb w wr)) (λJ _=>l.length-(intOf J).toNat)
 case atStart=>exact⟨0,XG _,rfl,⟨(XZ _ _ _ (by simp)).trans (Y8 _ _),ACR w _ _,Gj _ _ _⟩⟩
 case round=>
  obtain⟨k,hk,rfl,d⟩:=hrel
  by_cases hlt:k<l.length
  ·obtain⟨b,off,rfl,u,T⟩:=M.o (by intro e;rw[e] at hlt;simp at hlt)
   obtain⟨⟨o,q,r⟩,x⟩:=Hk hlt;obtain⟨N,O,P⟩:=T k _ x;have d0:wr.cell? ⟨b,off+k*3,none⟩=some (Zi o):=(d.o.2.2.cell (p:=⟨b,off+k*3,none⟩) u).trans N;have d1:wr.cell? ⟨b,off+k*3+1,none⟩=some (Zi q):=(d.o.2.2.cell (p:=⟨b,off+k*3+1,none⟩) u).trans O;have d2:wr.cell? ⟨b,off+k*3+2,none⟩=some (Zt r):=(d.o.2.2.cell (p:=⟨b,off+k*3+2,none⟩) u).trans P;have HN:=Aa (Vl x);have f:=Qx l k (by omega);have g:=q8 (o,q,r);have HO:=Aa (ADG o q r);clear N O P T x;generalize Iv (l.take k)=s1 at *;generalize K7 (o,q,r)=so at *;obtain⟨c1,z,⟨y,n1,t1⟩,⟨D,G,I⟩⟩:=s1;obtain⟨c2,m2,⟨k2,n2,t2⟩,⟨p2,q2,u2⟩⟩:=so;obtain⟨e0,e1,e2,e3,e4,e5,e6,e7⟩:=d.o.2.1.cells;obtain⟨f0,f1,f2,f3,f4,f5,f6,f7⟩:=d.o.2.1.free;have aa:=d.o.2.1.lt;have HB:Hid (∀W,_):=Aa (λW=>AD6 c1 z y n1 t1 D G I c2 m2 k2 n2 t2 p2 q2 u2 W (by simp only at f;omega) (by simp only at f;omega) (by simp only at g;omega) (by simp only at g;omega) (by simp only at f;omega) (by simp only at f;omega) (by simp only at g;omega) (by simp only at g;omega));clear f g;have ab:¬wr.heap.size=w.heap.size+1:=by omega
   have ac:¬w.heap.size+1=wr.heap.size:=by omega
   have hz:w.heap.size+1<wr.heap.size+1:=by omega
   go_wp2_with fail
   go_region_with (first
    | (go_at_call 207;refine(HO.o _).mono ?_;rintro e U⟨rfl,h⟩;obtain⟨hcl,hfl⟩:=Qv h;have X:w.heap.size+1<U.heap.size:=Ya (by first|assumption|(simp;done)|(simp;omega)) h.size;have Y:wr.heap.size<U.heap.size:=Ya (by first|assumption|(simp;done)|(simp;omega)) h.size)
    | (go_at_call 206;refine(HB.o _).mono ?_;rintro e L⟨rfl,i⟩;obtain⟨hcg,hfg⟩:=Qv i;have y0:w.heap.size+1<L.heap.size:=Ya (by first|assumption|(simp;done)|(simp;omega)) i.size;have y1:wr.heap.size<L.heap.size:=Ya (by first|assumption|(simp;done)|(simp;omega)) i.size))
   all_goals
    go_wp2
    go_roundw
    case rel=>have s:Zb wr L:=Below.Ap (Below.Ap (((XE _ wr).alloc (XB _) _).drew) h) i;exact⟨k+1,by omega,by go_num,Aa ⟨(d.o.1.up s).AKr (by omega),Nq.AKz (d.o.2.1.up s) (HN.o.trans rfl),b8c (Below.Ap d.o.2.2 s) (by omega) _ _ _ _ _ _ _ _⟩⟩
    case measure=>simp[intOf];omega
  have e:l.take k=l:=Yd (by omega);rw[e] at d;clear e M;obtain⟨s1,j⟩:∃s1,Iv l=s1:=⟨_,rfl⟩;rw[j] at d;have HE:=Aa j;clear j;obtain⟨c1,z,⟨y,n1,t1⟩,⟨D,G,I⟩⟩:=s1;obtain⟨e0,e1,e2,e3,e4,e5,e6,e7⟩:=d.o.2.1.cells;obtain⟨X,Y,z2,z3,z4,z5,z6,z7⟩:=Nq.cells (c:=0) (m:=0) (k:=0) (n:=0) (t:=⟨#[]⟩) (k':=0) (n':=0) (t':=⟨#[]⟩) d.o.1;obtain⟨f0,f1,f2,f3,f4,f5,f6,f7⟩:=d.o.1.free;go_wp2;exact bodyPost_ret (v:=Zg #[Zi c1,Zi z,Zi y,Zi n1,Zt t1,Zi D,Zi G,Zt I]) (by simp[results,results167,go_sem,X,Y,z2,z3,z4,z5,z6,z7]) rfl ⟨by rw[HE.o];rfl,b8c d.o.2.2 (XB _) _ _ _ _ _ _ _ _⟩
end S
theorem Hs(a b:List Aj):Av (a++b)=Av a++Av b:=by simp[Av]
theorem Gz(l:List Aj)(nm:Tb):(Ce l nm = -1/\∀j,j<l.length->l[j]!.2.1≠nm)\/∃k:Nat,k<l.length/\Ce l nm=k/\l[k]!.2.1=nm:=by
 by_cases h:∃k,k<l.length/\l[k]!.2.1=nm
 ·right
  have d:∃k,k<l.length/\l[k]!.2.1=nm:=h
  let P:Nat->Prop:=λk=>k<l.length/\l[k]!.2.1=nm
  have i:∀n,(∃k,k<n/\P k)->∃k,P k/\∀j,j<k->¬P j:=by
   intro n
   induction n with
   | zero=>rintro⟨k,c,_⟩;omega
   | succ n ih=>
     rintro⟨k,c,p⟩
     by_cases hx:∃j,j<n/\P j
     ·exact ih hx
     refine⟨k,p,λj a g=>hx ⟨j,by omega,g⟩⟩
  obtain⟨o,f⟩:=d;obtain⟨k,⟨c,m⟩,b⟩:=i (o+1) ⟨o,by omega,f⟩;refine⟨k,c,?_,m⟩
  have:=Lib.idxBy_hit (λ(_:Aj)(y:Aj)=>y.2.1.toList==nm.toList) l l.length k default c (XB _) (by show (l[k]!.2.1.toList==nm.toList)=true;rw[m];exact beq_self_eq_true _) (λj a=>by
   have:=b j a;have:l[j]!.2.1≠nm:=λe=>this ⟨by omega,e⟩
   exact beq_eq_false_iff_ne.2 (λe=>this (toList_inj e)))
  rw[Yf] at this;exact this
 left;refine⟨?_,λj a e=>h ⟨j,a,e⟩⟩;have:=Lib.idxBy_miss (λ(_:Aj)(y:Aj)=>y.2.1.toList==nm.toList) l l.length default (λj a=>beq_eq_false_iff_ne.2 (λe=>h ⟨j,a,toList_inj e⟩));rw[Yf] at this;exact this
theorem I1.drop{w:Tw}{g o:Nat}{l:List Aj}(h:I1 w g o l)(n:Nat):I1 w g (o+n*7) (l.drop n) :=
 ⟨h.1,λj c i v b=>by
  have a:n+j<l.length:=by simp at c;omega
  have e:(l.drop n)[j]! = l[n+j]! := by simp[List.getElem!_eq_getElem?_getD]
  rw[e] at b;have:=h.2 (n+j) a i v b;rwa[show o+(n+j)*7+i=o+n*7+j*7+i by omega] at this⟩
theorem I1.Fz{w:Tw}{base g n k:Nat}{l:List Aj}(h:w.ownsRow base 60 7 (Zs (some ⟨g,0,none⟩) n k) n (Av l))(e:n=l.length):I1 w g 0 l:=by
 refine⟨(h.lt g rfl).2,λj d i v b=>?_⟩
 have c:i<7:=by
  rcases Yc i 7 with a|a
  ·exact a
  rw[Yb (by rw[Gl];exact a)] at b;cases b
 have:=h.cellAt (j*7+i) (by subst e;omega);rw[Wq l j i d c,b] at this;rw[show 0+j*7+i=j*7+i by omega];exact this
theorem xJ(nm:Tb)(B:Nat)(w:Tw)(b:B<w.heap.size)(a:w.cell? ⟨B,0,none⟩=some (Zt nm)):
 PredBelow prog 150 #[Zp (some ⟨B,0,none⟩)] (λx:Aj=>Zg (Cc x).toArray) (λc=>c.2.1.toList==nm.toList) w:=λW x hb=>by
 have l:W.cell? ⟨B,0,none⟩=some (Zt nm):=(hb.cell (p:=⟨B,0,none⟩) b).trans a;have j:B<W.heap.size:=Ya b hb.size;have k:B≠W.heap.size:=by omega
 obtain⟨c1,d,e,f,g,h,i⟩:=x;show Zc 150 #[Zg #[Zi c1,Zt d,Zi e,Zo f,Zi g,Zi h,Zt i],Zp (some ⟨B,0,none⟩)] W _;go_enter func150,ntmps150;go_wp2
 all_goals (go_ret;exact⟨rfl,hb.alloc hb.size _⟩)
theorem E8(g o c:Nat)(l:List Aj)(nm:Tb)(w:Tw)(h:I1 w g o l)(j:l.length<=8):
 Zc 92 #[Zs (some ⟨g,o,none⟩) l.length c,Zt nm] w λe f=>e=Zr (Zi (Ce l nm))/\Zb w f:=by
 have i:∀args w,(callFunc 150 args).run prog w=.ok (.enter 150 args) w:=enters_of func150 (by kernel_rfl) rfl;have b:I1 (w.alloc (Zk #[Zt nm] 9)) g o l:=h.below Zal
 have a:=AnyQ.slices_IndexFunc layIdx 7 isAgg60 sizeOf60 Cc Gl (λc=>c.2.1.toList==nm.toList) 150 #[Zp (some ⟨w.heap.size,0,none⟩)] i g o l.length c l (w.alloc (Zk #[Zt nm] 9))
  (xJ nm w.heap.size _ (by simp) (by simp)) (XB _) (by omega) b.1 b.2
 rw[Yf] at a
 change Zc 149 _ _ (λe f=>e=Zr (Zi (Ce l nm))/\_) at a
 clear h b;generalize Ce l nm=r at a ⊢;go_enter func92,ntmps92;go_wp2_with (go_at_call 149;refine a.mono ?_;rintro e f⟨rfl,d⟩);go_ret;exact⟨rfl,b1c d⟩
theorem Rb(g o c:Nat)(l:List Aj)(w:Tw)(h:I1 w g o l)(s:l.length<=8):
 Zc 81 #[Zs (some ⟨g,o,none⟩) l.length c] w λe p=>∃d b,e=Zr (Zs (some ⟨d,0,none⟩) l.length b)/\p.ownsRow w.heap.size 60 7 (Zs (some ⟨d,0,none⟩) l.length b) l.length (Av l)/\Zb w p:=by
 obtain⟨r,i,k,m,n⟩:=info_parts Kh;refine(AnyE.slices_Clone layClo r L6 7 72 i k m n rfl (by decide) sizeOf60 g o l.length c (Av l) w (Hy l) (by unfold maxLen;omega) (by omega) h.flat (Ni l)).mono ?_;rintro e p⟨v',rfl,a,j,q⟩
 rcases ownsRow_forms a with⟨f,_⟩|⟨d,b,f⟩
 ·exact(j f).elim
 subst f;exact⟨d,b,rfl,a,q⟩
theorem jU{s:Tb}(h:Bv s=true):s.size<=maxLen:=by
 have:Bx s=true:=by simp[Bv] at h;exact h.2
 have:=Rk this;unfold maxLen;omega
theorem nG{k n:Int}{t:Tb}(h:A9 k n t=true):t.size<=40:=by
 unfold A9 at h
 have e0:t.toList.isEmpty=true->t.size<=40:=λe=>by
  have:t.toList=[]:=by simpa using e
  have:=toList_nil.1 this;omega
 split at h
 ·exact e0 (by simp at h;simp[h.2])
 split at h
 ·exact e0 h
 split at h
 ·simp[Vb] at h;exact h.2.1
 cases h
theorem kU{k x y:Int}{t:Tb}(h:Cm k x y t=true):t.size<=maxLen:=by
 have:A9 x y t=true:=by simp[Cm] at h;exact h.1
 have:=nG this;unfold maxLen;omega
namespace F
variable{l:List Aj}{i:Nat}{c:Aj}
abbrev V:=Int×Int×ByteArray
variable{r:List V}{p:List (List V)}
abbrev Fk:=Nat×List S.St×List (List UInt8)
variable{g:Fk}
abbrev s9:=List Aj×List Fk
def zV:V:=(0,0,⟨#[]⟩)
def zC:Aj:=(0,⟨#[]⟩,0,false,0,0,⟨#[]⟩)
def bP(c:Aj):V:=(c.2.2.2.2.1,c.2.2.2.2.2.1,c.2.2.2.2.2.2)
def kd(c:Aj):Int:=c.2.2.1
def ids(l:List Aj):List Int:=l.map (·.1)
def D7(rows:List (List V))(i:Nat):List V:=rows.map λr=>r[i]?.getD zV
def An(l:List Aj)(part:List (List V)):Fk :=
 (part.length,(List.range l.length).map (λi=>S.Iv (D7 part i)),(List.range l.length).map λi=>E.Hv (kd (l[i]?.getD zC)) (D7 part i))
def Dz(rows:List (List V))(k:Nat):List (List V):=(rows.drop (6*k)).take 6
def aF(n:Nat):Nat:=(n+5) / 6
def parts(rows:List (List V)):List (List (List V)):=(List.range (aF rows.length)).map (Dz rows)
def Ay(l:List Aj)(rows:List (List V)):List Fk:=(parts rows).map (An l)
def Mg(l:List Aj)(next:Int)(k:Nat):Bool:=Ko (l[k]?.getD zC) && (decide ((l[k]?.getD zC).1<next) && !(l.take k).any (Ez (l[k]?.getD zC)))
def Be(l:List Aj)(next:Int):Bool:=decide (1<=l.length/\l.length<=8) && (List.range l.length).all (Mg l next)
def Lf:Int:=1099511627777
def Lx(c:Aj)(v:V):Bool:=Cm (kd c) v.1 v.2.1 v.2.2
def Ia:List Aj->List V->Int
 | c :: l,v :: row=>if Lx c v=false then 1 else if (c.2.2.2.1 && v.1==0)=true then 7 else Ia l row
 | _,_=>0
def Hu(l:List Aj)(row:List V):Int:=if row.length=l.length then Ia l row else 1
def De(l:List Aj)(rows:List (List V)):Bool:=Be l Lf && (decide (1<=rows.length/\rows.length<=60) && rows.all λr=>Hu l r==0)
def J9(l:List Aj)(rows:List (List V)):Option s9:=if De l rows then some (l,Ay l rows) else none
def pos(cols:List Aj)(id:Int):Nat:=(ids cols).idxOf id
def Bq(cols:List Aj)(g:Fk)(c:Aj):List V :=
 if pos cols c.1<cols.length then (E.Ll (kd (cols[pos cols c.1]?.getD zC)) (g.2.2[pos cols c.1]?.getD [])).getD [] else List.replicate g.1 (bP c)
def Gb(cols:List Aj)(g:Fk):Bool:=decide (g.2.1.length=cols.length/\g.2.2.length=cols.length/\1<=g.1/\g.1<=6)
def Lh(cols:List Aj)(g:Fk)(a:List Aj):List (List V):=(List.range g.1).map λj=>a.map λc=>(Bq cols g c)[j]?.getD zV
def Ew(cols:List Aj)(g:Fk)(a:List Aj):Option (List (List V)) :=
 if Gb cols g && a.all (λc=>(Bq cols g c).length==g.1) then some (Lh cols g a) else none
def Fb(cols a:List Aj):List (List V)->List Fk->Option (List (List V))
 | acc,[]=>some acc
 | acc,g :: gs=>match Ew cols g a with
   | none=>none
   | some r=>Fb cols a (acc++r) gs
def I3(i:Nat):ByteArray:=⟨#[99,(48+i).toUInt8]⟩
def A7(l:List Aj):List Aj:=(List.range l.length).map λi=>((l[i]?.getD zC).1,I3 i,kd (l[i]?.getD zC),false,0,0,⟨#[]⟩)
open Classical in
noncomputable def madeB (f:s9):Bool:=Be (A7 f.1) Lf && match Fb f.1 (A7 f.1) [] f.2 with
 | none=>false
 | some rows=>match J9 (A7 f.1) rows with
   | none=>false
   | some f'=>decide (f.2=f'.2)
def Eg(c:Aj):List UInt8:=Lib.uvarint c.1.toNat++Lib.uvarint (kd c).toNat
def Dx(s:List UInt8):List UInt8:=Lib.uvarint s.length++s
def Bh(g:Fk):List UInt8:=Lib.uvarint g.1++g.2.2.flatMap Dx
def Cq(f:s9):List UInt8:=Lib.uvarint f.1.length++(f.1.flatMap Eg++(Lib.uvarint f.2.length++f.2.flatMap Bh))
noncomputable def Jn (f:s9):Option (List UInt8):=if madeB f then some (Cq f) else none
def qN(id kind:Int):Aj:=(id,⟨#[]⟩,kind,false,0,0,⟨#[]⟩)
def Ca:Nat->E.St->List Aj×E.St
 | 0,s=>([],s)
 | n+1,s=>(qN (E.Am 1099511627776 s).1 (E.Am 2 (E.Am 1099511627776 s).2).1 :: (Ca n (E.Am 2 (E.Am 1099511627776 s).2).2).1,(Ca n (E.Am 2 (E.Am 1099511627776 s).2).2).2)
def Hl(s:E.St):List UInt8×E.St:=E.C8 (E.Am 9223372036854775807 s).1 (E.Am 9223372036854775807 s).2
def Dk:List Aj->E.St->List (List UInt8)×E.St
 | [],s=>([],s)
 | _ :: l,s=>((Hl s).1 :: (Dk l (Hl s).2).1,(Dk l (Hl s).2).2)
def ABV(c:Aj)(b:List UInt8):S.St:=S.Iv ((E.Ll (kd c) b).getD [])
def Ga(l:List Aj)(bs:List (List UInt8)):List S.St:=List.zipWith ABV l bs
def Cd(l:List Aj)(s:E.St):Fk×E.St :=
 (((E.Am 6 s).1,Ga l (Dk l (E.Am 6 s).2).1,(Dk l (E.Am 6 s).2).1),(Dk l (E.Am 6 s).2).2)
def Bb(l:List Aj):Nat->E.St->List Fk×E.St
 | 0,s=>([],s)
 | n+1,s=>((Cd l s).1 :: (Bb l n (Cd l s).2).1,(Bb l n (Cd l s).2).2)
def Ox(s:List UInt8):List Aj×E.St:=Ca (E.Am 8 (s,false)).1 (E.Am 8 (s,false)).2
def Rr(l:List Aj)(s:E.St):List Fk×E.St:=Bb l (E.Am 60 s).1 (E.Am 60 s).2
def G0(s:List UInt8):s9×E.St:=(((Ox s).1,(Rr (Ox s).1 (Ox s).2).1),(Rr (Ox s).1 (Ox s).2).2)
noncomputable def Kj (s:List UInt8):Option s9:=if (G0 s).2.2 then none else if Jn (G0 s).1=some s then some (G0 s).1 else none
def Es(a b:List Aj):Prop:=ids a=ids b/\a.map kd=b.map kd
def By(l:List Aj):List Aj:=l.map λc=>qN c.1 (kd c)
theorem Es.len{a b:List Aj}(h:Es a b):a.length=b.length:=by have:=congrArg List.length h.1;simpa[ids] using this
theorem Es.kdq{a b:List Aj}(h:Es a b)(i:Nat):kd (a[i]?.getD zC)=kd (b[i]?.getD zC):=by have e:=congrArg (λl=>l[i]?) h.2;simp only[XF] at e;cases ha:a[i]? <;> cases hb:b[i]? <;> simp_all
theorem Es.idq{a b:List Aj}(h:Es a b)(i:Nat):(a[i]?.getD zC).1=(b[i]?.getD zC).1:=by have e:=congrArg (λl=>l[i]?) h.1;simp only[ids,XF] at e;cases ha:a[i]? <;> cases hb:b[i]? <;> simp_all
theorem Es.AKo{a b:List Aj}(h:Es a b)(id:Int):pos a id=pos b id:=by unfold pos;rw[h.1]
theorem Xl(a:List Aj):Es a a:=⟨rfl,rfl⟩
theorem It(l:List Aj):Es (By l) l:=by constructor <;> simp[ids,By,qN,kd,Function.comp_def]
theorem Gh(l:List Aj):Es (A7 l) l:=by
 constructor
 ·apply XN
  intro i;simp only[ids,A7,WT,XF]
  by_cases h:i<l.length
  ·simp[h]
  simp[h]
 apply XN;intro i;simp only[A7,WT,XF]
 by_cases h:i<l.length
 ·simp[h,kd]
 simp[h]
theorem jB{a b:List Aj}(h:Es a b):A7 a=A7 b:=by unfold A7;rw[h.len];apply Yw;intro i _;rw[h.idq,h.kdq]
theorem Ul{a b:List Aj}(h:Es a b)(p:List (List V)):An a p=An b p:=by unfold An;rw[h.len];simp only[h.kdq]
theorem Cx(l:List Aj):(A7 l).length=l.length:=by simp[A7]
theorem M3(h:l[i]? = some c):(A7 l)[i]? = some (c.1,I3 i,kd c,false,0,0,⟨#[]⟩):=by
 have b:i<l.length:=by
  rcases Yc i l.length with a|a
  ·exact a
  rw[Yb a] at h;cases h
 have e:l[i]?.getD zC=c:=by rw[h];rfl
 unfold A7;rw[XF,XX b,XQ,e]
theorem qC(rows:List (List V)):∀m,((List.range m).map (Dz rows)).flatten=rows.take (6*m)
 | 0=>by simp
 | m+1=>by rw[X2,WJ,List.flatten_append,qC rows m,show 6*(m+1)=6*m+6 by omega,List.take_add];simp[Dz]
theorem V2(rows:List (List V)):(parts rows).flatten=rows:=by unfold parts;rw[qC,Yd (by unfold aF;omega)]
theorem kD{rows:List (List V)}{k:Nat}(h:k<aF rows.length):1<=(Dz rows k).length/\(Dz rows k).length<=6:=by unfold aF at h;simp only[Dz,XP,WG];omega
theorem Ij{rows p:List (List V)}(h:p∈parts rows):1<=p.length/\p.length<=6/\∀r∈p,r∈rows:=by simp only[parts,XR,X6] at h;obtain⟨k,a,rfl⟩:=h;have:=kD a;exact⟨this.1,this.2,λr b=>List.mem_of_mem_drop (Yl b)⟩
theorem Vg(rows:List (List V)):(parts rows).length=aF rows.length:=by simp[parts]
theorem AAI(k n:Int)(t:Tb):E.A9 k n t=A9 k n t:=rfl
theorem AG9(kind:Int)(x:V):E.Wa kind x=!Cm kind x.1 x.2.1 x.2.2:=by unfold E.Wa Cm;rw[AAI];cases A9 x.1 x.2.1 x.2.2 <;> cases (x.1==0) <;> cases (x.1==kind) <;> rfl
def Ks(v:V):Prop := -9223372036854775808<=v.2.1/\v.2.1<=9223372036854775807
def Gr(l:List Aj)(rows:List (List V)):Prop:=∀r∈rows,r.length=l.length/\∀i,i<l.length->Lx (l[i]?.getD zC) (r[i]?.getD zV)=true/\Ks (r[i]?.getD zV)
theorem Gn(rows:List (List V))(i:Nat):(D7 rows i).length=rows.length:=by simp[D7]
theorem Ot{rows:List (List V)}(h:Gr l rows)(f:i<l.length)(c:kd (l[i]?.getD zC)=1\/kd (l[i]?.getD zC)=2):E.Gk (kd (l[i]?.getD zC)) (D7 rows i)=true/\E.Okl (D7 rows i):=by
 have b:∀x∈D7 rows i,Lx (l[i]?.getD zC) x=true/\Ks x:=by intro x a;simp only[D7,XR] at a;obtain⟨r,g,rfl⟩:=a;exact(h r g).2 i f
 constructor
 ·unfold E.Gk
  rw[XC];constructor
  ·rcases c with c|c <;> simp[c]
  simp only[WC,WD];intro x a;have:=(b x a).1;rw[AG9];unfold Lx at this;simp[this]
 intro x a;obtain⟨e,d⟩:=b x a;exact⟨d.1,d.2,kU e⟩
theorem Ax{α:Type}{l:List α}{x:α}(h:l[i]? = some x):i<l.length:=by
 rcases Yc i l.length with a|a
 ·exact a
 rw[Yb a] at h;cases h
theorem Hc{α:Type}{l:List α}(d:α)(h:i<l.length):l[i]? = some (l[i]?.getD d):=by rw[Y' h];rfl
def Kl(l:List Aj):Prop:=∀i,i<l.length->kd (l[i]?.getD zC)=1\/kd (l[i]?.getD zC)=2
def AI0(l:List Aj):Prop:=∀i j,i<j->j<l.length->(l[i]?.getD zC).1≠(l[j]?.getD zC).1
theorem zX{l cols:List Aj}{part:List (List V)}(a:Es cols l)(i:Gr l part)(f:Kl l)(g:part.length<=60)(c:Aj):
 Bq cols (An l part) c=if pos l c.1<l.length then D7 part (pos l c.1) else List.replicate part.length (bP c):=by
 unfold Bq;rw[a.AKo,a.len]
 by_cases h:pos l c.1<l.length
 ·rw[Yaa h,Yaa h,a.kdq]
  have e:(An l part).2.2[pos l c.1]?.getD []=E.Hv (kd (l[pos l c.1]?.getD zC)) (D7 part (pos l c.1)):=by simp[An,h]
  obtain⟨b,d⟩:=Ot i h (f _ h);rw[e,E.vE b d (by rw[Gn];exact g)];rfl
 rw[Y9 h,Y9 h];rfl
def pick(l:List Aj)(r:List V)(c:Aj):V:=if pos l c.1<l.length then r[pos l c.1]?.getD zV else bP c
theorem cG{l cols:List Aj}{part:List (List V)}(d:Es cols l)(n:Gr l part)(m:Kl l)(h:1<=part.length)(i:part.length<=6)(a:List Aj):
 Ew cols (An l part) a=some (part.map λr=>a.map (pick l r)):=by
 have e:=zX d n m (by omega)
 have o:Gb cols (An l part)=true:=by
  have f:(An l part).2.1.length=l.length:=by simp[An]
  have g:(An l part).2.2.length=l.length:=by simp[An]
  have b:(An l part).1=part.length:=rfl;unfold Gb;rw[f,g,b,d.len];simp[h,i]
 have k:a.all (λc=>(Bq cols (An l part) c).length==(An l part).1)=true:=by
  rw[XS];intro c _;rw[e c];have b:(An l part).1=part.length:=rfl;rw[b];split
  ·simp[Gn]
  simp
 unfold Ew;rw[o,k];simp only[Bool.and_self,if_true];congr 1;unfold Lh;apply XN;intro j;simp only[XF]
 by_cases hj:j<part.length
 ·rw[XX (by exact hj),Y' hj]
  simp only[XQ];congr 1;apply Yw;intro c _;rw[e c];unfold pick;split
  ·simp[D7,hj]
  simp[hj]
 rw[Yb (by simp[An];omega),Yb (by omega)];rfl
theorem kX{l cols:List Aj}(d:Es cols l)(c:Kl l)(a:List Aj):∀(b:List (List (List V)))(acc:List (List V)),(∀p∈b,Gr l p/\1<=p.length/\p.length<=6) ->
 Fb cols a acc (b.map (An l))=some (acc++b.flatten.map λr=>a.map (pick l r))
 | [],acc,_=>by simp[Fb]
 | p :: b,acc,h=>by obtain⟨e,f,g⟩:=h p (by simp);rw[List.map_cons,Fb,cG d e c f g];simp only;rw[kX d c a b _ (λq i=>h q (by simp[i]))];simp
theorem zK{l cols:List Aj}(e:Es cols l)(c:Kl l)(a:List Aj){rows:List (List V)}(d:Gr l rows):
 Fb cols a [] (Ay l rows)=some (rows.map λr=>a.map (pick l r)):=by
 unfold Ay;rw[kX e c a (parts rows) [] (λp b=>⟨λr hr'=>d r ((Ij b).2.2 r hr'),(Ij b).1,(Ij b).2.1⟩),V2];simp
theorem AII(p:AI0 l)(d:i<l.length):pos l (l[i]?.getD zC).1=i:=by
 have c:∀(m:List Int)(i:Nat)(x:Int),m[i]? = some x->(∀j,j<i->m[j]? ≠some x)->m.idxOf x=i:=by
  intro m
  induction m with
  | nil=>intro i x h;simp at h
  | cons a m ih=>
    intro i x h g;cases i with
    | zero=>simp at h;subst h;simp
    | succ i=>
      have o:a≠x:=λe=>g 0 (by omega) (by simp[e])
      have k:=ih i x (by simpa using h) (λj f=>by have:=g (j+1) (by omega);simpa using this);rw[WQ,k,beq_eq_false_iff_ne.2 o];rfl
 unfold pos;refine c (ids l) i _ (by simp[ids,d]) (λj f e=>?_);have n:=p j i f d;have b:j<l.length:=by omega
 apply n;simp only[ids,XF,Y' b,XQ,Option.some.injEq] at e;rw[Y' b];exact e
theorem AFF{L:List Aj}(c:AI0 l)(a:Es L l)(f:r.length=l.length):L.map (pick l r)=r:=by
 apply XN;intro i;rw[XF]
 by_cases hi:i<l.length
 ·have b:i<L.length:=by rw[a.len];exact hi
  have e:=Hc zC b;rw[e];simp only[XQ];have d:pos l (L[i]?.getD zC).1=i:=by rw[a.idq];exact AII c hi
  unfold pick;rw[d,Yaa hi,<-Hc zV (by omega)]
 rw[Yb (by rw[a.len];omega),Yb (by omega)];rfl
structure M7(l:List Aj)(next:Int):Prop where
 one:1<=l.length
 eight:l.length<=8
 may:∀i,i<l.length->Ko (l[i]?.getD zC)=true/\(l[i]?.getD zC).1<next
 apart:∀i j,i<j->j<l.length->Ez (l[j]?.getD zC) (l[i]?.getD zC)=false
theorem K5{next:Int}:Be l next=true↔M7 l next:=by
 unfold Be;rw[XC,decide_eq_true_iff,XS];constructor
 ·rintro⟨⟨e,f⟩,m⟩
  have a:∀k,k<l.length->Mg l next k=true:=λk a=>m k (List.mem_range.2 a)
  refine⟨e,f,λi b=>?_,λi j hij hj=>?_⟩
  ·have:=a i b
   simp only[Mg,XC,decide_eq_true_eq] at this;exact⟨this.1,this.2.1⟩
  have:=a j hj;simp only[Mg,XC,WC,WD] at this;have b:i<l.length:=by omega
  have d:l[i]∈l.take j:=by rw[WB];exact⟨i,by omega,rfl⟩
  have:=this.2.2 _ d;rw[Y' b];simpa using this
 rintro⟨e,f,d,g⟩;refine⟨⟨e,f⟩,λk a=>?_⟩;rw[X6] at a;simp only[Mg,XC,decide_eq_true_eq,WC,WD];refine⟨(d k a).1,(d k a).2,λc h=>?_⟩;rw[WB] at h;obtain⟨i,b,rfl⟩:=h;have:=g i k (by omega) a;rw[Y' (show i<l.length by omega)] at this;simpa using this
theorem Vr(h:Ko c=true):(kd c=1\/kd c=2)/\1<=c.1/\Bv c.2.1=true/\Cm (kd c) (bP c).1 (bP c).2.1 (bP c).2.2=true:=by simp only[Ko,XC,WR,beq_iff_eq,decide_eq_true_eq] at h;exact h
theorem M7.kinds{next:Int}(h:M7 l next):Kl l:=λi a=>(Vr (h.may i a).1).1
theorem M7.once{next:Int}(h:M7 l next):AI0 l:=λi j a b e=>by
 have:=h.apart i j a b;simp[Ez,e] at this
theorem Rg:∀{l:List Aj}{r:List V},Ia l r=0->r.length=l.length->∀i,i<l.length->Lx (l[i]?.getD zC) (r[i]?.getD zV)=true
 | [],_,_,_,i,hi=>by simp at hi
 | _ :: _,[],_,hl,_,_=>by simp at hl
 | c :: l,v :: r,h,hl,i,hi=>by
   rw[Ia] at h
   by_cases hf:Lx c v=false
   ·rw[Yaa hf] at h;cases h
   rw[Y9 hf] at h;split at h
   ·cases h
   cases i with
   | zero=>simpa using hf
   | succ i=>simpa using Rg h (by simpa using hl) i (by simpa using hi)
theorem tD:∀{l:List Aj}{r:List V},(∀i,i<l.length->Lx (l[i]?.getD zC) (r[i]?.getD zV)=true/\(l[i]?.getD zC).2.2.2.1=false)->Ia l r=0
 | [],_,_=>by simp[Ia]
 | _ :: _,[],_=>by simp[Ia]
 | c :: l,v :: r,h=>by have a:=h 0 (by simp);simp only[List.getElem?_cons_zero,XT] at a;rw[Ia,Y9 (by simp[a.1]),Y9 (by simp[a.2])];exact tD (λi b=>by have:=h (i+1) (by simpa using b);simpa using this)
def K9(rows:List (List V)):Prop:=∀r∈rows,∀v∈r,Ks v
theorem AEv:Ks zV:=⟨by decide,by decide⟩
theorem Mu{rows:List (List V)}(h:∀r∈rows,Hu l r=0)(a:K9 rows):Gr l rows:=by
 intro r b;have e:=h r b;unfold Hu at e
 by_cases hl:r.length=l.length
 ·rw[Yaa hl] at e
  refine⟨hl,λi c=>⟨Rg e hl i c,?_⟩⟩;cases hv:r[i]? with
  | none=>exact AEv
  | some v=>exact a r b v (XA hv)
 rw[Y9 hl] at e;cases e
theorem B4{rows:List (List V)}:De l rows=true↔M7 l Lf/\1<=rows.length/\rows.length<=60/\∀r∈rows,Hu l r=0:=by
 unfold De;rw[XC,XC,K5,decide_eq_true_iff,XS];simp only[beq_iff_eq];constructor
 ·rintro⟨a,⟨b,c⟩,d⟩;exact⟨a,b,c,d⟩
 rintro⟨a,b,c,d⟩;exact⟨a,⟨b,c⟩,d⟩
theorem AED:∀i,i<8->Bv (I3 i)=true:=by
 have a:Bv (I3 0)=true:=by kernel_rfl
 have b:Bv (I3 1)=true:=by kernel_rfl
 have c:Bv (I3 2)=true:=by kernel_rfl
 have d:Bv (I3 3)=true:=by kernel_rfl
 have e:Bv (I3 4)=true:=by kernel_rfl
 have f:Bv (I3 5)=true:=by kernel_rfl
 have g:Bv (I3 6)=true:=by kernel_rfl
 have h:Bv (I3 7)=true:=by kernel_rfl
 intro i j;have:i=0\/i=1\/i=2\/i=3\/i=4\/i=5\/i=6\/i=7:=by omega
 rcases this with rfl|rfl|rfl|rfl|rfl|rfl|rfl|rfl
 ·exact a
 ·exact b
 ·exact c
 ·exact d
 ·exact e
 ·exact f
 ·exact g
 exact h
theorem vF{j:Nat}(d:j<8)(c:i<j):((I3 i).toList==(I3 j).toList)=false:=by
 have:i<8:=by omega
 rw[beq_eq_false_iff_ne];intro e;rw[ByteArray.toList_eq,ByteArray.toList_eq] at e;have a:(48+i).toUInt8=(48+j).toUInt8:=by simpa[I3] using e
 have b:=congrArg UInt8.toNat a;rw[Lib.toUInt8_toNat (by omega),Lib.toUInt8_toNat (by omega)] at b;omega
theorem AFJ(k:Int):Cm k 0 0 ⟨#[]⟩=true:=by simp[Cm,A9,ByteArray.toList_eq]
theorem Xc(h:M7 l Lf):M7 (A7 l) Lf:=by
 have m:=Gh l;refine⟨by rw[Cx];exact h.one,by rw[Cx];exact h.eight,λi g=>?_,λi j hij hj=>?_⟩
 ·rw[Cx] at g
  rw[M3 (Hc zC g)];simp only[XT];obtain⟨e,f⟩:=h.may i g;obtain⟨a,b,c,d⟩:=Vr e;refine⟨?_,f⟩;have k:=h.eight;simp only[Ko,XC,WR,beq_iff_eq,decide_eq_true_eq];exact⟨a,b,AED i (by omega),AFJ _⟩
 rw[Cx] at hj;rw[M3 (Hc zC hj),M3 (Hc zC (show i<l.length by omega))];simp only[XT];have e:=h.once i j hij hj;have f:=vF (i:=i) (j:=j) (by have:=h.eight;omega) hij;simp only[Ez,Bool.or_eq_false_iff];exact⟨by simpa using e,f⟩
theorem ABo{a b:Aj}(h:kd a=kd b)(v:V):Lx a v=Lx b v:=by unfold Lx;rw[h]
theorem ACW(h:Hu l r=0):Hu (A7 l) r=0:=by
 unfold Hu at h ⊢;rw[Cx]
 by_cases hl:r.length=l.length
 ·rw[Yaa hl] at h ⊢
  apply tD;intro i a;rw[Cx] at a;have:=Rg h hl i a;rw[M3 (Hc zC a)];exact⟨this,rfl⟩
 rw[Y9 hl] at h;cases h
theorem jJ{a b:List Aj}(h:Es a b)(rows:List (List V)):Ay a rows=Ay b rows:=by unfold Ay;apply Yw;intro p _;exact Ul h p
theorem o8{l cols:List Aj}{rows:List (List V)}(h:De l rows=true)(i:Es cols l)(f:K9 rows):madeB (cols,Ay l rows)=true:=by
 obtain⟨d,j,e,a⟩:=B4.1 h;have b:=Mu a f;have g:A7 cols=A7 l:=jB i
 have k:Fb cols (A7 cols) [] (Ay l rows)=some rows:=by rw[g,zK i d.kinds (A7 l) b];congr 1;refine Eq.trans (Yw (λr c=>AFF d.once (Gh l) (b r c).1)) (WU rows)
 have m:J9 (A7 cols) rows=some (A7 l,Ay l rows):=by have:De (A7 l) rows=true:=B4.2 ⟨Xc d,j,e,λr c=>ACW (a r c)⟩;rw[g];unfold J9;rw[Yaa this,jJ (Gh l)]
 have c:Be (A7 cols) Lf=true:=by rw[g];exact K5.2 (Xc d)
 unfold madeB;simp only;rw[c,k];simp only;rw[m];simp
theorem eR:∀(l:List Aj)(rest:List UInt8),(∀c∈l,0<=c.1/\c.1<=1099511627776/\0<=kd c/\kd c<=2)->Ca l.length (l.flatMap Eg++rest,false)=(By l,(rest,false))
 | [],rest,_=>by simp[Ca,By]
 | c :: l,rest,h=>by
   obtain⟨f,j,g,k⟩:=h c (by simp)
   have a:E.Am 1099511627776 ((c :: l).flatMap Eg++rest,false)=(c.1.toNat,(Lib.uvarint (kd c).toNat++(l.flatMap Eg++rest),false)):=by rw[XJ,Eg,XH,XH];exact E.F5 (by omega) (by omega) _
   have b:E.Am 2 (Lib.uvarint (kd c).toNat++(l.flatMap Eg++rest),false)=((kd c).toNat,(l.flatMap Eg++rest,false)):=E.F5 (by omega) (by omega) _;have e:=eR l rest (λd i=>h d (by simp[i]));rw[XU,Ca,a];simp only;rw[b];simp only;rw[e,WK f,WK g];rfl
theorem ACs(b rest:List UInt8)(a:b.length<=9223372036854775807):Hl (Dx b++rest,false)=(b,(rest,false)):=by unfold Hl Dx;rw[XH,E.F5 (by omega) (by omega)];exact E.M8 rfl _ _
theorem Xy:∀(l:List Aj)(bs:List (List UInt8))(rest:List UInt8),bs.length=l.length->(∀b∈bs,b.length<=9223372036854775807)->Dk l (bs.flatMap Dx++rest,false)=(bs,(rest,false))
 | [],[],rest,_,_=>by simp[Dk]
 | [],_ :: _,_,h,_=>by simp at h
 | _ :: _,[],_,h,_=>by simp at h
 | c :: l,b :: bs,rest,h,hb=>by
   have a:Hl ((b :: bs).flatMap Dx++rest,false)=(b,(bs.flatMap Dx++rest,false)):=by rw[XJ,XH];exact ACs b _ (hb b (by simp))
   rw[Dk,a];simp only;rw[Xy l bs rest (by simpa using h) (λx d=>hb x (by simp[d]))]
def Oj(l:List Aj)(g:Fk):Fk:=(g.1,Ga l g.2.2,g.2.2)
def AHS(n:Nat)(g:Fk):Prop:=g.1<=6/\g.2.2.length=n/\∀b∈g.2.2,b.length<=9223372036854775807
theorem pK(h:AHS l.length g)(rest:List UInt8):Cd l (Bh g++rest,false)=(Oj l g,(rest,false)):=by
 have a:E.Am 6 (Bh g++rest,false)=(g.1,(g.2.2.flatMap Dx++rest,false)):=by unfold Bh;rw[XH];exact E.F5 (by have:=h.1;omega) (by have:=h.1;omega) _
 unfold Cd;rw[a];simp only;rw[Xy l g.2.2 rest h.2.1 h.2.2];rfl
theorem Si{l:List Aj}:∀(gs:List Fk)(rest:List UInt8),(∀g∈gs,AHS l.length g)->Bb l gs.length (gs.flatMap Bh++rest,false)=(gs.map (Oj l),(rest,false))
 | [],rest,_=>by simp[Bb]
 | g :: gs,rest,h=>by
   have a:Cd l ((g :: gs).flatMap Bh++rest,false)=(Oj l g,(gs.flatMap Bh++rest,false)):=by rw[XJ,XH];exact pK (h g (by simp)) _
   rw[XU,Bb,a];simp only;rw[Si gs rest (λx b=>h x (by simp[b]))];rfl
structure Bnd(f:s9):Prop where
 cols:f.1.length<=8
 Bl:∀c∈f.1,0<=c.1/\c.1<=1099511627776/\0<=kd c/\kd c<=2
 groups:f.2.length<=60
 group:∀g∈f.2,AHS f.1.length g
theorem Je(l:List Aj):(By l).length=l.length:=by simp[By]
theorem vM{f:s9}(h:Bnd f)(rest:List UInt8):G0 (Cq f++rest)=((By f.1,f.2.map (Oj (By f.1))),(rest,false)):=by
 have a:E.Am 8 (Cq f++rest,false)=(f.1.length,(f.1.flatMap Eg++(Lib.uvarint f.2.length++(f.2.flatMap Bh++rest)),false)):=by unfold Cq;rw[XH,XH,XH];exact E.F5 (by have:=h.cols;omega) (by have:=h.cols;omega) _
 have b:Ox (Cq f++rest)=(By f.1,(Lib.uvarint f.2.length++(f.2.flatMap Bh++rest),false)):=by unfold Ox;rw[a];exact eR f.1 _ h.Bl
 have c:E.Am 60 (Lib.uvarint f.2.length++(f.2.flatMap Bh++rest),false)=(f.2.length,(f.2.flatMap Bh++rest,false)):=E.F5 (by have:=h.groups;omega) (by have:=h.groups;omega) _
 have d:Rr (By f.1) (Lib.uvarint f.2.length++(f.2.flatMap Bh++rest),false)=(f.2.map (Oj (By f.1)),(rest,false)):=by unfold Rr;rw[c];exact Si f.2 rest (λg e=>by rw[Je];exact h.group g e)
 unfold G0;rw[b];simp only;rw[d]
theorem dH{α:Type}(f:α->List UInt8):∀{l:List α}{x:α},x∈l->(f x).length<=(l.flatMap f).length
 | [],_,h=>by simp at h
 | y :: l,x,h=>by
   rw[XJ,XD]
   rcases List.mem_cons.1 h with rfl|h
   ·omega
   have:=dH f h;omega
theorem Mp{α:Type}(f:α->List UInt8)(m:Nat):∀{l:List α},(∀x∈l,(f x).length<=m)->(l.flatMap f).length<=l.length*m
 | [],_=>by simp
 | y :: l,h=>by have b:=h y (by simp);have c:=Mp f m (l:=l) (λx a=>h x (by simp[a]));rw[XJ,XD,XU,WO];omega
theorem AEt{f:s9}{b:List UInt8}(e:g∈f.2)(d:b∈g.2.2):b.length<=(Cq f).length:=by have a:=dH Dx d;have c:=dH Bh e;simp only[Dx,Bh,Cq,XD] at a c ⊢;omega
theorem Wg(h:M7 l Lf)(g:c∈l):0<=c.1/\c.1<=1099511627776/\0<=kd c/\kd c<=2:=by obtain⟨i,f,rfl⟩:=Yk g;obtain⟨d,e⟩:=h.may i f;rw[Y' f] at d e;simp only[XT] at d e;obtain⟨a,b,_,_⟩:=Vr d;unfold Lf at e;refine⟨by omega,by omega,?_,?_⟩ <;> rcases a with a|a <;> omega
theorem ACr(a:p.length<=6)(c:∀b∈(An l p).2.2,b.length<=9223372036854775807):AHS l.length (An l p) :=
 ⟨a,by simp[An],c⟩
theorem AAB{n:Nat}(h:n<=60):aF n<=10:=by unfold aF;omega
theorem Sk{a b:List Aj}(h:Es a b)(g:c∈a):∃d∈b,d.1=c.1/\kd d=kd c:=by
 obtain⟨i,f,rfl⟩:=Yk g;have e:i<b.length:=by rw[<-h.len];exact f
 refine⟨b[i],Yi _,?_,?_⟩
 ·have:=h.idq i;rw[Y' f,Y' e] at this;exact this.symm
 have:=h.kdq i;rw[Y' f,Y' e] at this;exact this.symm
theorem AFM{f:s9}(h:madeB f=true)(t:(Cq f).length<=9223372036854775807):Bnd f:=by
 unfold madeB at h;rw[XC] at h;obtain⟨v,a⟩:=h;have j:=K5.1 v;have m:=Gh f.1;refine⟨by have:=j.eight;rw[Cx] at this;exact this,λc r=>?_,?_,?_⟩
 ·obtain⟨d,s,n,o⟩:=Sk ⟨m.1.symm,m.2.symm⟩ r
  have:=Wg j s;rw[n,o] at this;exact this
 all_goals
  cases ha:Fb f.1 (A7 f.1) [] f.2 with
  | none=>rw[ha] at a;simp at a
  | some rows=>
    rw[ha] at a;simp only at a;unfold J9 at a
    by_cases hk:De (A7 f.1) rows=true
    ·rw[Yaa hk] at a
     simp only[decide_eq_true_eq] at a;obtain⟨_,_,i,_⟩:=B4.1 hk
     first
      | (rw[a,Ay,X4,Vg];have:=AAB i;omega)
      | (intro g k
         have e:=k;rw[a,Ay,XR] at e;obtain⟨p,u,rfl⟩:=e;have:=ACr (l:=A7 f.1) (Ij u).2.1 (λb q=>XV (AEt k q) t);rw[Cx] at this;exact this)
    rw[Y9 hk] at a;simp at a
theorem mR{l cols:List Aj}(a:Es cols l)(k:Gr l p)(j:Kl l)(g:p.length<=60):Oj cols (An l p)=An l p:=by
 unfold Oj
 have e:Ga cols (An l p).2.2=(An l p).2.1:=by
  apply XN;intro i
  by_cases hi:i<l.length
  ·have h:i<cols.length:=by rw[a.len];exact hi
   obtain⟨d,f⟩:=Ot k hi (j i hi);have b:(An l p).2.2[i]? = some (E.Hv (kd (l[i]?.getD zC)) (D7 p i)):=by simp[An,hi]
   have c:(An l p).2.1[i]? = some (S.Iv (D7 p i)):=by simp[An,hi]
   rw[c];unfold Ga;rw[List.getElem?_zipWith,Hc zC h,b];simp only;unfold ABV;rw[a.kdq,E.vE d f (by rw[Gn];exact g)];rfl
  rw[Yb (by simp[Ga,An,a.len];omega),Yb (by simp[An];omega)]
 rw[e]
theorem uE(l:List Aj)(gs:List Fk):Cq (By l,gs)=Cq (l,gs):=by
 unfold Cq
 have e:(By l).flatMap Eg=l.flatMap Eg:=by unfold By;rw[List.flatMap_map];rfl
 simp only[e,Je]
theorem AAr{kind:Int}{l:List V}(h:E.Gk kind l=true)(c:E.Okl l)(b:l.length<=60):(E.Hv kind l).length<=4019:=by have a:=E.dE h c b;have d:=E.pW (kind:=kind) (E.Qc a);have e:=E.Rp l;have f:=Lib.uvarint_length64 (x:=l.length) (by omega);simp only[E.Hv,XD];omega
theorem Vn{rows:List (List V)}(h:De l rows=true)(e:K9 rows):(Cq (l,Ay l rows)).length<=400000:=by
 obtain⟨f,T,d,a⟩:=B4.1 h;have j:=Mu a e;have y:=AAB d;have m:=f.eight
 have N:(l.flatMap Eg).length<=l.length*20:=Mp _ _ (λc v=>by have w:=Wg f v;have G:=Lib.uvarint_length64 (x:=c.1.toNat) (by omega);have s:=Lib.uvarint_length64 (x:=(kd c).toNat) (by omega);simp only[Eg,XD];omega)
 have t:((Ay l rows).flatMap Bh).length<=(Ay l rows).length*32242:=Mp _ _ (λg o=>by
  simp only[Ay,XR] at o;obtain⟨p,z,rfl⟩:=o;obtain⟨U,W,D⟩:=Ij z;have G:=Lib.uvarint_length64 (x:=p.length) (by omega)
  have s:((An l p).2.2.flatMap Dx).length<=(An l p).2.2.length*4029:=Mp _ _ (λb n=>by simp only[An,XR,X6] at n;obtain⟨i,q,rfl⟩:=n;obtain⟨L,M⟩:=Ot (l:=l) (rows:=p) (λr hr=>j r (D r hr)) q (f.kinds i q);have X:=AAr L M (by rw[Gn];omega);have Y:=Lib.uvarint_length64 (x:=(E.Hv (kd (l[i]?.getD zC)) (D7 p i)).length) (by omega);simp only[Dx,XD];omega)
  have I:(An l p).2.2.length=l.length:=by simp[An]
  rw[I] at s;have J:(An l p).1=p.length:=rfl;simp only[Bh,XD,J];have:l.length*4029<=8*4029:=Yo _ m;omega)
 have k:(Ay l rows).length=aF rows.length:=by rw[Ay,X4,Vg]
 have O:=Lib.uvarint_length64 (x:=l.length) (by omega);have u:=Lib.uvarint_length64 (x:=(Ay l rows).length) (by omega);rw[k] at t u;simp only[Cq,XD,k];have P:l.length*20<=8*20:=Yo _ m;have R:aF rows.length*32242<=10*32242:=Yo _ y;omega
theorem tN{rows:List (List V)}(h:De l rows=true)(a:K9 rows):Kj (Cq (l,Ay l rows))=some (By l,Ay l rows):=by
 obtain⟨k,t,j,b⟩:=B4.1 h;have c:=Mu b a;have n:=o8 h (Xl l) a;have m:=AFM n (by have:=Vn h a;omega);have e:=vM m [];rw[List.append_nil] at e
 have f:(Ay l rows).map (Oj (By l))=Ay l rows:=by refine Eq.trans (Yw (λg d=>?_)) (WU _);simp only[Ay,XR] at d;obtain⟨p,o,rfl⟩:=d;obtain⟨u,v,s⟩:=Ij o;exact mR (It l) (λr q=>c r (s r q)) k.kinds (by omega)
 simp only[f] at e;unfold Kj;rw[e];simp only[WL,if_false]
 have i:Jn (By l,Ay l rows)=some (Cq (l,Ay l rows)):=by unfold Jn;rw[Yaa (o8 h (It l) a),uE]
 rw[Yaa i]
variable{i j k n:Nat}{W w:Tw}{v y:Tv}{T:TypeId}{g:Fk}{l:List Aj}{a:Act}{X:List Tv}{x:V}{L:List (List V)}{c:Aj}{K:Act->Tw->Prop}
theorem Aa{p:Prop}(h:p):Hid p:=h
theorem Ap{a b c:Tw}(h:Zb a b)(k:Zb b c):Zb a c:=h.trans (k.mono h.size)
def F7{α:Type}(k:Nat)(enc:α->List Value)(w:World)(v:Value)(l:List α):Prop :=
 ∃a c,v=.slice a l.length c/\l.length<=c/\(l≠[]->∃b off,a=some ⟨b,off,none⟩/\b<w.heap.size/\∀(j:Nat)x,l[j]? = some x->∀(i:Nat)u,(enc x)[i]? = some u->w.cell? ⟨b,off+j*k+i,none⟩=some u)
theorem F7.up{α:Type}{enc:α->List Tv}{l:List α}(h:F7 k enc w v l)(m:Zb w W):F7 k enc W v l:=by obtain⟨a,c,e,o,r⟩:=h;refine⟨a,c,e,o,λg=>?_⟩;obtain⟨b,off,n,f,d⟩:=r g;exact⟨b,off,n,Ya f m.size,λj x q i u s=>(m.cell (p:=⟨b,off+j*k+i,none⟩) f).trans (d j x q i u s)⟩
theorem F7.slice{α:Type}{k:Nat}{enc:α->List Tv}{w:Tw}{v:Tv}{l:List α}(h:F7 k enc w v l):∃a c,v=Zs a l.length c/\l.length<=c:=by obtain⟨a,c,e,b,_⟩:=h;exact⟨a,c,e,b⟩
theorem F7.cons{α:Type}{enc:α->List Tv}{l:List α}(h:F7 k enc w v l)(d:0<l.length):∃b off c,v=Zs (some ⟨b,off,none⟩) l.length c/\l.length<=c/\b<w.heap.size/\∀(j:Nat)x,l[j]? = some x->∀(i:Nat)u,(enc x)[i]? = some u->w.cell? ⟨b,off+j*k+i,none⟩=some u:=by obtain⟨a,c,e,n,f⟩:=h;obtain⟨b,off,rfl,g,m⟩:=f (by intro e;rw[e] at d;simp at d);exact⟨b,off,c,e,n,g,m⟩
theorem Hi{α:Type}{k:Nat}{enc:α->List Tv}(a:∀x,(enc x).length=k):∀{l:List α}{j:Nat}{x:α}{i:Nat}{u:Tv},l[j]? = some x->(enc x)[i]? = some u->(l.flatMap enc)[j*k+i]? = some u
 | [],_,_,_,_,h,_=>by simp at h
 | y :: l,0,x,i,u,h,hu=>by simp at h;subst h;rw[XJ,Nat.zero_mul,WV,XM (Ax hu)];exact hu
 | y :: l,j+1,x,i,u,h,hu=>by have b:=Hi a (l:=l) (j:=j) (x:=x) (i:=i) (u:=u) (by simpa using h) hu;rw[XJ,XK (by rw[a];rw[WO];omega),a,show (j+1)*k+i-k=j*k+i by rw[WO];omega];exact b
theorem F7.Fz{α:Type}{enc:α->List Tv}(o:∀x,(enc x).length=k){B n:Nat}{l:List α}(h:w.ownsRow B T k v n (l.flatMap enc))(p:n=l.length):F7 k enc w v l:=by
 subst p
 rcases h.2 with⟨rfl,d⟩|⟨g,b,f,rfl,q,m,a,_,_⟩
 ·exact⟨none,0,by rw[d],by omega,λc=>absurd (YB d) c⟩
 refine⟨_,b,rfl,a,λ_=>⟨g,0,rfl,E.Ac m,λj x hj i u hu=>?_⟩⟩;have e:=h.cells (g:=g) rfl;simp only[E.addr_add] at e;rw[WV];exact e _ _ (Hi o hj hu)
def encS(s:S.St):List Value:=(S.E6 s).toList
def Mc(b:List UInt8):List Value:=[.string (E.str b)]
def aG(x:Int×Value×Value):List Value:=[Zi x.1,x.2.1,x.2.2]
def encR(v:Value):List Value:=[v]
theorem rG(s:S.St):(encS s).length=8:=rfl
def Xr(w:World)(x:Int×Value×Value)(g:Fk):Prop:=x.1=g.1/\F7 8 encS w x.2.1 g.2.1/\F7 1 Mc w x.2.2 g.2.2
theorem Xr.up{w W:Tw}{x:Int×Tv×Tv}{g:Fk}(h:Xr w x g)(a:Zb w W):Xr W x g:=⟨h.1,h.2.1.up a,h.2.2.up a⟩
def vL(w:World)(v:Value)(gs:List Fk):Prop:=∃xs:List (Int×Value×Value),F7 3 aG w v xs/\xs.length=gs.length/\∀(j:Nat)x g,xs[j]? = some x->gs[j]? = some g->Xr w x g
theorem vL.up{w W:Tw}{v:Tv}{gs:List Fk}(h:vL w v gs)(a:Zb w W):vL W v gs:=by obtain⟨xs,b,c,d⟩:=h;exact⟨xs,b.up a,c,λj x g f e=>(d j x g f e).up a⟩
theorem vL.slice{w:Tw}{v:Tv}{gs:List Fk}(h:vL w v gs):∃a c,v=Zs a gs.length c/\gs.length<=c:=by obtain⟨xs,d,b,_⟩:=h;obtain⟨a,c,e,f⟩:=d.slice;exact⟨a,c,by rw[<-b];exact e,by rw[<-b];exact f⟩
theorem vL.at{gs:List Fk}(h:vL w v gs)(j:gs[k]? = some g):∃b off c n sv d,v=Zs (some ⟨b,off,none⟩) gs.length c/\b<w.heap.size/\n=(g.1:Int)/\w.cell? ⟨b,off+k*3,none⟩=some (Zi n)/\w.cell? ⟨b,off+k*3+1,none⟩=some sv/\w.cell? ⟨b,off+k*3+2,none⟩=some d/\F7 8 encS w sv g.2.1/\F7 1 Mc w d g.2.2:=by obtain⟨xs,l,m,o⟩:=h;have q:=Ax j;obtain⟨b,off,c,e,t,p,a⟩:=l.cons (by omega);obtain⟨⟨n,sv,d⟩,f⟩:∃x,xs[k]? = some x:=⟨_,Y' (by omega)⟩;obtain⟨r,s,i⟩:=o k _ g f j;exact⟨b,off,c,n,sv,d,by rw[e,m],p,r,a k _ f 0 _ rfl,a k _ f 1 _ rfl,a k _ f 2 _ rfl,s,i⟩
def Hm(w:World)(a b:Value)(f:s9):Prop:=F7 7 Cc w a f.1/\vL w b f.2
theorem Hm.up{w W:Tw}{v u:Tv}{f:s9}(h:Hm w v u f)(a:Zb w W):Hm W v u f:=⟨h.1.up a,h.2.up a⟩
def iJ(w:World)(v:Value)(rows:List (List V)):Prop:=∃a:List Value,F7 1 encR w v a/\a.length=rows.length/\∀(j:Nat)x r,a[j]? = some x->rows[j]? = some r->E.Sl w x r
theorem iJ.up{w W:Tw}{v:Tv}{rows:List (List V)}(h:iJ w v rows)(a:Zb w W):iJ W v rows:=by obtain⟨g,b,c,d⟩:=h;exact⟨g,b.up a,c,λj x r f e=>(d j x r f e).up a⟩
theorem iJ.slice{w:Tw}{v:Tv}{rows:List (List V)}(h:iJ w v rows):∃a c,v=Zs a rows.length c/\rows.length<=c:=by obtain⟨g,d,b,_⟩:=h;obtain⟨a,c,e,f⟩:=d.slice;exact⟨a,c,by rw[<-b];exact e,by rw[<-b];exact f⟩
theorem iJ.at{w:Tw}{v:Tv}{rows:List (List V)}(h:iJ w v rows){k:Nat}{r:List V}(d:rows[k]? = some r):∃b off c g,v=Zs (some ⟨b,off,none⟩) rows.length c/\b<w.heap.size/\w.cell? ⟨b,off+k,none⟩=some g/\E.Sl w g r:=by obtain⟨o,i,j,l⟩:=h;have n:=Ax d;obtain⟨b,off,c,e,p,m,a⟩:=i.cons (by omega);obtain⟨x,f⟩:∃x,o[k]? = some x:=⟨_,Y' (by omega)⟩;refine⟨b,off,c,x,by rw[e,j],m,?_,l k x r f d⟩;have:=a k x f 0 x rfl;rwa[WX,WW] at this
theorem wR(h:F7 7 Cc w v l)(n:0<l.length):∃g o c,v=Zs (some ⟨g,o,none⟩) l.length c/\l.length<=c/\I1 w g o l:=by obtain⟨b,off,c,e,m,k,a⟩:=h.cons n;refine⟨b,off,c,e,m,k,λj d i u f=>?_⟩;rw[getElem!_pos l j d] at f;exact a j _ (Y' d) i u f
theorem AI5{g o c:Nat}(h:I1 w g o l)(a:l.length<=c):F7 7 Cc w (Zs (some ⟨g,o,none⟩) l.length c) l :=
 ⟨_,c,rfl,a,λ_=>⟨g,o,rfl,h.1,λj x hj i u hu=>h.2 j (Ax hj) i u (by rw[getElem!_pos l j (Ax hj)];rw[Y' (Ax hj)] at hj;injection hj with hj;rw[hj];exact hu)⟩⟩
theorem F8{b off:Nat}(h:∀(j:Nat)x,l[j]? = some x->∀(i:Nat)u,(Cc x)[i]? = some u->w.cell? ⟨b,off+j*7+i,none⟩=some u){c1:Int}{s:Tb}{y:Int}{a:Bool}{z t:Int}{p:Tb}(e:l[k]? = some (c1,s,y,a,z,t,p)):
 w.cell? ⟨b,off+k*7,none⟩=some (Zi c1)/\w.cell? ⟨b,off+k*7+1,none⟩=some (Zt s)/\w.cell? ⟨b,off+k*7+2,none⟩=some (Zi y)/\w.cell? ⟨b,off+k*7+3,none⟩=some (Zo a)/\w.cell? ⟨b,off+k*7+4,none⟩=some (Zi z)/\w.cell? ⟨b,off+k*7+5,none⟩=some (Zi t)/\w.cell? ⟨b,off+k*7+6,none⟩=some (Zt p) :=
 ⟨h k _ e 0 _ rfl,h k _ e 1 _ rfl,h k _ e 2 _ rfl,h k _ e 3 _ rfl,h k _ e 4 _ rfl,h k _ e 5 _ rfl,h k _ e 6 _ rfl⟩
theorem b2c{X Y:Obj}(a:Below ((w.alloc X).alloc Y).heap.size ((w.alloc X).alloc Y) W):Zb w W:=Ap (S.Gj w X Y) a
theorem b3(w:Tw)(X Y Z:Obj):Zb w (((w.alloc X).alloc Y).alloc Z):=(S.Gj w X Y).alloc (by simp;omega) _
def cM(cols:List Aj)(id:Int):Int:=if pos cols id<cols.length then (pos cols id:Int) else -1
theorem AA7(id:Int):∀(l:List Aj)(i:Nat),Lib.idxByFrom (λ(_:Aj)(y:Aj)=>y.1==id) default l i=if (ids l).idxOf id<l.length then ((i+(ids l).idxOf id:Nat):Int) else -1
 | [],i=>by simp[Lib.idxByFrom,ids]
 | c :: l,i=>by
   have a:=AA7 id l (i+1);have e:ids (c :: l)=c.1 :: ids l:=rfl;rw[e,WQ,Lib.idxByFrom]
   by_cases h:c.1=id
   ·rw[beq_iff_eq.2 h];simp
   rw[beq_eq_false_iff_ne.2 h,a];simp only[WL,if_false,cond_false,XU,Nat.add_lt_add_iff_right];split
   ·congr 1;omega
   rfl
theorem AFU(cols:List Aj)(id:Int):Lib.idxBy (λ(_:Aj)(y:Aj)=>y.1==id) cols default=cM cols id:=by unfold Lib.idxBy cM pos;rw[AA7];simp
theorem ADS(id:Int)(B:Nat)(w:Tw)(b:B<w.heap.size)(a:w.cell? ⟨B,0,none⟩=some (Zi id)):
 PredBelow prog 205 #[Zp (some ⟨B,0,none⟩)] (λx:Aj=>Zg (Cc x).toArray) (λc=>c.1==id) w:=λW x hb=>by
 have l:W.cell? ⟨B,0,none⟩=some (Zi id):=(hb.cell (p:=⟨B,0,none⟩) b).trans a;have j:B<W.heap.size:=Ya b hb.size;have k:B≠W.heap.size:=by omega
 obtain⟨c1,d,e,f,g,h,i⟩:=x;show Zc 205 #[Zg #[Zi c1,Zt d,Zi e,Zo f,Zi g,Zi h,Zt i],Zp (some ⟨B,0,none⟩)] W _;go_enter func205,ntmps205;go_wp2
 all_goals (go_ret;exact⟨rfl,hb.alloc hb.size _⟩)
theorem U9(q s:Tv)(cols:List Aj)(c1:Int)(j:Tb)(k:Int)(l:Bool)(m n:Int)(p:Tb)(w:Tw)(h:F7 7 Cc w q cols)(v:1<=cols.length)(x:cols.length<=8):
 Zc 166 #[Zg #[q,s],Zg #[Zi c1,Zt j,Zi k,Zo l,Zi m,Zi n,Zt p]] w λe i=>e=Zr (Zi (cM cols c1))/\Zb w i:=by
 obtain⟨g,o,c,rfl,z,t⟩:=wR h v;have u:∀args w,(callFunc 205 args).run prog w=.ok (.enter 205 args) w:=enters_of func205 (by kernel_rfl) rfl;have d:=S.Gj w (Zk #[Zs (some ⟨g,o,none⟩) cols.length c,s] 105) (Zk #[Zi c1,Zt j,Zi k,Zo l,Zi m,Zi n,Zt p] 60);have b:=t.below d
 have a:=AnyQ.slices_IndexFunc layIdx 7 isAgg60 sizeOf60 Cc Gl (λc=>c.1==c1) 205 #[Zp (some ⟨w.heap.size+1,0,none⟩)] u g o cols.length c cols _
  (ADS c1 (w.heap.size+1) _ (by simp) (by rw[World.cell?_alloc_at _ _ _ _ (by simp)];rfl)) (XB _) (by omega) b.1 b.2
 rw[Yf] at a
 change Zc 149 _ _ (λe i=>e=Zr (Zi (Lib.idxBy (λ(_:Aj)(y:Aj)=>y.1==c1) cols default))/\_) at a
 rw[AFU] at a;clear h b t;generalize cM cols c1=r at a ⊢;go_enter func166,ntmps166;go_wp2_with (go_at_call 149;refine a.mono ?_;rintro e i⟨rfl,f⟩);go_ret;exact⟨rfl,b2c f⟩
theorem Kt(w:Tw)(X Y:Obj):((w.alloc X).alloc Y).heap.size=w.heap.size+2/\((w.alloc X).alloc Y).heap[w.heap.size]? = some X/\((w.alloc X).alloc Y).heap[w.heap.size+1]? = some Y/\Below w.heap.size w ((w.alloc X).alloc Y):=by
 refine⟨by simp,?_,?_,S.Gj w X Y⟩
 ·exact(XZ _ _ _ (by simp)).trans (Y8 _ _)
 have:=Y8 (w.alloc X) Y;rwa[XI] at this
theorem J5{b:Nat}{x z:Tv}(h:W.heap[b]? = some (Zk #[x,y,z] T)):W.cell? ⟨b,0,none⟩=some x/\W.cell? ⟨b,1,none⟩=some y/\W.cell? ⟨b,2,none⟩=some z/\W.frozen? ⟨b,0,none⟩=false/\W.frozen? ⟨b,1,none⟩=false/\W.frozen? ⟨b,2,none⟩=false:=by refine⟨by simp[World.cell?,h],by simp[World.cell?,h],by simp[World.cell?,h],Yab W b 0 _ T h,Yab W b 1 _ T h,Yab W b 2 _ T h⟩
theorem Hg{b:Nat}{x:Tv}(h:W.heap[b]? = some (Zk #[x,y] T)):W.cell? ⟨b,0,none⟩=some x/\W.cell? ⟨b,1,none⟩=some y:=by refine⟨by simp[World.cell?,h],by simp[World.cell?,h]⟩
theorem nL(k:Nat)(V W:Tv)(cols:List Aj)(gs:List Fk)(g:Fk)(w:Tw)(hc:F7 7 Cc w V cols)(X:vL w W gs)(R:gs[k]? = some g):
 Zc 115 #[Zg #[V,W],Zi k] w λe j=>∃sv M,e=Zr (Zu #[Zg #[Zi g.1,sv,M],Zo (Gb cols g)])/\F7 8 encS w sv g.2.1/\F7 1 Mc w M g.2.2/\Below w.heap.size w j:=by
 obtain⟨n,st,bs⟩:=g;obtain⟨b,off,N,n',sv,M,rfl,d,rfl,z,D,G,i,f⟩:=X.at R;have m:=Aa i;have l:=Aa f;obtain⟨I,J,rfl,_⟩:=i.slice;obtain⟨x,y,rfl,_⟩:=f.slice;obtain⟨O,P,rfl,_⟩:=hc.slice;have ad:=Ax R;have ac:(k:Int)<(gs.length:Int):=by omega
 have ab:¬(k:Int)<0:=by omega
 clear i f X hc R;simp only at z D G m l ⊢;obtain⟨u,Y,hY,s⟩:=Kt w (Zk #[Zs O cols.length P,Zs (some ⟨b,off,none⟩) gs.length N] 105) (Zk #[Zi 0,Zs none 0 0,Zs none 0 0] 160);replace z:=(s.cell (p:=⟨b,off+k*3,none⟩) d).trans z;replace D:=(s.cell (p:=⟨b,off+k*3+1,none⟩) d).trans D;replace G:=(s.cell (p:=⟨b,off+k*3+2,none⟩) d).trans G;obtain⟨r0,r1⟩:=Hg Y;obtain⟨y0,y1,y2,f0,f1,f2⟩:=J5 hY;have U:=Aa s
 have HW:Hid (Gb cols (n,st,bs)=(decide (st.length=cols.length) && (decide (bs.length=cols.length) && (decide (1<=n) && decide (n<=6))))):=Aa (by simp only[Gb,Bool.decide_and])
 rw[HW.o];have z1:((st.length:Int)==(cols.length:Int))=decide (st.length=cols.length):=by by_cases h:st.length=cols.length <;> simp[h];omega
 have z2:((bs.length:Int)==(cols.length:Int))=decide (bs.length=cols.length):=by by_cases h:bs.length=cols.length <;> simp[h];omega
 have z3:decide ((1:Int)<=(n:Int))=decide (1<=n):=by by_cases h:1<=n <;> simp[h] <;> omega
 have z4:decide ((n:Int)<=(6:Int))=decide (n<=6):=by by_cases h:n<=6 <;> simp[h] <;> omega
 generalize decide (st.length=cols.length)=t1 at *;generalize decide (bs.length=cols.length)=t2 at *;generalize decide (1<=n)=t3 at *;generalize decide (n<=6)=t4 at *;have aa:¬b=w.heap.size+2:=by omega
 clear Y hY s;go_enter func115,ntmps115;go_wp2_with fail;generalize (w.alloc (Zk #[Zs O cols.length P,Zs (some ⟨b,off,none⟩) gs.length N] 105)).alloc (Zk #[Zi 0,Zs none 0 0,Zs none 0 0] 160)=q at *;generalize T:w.heap.size=sz at *
 go_region_held3 (λj=>j.cell? ⟨b,off+k*3,none⟩=some (Zi n)/\j.cell? ⟨b,off+k*3+1,none⟩=some (Zs I st.length J)/\j.cell? ⟨b,off+k*3+2,none⟩=some (Zs x bs.length y)/\j.cell? ⟨sz,0,none⟩=some (Zs O cols.length P)/\j.cell? ⟨sz,1,none⟩=some (Zs (some ⟨b,off,none⟩) gs.length N)) (go_keep) (fail)
 generalize a:(q.alloc (Zk #[Zi n,Zs I st.length J,Zs x bs.length y] 160)).drew=r
 have c:r.heap[sz+2]? = some (Zk #[Zi n,Zs I st.length J,Zs x bs.length y] 160):=by rw[<-a,<-u];exact Y8 _ _
 have t:Below sz w r:=by rw[<-a];exact(U.o.alloc (by omega) _).drew
 have keep:∀o,r.cell? ⟨sz+1,o,none⟩=q.cell? ⟨sz+1,o,none⟩/\r.frozen? ⟨sz+1,o,none⟩=q.frozen? ⟨sz+1,o,none⟩:=λo=>by
  have hb:Below q.heap.size q r:=by rw[<-a];exact(Zal).drew
  exact⟨hb.cell (p:=⟨sz+1,o,none⟩) (by show sz+1<_;omega),hb.frozen (p:=⟨sz+1,o,none⟩) (by show sz+1<_;omega)⟩
 rw[<-(keep 0).1] at y0;rw[<-(keep 1).1] at y1;rw[<-(keep 2).1] at y2;rw[<-(keep 0).2] at f0;rw[<-(keep 1).2] at f1;rw[<-(keep 2).2] at f2;obtain⟨x0,x1,x2,_,_,_⟩:=J5 c;have L:=Aa t;clear a c t keep U z D G r0 r1 u;cases t1 <;> cases t2 <;> cases t3 <;> cases t4
 all_goals
  go_wp2_with fail
  go_region
  go_wp2;refine bodyPost_ret (v:=Zu #[Zg #[Zi n,Zs I st.length J,Zs x bs.length y],Zo _]) ?hres rfl ⟨_,_,rfl,m.o,l.o,?hbel⟩
  case hbel=>rw[T];exact(((L.o.setCell (p:=⟨sz+1,0,none⟩) (WE _) _).setCell (p:=⟨sz+1,1,none⟩) (WE _) _).setCell (p:=⟨sz+1,2,none⟩) (WE _) _).drew
  case hres=>simp[results,results115,go_sem,y0,y1,y2]
theorem Jl(w:Tw)(X Y Z:Obj):(((w.alloc X).alloc Y).alloc Z).heap.size=w.heap.size+3/\(((w.alloc X).alloc Y).alloc Z).heap[w.heap.size]? = some X/\(((w.alloc X).alloc Y).alloc Z).heap[w.heap.size+1]? = some Y/\(((w.alloc X).alloc Y).alloc Z).heap[w.heap.size+2]? = some Z/\Zb w (((w.alloc X).alloc Y).alloc Z):=by
 obtain⟨a,b,c,d⟩:=Kt w X Y;refine⟨by simp,?_,?_,?_,b3 w X Y Z⟩
 ·exact(XZ _ _ _ (by omega)).trans b
 ·exact(XZ _ _ _ (by omega)).trans c
 have:=Y8 ((w.alloc X).alloc Y) Z;rwa[a] at this
theorem AG6{cols:List Aj}{id:Int}(h:pos cols id<cols.length):cM cols id=(pos cols id:Int):=by unfold cM;rw[Yaa h]
theorem Ag(a:Zb w W){b o:Nat}(h:w.cell? ⟨b,o,none⟩=some v):W.cell? ⟨b,o,none⟩=some v:=(a.cell (p:=⟨b,o,none⟩) (World.block_lt_of_cell? w ⟨b,o,none⟩ h)).trans h
theorem Lb(cv:Tv)(I:To)(M J:Nat)(cols:List Aj)(n:Nat)(T:To)(V U:Nat)(bv:Tv)(bs:List (List UInt8))(c1:Int)(u:Tb)(v:Int)(y:Bool)(z D:Int)(G:Tb)(w:Tw)(hc:F7 7 Cc w cv cols)(O:F7 1 Mc w bv bs)(h1:1<=cols.length)(h8:cols.length<=8)(ab:bs.length=cols.length)(hp:pos cols c1<cols.length)(P:∀b∈bs,b.length<=1000000):
 Zc 116 #[Zg #[cv,Zs I M J],Zg #[Zi n,Zs T V U,bv],Zg #[Zi c1,Zt u,Zi v,Zo y,Zi z,Zi D,Zt G]] w
  λe h=>∃v',e=Zr v'/\h.ownsRow w.heap.size 56 3 v' ((E.Ll (kd (cols[pos cols c1]?.getD zC)) (bs[pos cols c1]?.getD [])).getD []).length (E.A1 ((E.Ll (kd (cols[pos cols c1]?.getD zC)) (bs[pos cols c1]?.getD [])).getD []))/\Zb w h:=by
 have Y:=Aa (λW r=>U9 cv (Zs I M J) cols c1 u v y z D G W (hc.up r) h1 h8);rw[AG6 hp] at Y;generalize pos cols c1=p at *;obtain⟨g,o,q,rfl,af,ag,i⟩:=hc.cons (by omega);obtain⟨j,a,m,rfl,ae,f,d⟩:=O.cons (by omega);obtain⟨⟨k1,k2,l,k4,k5,k6,k7⟩,hk⟩:∃x,cols[p]? = some x:=⟨_,Y' hp⟩;obtain⟨bb,k⟩:∃x,bs[p]? = some x:=⟨_,Y' (by omega)⟩;obtain⟨_,_,u2,_,_,_,_⟩:=F8 i hk;have u3:=d p bb k 0 _ rfl;rw[WX,WW] at u3;rw[hk,k];simp only[XT];have ac:=P bb (XA k);have s:=Aa (λW=>E.eS l (E.str bb) W (by rw[E.Ds];exact ac));rw[E.Eo] at s;have ek:kd (k1,k2,l,k4,k5,k6,k7)=l:=rfl;rw[ek];obtain⟨ad,hX,hY,hZ,N⟩:=Jl w (Zk #[Zs (some ⟨g,o,none⟩) cols.length q,Zs I M J] 105) (Zk #[Zi n,Zs T V U,Zs (some ⟨j,a,none⟩) bs.length m] 160) (Zk #[Zi c1,Zt u,Zi v,Zo y,Zi z,Zi D,Zt G] 60);have t:=Aa (Y.o _ N);have r0:=(Hg hX).1;have y2:=(J5 hY).2.2.1
 have R:Hid (∀W,Below (((w.alloc (Zk #[Zs (some ⟨g,o,none⟩) cols.length q,Zs I M J] 105)).alloc (Zk #[Zi n,Zs T V U,Zs (some ⟨j,a,none⟩) bs.length m] 160)).alloc (Zk #[Zi c1,Zt u,Zi v,Zo y,Zi z,Zi D,Zt G] 60)).heap.size (((w.alloc (Zk #[Zs (some ⟨g,o,none⟩) cols.length q,Zs I M J] 105)).alloc (Zk #[Zi n,Zs T V U,Zs (some ⟨j,a,none⟩) bs.length m] 160)).alloc (Zk #[Zi c1,Zt u,Zi v,Zo y,Zi z,Zi D,Zt G] 60)) W->W.cell? ⟨w.heap.size,0,none⟩=some (Zs (some ⟨g,o,none⟩) cols.length q)/\W.cell? ⟨g,o+p*7+2,none⟩=some (Zi l)/\W.cell? ⟨w.heap.size+1,2,none⟩=some (Zs (some ⟨j,a,none⟩) bs.length m)/\W.cell? ⟨j,a+p,none⟩=some (Zt (E.str bb))):=Aa (λW r=>⟨Ag r r0,Ag r (Ag N u2),Ag r y2,Ag r (Ag N u3)⟩)
 have X:=Aa N;have aj:(p:Int)<(cols.length:Int):=by omega
 have ai:(p:Int)<(bs.length:Int):=by omega
 have ah:(0:Int)<=(p:Int):=by omega
 have ak:¬(p:Int)<0:=by omega
 clear hX hY hZ N r0 y2 u2 u3 i d hk k P ad Y hc O ab;generalize E.str bb=sb at *;cases hd:E.Ll l bb with
 | none=>
   rw[hd] at s;go_enter func116,ntmps116;go_wp2_with fail;refine t.o.mono ?_;rintro e w1⟨rfl,c⟩;obtain⟨q0,q1,q2,q3⟩:=R.o w1 c;go_wp2_with fail
   go_region_held3 (λh=>h.cell? ⟨w.heap.size,0,none⟩=some (Zs (some ⟨g,o,none⟩) cols.length q)/\h.cell? ⟨g,o+p*7+2,none⟩=some (Zi l)/\h.cell? ⟨w.heap.size+1,2,none⟩=some (Zs (some ⟨j,a,none⟩) bs.length m)/\h.cell? ⟨j,a+p,none⟩=some (Zt sb))
    (first|(go_keep;done)|exact R.o _ (Ap c.drew f)|fail)
    (first|(go_at_call 169;refine(s.o _).mono ?_;rintro e w2⟨rfl,f⟩)|fail)
   go_wp2;go_ret;exact⟨_,rfl,XL _ _ _ _,Ap (Ap X.o c.drew) f⟩
 | some L=>
   rw[hd] at s;go_enter func116,ntmps116;go_wp2_with fail;refine t.o.mono ?_;rintro e w1⟨rfl,c⟩;obtain⟨q0,q1,q2,q3⟩:=R.o w1 c;go_wp2_with fail
   go_region_held3 (λh=>h.cell? ⟨w.heap.size,0,none⟩=some (Zs (some ⟨g,o,none⟩) cols.length q)/\h.cell? ⟨g,o+p*7+2,none⟩=some (Zi l)/\h.cell? ⟨w.heap.size+1,2,none⟩=some (Zs (some ⟨j,a,none⟩) bs.length m)/\h.cell? ⟨j,a+p,none⟩=some (Zt sb))
    (first|(go_keep;done)|exact R.o _ (Ap c.drew f)|fail)
    (first|(go_at_call 169;refine(s.o _).mono ?_;rintro e w2⟨v2,rfl,aa,f⟩)|fail)
   go_wp2;go_ret;exact⟨_,rfl,E.Ai aa (Ap X.o c.drew).size,Ap (Ap X.o c.drew) f⟩
structure RI(B R:Nat)(W:World)(vs:List Value)(L:List (List V)):Prop where
 len:vs.length=L.length
 row:W.ownsRow B 62 1 (.slice (some ⟨R,0,none⟩) L.length L.length) L.length vs
 each:∀(i:Nat)v l,vs[i]? = some v->L[i]? = some l->W.ownsRow B 56 3 v l.length (E.A1 l)
 dis:∀(i j:Nat)v u,i≠j->vs[i]? = some v->vs[j]? = some u->∀q,v.ownBlock=some q->u.ownBlock≠some q
theorem RI.kept{B R:Nat}(h:RI B R W X L)(a:Zb W w):RI B R w X L :=
 ⟨h.len,E.Ad h.row a,λi v l c b=>E.Ad (h.each i v l c b) a,h.dis⟩
theorem RI.AIM{B R:Nat}(h:RI B R W X L){l:List V}(d:X[i]? = some v)(b:L[i]? = some l):W.cell? ⟨R,i,none⟩=some v/\W.frozen? ⟨R,i,none⟩=false/\R<W.heap.size/\B<=R/\∃a c,v=Zs a l.length c:=by have f:=Ax b;refine⟨(h.row.cellAt i (by omega)).trans d,h.row.frozenAt i,(h.row.lt R rfl).2,(h.row.lt R rfl).1,?_⟩;obtain⟨a,c,e,_⟩:=E.Ak (h.each i v l d b);exact⟨a,c,e⟩
theorem RI.ne{B R:Nat}{W:Tw}{X:List Tv}{L:List (List V)}(h:RI B R W X L){i:Nat}{v:Tv}{l:List V}(o:X[i]? = some v)(n:L[i]? = some l):some R≠v.ownBlock:=by
 intro e
 rcases (h.each i v l o n).2 with⟨rfl,_⟩|⟨g,j,k,rfl,_,m,_⟩
 ·cases e
 injection e with e;subst e
 rcases h.row.2 with⟨c,_⟩|⟨p,d,f,c,_,a,_⟩
 ·cases c
 injection c with b _ _;injection b with b;injection b with b _ _;subst b;rw[m] at a;injection a with a;injection a with _ a _;exact absurd a (by decide)
theorem RI.step{B R:Nat}(h:RI B R W X L){l:List V}(t:X[i]? = some v)(D:L[i]? = some l){g:Nat}(J:w.ownsRow B 56 3 (Zs (some ⟨g,0,none⟩) (l.length+1) n) (l.length+1) (E.A1 l++E.A1 [x]))(z:W.grownBy w v.ownBlock)(p:v.ownBlock=some g\/W.heap.size<=g):
 RI B R (w.setCell ⟨R,i,none⟩ (Zs (some ⟨g,0,none⟩) (l.length+1) n)) (X.set i (Zs (some ⟨g,0,none⟩) (l.length+1) n)) (L.set i (l++[x])):=by
 have s:=Ax D;have c:w.ownsRow B 62 1 (Zs (some ⟨R,0,none⟩) L.length L.length) L.length X:=E.C2 h.row (h.each i v l t D) (by decide) z;obtain⟨s1,s2⟩:=c.stored i (Zs (some ⟨g,0,none⟩) (l.length+1) n);have own:(Value.slice (some ⟨g,0,none⟩) (l.length+1) n).ownBlock=some g:=rfl;refine⟨by simp[h.len],by rw[WS];exact s1,λj u m b d=>?_,λj k u u' hne b a q f=>?_⟩
 ·by_cases e:j=i
  ·subst e
   rw[Yj (by rw[h.len];exact s)] at b;rw[Yj s] at d;injection b with b;injection d with d;subst b d;rw[XD,YE,E.Jk];exact E.C2 J c (by decide) s2
  rw[Yp (λx=>e x.symm)] at b d;have G:=h.each j u m b d
  have I:w.ownsRow B 56 3 u m.length (E.A1 m):=by
   refine G.kept z ?_;cases hub:u.ownBlock with
   | none=>exact .inl rfl
   | some q=>exact .inr (λx=>h.dis j i u v e b t q hub x.symm)
  exact E.C2 I c (by decide) s2
 by_cases e:j=i
 ·subst e
  rw[Yj (by rw[h.len];exact s)] at b;rw[Yp hne] at a;injection b with b;subst b;rw[own] at f;injection f with f;subst f
  rcases p with o|o
  ·exact h.dis j k v u' hne t a g o
  intro r;have y:=Ax a;obtain⟨m,d⟩:∃m,L[k]? = some m:=⟨_,Y' (by rw[<-h.len];exact y)⟩;have:=((h.each k u' m a d).lt g r).2;omega
 rw[Yp (λx=>e x.symm)] at b
 by_cases e':k=i
 ·subst e'
  rw[Yj (by rw[h.len];exact s)] at a;injection a with a;subst a;rw[own];intro r;injection r with r;subst r
  rcases p with o|o
  ·exact h.dis j k u v hne b t g f o
  obtain⟨m,d⟩:∃m,L[j]? = some m:=⟨_,Y' (by rw[<-h.len];exact Ax b)⟩;have:=((h.each j u m b d).lt g f).2;omega
 rw[Yp (λx=>e' x.symm)] at a;exact h.dis j k u u' hne b a q f
theorem AJx(a:List Tv):a.flatMap encR=a:=by
 induction a with
 | nil=>rfl
 | cons v a ih=>rw[XJ,ih];rfl
def Sc(B:Nat)(w:World)(v:Value)(rows:List (List V)):Prop:=∃a:List Value,a.length=rows.length/\w.ownsRow B 62 1 v rows.length a/\∀(j:Nat)x r,a[j]? = some x->rows[j]? = some r->w.ownsRow 0 56 3 x r.length (E.A1 r)
theorem Sc.up{B:Nat}{rows:List (List V)}(h:Sc B w v rows)(a:Zb w W):Sc B W v rows:=by obtain⟨g,b,c,d⟩:=h;exact⟨g,b,E.Ad c a,λj x r f e=>E.Ad (d j x r f e) a⟩
theorem Sc.slr{B:Nat}{rows:List (List V)}(h:Sc B w v rows):iJ w v rows:=by obtain⟨c,a,b,d⟩:=h;refine⟨c,?_,a,λj x r f e=>E.Cy (d j x r f e)⟩;rw[<-AJx c] at b;exact F7.Fz (k:=1) (enc:=encR) (λ_=>rfl) b a.symm
theorem Sc.one{B:Nat}{rows:List (List V)}(g:X.length=rows.length)(b:∀(j:Nat)x r,X[j]? = some x->rows[j]? = some r->w.ownsRow B 56 3 x r.length (E.A1 r)):∀u∈X,u.oneCell'=true:=by intro u f;obtain⟨j,d,rfl⟩:=Yk f;obtain⟨a,c,e,_⟩:=E.Ak (b j _ _ (Y' d) (Y' (by omega)));rw[e];rfl
theorem RI.owned{B R:Nat}(h:RI B R W X L):Sc 0 W (Zs (some ⟨R,0,none⟩) L.length L.length) L :=
 ⟨X,h.len,E.Ai h.row (XG _),λj x r b a=>E.Ai (h.each j x r b a) (XG _)⟩
theorem Sc.app{B:Nat}{v v':Tv}{a b:List (List V)}{Y:List Tv}(h:X.length=a.length)(l:Y.length=b.length)(k:w.ownsRow B 62 1 v a.length X)(g:∀(j:Nat)x r,X[j]? = some x->a[j]? = some r->w.ownsRow 0 56 3 x r.length (E.A1 r))(f:∀(j:Nat)x r,Y[j]? = some x->b[j]? = some r->w.ownsRow 0 56 3 x r.length (E.A1 r))(e:W.ownsRow B 62 1 v' (a.length+b.length) (X++Y))(i:w.grownBy W v.ownBlock):Sc B W v' (a++b):=by
 refine⟨X++Y,by simp[h,l],by rw[XD];exact e,λj x r d c=>?_⟩
 by_cases hj:j<a.length
 ·rw[XM (by omega)] at d
  rw[XM hj] at c;exact E.C2 (g j x r d c) k (by decide) i
 rw[XK (by omega),h] at d;rw[XK (by omega)] at c;exact E.C2 (f _ x r d c) k (by decide) i
theorem ABG(B:Nat)(w:Tw):Sc B w (Zs none 0 0) []:=⟨[],rfl,XL _ _ _ _,λj x r a=>by simp at a⟩
def Jm(a:Aj->List V)(b:List Aj)(n j i:Nat):List (List V):=(List.range n).map λm=>(b.take (if m<i then j+1 else j)).map λc=>(a c)[m]?.getD zV
theorem Ka(a:Aj->List V)(b:List Aj)(n j i:Nat):(Jm a b n j i).length=n:=by simp[Jm]
theorem kG(a:Aj->List V)(c:List Aj)(n:Nat):Jm a c n 0 0=List.replicate n []:=by rw[List.eq_replicate_iff];refine⟨Ka _ _ _ _ _,λb d=>?_⟩;simp only[Jm,XR] at d;obtain⟨m,_,rfl⟩:=d;simp
theorem mJ(a:Aj->List V)(b:List Aj)(n j:Nat):Jm a b n j n=Jm a b n (j+1) 0:=by unfold Jm;apply Yw;intro m c;rw[X6] at c;simp[c]
theorem AA9(a:Aj->List V)(b:List Aj)(d:i<n):(Jm a b n j i)[i]? = some ((b.take j).map λc=>(a c)[i]?.getD zV):=by simp[Jm,d]
theorem pU(a:Aj->List V)(d:i<n)(b:l[j]? = some c)(f:(a c)[i]? = some x):
 (Jm a l n j i).set i (((l.take j).map λc=>(a c)[i]?.getD zV)++[x])=Jm a l n j (i+1):=by
 apply XN;intro m
 by_cases hm:m<n
 ·by_cases e:m=i
  ·subst e
   rw[Yj (by rw[Ka];exact d)];simp only[Jm,XF,XX hm,XQ,WH,if_true];rw[E.Br b];simp[f]
  rw[Yp (λy=>e y.symm)];simp only[Jm,XF,XX hm,XQ];congr 2
  by_cases h:m<i
  ·rw[Yaa h,Yaa (by omega)]
  rw[Y9 h,Y9 (by omega)]
 rw[Yb (by rw[WS,Ka];omega),Yb (by rw[Ka];omega)]
theorem uC(cols:List Aj)(g:Fk)(a:List Aj):Jm (Bq cols g) a g.1 a.length 0=Lh cols g a:=by unfold Jm Lh;simp
theorem AAq{B R n:Nat}(h:W.ownsRow B 62 1 (Zs (some ⟨R,0,none⟩) n n) n (List.replicate n (Zs none 0 0))):RI B R W (List.replicate n (Zs none 0 0)) (List.replicate n []):=by
 refine⟨by simp,by rw[List.length_replicate];exact h,λi v l b d=>?_,λi j v u _ b _ q hq=>?_⟩
 ·have a:v=Zs none 0 0:=YA (XA b)
  have c:l=[]:=YA (XA d);subst a c;exact XL _ _ _ _
 have a:v=Zs none 0 0:=YA (XA b);subst a;cases hq
def dM(r:Option (List (List V)))(w:World)(e:Ending)(a:World):Prop:=match r with
 | none=>e=.returned (.tuple #[.slice none 0 0,.iface 47 (Zi 2)])/\Zb w a
 | some rows=>∃v',e=.returned (.tuple #[v',.nilIface])/\Sc 0 a v' rows/\Zb w a
theorem eI:(prog.info? 62).map (λi=>(i.zero,i.size,i.bytes))=some (some (Zs none 0 0),1,24):=by kernel_rfl
theorem AFW(n:Nat):(madeCells (#[Zs none 0 0]:Array Tv) n).toList=List.replicate n (Zs none 0 0):=by
 apply XN;intro j
 by_cases h:j<n
 ·have a:j % 1=0:=by omega
  simp[madeCells,h,a]
 simp[madeCells,h]
theorem tF{cols l:List Aj}(a:c∈l)(h:(Bq cols g c).length≠g.1):Ew cols g l=none:=by
 unfold Ew
 have:l.all (λc=>(Bq cols g c).length==g.1)=false:=by rw[Y3];exact⟨c,a,by simpa using h⟩
 rw[this];simp
theorem mC{cols l:List Aj}(b:Gb cols g=true)(h:∀c∈l,(Bq cols g c).length=g.1):Ew cols g l=some (Lh cols g l):=by
 unfold Ew
 have:l.all (λc=>(Bq cols g c).length==g.1)=true:=by rw[XS];exact λc a=>by simpa using h c a
 rw[this,b];simp
theorem kK{cols:List Aj}{st:List S.St}{bs:List (List UInt8)}(h:pos cols c.1<cols.length):Bq cols (n,st,bs) c=(E.Ll (kd (cols[pos cols c.1]?.getD zC)) (bs[pos cols c.1]?.getD [])).getD []:=by unfold Bq;rw[Yaa h]
def Apt(v:Value)(a:List Value):Prop:=∀(i:Nat)u,a[i]? = some u->∀q,u.ownBlock=some q->v.ownBlock≠some q
theorem Apt.step{u:Tv}{g H:Nat}(h:Apt v X)(l:X[i]? = some u)(c:u.ownBlock=some g\/H<=g)(m:∀q,v.ownBlock=some q->q<H):Apt v (X.set i (Zs (some ⟨g,0,none⟩) n k)):=by
 intro j x a q b
 by_cases e:j=i
 ·subst e
  rw[Yj (Ax l)] at a;injection a with a;subst a;injection b with b;subst b
  rcases c with f|f
  ·exact h j u l g f
  intro d;have:=m g d;omega
 rw[Yp (λy=>e y.symm)] at a;exact h j x a q b
theorem Pq(k:Nat)(cv gv lv:Tv)(cols:List Aj)(gs:List Fk)(g:Fk)(d:List Aj)(w:Tw)(hF:Hm w cv gv (cols,gs))(hk:gs[k]? = some g)(hn:F7 7 Cc w lv d)(cy:d.length<=8)(h1:1<=cols.length)(h8:cols.length<=8)(ar:∀c∈d,pos cols c.1<cols.length)(bz:∀b∈g.2.2,b.length<=1000000):
 Zc 69 #[Zg #[cv,gv],Zi k,lv] w (dM (Ew cols g d) w):=by
 obtain⟨n,st,bs⟩:=g;obtain⟨hC,hG⟩:=hF;have HA:=Aa (λW hW=>nL k cv gv cols gs (n,st,bs) W (hC.up hW) (hG.up hW) hk);have HC:=Aa hC;have HN:=Aa hn;obtain⟨ga,gc,rfl,_⟩:=hG.slice;obtain⟨la,lc,rfl,_⟩:=hn.slice;obtain⟨ca,cc,rfl,_⟩:=hC.slice;have a3:Below w.heap.size w (w.alloc (Zk #[Zs ca cols.length cc,Zs ga gs.length gc] 105)):=Zal;have X:=Aa (HA.o _ a3);have hX:=Y8 w (Zk #[Zs ca cols.length cc,Zs ga gs.length gc] 105);obtain⟨f0,f1⟩:=Hg hX;have bd:Hid (∀W,Below (w.alloc (Zk #[Zs ca cols.length cc,Zs ga gs.length gc] 105)).heap.size (w.alloc (Zk #[Zs ca cols.length cc,Zs ga gs.length gc] 105)) W->W.cell? ⟨w.heap.size,0,none⟩=some (Zs ca cols.length cc)/\W.cell? ⟨w.heap.size,1,none⟩=some (Zs ga gs.length gc)):=Aa (λW hW=>⟨Ag hW f0,Ag hW f1⟩);have aa:=Aa a3;clear hC hG hn HA a3 hX f0 f1;cases hw:Gb cols (n,st,bs) with
 | false=>have HR:Hid (Ew cols (n,st,bs) d=none):=Aa (by unfold Ew;rw[hw];rfl);simp only[hw] at X;go_enter func69,ntmps69;go_wp2_with fail;refine X.o.mono ?_;rintro e t⟨sv,bv,rfl,ag,O,s⟩;obtain⟨sa,sc,rfl,_⟩:=ag.slice;obtain⟨ba,bc,rfl,_⟩:=O.slice;clear ag O;go_wp2;go_ret2;rw[HR.o];exact⟨rfl,(Ap aa.o s).alloc (Ap aa.o s).size _⟩
 | true=>
   simp only[hw] at X;have cq:st.length=cols.length/\bs.length=cols.length/\1<=n/\n<=6:=by simpa[Gb] using hw
   obtain⟨ak,bp,ck,cx⟩:=cq;have b3:=Aa bp;have HW:=Aa hw;have HP:=Aa ar;have b9:=Aa bz;obtain⟨iS,bq,b0,au,aw⟩:=info_parts eI;have ah:=Zy bq b0 au aw;obtain⟨iV,br,b1,av,ax⟩:=info_parts E.Ip;have ai:=Zy br b1 av ax;clear hw ar bz bp ak bq b0 au aw br b1 av ax hk;go_enter func69,ntmps69;go_wp2_with fail;refine X.o.mono ?_;rintro e t⟨sv,bv,rfl,ag,O,s⟩;have a9:=Aa (O.up s);obtain⟨sa,sc,rfl,_⟩:=ag.slice;obtain⟨ba,bc,rfl,_⟩:=O.slice;clear ag O;have cz:¬(n:Int)<0:=by omega
   have bx:=s.size;simp only[XI] at bx;go_wp2_with (refine wpList_make_full _ rfl _ _ 34 rfl (t.heap.size+1) 62 iS (.slice none 0 0) 1 underlying34 ah.o.1 ah.o.2.1 ah.o.2.2.1 .i64 .i64 _ _ n rfl rfl rfl rfl ?m1 ?m2 ?m3 ?_)
   case m1=>rw[ah.o.2.2.2];omega
   case m2=>unfold maxLen;omega
   case m3=>simp
   intro w3 bw P;have bn:=Y8 t (Zk #[Zi n,Zs sa st.length sc,Zs ba bs.length bc] 160);obtain⟨g0,g1,g2,_,_,_⟩:=J5 bn;have aq:Below (t.heap.size+1) (t.alloc (Zk #[Zi n,Zs sa st.length sc,Zs ba bs.length bc] 160)) w3:=⟨P.os,P.tape,P.output,P.size,λk hk=>P.block k (by simp;omega) (by simp)⟩;have I:Below w.heap.size w (t.alloc (Zk #[Zi n,Zs sa st.length sc,Zs ba bs.length bc] 160)):=(Ap aa.o s).alloc (Ap aa.o s).size _;have af:Below t.heap.size t (t.alloc (Zk #[Zi n,Zs sa st.length sc,Zs ba bs.length bc] 160)):=Zal
   have bf:Hid (∀W,Below (t.heap.size+1) w3 W->(W.cell? ⟨w.heap.size,0,none⟩=some (Zs ca cols.length cc)/\W.cell? ⟨w.heap.size,1,none⟩=some (Zs ga gs.length gc))/\(W.cell? ⟨t.heap.size,0,none⟩=some (Zi n)/\W.cell? ⟨t.heap.size,1,none⟩=some (Zs sa st.length sc)/\W.cell? ⟨t.heap.size,2,none⟩=some (Zs ba bs.length bc))/\F7 7 Cc W (Zs ca cols.length cc) cols/\F7 7 Cc W (Zs la d.length lc) d/\F7 1 Mc W (Zs ba bs.length bc) bs/\Below w.heap.size w W):=Aa (λW hW=>by
    have y:Below (t.alloc (Zk #[Zi n,Zs sa st.length sc,Zs ba bs.length bc] 160)).heap.size (t.alloc (Zk #[Zi n,Zs sa st.length sc,Zs ba bs.length bc] 160)) W:=by change Below _ _ _;rw[XI];exact aq.trans hW
    exact⟨bd.o W (Ap (Ap s af) y),⟨Ag y g0,Ag y g1,Ag y g2⟩,HC.o.up (Ap I y),HN.o.up (Ap I y),a9.o.up (Ap af y),Ap I y⟩)
   have b5:Hid (RI (t.heap.size+1) (t.heap.size+1) w3 (List.replicate n (Zs none 0 0)) (Jm (Bq cols (n,st,bs)) d n 0 0)):=Aa (by rw[kG];refine AAq ?_;rw[<-AFW];exact bw)
   clear bw P bn g0 g1 g2 aq I af bd HC HN a9 aa X bx;generalize hR:t.heap.size=gb at *;clear hR s;go_wp2
   go_loopw [30] (λvi wr=>∃j:Nat,j<=d.length/\vi=Zi j/\Hid (∀c∈d.take j,(Bq cols (n,st,bs) c).length=n)/\(∃vs,Hid (RI (gb+1) (gb+1) wr vs (Jm (Bq cols (n,st,bs)) d n j 0)))/\Hid (Below (gb+1) w3 wr)) (λvi _=>d.length-(intOf vi).toNat)
   case atStart=>exact⟨0,XG _,rfl,Aa (by simp),⟨_,b5⟩,Aa (XE _ _)⟩
   case round=>
    obtain⟨j,hj,rfl,ae,⟨vs,ad⟩,a4⟩:=hrel
    by_cases hlt:j<d.length
    ·obtain⟨⟨c1,c2,c3,c4,c5,c6,c7⟩,V⟩:∃c,d[j]? = some c:=⟨_,Y' hlt⟩
     obtain⟨⟨f0,f1⟩,⟨g0,g1,g2⟩,bm,bo,bl,aj⟩:=bf.o wr a4.o;obtain⟨lb,lo,db,el,_,ct,J⟩:=bo.cons (by omega);injection el with ce _ cf;subst ce cf;obtain⟨q0,q1,q2,q3,q4,q5,q6⟩:=F8 J V;have o:Below wr.heap.size wr (wr.alloc (Zk #[Zi c1,Zt c2,Zi c3,Zo c4,Zi c5,Zi c6,Zt c7] 60)):=Zal;replace f0:=Ag o f0;replace f1:=Ag o f1;replace g0:=Ag o g0;replace g1:=Ag o g1;replace g2:=Ag o g2;have a5:=HP.o _ (XA V);have HV:=Aa (Lb (Zs ca cols.length cc) ga gs.length gc cols n sa st.length sc (Zs ba bs.length bc) bs c1 c2 c3 c4 c5 c6 c7 _ (bm.up o) (bl.up o) h1 h8 b3.o a5 b9.o);rw[<-kK (n:=n) (st:=st) (c:=(c1,c2,c3,c4,c5,c6,c7)) a5] at HV;have bh:=Aa (XA V);have bb:=Aa V;have bt:(j:Int)<(d.length:Int):=by omega
     have b4:Hid (Bq cols (n,st,bs) (c1,c2,c3,c4,c5,c6,c7)=Bq cols (n,st,bs) (c1,c2,c3,c4,c5,c6,c7)):=Aa rfl;generalize hL:Bq cols (n,st,bs) (c1,c2,c3,c4,c5,c6,c7)=L at HV;have HL:=Aa hL;clear hL b4 bm bo bl J V a5
     by_cases hlen:L.length=n
     ·rw[hlen] at HV
      have al:=Aa hlen;clear hlen;go_wp2_with fail;refine HV.o.mono ?_;rintro e w5⟨v5,rfl,D,h⟩;obtain⟨va,vc,rfl,cp⟩:=E.Ak D;have co:=h.size;simp only[XI] at co;have ci:=(ad.o.row.lt (gb+1) rfl).2
      have b2:Hid (Apt (Zs va n vc) vs):=Aa (λi u hu q hq hv=>by obtain⟨m,hm⟩:∃m,(Jm (Bq cols (n,st,bs)) d n j 0)[i]? = some m:=⟨_,Y' (by rw[<-ad.o.len];exact Ax hu)⟩;have a1:=((ad.o.each i u m hu hm).lt q hq).2;have a2:=(D.lt q hv).1;simp only[XI] at a2;omega)
      have bj:=Aa (ad.o.kept (Ap o h));have a7:=Aa (a4.o.trans ((Ap o h).mono (YF ci)));have b6:Hid (w5.ownsRow (wr.heap.size+1) 56 3 (Zs va n vc) n (E.A1 L)):=Aa (by simpa only [XI] using D);clear D h o f0 f1 g0 g1 g2 q0 q1 q2 q3 q4 q5 q6 aj;go_wp2
      go_loopw [46] (λvi wi=>∃i:Nat,i<=n/\vi=Zi i/\(∃us,Hid (RI (gb+1) (gb+1) wi us (Jm (Bq cols (n,st,bs)) d n j i))/\Hid (Apt (Zs va n vc) us))/\Hid (wi.ownsRow (wr.heap.size+1) 56 3 (Zs va n vc) n (E.A1 L))/\Hid (Below (gb+1) w3 wi)) (λvi _=>n-(intOf vi).toNat)
      case atStart=>exact⟨0,XG _,rfl,⟨vs,bj,b2⟩,b6,a7⟩
      case round=>
       obtain⟨i,hi,rfl,⟨us,f,bk⟩,M,h⟩:=hrel
       by_cases hlt2:i<n
       ·have G:=AA9 (Bq cols (n,st,bs)) d (j:=j) hlt2
        obtain⟨l,hl⟩:∃l,(Jm (Bq cols (n,st,bs)) d n j i)[i]? = some l:=⟨_,G⟩;have bg:Hid (l=(d.take j).map λc=>(Bq cols (n,st,bs) c)[i]?.getD zV):=Aa (by rw[hl] at G;injection G);have cu:l.length<=8:=by rw[bg.o];simp;omega
        obtain⟨v,hv⟩:∃v,us[i]? = some v:=⟨_,Y' (by rw[f.o.len,Ka];exact hlt2)⟩;obtain⟨s0,s1,s2,s3,a,c,rfl⟩:=f.o.AIM hv hl;have ao:=Aa (f.o.each i _ l hv hl);obtain⟨q,a0,e5,cn,c8⟩:=M.o.form (by omega);injection e5 with cb _ cd;subst cb cd;obtain⟨⟨R,T,U⟩,hx⟩:=E.Hk (l:=L) (k:=i) (by rw[al.o];exact hlt2);obtain⟨t0,t1,t2⟩:=E.Hr hx;have y0:wr.cell? ⟨q,i*3,none⟩=some (Zi R):=(M.o.cellAt _ (by omega)).trans t0;have y1:wr.cell? ⟨q,i*3+1,none⟩=some (Zi T):=(M.o.cellAt _ (by omega)).trans t1;have y2:wr.cell? ⟨q,i*3+2,none⟩=some (Zt U):=(M.o.cellAt _ (by omega)).trans t2;have HX:=Aa hx;have ac:=Aa hv;have ay:=Aa hl;have cj:(i:Int)<(n:Int):=by omega
        have c9:=h.o.size;clear t0 t1 t2 hx hv hl G;have N:Below wr.heap.size wr (wr.alloc (Zk #[Zi R,Zi T,Zt U] 56)):=Zal;have an:=Aa (f.o.kept N);obtain⟨x0,x1,x2⟩:=E.Ei (Y8 wr (Zk #[Zi R,Zi T,Zt U] 56));have am:=Aa (E.Ad M.o N);have a8:=Aa (h.o.trans (N.mono (YF s2)));have da:wr.heap.size<(wr.alloc (Zk #[Zi R,Zi T,Zt U] 56)).heap.size:=by simp
        have bi:=Aa (f.o.ne ac.o ay.o);have az:Hid (∀q,(Value.slice a l.length c).ownBlock=some q->q<wr.heap.size):=Aa (λq hq=>(ao.o.lt q hq).2);go_wp2_with fail;replace s0:=Ag N s0;replace s1:=(N.frozen (p:=⟨gb+1,i,none⟩) s2).trans s1;replace s2:gb+1<(wr.alloc (Zk #[Zi R,Zi T,Zt U] 56)).heap.size:=by simp;omega
        clear N y0 y1 y2 ao f M h cn;generalize wr.alloc (Zk #[Zi R,Zi T,Zt U] 56)=Wb at *;generalize wr.heap.size=xb at *;have r:Hid (∀Y,Below Wb.heap.size Wb (Wb.drew.alloc Y)):=Aa (λY=>(XE _ _).drew.alloc (XB _) _);have ab:=Aa (an.o.each i _ l ac.o ay.o);have ck:Wb.heap.size≠gb+1:=by omega
        have cw:Wb.heap.size≠xb:=by omega
        go_region_law
         (first
           | (refine step_append_lies _ (by rfl) (.tmp 56) (.tmp 58) 62 (by rfl) (gb+1) 56 iV (.agg #[Zi 0,Zi 0,.string ⟨#[]⟩]) 3 32 underlying62 ai.o.1 ai.o.2.1 ai.o.2.2.1 ai.o.2.2.2 rfl (by decide) (.slice a l.length c) l.length (E.A1 l) (by rfl) (E.Ad ab.o (r.o _)) ⟨Wb.heap.size,0,none⟩ 1 1 [Zi R,Zi T,.string U] (by rfl) rfl (λj u hj=>XO (Y8 _ _) j u hj) (E.Hf [(R,T,U)]) (by omega) (by unfold maxLen;omega) (by omega) (by simp;omega) _ rfl ?_
              intro g a0 w6 cl z ap cr;have p0:=(z.cell_far ⟨gb+1,i,none⟩ (by simp;omega) bi.o).trans (Ag (r.o _) s0);have p1:=(z.cell_far ⟨xb,0,none⟩ (by simp;omega) (λe=>YG _ (az.o _ e.symm))).trans (Ag (r.o _) x0);have p2:=(z.cell_far ⟨xb,1,none⟩ (by simp;omega) (λe=>YG _ (az.o _ e.symm))).trans (Ag (r.o _) x1);have p3:=(z.cell_far ⟨xb,2,none⟩ (by simp;omega) (λe=>YG _ (az.o _ e.symm))).trans (Ag (r.o _) x2);have p4:=(z.frozen_far ⟨gb+1,i,none⟩ (by simp;omega) bi.o).trans (((r.o _).frozen (p:=⟨gb+1,i,none⟩) s2).trans s1))
           | fail)
        all_goals
         go_wp2;have ak:=(an.o.kept (r.o (Zk #[Zi R,Zi T,Zt U] 56))).step (x:=(R,T,U)) ac.o ay.o cl z (ap.imp_right (λe=>Nat.le_of_eq e.symm));have bu:=pU (Bq cols (n,st,bs)) (x:=(R,T,U)) hlt2 bb.o (by rw[HL.o];exact HX.o);rw[<-bg.o] at bu;rw[bu] at ak;have c0:=(am.o.lt q rfl).1;have cm:=((E.Ad am.o (r.o (Zk #[Zi R,Zi T,Zt U] 56))).kept z (.inr (λe=>bk.o i _ ac.o q e.symm rfl))).kept (E.Ar w6 (gb+1) i (Zs (some ⟨g,0,none⟩) (l.length+1) a0)) (.inr (λe=>by simp[Value.ownBlock] at e;omega));have cg:=(E.Bj (a8.o.trans ((r.o (Zk #[Zi R,Zi T,Zt U] 56)).mono (YF s2))) (E.Ad ab.o (r.o _)) z (by simp;omega)).setCell (p:=⟨gb+1,i,none⟩) (XB _) (Zs (some ⟨g,0,none⟩) (l.length+1) a0);exact⟨⟨i+1,by omega,by go_num,⟨_,Aa ak,Aa (bk.o.step (H:=Wb.heap.size+1) ac.o (ap.imp_right (λe=>by rw[e];simp)) (λq' e=>by simp[Value.ownBlock] at e;omega))⟩,Aa cm,Aa cg⟩,by simp[intOf];omega⟩
       have cj:¬(i:Int)<(n:Int):=by omega
       have ei:i=n:=by omega
       have b8:Hid (RI (gb+1) (gb+1) wr us (Jm (Bq cols (n,st,bs)) d n (j+1) 0)):=Aa (by rw[<-mJ,<-ei];rw[ei] at f ⊢;exact f.o)
       have a6:Hid (∀c∈d.take (j+1),(Bq cols (n,st,bs) c).length=n):=Aa (by
        intro c V;rw[E.Br bb.o,List.mem_append,List.mem_singleton] at V
        rcases V with V|rfl
        ·exact ae.o c V
        rw[HL.o];exact al.o)
       clear ei;go_wp2;exact⟨⟨j+1,by omega,by go_num,a6,⟨us,b8⟩,h⟩,by simp[intOf];omega⟩
     have cs:((L.length:Int)==(n:Int))=false:=by simp;omega
     have HR:Hid (Ew cols (n,st,bs) d=none):=Aa (tF bh.o (by rw[HL.o];exact hlen));clear hlen;go_wp2_with fail;refine HV.o.mono ?_;rintro e w5⟨v5,rfl,D,h⟩;obtain⟨va,vc,rfl,cp⟩:=E.Ak D;have ch:=Ap (Ap aj o) h;clear D;go_wp2;go_ret2;rw[HR.o];exact⟨rfl,ch⟩
    have bt:¬(j:Int)<(d.length:Int):=by omega
    have ej:j=d.length:=by omega
    have HR:Hid (Ew cols (n,st,bs) d=some (Lh cols (n,st,bs) d)):=Aa (mC HW.o (λc V=>by rw[ej,Yf] at ae;exact ae.o c V))
    have b7:Hid (Sc 0 wr (Zs (some ⟨gb+1,0,none⟩) n n) (Lh cols (n,st,bs) d)):=Aa (by have hm:=uC cols (n,st,bs) d;simp only at hm;rw[<-hm];have h3:=ad.o;rw[ej] at h3;have h4:=h3.owned;rwa[Ka] at h4)
    have aj:=(bf.o wr a4.o).2.2.2.2.2;clear ej;go_wp2;go_ret2;rw[HR.o];exact⟨_,rfl,b7.o,aj⟩
theorem ACn{cols l:List Aj}{r:List (List V)}(h:Ew cols g l=some r):r.length=g.1/\g.1<=6:=by
 unfold Ew at h;split at h
 ·rename_i hw
  injection h with h;rw[XC] at hw;have a:g.1<=6:=by have:=hw.1;simp only[Gb,decide_eq_true_eq] at this;exact this.2.2.2
  exact⟨by rw[<-h];simp[Lh],a⟩
 cases h
theorem Nb{cols l:List Aj}{acc:List (List V)}{gs:List Fk}(h:Ew cols g l=none):Fb cols l acc (g :: gs)=none:=by rw[Fb,h]
theorem Nx{cols l:List Aj}{acc r:List (List V)}{gs:List Fk}(h:Ew cols g l=some r):Fb cols l acc (g :: gs)=Fb cols l (acc++r) gs:=by rw[Fb,h]
theorem Ds(b:List UInt8):(E.str b).size=b.length:=by simp[E.str,ByteArray.size]
theorem o7(b:List UInt8):Lib.strCells (E.str b)=Lib.byteCells b:=by rw[E.fU];simp[E.str]
def Du(g:Fk)(k:Nat):List UInt8:=Lib.uvarint g.1++(g.2.2.take k).flatMap Dx
theorem X5(g:Fk):Du g g.2.2.length=Bh g:=by unfold Du Bh;rw[Yf]
theorem nJ{b:List UInt8}(h:g.2.2[k]? = some b):Du g (k+1)=(Du g k++Lib.uvarint b.length)++b:=by unfold Du;rw[E.Br h];simp[Dx]
theorem Xz(m:g.1<=6)(a:∀b∈g.2.2,b.length<=1000000)(k:Nat):(Du g k).length<=10+k*1000010:=by
 unfold Du;have f:(Lib.uvarint g.1).length<=10:=Lib.uvarint_length64 (by omega)
 have h:=Mp Dx 1000010 (l:=g.2.2.take k) (λb d=>by have e:=a b (Yl d);have i:(Lib.uvarint b.length).length<=10:=Lib.uvarint_length64 (by omega);simp only[Dx,XD];omega)
 have c:(g.2.2.take k).length<=k:=by rw[XP];omega
 have j:=Yo 1000010 c;rw[XD];omega
theorem aI(B n:Nat)(N:Tv)(xs:List Tv)(g:Fk)(sa:To)(sn sc:Nat)(tv:Tv)(w0 w:Tw)(d:w.ownsRow B 5 1 N n xs)(aa:w0.heap.size<=B)(ab:B<=w.heap.size)(ac:Zb w0 w)(hg:F7 1 Mc w0 tv g.2.2)(hr:g.1<=6)(am:g.2.2.length<=8)(q:∀b∈g.2.2,b.length<=1000000)(hn:n<=1000000000):
 Zc 147 #[N,Zg #[Zi g.1,Zs sa sn sc,tv]] w λe r=>∃v',e=Zr v'/\r.ownsRow B 5 1 v' (n+(Bh g).length) (xs++Lib.byteCells (Bh g))/\E.Wr B w r:=by
 obtain⟨i0,hi,I,J,L⟩:=info_parts E.bX;have M:=Zy hi I J L;clear hi I J L;have HO:=Aa d;have HG:=Aa hg;have V:=Aa q;obtain⟨ta,tc,rfl,_⟩:=hg.slice
 have HA:Hid (Zc 146 #[N,.int .u64 g.1] (w.alloc (Zk #[Zi g.1,Zs sa sn sc,Zs ta g.2.2.length tc] 160)) λe r=>∃v',e=Zr v'/\r.ownsRow B 5 1 v' (n+(Du g 0).length) (xs++Lib.byteCells (Du g 0))/\E.Wr B w r/\r.heap[w.heap.size]? = some (Zk #[Zi g.1,Zs sa sn sc,Zs ta g.2.2.length tc] 160)):=Aa (by rw[show Du g 0=Lib.uvarint g.1 by simp[Du]];exact(E.Dq B n g.1 (by omega) N xs _ (d.alloc _) (by simp;omega) (by omega)).mono λe r⟨v',he,h2,h3⟩=>⟨v',he,h2,((E.Wr.refl B w).alloc ab _).trans h3,E.Hw h3 (Y8 _ _) (by decide)⟩)
 have t:=Aa (Xz hr q);have HN:=Aa hn;clear d hg q hn;generalize f:g.2.2.length=m at *;have s:=Aa f;clear f;go_enter func147,ntmps147;go_wp2_with fail;refine HA.o.mono ?_;rintro e w1⟨v1,rfl,o,D,a⟩;obtain⟨b0,b1,b2,_⟩:=J5 a;obtain⟨va,vc,rfl,_⟩:=E.Ak o;have U:=Aa o;have W:=Aa D;have al:=Aa a;clear o D a;go_wp2
 go_loopw [0,15] (λvb vi wr=>∃k:Nat,k<=m/\vi=Zi k/\Hid (wr.ownsRow B 5 1 vb (n+(Du g k).length) (xs++Lib.byteCells (Du g k)))/\Hid (E.Wr B w wr)) (λ_ vi _=>m-(intOf vi).toNat)
 case atStart=>exact⟨0,XG _,rfl,U,W⟩
 case round=>
  obtain⟨k,hk,rfl,ho,P⟩:=hrel;obtain⟨ca,cc,rfl,_⟩:=E.Ak ho.o;have ak:=P.o.1.size
  by_cases hlt:k<m
  ·have f:=s.o
   obtain⟨b,O⟩:∃b,g.2.2[k]? = some b:=⟨_,Y' (by omega)⟩;have ai:(E.str b).size<=1000000:=by rw[Ds];exact V.o b (XA O)
   obtain⟨tb,ah,an,et,_,_,c⟩:=(HG.o.up (ac.trans (P.o.1.mono aa))).cons (by omega);injection et with X em Y;clear em;subst X Y;have q0:wr.cell? ⟨tb,ah+k,none⟩=some (Zt (E.str b)):=by have:=c k b O 0 _ rfl;simpa using this
   have ae:(k:Int)<(m:Int):=by omega
   have af:=t.o k;have j:(Du g k).length<=9000000:=by have:k*1000010<=8*1000010:=Yo _ (by omega);omega
   have y:=HN.o;have R:Hid (Zc 146 #[Zs ca (n+(Du g k).length) cc,.int .u64 (E.str b).size] wr _):=Aa (E.Dq B (n+(Du g k).length) (E.str b).size (by omega) _ _ wr ho.o (by omega) (by omega));have z:(Lib.uvarint (E.str b).size).length<=10:=Lib.uvarint_length64 (by omega);have T:Hid (Du g (k+1)=(Du g k++Lib.uvarint (E.str b).size)++b):=Aa (by rw[nJ O,Ds]);clear c af O f;have x:=Aa z;have v:=Aa y;have u:=Aa j;clear z y j;go_wp2_with fail;refine R.o.mono ?_;rintro e w2⟨v2,rfl,p,G⟩;obtain⟨c2,d2,rfl,_⟩:=E.Ak p;have aj:=G.1.size;go_wp2_with (at_builtin;refine Lib.wpList_append_own_string _ rfl _ _ 70 9 rfl B 5 i0 underlying70 underlying9 M.o.1 M.o.2.1 M.o.2.2.1 M.o.2.2.2 _ _ _ rfl p _ rfl ?d1 ?d2 ?d3 ?_)
   case d1=>have:=x.o;have:=v.o;have:=u.o;unfold maxLen;omega
   case d2=>have:=x.o;have:=v.o;have:=u.o;omega
   case d3=>omega
   intro v3 w3 i ad _;have ag:=E.Wr.grown (P.o.trans G) p ad (by omega);obtain⟨c3,d3,rfl,_⟩:=E.Ak i
   have l:Hid (w3.ownsRow B 5 1 (Zs c3 (n+(Du g k).length+(Lib.uvarint (E.str b).size).length+(E.str b).size) d3) (n+(Du g (k+1)).length) (xs++Lib.byteCells (Du g (k+1)))):=Aa (by rw[T.o,E.Bg,E.Bg];rw[o7] at i;simpa[Nat.add_assoc,Ds] using i)
   clear i;go_wp2;exact⟨⟨k+1,by omega,by go_num,l,Aa ag⟩,by simp[intOf];omega⟩
  have ae:¬(k:Int)<(m:Int):=by omega
  have ek:k=m:=by omega
  have l:Hid (wr.ownsRow B 5 1 (Zs ca (n+(Du g k).length) cc) (n+(Bh g).length) (xs++Lib.byteCells (Bh g))):=Aa (by have h:=ho.o;rw[show k=g.2.2.length by rw[s.o];exact ek,X5] at h ⊢;exact h)
  clear ek;go_wp2;go_ret;exact⟨_,rfl,l.o,P.o⟩
theorem Ih{c:Array Oper}{o:Oper}{Q:Exit->Act->Tw->Prop}{E:Prop}(d:o.guard=none)(f:Nat)(xs:Array Operand)(ts:Array TypeId)(p:o.op=.call { callee:=.value (.func f),args:=xs,argTypes:=ts })(args:Array Tv)(k:xs.map a.eval=args)(j:∀args w,(callFunc f args).run prog w=.ok (.enter f args) w)(R:Ending->Tw->Prop)(l:Zc f args W R)(h:∀e i,R e i->∃v,e=Zr v/\K (a.put o.dst v) i):
 if Region.wanted o (yielded c a.tmps)=true then Oper.wp prog o a W K Q else E:=by
 have q:Region.wanted o (yielded c a.tmps)=true:=by simp[Region.wanted,d]
 rw[Yaa q]
 have b:(execOp a.eval o).run prog W=.ok (.enter f args) W:=by simp[execOp,p,resolve,invoke,k,j,Act.eval,Deferred.ofValue]
 unfold Oper.wp;rw[b,Oper.upon_enter];refine l.mono λe g m=>?_
 obtain⟨v,rfl,n⟩:=h e g m;exact n
theorem I6{c:Array Oper}{o:Oper}{Q:Exit->Act->Tw->Prop}{E:Prop}(b:o.guard=none)(f:Nat)(x:Operand)(t:TypeId)(j:o.op=.call { callee:=.value (.func f),args:=#[x],argTypes:=#[t] })(u:Tv)(k:a.eval x=u)(g:∀args w,(callFunc f args).run prog w=.ok (.enter f args) w)(R:Ending->Tw->Prop)(i:Zc f #[u] W R)(h:∀e d,R e d->∃v,e=Zr v/\K (a.put o.dst v) d):
 if Region.wanted o (yielded c a.tmps)=true then Oper.wp prog o a W K Q else E :=
 Ih b f #[x] #[t] j #[u] (by simp[k]) g R i h
theorem Gc{c:Array Oper}{o:Oper}{Q:Exit->Act->Tw->Prop}{E:Prop}(b:o.guard=none)(f:Nat)(x y:Operand)(t s:TypeId)(j:o.op=.call { callee:=.value (.func f),args:=#[x,y],argTypes:=#[t,s] })(u v:Tv)(k:a.eval x=u)(l:a.eval y=v)(g:∀args w,(callFunc f args).run prog w=.ok (.enter f args) w)(R:Ending->Tw->Prop)(i:Zc f #[u,v] W R)(h:∀e d,R e d->∃v,e=Zr v/\K (a.put o.dst v) d):
 if Region.wanted o (yielded c a.tmps)=true then Oper.wp prog o a W K Q else E :=
 Ih b f #[x,y] #[t,s] j #[u,v] (by simp[k,l]) g R i h
theorem AGG:(prog.info? 231).map (λi=>(i.zero,i.size,i.bytes))=some (some (.agg #[.int .i64 0,.int .i64 0,.int .i64 0,.int .i64 0,.string ⟨#[]⟩,.int .i64 0,.int .i64 0,.string ⟨#[]⟩]),8,80):=by kernel_rfl
theorem Uz:(prog.info? 9).map (λi=>(i.zero,i.size,i.bytes))=some (some (.string ⟨#[]⟩),1,16):=by kernel_rfl
theorem r9(s:S.St):∀u∈encS s,u.oneCell'=true:=by
 intro u a;simp only[encS,S.E6,List.mem_cons,List.not_mem_nil,or_false] at a
 rcases a with rfl|rfl|rfl|rfl|rfl|rfl|rfl|rfl <;> rfl
def ACb(part:List (List V))(k:Nat):List S.St:=(List.range k).map λi=>S.Iv (D7 part i)
def ACO(l:List Aj)(part:List (List V))(k:Nat):List (List UInt8):=(List.range k).map λi=>E.Hv (kd (l[i]?.getD zC)) (D7 part i)
theorem ACc(part:List (List V))(k:Nat):ACb part (k+1)=ACb part k++[S.Iv (D7 part k)]:=by simp[ACb,X2]
theorem ACu(l:List Aj)(part:List (List V))(k:Nat):ACO l part (k+1)=ACO l part k++[E.Hv (kd (l[k]?.getD zC)) (D7 part k)]:=by simp[ACO,X2]
theorem AAf{part:List (List V)}{r:List V}(a:part[j]? = some r)(b:r[k]? = some x):(D7 part k).take (j+1)=(D7 part k).take j++[x]:=by refine E.Br ?_;unfold D7;rw[XF,a];simp[b]
theorem ABc{B e z n b:Nat}{xs:List Tv}(h:W.ownsRow B e z v n xs)(a:b<B)(x y u:Tv):(((W.setCell ⟨b,0,none⟩ x).setCell ⟨b,1,none⟩ y).setCell ⟨b,2,none⟩ u).ownsRow B e z v n xs :=
 E.Dc h a (E.Al (E.Ar _ _ _ _) (E.Al (E.Ar _ _ _ _) (E.Ar _ _ _ _)))
theorem AB7(lv rv:Tv)(l:List Aj)(part:List (List V))(w:Tw)(hl:F7 7 Cc w lv l)(hp:iJ w rv part)(h8:l.length<=8)(da:1<=part.length)(db:part.length<=6)(b3:Gr l part)(hk:Kl l):
 Zc 144 #[lv,rv] w λe w'=>∃sv bv,e=.returned (.agg #[.int .i64 part.length,sv,bv])/\w'.ownsRow w.heap.size 231 8 sv l.length ((An l part).2.1.flatMap encS)/\w'.ownsRow w.heap.size 9 1 bv l.length ((An l part).2.2.flatMap Mc)/\Below w.heap.size w w':=by
 have HL:=Aa hl;have HP:=Aa hp;have bo:=Aa b3;have HK:=Aa hk;obtain⟨la,lc,rfl,_⟩:=hl.slice;obtain⟨ra,rc,rfl,_⟩:=hp.slice;obtain⟨iV,b1,cb,aw,az⟩:=info_parts E.Ip;have ah:=Zy b1 cb aw az;obtain⟨iS,bz,b9,au,ax⟩:=info_parts AGG;have af:=Zy bz b9 au ax;obtain⟨iT,b0,ca,av,ay⟩:=info_parts Uz;have ag:=Zy b0 ca av ay;have bt:∀args w,(callFunc 167 args).run prog w=.ok (.enter 167 args) w:=enters_of func167 (by kernel_rfl) rfl;have bj:=Aa bt;clear hl hp b3 hk b1 cb aw az bz b9 au ax b0 ca av ay bt;obtain⟨b4,hX,hY,hB⟩:=Kt w (.cells #[.int .i64 0,.slice none 0 0,.slice none 0 0] 160) (.cells #[.int .i64 part.length,.slice none 0 0,.slice none 0 0] 160);have HX:=Aa hX;have HY:=Aa hY;have HB:=Aa hB;have cf:=Aa b4;clear hX hY hB b4;go_enter func144,ntmps144;go_wp2
 go_loopw [18] (λvi wr=>∃k:Nat,k<=l.length/\vi=.int .i64 k/\(∃sv bv,Hid (wr.heap[w.heap.size+1]? = some (.cells #[.int .i64 part.length,sv,bv] 160))/\Hid (wr.ownsRow (w.heap.size+2) 231 8 sv k ((ACb part k).flatMap encS))/\Hid (wr.ownsRow (w.heap.size+2) 9 1 bv k ((ACO l part k).flatMap Mc)))/\Hid (wr.heap[w.heap.size]? = some (.cells #[.int .i64 0,.slice none 0 0,.slice none 0 0] 160))/\Hid (Below w.heap.size w wr)/\w.heap.size+2<=wr.heap.size) (λvi _=>l.length-(intOf vi).toNat)
 case atStart=>exact⟨0,XG _,rfl,⟨_,_,HY,Aa (XL _ _ _ _),Aa (XL _ _ _ _)⟩,HX,HB,by have:=cf.o;omega⟩
 case round=>
  obtain⟨k,hk,rfl,⟨sv,bv,hg,ac,U⟩,ab,T,de⟩:=hrel;obtain⟨sa,sc,rfl,_⟩:=E.Ak ac.o;obtain⟨ba,bc,rfl,_⟩:=E.Ak U.o
  by_cases hlt:k<l.length
  ·obtain⟨⟨c1,c2,G,c4,c5,c6,c7⟩,hc⟩:∃c,l[k]? = some c:=⟨_,Y' hlt⟩
   obtain⟨lb,lo,dg,el,_,c9,o⟩:=(HL.o.up T.o).cons (by omega);injection el with cj _ ck;subst cj ck;obtain⟨q0,q1,q2,q3,q4,q5,q6⟩:=F8 o hc;have HC:=Aa hc;obtain⟨X,ar⟩:=Ot bo.o hlt (HK.o k hlt);have a6:kd (l[k]?.getD zC)=G:=by rw[hc];rfl
   rw[a6] at X;have al:Hid (E.Me G (D7 part k)=.tuple #[.string (E.str (E.Hv G (D7 part k))),.nilIface]):=Aa (by unfold E.Me;rw[X];simp[Gn,show part.length<=60 by omega]);have ce:Hid (ACO l part (k+1)=ACO l part k++[E.Hv G (D7 part k)]):=Aa (by rw[ACu,a6]);have am:=Aa ar;have cs:(k:Int)<(l.length:Int):=by omega
   have bh:Hid (Below wr.heap.size wr (wr.alloc (.cells #[.int .i64 c1,.string c2,.int .i64 G,.bool c4,.int .i64 c5,.int .i64 c6,.string c7] 60))):=Aa Zal;have bi:=Aa (Y8 wr (.cells #[.int .i64 c1,.string c2,.int .i64 G,.bool c4,.int .i64 c5,.int .i64 c6,.string c7] 60));clear o hc X ar a6;go_wp2;clear q0 q1 q2 q3 q4 q5 q6;rename Tw=>wo
   have J:Hid (∀W,Below (wo.heap.size+1) (wo.alloc (.cells #[.int .i64 c1,.string c2,.int .i64 G,.bool c4,.int .i64 c5,.int .i64 c6,.string c7] 60)) W->Below wo.heap.size wo W):=Aa (λW hW=>Ap bh.o (by change Below _ _ _;rw[XI];exact hW))
   go_loopw [8,25] (λvv vi wi=>∃j:Nat,j<=part.length/\vi=.int .i64 j/\Hid (wi.ownsRow (wo.heap.size+1) 56 3 vv j (E.A1 ((D7 part k).take j)))/\Hid (Below (wo.heap.size+1) (wo.alloc (.cells #[.int .i64 c1,.string c2,.int .i64 G,.bool c4,.int .i64 c5,.int .i64 c6,.string c7] 60)) wi)) (λ_ vi _=>part.length-(intOf vi).toNat)
   case atStart=>exact⟨0,XG _,rfl,Aa (XL _ _ _ _),Aa (XE _ _)⟩
   case round=>
    obtain⟨j,hj,rfl,ae,D⟩:=hrel;obtain⟨va,vc,rfl,_⟩:=E.Ak ae.o;have cv:=D.o.size;simp only[XI] at cv
    by_cases hjl:j<part.length
    ·obtain⟨r,hr⟩:∃r,part[j]? = some r:=⟨_,Y' hjl⟩
     have b:Below w.heap.size w wr:=Ap T.o (J.o _ D.o);obtain⟨pb,po,pc,rv,ep,dc,cp,cn⟩:=(HP.o.up b).at hr;injection ep with cl _ cm;subst cl cm;have a8:r.length=l.length:=(bo.o r (XA hr)).1;obtain⟨xa,xc,rfl,_,b8⟩:=cn;obtain⟨xb,xo,rfl,df,t⟩:=b8 (by intro e;rw[e] at a8;simp at a8;omega);obtain⟨⟨vk,vn,vt⟩,hv⟩:∃x,r[k]? = some x:=⟨_,Y' (by omega)⟩;obtain⟨y0,y1,y2⟩:=t k _ hv;have ci:=Aa (AAf hr hv);have cr:(j:Int)<(part.length:Int):=by omega
     have c8:(k:Int)<(r.length:Int):=by omega
     clear t b8 hr hv a8 b;go_wp2_with (at_builtin;refine wpList_append_own _ rfl _ _ 62 rfl (wo.heap.size+1) 56 iV (.agg #[.int .i64 0,.int .i64 0,.string ⟨#[]⟩]) 3 32 underlying62 ah.o.1 ah.o.2.1 ah.o.2.2.1 ah.o.2.2.2 rfl (by decide) _ _ _ rfl (ae.o.alloc _) ⟨wr.heap.size,0,none⟩ 1 1 [.int .i64 vk,.int .i64 vn,.string vt] rfl rfl (λj u hj=>XO (Y8 _ _) j u hj) (E.Hf [(vk,vn,vt)]) ?d3 ?d4 ?d5 ?_)
     case d3=>unfold maxLen;omega
     case d4=>omega
     case d5=>first|omega|(simp;omega)
     intro v2 w2 cu cq _;have co:=E.Bj (D.o.alloc (by omega) _) (ae.o.alloc _) cq (by simp;omega);go_wp2;exact⟨⟨j+1,by omega,by go_num,Aa (by rw[ci.o,E.Jk];exact cu),Aa co⟩,by simp[intOf];omega⟩
    have ej:j=part.length:=by omega
    have cr:¬(j:Int)<(part.length:Int):=by omega
    have bs:Hid (wr.ownsRow (wo.heap.size+1) 56 3 (.slice va j vc) (D7 part k).length (E.A1 (D7 part k))):=Aa (by have O:=ae.o;rw[Yd (by rw[Gn];omega)] at O;rw[Gn,<-ej];exact O)
    have a5:=Aa (E.Cy bs.o);have c0:j<=6:=by omega
    have b:Below wo.heap.size wo wr:=J.o _ D.o;have bu:=(D.o.block wo.heap.size (WH _)).trans bi.o;have cK:wr.cell? ⟨wo.heap.size,2,none⟩=some (.int .i64 G):=by simp[World.cell?,bu]
    have bl:=Aa ((b.block (w.heap.size+1) (by omega)).trans hg.o);have an:=Aa ((b.block w.heap.size (by omega)).trans ab.o);have bp:=Aa (E.Ad ac.o b);have bd:=Aa (E.Ad U.o b);have bb:=Aa (Ap T.o b);have bk:=Aa (E.gM G (.slice va j vc) (D7 part k) wr a5.o (by rw[Gn];omega) am.o);rw[al.o] at bk;clear ae bu hg ab ac U T D b ej bh J bi;go_wp2_with fail;refine bk.o.mono ?_;rintro e w3⟨rfl,i⟩;have ap:=Aa (a5.o.up i);have a0:=Aa ((i.block (w.heap.size+1) (by omega)).trans bl.o);have L:=Aa ((i.block w.heap.size (by omega)).trans an.o);have h:=Aa (E.Ad bp.o i);have I:=Aa (E.Ad bd.o i);have aj:=Aa (Ap bb.o i);have dd:=i.size;clear bl an bp bd bb a5 cK i bs;obtain⟨⟨s1,s2,⟨k1,n1,t1⟩,⟨k2,n2,t2⟩⟩,a9⟩:∃s,S.Iv (D7 part k)=s:=⟨_,rfl⟩
    have bn:Hid (∀W,Below w3.heap.size w3 W->Zc 167 #[.slice va j vc] W λe w'=>e=.returned (.agg #[.int .i64 s1,.int .i64 s2,.int .i64 k1,.int .i64 n1,.string t1,.int .i64 k2,.int .i64 n2,.string t2])/\Below W.heap.size W w'):=Aa (λW hW=>by have O:=S.yU (.slice va j vc) (D7 part k) W (ap.o.up hW) (by rw[Gn];omega);rw[a9] at O;exact O)
    have ch:Hid (ACb part (k+1)=ACb part k++[(s1,s2,(k1,n1,t1),(k2,n2,t2))]):=Aa (by rw[ACc,a9]);have bx:w.heap.size+1<w3.heap.size:=by omega
    have a2:Hid (∀W,Below w3.heap.size w3 W->(W.cell? ⟨w.heap.size+1,0,none⟩=some (.int .i64 part.length)/\W.cell? ⟨w.heap.size+1,1,none⟩=some (.slice sa k sc)/\W.cell? ⟨w.heap.size+1,2,none⟩=some (.slice ba k bc)/\W.frozen? ⟨w.heap.size+1,0,none⟩=false/\W.frozen? ⟨w.heap.size+1,1,none⟩=false/\W.frozen? ⟨w.heap.size+1,2,none⟩=false)):=Aa (λW hW=>J5 ((hW.block (w.heap.size+1) bx).trans a0.o));obtain⟨_,g1,g2,_,z1,z2⟩:=a2.o w3 (XE _ _);clear a9 g2 z2;go_wp2_with fail
    go_region_law
     (first
       | (refine I6 (by rfl) 167 (.tmp 46) 62 (by rfl) (.slice va j vc) (by rfl) bj.o _ (bn.o _ (XE _ _).drew) ?_
          rintro e w4⟨rfl,aq⟩;have R:Below w3.heap.size w3 w4:=Ap (XE _ _).drew aq;refine⟨_,rfl,?_⟩;obtain⟨_,p1,_,_,o1,_⟩:=a2.o w4 R;have cw:=Ag ((XE w4.heap.size w4).alloc (XB _) (.cells #[.int .i64 s1,.int .i64 s2,.int .i64 k1,.int .i64 n1,.string t1,.int .i64 k2,.int .i64 n2,.string t2] 231)) p1;have b5:=R.size;have ct:w4.heap.size≠w.heap.size+1:=(λe=>by rw[e] at b5;omega))
       | (refine step_append_lies _ (by rfl) (.tmp 45) (.tmp 48) 157 (by rfl) (w.heap.size+2) 231 iS (.agg #[.int .i64 0,.int .i64 0,.int .i64 0,.int .i64 0,.string ⟨#[]⟩,.int .i64 0,.int .i64 0,.string ⟨#[]⟩]) 8 80 underlying157 af.o.1 af.o.2.1 af.o.2.2.1 af.o.2.2.2 rfl (by decide) (.slice sa k sc) k _ (by rfl) ((E.Ad h.o R).alloc _) ⟨w4.heap.size,0,none⟩ 1 1 [.int .i64 s1,.int .i64 s2,.int .i64 k1,.int .i64 n1,.string t1,.int .i64 k2,.int .i64 n2,.string t2] (by rfl) rfl (λj u hj=>XO (Y8 _ _) j u hj) (r9 (s1,s2,(k1,n1,t1),(k2,n2,t2))) (by omega) (by unfold maxLen;omega) (by omega) (by simp;omega) _ rfl ?_
          intro g N w5 a7 d bw b2;have y:Hid (some (w.heap.size+1)≠(Value.slice sa k sc).ownBlock):=Aa (λe=>by have:=(h.o.lt _ e.symm).1;omega);have r1:=(d.cell_far ⟨w.heap.size+1,1,none⟩ (by simp;omega) y.o).trans (Ag Zal p1);have r2:=(d.frozen_far ⟨w.heap.size+1,1,none⟩ (by simp;omega) y.o).trans (((XE w4.heap.size w4).alloc (XB _) (.cells #[.int .i64 s1,.int .i64 s2,.int .i64 k1,.int .i64 n1,.string t1,.int .i64 k2,.int .i64 n2,.string t2] 231)).frozen (p:=⟨w.heap.size+1,1,none⟩) (by show w.heap.size+1<_;omega) |>.trans o1))
       | fail)
    all_goals
     have a:Below w3.heap.size w3 (w4.alloc (.cells #[.int .i64 s1,.int .i64 s2,.int .i64 k1,.int .i64 n1,.string t1,.int .i64 k2,.int .i64 n2,.string t2] 231)):=Ap R Zal;have M:=Aa (E.Ad h.o a);have ak:=Aa (E.Ad I.o a);have ad:w.heap.size+2<(w4.alloc (.cells #[.int .i64 s1,.int .i64 s2,.int .i64 k1,.int .i64 n1,.string t1,.int .i64 k2,.int .i64 n2,.string t2] 231)).heap.size:=by simp;omega
     have z:=(d.block (w.heap.size+1) (by omega) y.o).trans ((a.block (w.heap.size+1) bx).trans a0.o);have P:=(d.block w.heap.size (by omega) (λe=>by have:=(h.o.lt _ e.symm).1;omega)).trans ((a.block w.heap.size (by omega)).trans L.o);have Y:=E.Ar w5 (w.heap.size+1) 1 (.slice (some ⟨g,0,none⟩) (k+1) N);have a1:=Aa (heap_setCell_same w5 (w.heap.size+1) 1 _ 160 (.slice (some ⟨g,0,none⟩) (k+1) N) z);have a3:=Aa ((Y.block w.heap.size (by have:=d.size;omega) (by simp)).trans P);have ao:=Aa (a7.kept Y (.inr (λe=>by have:=(a7.lt _ e).1;omega)))
     have f:=Aa ((E.C2 ak.o M.o (by decide) d).kept Y (by
      cases hob:(Value.slice ba k bc).ownBlock with
      | none=>exact .inl rfl
      | some q=>exact .inr (λe=>by injection e with e;have:=(I.o.lt q hob).1;omega)))
     have cc:=Aa ((E.Bj (Ap aj.o a) (E.Ai M.o (XW _ 2)) d (by omega)).setCell (p:=⟨w.heap.size+1,1,none⟩) (WE _) (.slice (some ⟨g,0,none⟩) (k+1) N));have cy:w.heap.size+2<(w5.setCell ⟨w.heap.size+1,1,none⟩ (.slice (some ⟨g,0,none⟩) (k+1) N)).heap.size:=by have:=d.size;have:=Y.size;omega
     clear z P Y M ak a ad r1 r2 a7 d bw b2 p1 cw o1 R aq b5 ct y;generalize w5.setCell ⟨w.heap.size+1,1,none⟩ (.slice (some ⟨g,0,none⟩) (k+1) N)=w6 at *;simp only[X',WM,WN] at a1;obtain⟨_,_,cz,_,_,dh⟩:=J5 a1.o;generalize b6:E.str (E.Hv G (D7 part k))=sb at *;have cg:=Aa b6;clear b6 bn a2 a0 L h I aj ap g1 z1 al am;have cx:¬w.heap.size+1=w6.heap.size:=by omega
     go_wp2_with (at_builtin;refine wpList_append_own _ rfl _ _ 158 rfl (w.heap.size+2) 9 iT (.string ⟨#[]⟩) 1 16 underlying158 ag.o.1 ag.o.2.1 ag.o.2.2.1 ag.o.2.2.2 rfl (by decide) _ _ _ rfl (f.o.alloc _) ⟨w6.heap.size,0,none⟩ 1 1 [.string sb] rfl rfl (λj u hj=>XO (Y8 _ _) j u hj) (by simp[Value.oneCell']) ?d3 ?d4 ?d5 ?_)
     case d3=>unfold maxLen;omega
     case d4=>omega
     case d5=>first|omega|(simp;omega)
     intro v7 w7 ai m _;obtain⟨g7,n,rfl,_,_⟩:=ai.form (by omega);have a:Below w6.heap.size w6 (w6.alloc (.cells #[.string sb] 9)):=Zal;have ad:w.heap.size+2<(w6.alloc (.cells #[.string sb] 9)).heap.size:=by simp;omega
     have y:Hid (some (w.heap.size+1)≠(Value.slice ba k bc).ownBlock):=Aa (λe=>by have:=(f.o.lt _ e.symm).1;omega);have z:=(m.block (w.heap.size+1) (by omega) y.o).trans ((a.block (w.heap.size+1) (by omega)).trans a1.o);have P:=(m.block w.heap.size (by omega) (λe=>by have:=(f.o.lt _ e.symm).1;omega)).trans ((a.block w.heap.size (by omega)).trans a3.o);obtain⟨_,_,p2,_,_,o2⟩:=J5 z;have aa:=E.Ar w7 (w.heap.size+1) 2 (.slice (some ⟨g7,0,none⟩) (k+1) n);have bm:=Aa (heap_setCell_same w7 (w.heap.size+1) 2 _ 160 (.slice (some ⟨g7,0,none⟩) (k+1) n) z);simp only[X',WM,WN] at bm;have a4:=Aa ((aa.block w.heap.size (by have:=m.size;omega) (by simp)).trans P);have bf:=Aa (ai.kept aa (.inr (λe=>by have:=(ai.lt _ e).1;omega)));have bq:=Aa ((E.C2 (E.Ad ao.o a) (f.o.alloc (.cells #[.string sb] 9)) (by decide) m).kept aa (.inr (λe=>by have:=(ao.o.lt _ e).1;omega)));have cd:=Aa ((E.Bj (Ap cc.o a) (E.Ai (f.o.alloc (.cells #[.string sb] 9)) (XW _ 2)) m (by omega)).setCell (p:=⟨w.heap.size+1,2,none⟩) (WE _) (.slice (some ⟨g7,0,none⟩) (k+1) n));have b7:w.heap.size+2<=(w7.setCell ⟨w.heap.size+1,2,none⟩ (.slice (some ⟨g7,0,none⟩) (k+1) n)).heap.size:=by have:=m.size;have:=aa.size;omega
     clear z P aa m ai a ad;go_wp2;refine⟨⟨k+1,by omega,by go_num,⟨_,_,bm,Aa ?_,Aa ?_⟩,a4,cd,b7⟩,by simp[intOf];omega⟩
     ·rw[ch.o,XY];exact bq.o
     rw[ce.o,XY];have e:[E.Hv G (D7 part k)].flatMap Mc=[.string sb]:=by rw[<-cg.o];rfl
     rw[e];exact bf.o
  have ek:k=l.length:=by omega
  have cs:¬(k:Int)<(l.length:Int):=by omega
  obtain⟨g0,g1,g2,_,_,_⟩:=J5 hg.o;obtain⟨y0,y1,y2,z0,z1,z2⟩:=J5 ab.o;have br:Hid (wr.ownsRow (w.heap.size+2) 231 8 (.slice sa k sc) l.length ((An l part).2.1.flatMap encS)):=Aa (by have O:=ac.o;rw[ek] at O ⊢;exact O);have bg:Hid (wr.ownsRow (w.heap.size+2) 9 1 (.slice ba k bc) l.length ((An l part).2.2.flatMap Mc)):=Aa (by have O:=U.o;rw[ek] at O ⊢;exact O);clear ek ac U;go_wp2;refine bodyPost_ret (v:=.agg #[.int .i64 part.length,.slice sa k sc,.slice ba k bc]) (by simp[results,results144,go_sem,y0,y1,y2]) rfl ⟨_,_,rfl,?_,?_,?_⟩
  ·exact E.Ai (ABc br.o (by omega) _ _ _) (XW _ 2)
  ·exact E.Ai (ABc bg.o (by omega) _ _ _) (XW _ 2)
  exact((T.o.setCell (p:=⟨w.heap.size,0,none⟩) (XB _) _).setCell (p:=⟨w.heap.size,1,none⟩) (XB _) _).setCell (p:=⟨w.heap.size,2,none⟩) (XB _) _
theorem ADE(h:i<8):(⟨#[99]⟩++⟨(Lib.decDigits i).toArray⟩:Tb)=I3 i:=by rw[Lib.decDigits,dif_pos (by omega)];rfl
theorem yR(h:l[k]? = some c):((A7 l).take (k+1)).flatMap Cc=((A7 l).take k).flatMap Cc++[Zi c.1,Zt (I3 k),Zi c.2.2.1,Zo false,Zi 0,Zi 0,Zt ⟨#[]⟩]:=by rw[E.Br (M3 h),XY];rfl
theorem ADI(lv:Tv)(l:List Aj)(w:Tw)(hl:F7 7 Cc w lv l)(h8:l.length<=8):
 Zc 191 #[lv] w λe V=>∃v',e=Zr v'/\V.ownsRow w.heap.size 60 7 v' l.length ((A7 l).flatMap Cc)/\Zb w V:=by
 have HL:=Aa hl;obtain⟨la,lc,rfl,_⟩:=hl.slice;clear hl;obtain⟨iC,R,U,n,o⟩:=info_parts Kh;have b:=Zy R U n o;clear R U n o;go_enter func191,ntmps191;go_wp2
 go_loopw [3,8] (λvp vi wr=>∃k:Nat,k<=l.length/\vi=Zi k/\Hid (wr.ownsRow w.heap.size 60 7 vp k (((A7 l).take k).flatMap Cc))/\Hid (Zb w wr)) (λ_ vi _=>l.length-(intOf vi).toNat)
 case atStart=>exact⟨0,XG _,rfl,Aa (XL _ _ _ _),Aa (XE _ _)⟩
 case round=>
  obtain⟨k,hk,rfl,X,g⟩:=hrel;obtain⟨pa,Y,rfl,_⟩:=E.Ak X.o;have T:=g.o.size
  by_cases hlt:k<l.length
  ·obtain⟨⟨c1,G,f,I,J,L,M⟩,hc⟩:∃c,l[k]? = some c:=⟨_,Y' hlt⟩
   obtain⟨lb,lo,al,el,_,ak,a⟩:=(HL.o.up g.o).cons (by omega);injection el with ae _ af;subst ae af;obtain⟨q0,q1,q2,q3,q4,q5,q6⟩:=F8 a hc;have ab:=Aa (yR hc);have ai:(k:Int)<(l.length:Int):=by omega
   have s:=Aa (ADE (i:=k) (by omega));have v:=Aa (λW=>strconv_Itoa_small k (by omega) W);obtain⟨d,hd⟩:∃d,(⟨(Lib.decDigits k).toArray⟩:Tb)=d:=⟨_,rfl⟩;rw[hd] at s v;have ah:d.size=1:=by rw[<-hd,Lib.decDigits,dif_pos (by omega)];rfl
   clear hd;have aj:k<8:=by omega
   clear a hc;go_wp2_with fail;clear q0 q1 q2 q3 q4 q5 q6;have x:=Aa (Y8 wr (Zk #[Zi c1,Zt G,Zi f,Zo I,Zi J,Zi L,Zt M] 60));have O:=(X.o.alloc (Zk #[Zi c1,Zt G,Zi f,Zo I,Zi J,Zi L,Zt M] 60));have N:Zb w (wr.alloc (Zk #[Zi c1,Zt G,Zi f,Zo I,Zi J,Zi L,Zt M] 60)):=g.o.alloc T _;have P:(wr.alloc (Zk #[Zi c1,Zt G,Zi f,Zo I,Zi J,Zi L,Zt M] 60)).heap.size=wr.heap.size+1:=XI _ _;generalize wr.alloc (Zk #[Zi c1,Zt G,Zi f,Zo I,Zi J,Zi L,Zt M] 60)=r at *;have q0:r.cell? ⟨wr.heap.size,0,none⟩=some (Zi c1):=by simp[World.cell?,x.o]
   have q2:r.cell? ⟨wr.heap.size,2,none⟩=some (Zi f):=by simp[World.cell?,x.o]
   have z:=Aa P;have y:=Aa O;have q:=Aa N;have t:Hid (∀j,(Value.slice pa k Y).ownBlock=some j->j<wr.heap.size):=Aa (λj hj=>(X.o.lt j hj).2)
   have aa:Hid (∀W D,Below (wr.heap.size+1) r W->W.grownBy D (Value.slice pa k Y).ownBlock->D.cell? ⟨wr.heap.size,0,none⟩=some (Zi c1)/\D.cell? ⟨wr.heap.size,2,none⟩=some (Zi f)):=Aa (λW D hW hg=>by
    have hs:=hW.size;have far:∀i,D.cell? ⟨wr.heap.size,i,none⟩=r.cell? ⟨wr.heap.size,i,none⟩:=λi=>(hg.cell_far ⟨wr.heap.size,i,none⟩ (by show wr.heap.size<_;omega) (λe=>by have:=t.o _ e.symm;exact absurd this (YG _))).trans (hW.cell (p:=⟨wr.heap.size,i,none⟩) (WH _))
    exact⟨(far 0).trans q0,(far 2).trans q2⟩)
   clear O N P
   go_region_held3 (λV=>V.cell? ⟨wr.heap.size,0,none⟩=some (Zi c1)/\V.cell? ⟨wr.heap.size,2,none⟩=some (Zi f))
    (first
      | (go_keep;done)
      | exact m
      | fail)
    (first
      | (go_at_call 72;refine(v.o _).mono ?_;rintro e w3⟨rfl,rfl⟩)
      | (refine step_append_lies _ (by rfl) (.tmp 13) (.tmp 22) 33 (by rfl) w.heap.size 60 iC L6 7 72 underlying33 b.o.1 b.o.2.1 b.o.2.2.1 b.o.2.2.2 rfl (by decide) (.slice pa k Y) k (((A7 l).take k).flatMap Cc) (by rfl) (y.o.drew.alloc _) ⟨r.heap.size,0,none⟩ 1 1 [Zi c1,.string (⟨#[99]⟩++d),Zi f,.bool false,Zi 0,Zi 0,.string ⟨#[]⟩] (by rfl) rfl (λj u hj=>XO (Y8 _ _) j u hj) (by simp[Value.oneCell']) (by omega) (by unfold maxLen;omega) (by omega) (by have:=z.o;simp;omega) _ rfl ?_;intro g4 cap4 w4 ho4 hg4 _ _;have m:=aa.o _ _ (((XE _ r).drew).alloc (by have:=z.o;simp;omega) _) hg4;clear ah)
      | fail)
   have ag:=E.Bj (q.o.drew.alloc (by have:=q.o.size;simp;omega) _) (y.o.drew.alloc _) hg4 (by have:=q.o.size;simp;omega);have ad:Hid (w4.ownsRow w.heap.size 60 7 (Zs (some ⟨g4,0,none⟩) (k+1) cap4) (k+1) (((A7 l).take (k+1)).flatMap Cc)):=Aa (by rw[ab.o,<-s.o];exact ho4);clear ho4 hg4 m;go_wp2;exact⟨⟨k+1,by omega,by go_num,ad,Aa ag⟩,by simp[intOf];omega⟩
  have ai:¬(k:Int)<(l.length:Int):=by omega
  have ac:Hid (wr.ownsRow w.heap.size 60 7 (Zs pa k Y) l.length ((A7 l).flatMap Cc)):=Aa (by
   have h:=X.o;have ek:k=l.length:=by omega
   rw[Yd (by rw[Cx];omega)] at h;rw[<-ek];exact h)
  go_wp2;go_ret;exact⟨_,rfl,ac.o,g.o⟩
def AEe(x y:V):Bool:=x.1==y.1 && (x.2.1==y.2.1 && x.2.2.toList==y.2.2.toList)
def eqS(x y:S.St):Bool:=x.1==y.1 && (x.2.1==y.2.1 && (AEe x.2.2.1 y.2.2.1 && AEe x.2.2.2 y.2.2.2))
theorem AK2:NeqAt prog 231 (λx:S.St=>Zg (encS x).toArray) eqS:=by
 refine⟨λx y w=>?_,GuardAt.agg _ (by kernel_rfl)⟩;obtain⟨f,g,⟨h,i,j⟩,⟨k,l,m⟩⟩:=x;obtain⟨n,o,⟨p,q,r⟩,⟨s,t,u⟩⟩:=y;have c:prog.underlying 231=some (.struct (prog.fieldsOf 231)):=by kernel_rfl
 have d:prog.stoodInHeld 231=false:=by kernel_rfl
 have a:prog.underlying 56=some (.struct (prog.fieldsOf 56)):=by kernel_rfl
 have b:prog.stoodInHeld 56=false:=by kernel_rfl
 have I:=underlying2;have z:=isAgg2;have M:=sizeOf2;have J:=underlying3;have D:=isAgg3;have N:=sizeOf3;have L:=underlying9;have G:=isAgg9;have O:=sizeOf9;have e:=isAgg56;have v:=sizeOf56;simp only[encS,S.E6,eqS,AEe];rw[run_neq_struct,show (10000:Nat)=9999+1 from rfl,run_equalIn_agg w 9999 231 _ _ c d];simp only[Program.fieldsOf,underlying231];clear c d a b;go_simp
 by_cases h1:f=n
 case neg=>rw[Y9 h1];simp[h1]
 rw[Yaa h1]
 by_cases h2:g=o
 case neg=>rw[Y9 h2];simp[h2]
 rw[Yaa h2]
 by_cases h3:h=p
 case neg=>rw[Y9 h3];simp[h3]
 rw[Yaa h3]
 by_cases h4:i=q
 case neg=>rw[Y9 h4];simp[h4]
 rw[Yaa h4]
 by_cases h5:j.toList=r.toList
 case neg=>rw[Y9 h5];simp[h5]
 rw[Yaa h5]
 by_cases h6:k=s
 case neg=>rw[Y9 h6];simp[h6]
 rw[Yaa h6]
 by_cases h7:l=t
 case neg=>rw[Y9 h7];simp[h7]
 rw[Yaa h7]
 by_cases h8:m.toList=u.toList
 case neg=>rw[Y9 h8];simp[h8]
 rw[Yaa h8];simp[h1,h2,h3,h4,h5,h6,h7,h8]
theorem AEb(x y:V):AEe x y=true↔x=y:=by
 obtain⟨a,b,c⟩:=x;obtain⟨d,e,f⟩:=y;simp only[AEe,XC,beq_iff_eq,Prod.mk.injEq];constructor
 ·rintro⟨h,i,g⟩;exact⟨h,i,by rw[ByteArray.toList_eq,ByteArray.toList_eq] at g;exact ByteArray.ext (Array.toList_inj.1 g)⟩
 rintro⟨h,i,g⟩;exact⟨h,i,by rw[g]⟩
theorem AHA(x y:S.St):eqS x y=true↔x=y:=by obtain⟨a,b,c,d⟩:=x;obtain⟨e,f,g,h⟩:=y;simp only[eqS,XC,beq_iff_eq,Prod.mk.injEq,AEb]
theorem P5{α:Type}{eq:α->α->Bool}(h:∀x y,eq x y=true↔x=y):∀l m:List α,Lib.allEq eq l m=true↔l=m
 | [],[]=>by simp[Lib.allEq]
 | [],_ :: _=>by simp[Lib.allEq]
 | _ :: _,[]=>by simp[Lib.allEq]
 | x :: l,y :: m=>by simp only[Lib.allEq,XC,P5 h l m,List.cons.injEq,h x y]
theorem F7.flat{α:Type}[Inhabited α]{enc:α->List Tv}{b off n c:Nat}{l:List α}(h:F7 k enc w (Zs (some ⟨b,off,none⟩) n c) l)(p:0<l.length):∀j,j<l.length->∀i v,(enc l[j]!)[i]? = some v->w.cell? ⟨b,off+j*k+i,none⟩=some v:=by obtain⟨q,g,r,e,_,_,o⟩:=h.cons p;injection e with a _ _;injection a with a;injection a with a m _;subst a m;intro j d i v f;rw[getElem!_pos l j d] at f;exact o j _ (Y' d) i v f
theorem AAR(f g:Tv)(l m:List S.St)(w:Tw)(a:F7 8 encS w f l)(b:F7 8 encS w g m)(c:0<l.length)(d:0<m.length)(n:l.length<=1000)(o:m.length<=1000):
 Zc 237 #[f,g] w λe h=>e=Zr (Zo (Lib.allEq eqS l m))/\Zb w h:=by
 obtain⟨i,p,c1,rfl,_,_,_⟩:=a.cons c;obtain⟨j,r,k,rfl,_,_,_⟩:=b.cons d;refine(AnyQ.slices_Equal layEqS 8 isAgg231 sizeOf231 encS rG eqS AK2 i p l.length c1 j r m.length k l m w (XB _) (XB _) (by omega) (by omega) (a.flat c) (b.flat d)).mono ?_;rintro e h⟨rfl,q,rfl⟩;exact⟨by rw[Yf,Yf],⟨rfl,rfl,rfl,XB _,λ_ _=>rfl⟩⟩
def eqT(x y:List UInt8):Bool:=x==y
theorem AG5(x y:List UInt8):eqT x y=true↔x=y:=by simp[eqT]
theorem AKu:NeqAt prog 9 (λb:List UInt8=>Zt (E.str b)) eqT:=by refine⟨λx y w=>?_,λop a b x y w=>(NeqAt.string prog 9).2 op a b (E.str x) (E.str y) w⟩;rw[(NeqAt.string prog 9).1 (E.str x) (E.str y) w];simp[eqT,E.str,ByteArray.toList_eq]
theorem xE(g h:Tv)(l m:List (List UInt8))(w:Tw)(a:F7 1 Mc w g l)(c:F7 1 Mc w h m)(d:0<l.length)(f:0<m.length)(p:l.length<=1000)(r:m.length<=1000):
 Zc 238 #[g,h] w λe i=>e=Zr (Zo (Lib.allEq eqT l m))/\Zb w i:=by
 obtain⟨k,s,c1,rfl,_,_,_⟩:=a.cons d;obtain⟨n,t,o,rfl,_,_,_⟩:=c.cons f;refine(AnyE.slices_Equal layEqT (λb:List UInt8=>Zt (E.str b)) eqT AKu k s l.length c1 n t m.length o l m w (XB _) (XB _) (by omega) (by omega) (λj hj=>by have:=a.flat d j hj 0 _ rfl;simpa using this) (λj hj=>by have:=c.flat f j hj 0 _ rfl;simpa using this)).mono ?_;rintro e i⟨rfl,q,rfl⟩;exact⟨by rw[Yf,Yf],⟨rfl,rfl,rfl,XB _,λ_ _=>rfl⟩⟩
def J7(a b:Fk):Bool:=decide ((a.1:Int)=b.1) && (Lib.allEq eqS a.2.1 b.2.1 && Lib.allEq eqT a.2.2 b.2.2)
theorem ABk(a b:Fk):J7 a b=true↔a=b:=by
 obtain⟨n,s,t⟩:=a;obtain⟨m,u,v⟩:=b;simp only[J7,XC,decide_eq_true_eq,P5 AHA,P5 AG5,Prod.mk.injEq];constructor
 ·rintro⟨e,c,d⟩;exact⟨by omega,c,d⟩
 rintro⟨e,c,d⟩;exact⟨by omega,c,d⟩
theorem AGI(x y:Int×Tv×Tv)(a b:Fk)(w:Tw)(hx:Xr w x a)(hy:Xr w y b)(O:0<a.2.1.length)(P:0<a.2.2.length)(R:0<b.2.1.length)(T:0<b.2.2.length)(U:a.2.1.length<=1000)(V:a.2.2.length<=1000)(X:b.2.1.length<=1000)(Y:b.2.2.length<=1000):
 Zc 193 #[Zg #[Zi x.1,x.2.1,x.2.2],Zg #[Zi y.1,y.2.1,y.2.2]] w λe w'=>e=Zr (Zo (J7 a b))/\Zb w w':=by
 obtain⟨x1,xs,xt⟩:=x;obtain⟨y1,ys,yt⟩:=y;obtain⟨M,f,g⟩:=hx;obtain⟨N,h,i⟩:=hy;dsimp only at M f g N h i;subst M N;have HS:=Aa (λW(j:Zb w W)=>AAR xs ys a.2.1 b.2.1 W (f.up j) (h.up j) O R U X);have HT:=Aa (λW(j:Zb w W)=>xE xt yt a.2.2 b.2.2 W (g.up j) (i.up j) P T V Y);obtain⟨u,v,rfl,_⟩:=f.slice;obtain⟨z,D,rfl,_⟩:=h.slice;obtain⟨q,r,rfl,_⟩:=g.slice;obtain⟨s,t,rfl,_⟩:=i.slice;clear f h g i O P R T U V X Y;obtain⟨l,m,n,L⟩:=Kt w (Zk #[Zi a.1,Zs u a.2.1.length v,Zs q a.2.2.length r] 160) (Zk #[Zi b.1,Zs z b.2.1.length D,Zs s b.2.2.length t] 160)
 have HK:Hid (∀W,Below (w.heap.size+2) ((w.alloc (Zk #[Zi a.1,Zs u a.2.1.length v,Zs q a.2.2.length r] 160)).alloc (Zk #[Zi b.1,Zs z b.2.1.length D,Zs s b.2.2.length t] 160)) W->W.heap[w.heap.size]? = some (Zk #[Zi a.1,Zs u a.2.1.length v,Zs q a.2.2.length r] 160)/\W.heap[w.heap.size+1]? = some (Zk #[Zi b.1,Zs z b.2.1.length D,Zs s b.2.2.length t] 160)/\Zb w W):=Aa (λW j=>by
  have k:Below ((w.alloc (Zk #[Zi a.1,Zs u a.2.1.length v,Zs q a.2.2.length r] 160)).alloc (Zk #[Zi b.1,Zs z b.2.1.length D,Zs s b.2.2.length t] 160)).heap.size ((w.alloc (Zk #[Zi a.1,Zs u a.2.1.length v,Zs q a.2.2.length r] 160)).alloc (Zk #[Zi b.1,Zs z b.2.1.length D,Zs s b.2.2.length t] 160)) W:=by rw[l];exact j
  exact⟨(k.block w.heap.size (by omega)).trans m,(k.block (w.heap.size+1) (by omega)).trans n,Ap L k⟩)
 have J:=Aa l;have I:=Aa L;obtain⟨p0,p1,p2,_⟩:=J5 m;obtain⟨r0,r1,r2,_⟩:=J5 n;clear m n L l;have d:Hid (J7 a b=(decide ((a.1:Int)=b.1) && (Lib.allEq eqS a.2.1 b.2.1 && Lib.allEq eqT a.2.2 b.2.2))):=Aa rfl;generalize (a.1:Int)=n1 at *;generalize (b.1:Int)=n2 at *
 by_cases e1:n1=n2
 ·subst e1
  have G:Hid (J7 a b=(Lib.allEq eqS a.2.1 b.2.1 && Lib.allEq eqT a.2.2 b.2.2)):=Aa (by rw[d.o];simp);clear d;generalize Lib.allEq eqS a.2.1 b.2.1=q1 at *;generalize Lib.allEq eqT a.2.2 b.2.2=q2 at *;go_enter func193,ntmps193;go_wp2_with fail;refine(HS.o _ (by first|exact I.o|exact I.o.drew)).mono ?_;rintro e w1⟨rfl,o⟩;obtain⟨m,n,c⟩:=HK.o w1 (by have:=J.o;first|(rw[<-this];exact o)|(rw[<-this];exact Ap (XE _ _).drew o));obtain⟨p0,p1,p2,_⟩:=J5 m;obtain⟨r0,r1,r2,_⟩:=J5 n;cases q1 with
  | false=>go_wp2;go_ret;rw[G.o];exact⟨rfl,c⟩
  | true=>go_wp2_with fail;refine(HT.o _ (by first|exact c|exact c.drew)).mono ?_;rintro e w2⟨rfl,p⟩;go_wp2;go_ret;rw[G.o];exact⟨rfl,by first|exact Ap c p|exact Ap c.drew p⟩
 have G:Hid (J7 a b=false):=Aa (by rw[d.o,decide_eq_false e1];rfl);clear d;go_enter func193,ntmps193;go_wp2;go_ret;rw[G.o];exact⟨rfl,I.o⟩
theorem vL.get{gs:List Fk}(h:vL w v gs)(q:gs[k]? = some g):∃b off c d e f i,v=Zs (some ⟨b,off,none⟩) gs.length c/\b<w.heap.size/\w.cell? ⟨b,off+k*3,none⟩=some (Zi g.1)/\w.cell? ⟨b,off+k*3+1,none⟩=some (Zs d g.2.1.length e)/\w.cell? ⟨b,off+k*3+2,none⟩=some (Zs f g.2.2.length i)/\Xr w (g.1,Zs d g.2.1.length e,Zs f g.2.2.length i) g:=by obtain⟨xs,s,hlen,t⟩:=h;have u:=Ax q;obtain⟨x,a⟩:∃x,xs[k]? = some x:=⟨_,Y' (by omega)⟩;have p:=t k x g a q;obtain⟨b,off,c,rfl,_,r,l⟩:=s.cons (by omega);obtain⟨z,y,D⟩:=x;have j:=p;obtain⟨m,n,o⟩:=p;dsimp only at m n o;subst m;obtain⟨d,e,rfl,_⟩:=n.slice;obtain⟨f,i,rfl,_⟩:=o.slice;exact⟨b,off,c,d,e,f,i,by rw[hlen],r,l k _ a 0 _ rfl,l k _ a 1 _ rfl,l k _ a 2 _ rfl,j⟩
theorem yD{α:Type}{eq:α->α->Bool}{l m:List α}{x y:α}(a:l[k]? = some x)(b:m[k]? = some y):Lib.allEq eq (l.drop k) (m.drop k)=(eq x y && Lib.allEq eq (l.drop (k+1)) (m.drop (k+1))):=by
 have c:l.drop k=x :: l.drop (k+1):=by rw[Yq (Ax a)];rw[Y' (Ax a)] at a;injection a with a;rw[a]
 have d:m.drop k=y :: m.drop (k+1):=by rw[Yq (Ax b)];rw[Y' (Ax b)] at b;injection b with b;rw[b]
 rw[c,d,Lib.allEq]
theorem allEq_len{α:Type}{eq:α->α->Bool}:∀{l m:List α},l.length≠m.length->Lib.allEq eq l m=false
 | [],[],h=>absurd rfl h
 | [],_ :: _,_=>rfl
 | _ :: _,[],_=>rfl
 | x :: l,y :: m,h=>by
   have a:l.length≠m.length:=by intro e;exact h (by simp[e])
   rw[Lib.allEq,allEq_len a,Bool.and_false]
def AEE(g:Fk):Prop:=0<g.2.1.length/\0<g.2.2.length/\g.2.1.length<=1000/\g.2.2.length<=1000
theorem zR(v1 v2:Tv)(l m:List Fk)(w:Tw)(h1:vL w v1 l)(h2:vL w v2 m)(hl:l.length<=1000)(_hm:m.length<=1000)(t:∀g∈l,AEE g)(u:∀g∈m,AEE g):
 Zc 192 #[v1,v2,.func (.func 193) #[] #[]] w λe M=>e=Zr (Zo (Lib.allEq J7 l m))/\Zb w M:=by
 have H1:=Aa h1;have H2:=Aa h2;have P:=Aa t;have R:=Aa u;obtain⟨a1,c1,rfl,_⟩:=h1.slice;obtain⟨a2,c2,rfl,_⟩:=h2.slice;clear h1 h2 t u
 by_cases hn:l.length=m.length
 ·have HN:=Aa hn
  generalize hq:m.length=n at *;have HQ:=Aa hq;clear hq;rw[hn] at H1 hl ⊢;clear hn;go_enter func192,ntmps192;go_wp2
  go_loopw [17] (λvi wr=>∃k:Nat,k<=n/\vi=Zi k/\Hid (Lib.allEq J7 l m=Lib.allEq J7 (l.drop k) (m.drop k))/\Hid (Zb w wr)) (λvi _=>n-(intOf vi).toNat)
  case atStart=>exact⟨0,XG _,rfl,Aa rfl,Aa (XE _ _)⟩
  case round=>
   obtain⟨k,hk,rfl,o,f⟩:=hrel
   by_cases hlt:k<n
   ·obtain⟨a,h⟩:∃g,l[k]? = some g:=⟨_,Y' (by have:=HN.o;omega)⟩
    obtain⟨b,i⟩:∃g,m[k]? = some g:=⟨_,Y' (by have:=HQ.o;omega)⟩;obtain⟨b1,o1,d1,v,x,y,z,e1,ac,p0,p1,p2,hA⟩:=(H1.o.up f.o).get h;obtain⟨b2,o2,d2,G,I,J,L,e2,ad,r0,r1,r2,j⟩:=(H2.o.up f.o).get i;injection e1 with e11 U V;injection e2 with W X Y;clear U X;subst e11 V W Y;have c:=Aa (Yad hA (Yad j (Yad (P.o a (XA h)) (R.o b (XA i)))));have p:Hid (Lib.allEq J7 l m=(J7 a b && Lib.allEq J7 (l.drop (k+1)) (m.drop (k+1)))):=Aa (by rw[o.o,yD h i]);have aa:(k:Int)<(n:Int):=by omega
    have d:Zb wr (wr.alloc (Zk #[Zi a.1,Zs v a.2.1.length x,Zs y a.2.2.length z] 160)):=Zal;replace r0:=Ag d r0;replace r1:=Ag d r1;replace r2:=Ag d r2;obtain⟨ab,hX,hY,D⟩:=Kt wr (Zk #[Zi a.1,Zs v a.2.1.length x,Zs y a.2.2.length z] 160) (Zk #[Zi b.1,Zs G b.2.1.length I,Zs J b.2.2.length L] 160);obtain⟨x0,x1,x2,_⟩:=J5 hX;obtain⟨y0,y1,y2,_⟩:=J5 hY;have T:Hid (Zc 193 #[Zg #[Zi a.1,Zs v a.2.1.length x,Zs y a.2.2.length z],Zg #[Zi b.1,Zs G b.2.1.length I,Zs J b.2.2.length L]] ((wr.alloc (Zk #[Zi a.1,Zs v a.2.1.length x,Zs y a.2.2.length z] 160)).alloc (Zk #[Zi b.1,Zs G b.2.1.length I,Zs J b.2.2.length L] 160)) λe M=>e=Zr (Zo (J7 a b))/\Zb wr M):=Aa ((AGI (a.1,Zs v a.2.1.length x,Zs y a.2.2.length z) (b.1,Zs G b.2.1.length I,Zs J b.2.2.length L) a b _ (hA.up D) (j.up D) c.o.2.2.1.1 c.o.2.2.1.2.1 c.o.2.2.2.1 c.o.2.2.2.2.1 c.o.2.2.1.2.2.1 c.o.2.2.1.2.2.2 c.o.2.2.2.2.2.1 c.o.2.2.2.2.2.2).mono λe M⟨he,hb⟩=>⟨he,Ap D hb⟩);have N:=Aa f.o;clear h i o hX hY D ab d hA j c;generalize J7 a b=q at *;go_wp2_with fail;refine T.o.mono ?_;rintro e w1⟨rfl,r⟩;have s:=Ap N.o r;cases q with
    | false=>go_wp2;go_ret;rw[p.o];exact⟨rfl,s⟩
    | true=>go_wp2;exact⟨⟨k+1,by omega,by go_num,p,Aa s⟩,by simp[intOf];omega⟩
   have aa:¬(k:Int)<(n:Int):=by omega
   have O:Hid (Lib.allEq J7 l m=true):=Aa (by rw[o.o,WI (by have:=HN.o;omega),WI (by have:=HQ.o;omega)];rfl);go_wp2;go_ret;rw[O.o];exact⟨rfl,f.o⟩
 have O:Hid (Lib.allEq J7 l m=false):=Aa (allEq_len hn);have ae:¬(l.length:Int)=(m.length:Int):=by omega
 generalize l.length=n1 at *;generalize m.length=n2 at *;clear hn;go_enter func192,ntmps192;go_wp2;go_ret;rw[O.o];exact⟨rfl,XE _ _⟩
theorem wQ{o:Oper}{Q:Exit->Act->Tw->Prop}{l:Nat}(b:∀c,o.op≠.defer c)(h:o.wp prog a w K Q):o.wpIn (Fence.wide.inRound l) n prog a w K Q:=by
 refine⟨λ_ _=>trivial,?_⟩;rw[show (Fence.wide.inRound l).round=some l from rfl,Oper.semAt_some l a.eval o b];unfold Oper.wp at h;generalize (execOp a.eval o).run prog w=r at h ⊢;cases r with
 | ok nx w'=>
   cases nx with
   | value v=>exact h
   | skip=>exact h
   | defer d=>exact h
   | enter f args=>exact⟨(λh=>by cases h),CallsIn.inRound l (callsIn_wide.2 h)⟩
   | row r args=>exact⟨(λh=>by cases h),λc cs _=>let ⟨v,w',hr,hst⟩:=h c cs;⟨v,w',hr,stepsIn_wide.2 hst⟩⟩
   | _=>exact h.elim
 | halt hh w'=>
   cases hh with
   | panic v=>exact h
   | _=>exact h.elim
theorem Qe{e:Array Oper}{g:Region.Mode}{Q:Exit->Act->Tw->Prop}{l n:Nat}(b:∀(i:Nat)(o:Oper),e[i]? = some o->∀c,o.op≠.defer c)(f:¬LetsOut Q):∀(fuel:Nat)(listed:Array Bool)(a:Act)(w:Tw),wpAny prog g e Q fuel listed a w->wpAnyIn (Fence.wide.inRound l) n prog g e Q fuel listed a w
 | 0,_,_,_,h=>h
 | fuel+1,listed,a,w,h=>by
   refine⟨h.1,λi j=>?_⟩;have d:=h.2 i j;unfold wpOp at d;unfold wpOpIn;cases ho:e[i]? with
   | none=>rw[ho] at d;exact Qe b f fuel _ a w d
   | some o=>
     rw[ho] at d;simp only at d ⊢;split
     ·rename_i hw
      rw[Yaa hw] at d
      rcases d with d|⟨_,d⟩
      ·refine wQ (b i o ho) ?_
       exact Oper.wp_mono (λa w k=>Qe b f fuel _ a w k) d
      exact absurd d f
     rename_i hw;rw[Y9 hw] at d;exact⟨λ_ _=>trivial,Qe b f fuel _ _ w d⟩
attribute [local go_sem] Oper.semAt_some
theorem ACB(b:To)(len a:Nat)(w:Tw):
 Zc 58 #[Zs b len a,Zi 6] w λe c=>e=Zr (.func (.func 96) #[] #[Zp (some ⟨w.heap.size,0,none⟩),Zp (some ⟨w.heap.size+1,0,none⟩)])/\c=(w.alloc (Zk #[Zs b len a] 34)).alloc (Zk #[Zi 6] 3):=by
 go_enter func58,ntmps58;go_wp2;go_ret;exact⟨rfl,rfl⟩
abbrev CK(n:Nat):={ k:Nat // 6*k<n }
def ckN{n:Nat}(x:CK n):Nat:=x.1
def ckL(n k:Nat):Nat:=if n-6*k<6 then n-6*k else 6
def ckV(b off n:Nat)(k:CK n):Value:=.slice (some ⟨b,off+6*k.1,none⟩) (ckL n k.1) (ckL n k.1)
def KpC(b a:Nat)(W c:World):Prop:=c.cell? ⟨b,0,none⟩=W.cell? ⟨b,0,none⟩/\c.cell? ⟨a,0,none⟩=W.cell? ⟨a,0,none⟩
theorem KpC.t{n i:Nat}{A B C:Tw}(h:KpC n i A B)(k:KpC n i B C):KpC n i A C:=⟨k.1.trans h.1,k.2.trans h.2⟩
theorem ADo(n:Nat)(_hn:1<=n)(l g f b off len a:Nat)(hlen:len<=1000)(L:len<=a)(J D:List (CK len)->Tw->Prop)(u:∀pre W,J pre W->J pre W.drew)(V:∀pre x W,J pre W->pre.length<aF len->YieldAt Fence.wide (n-1) prog l #[ckV b off len x] W λe d=>
   (e=Zr (Zo true)/\J (pre++[x]) d/\KpC g f W d)\/(e=Zr (Zo false)/\D (pre++[x]) d))(W:Tw)(s:W.cell? ⟨g,0,none⟩=some (Zs (some ⟨b,off,none⟩) len a))(r:W.cell? ⟨f,0,none⟩=some (Zi 6))(T:J [] W):
 CallsIn Fence.wide n prog 96 #[.func (.yield l) #[] #[],Zp (some ⟨g,0,none⟩),Zp (some ⟨f,0,none⟩)] W λe d=>(∃v,e=Zr v) /\
  ((∃O:List (CK len),O.map ckN=List.range (aF len)/\J O d)\/(∃pre:List (CK len),True/\D pre d)):=by
 refine callsIn_of_wp func96 rfl trivial ?_ rfl;simp only[ntmps96,List.size_toArray,XU,List.length_nil,Nat.reduceAdd,Nat.reduceSub,Array.replicate_succ,Array.replicate_zero,List.push_toArray,List.append_toArray,List.nil_append,List.cons_append];gi_wp2
 gi_loopw [4] (λi wr=>∃(k:Nat)(pre:List (CK len)),k<=aF len/\i=Zi ((6*k:Nat):Int)/\pre.map ckN=List.range k/\J pre wr/\wr.cell? ⟨g,0,none⟩=some (Zs (some ⟨b,off,none⟩) len a)/\wr.cell? ⟨f,0,none⟩=some (Zi 6))
  (λi _=>len+6-(intOf i).toNat)
 case atStart=>exact⟨0,[],XG _,rfl,rfl,T,s,r⟩
 case round=>
  obtain⟨k,pre,hk,rfl,c,h,q0,q1⟩:=hrel;have y:pre.length=k:=by have:=congrArg List.length c;simpa using this
  by_cases hlt:6*k<len
  ·obtain⟨fn,tmps,assign,body,z,U⟩:=V pre ⟨k,hlt⟩ wr.drew (u _ _ h) (by rw[y];unfold aF;omega)
   have q:Hid (6*k<len):=Aa hlt;have w:k<aF len:=by unfold aF;omega
   obtain⟨m,p⟩:∃m,6*k=m:=⟨_,rfl⟩;have I:ckL len k=(((m:Int)+min 6 ((len-m:Nat):Int)).toNat-m):=by unfold ckL;rw[p];split <;> omega
   unfold ckV at z;dsimp only at z;rw[I,p] at z;rw[p] at hlt ⊢;have M:(m:Int)<(len:Int):=by omega
   have N:(m:Int)<=(len:Int):=by omega
   have aa:(0:Int)<=(m:Int):=by omega
   have X:¬a=m:=by omega
   have ab:m<=a:=by omega
   have P:=Aa p;clear I p;gi_wp2;refine wpIn_wide.2 ?_
   go_region
   all_goals gi_wp2
   refine U.mono ?_;rintro e G (⟨rfl,t,o⟩|⟨rfl,j⟩)
   ·have p0:G.cell? ⟨g,0,none⟩=some (Zs (some ⟨b,off,none⟩) len a):=o.1.trans q0
    have p1:G.cell? ⟨f,0,none⟩=some (Zi 6):=o.2.trans q1;gi_wp2
    go_roundw
    case rel=>
     refine⟨k+1,pre++[⟨k,q.o⟩],w,?_,?_,t,p0,p1⟩
     ·have:=P.o
      congr 1;omega
     rw[WJ,c,X2];rfl
    case measure=>simp[intOf];omega
   gi_wp2;refine bodyPost_ret (results_none rfl _ _ _) rfl ?_;exact⟨⟨_,rfl⟩,.inr ⟨_,trivial,j⟩⟩
  have Y:¬((6*k:Nat):Int)<(len:Int):=by omega
  have R:k=aF len:=by unfold aF at hk ⊢;omega
  gi_wp2
  go_end0
  exact⟨⟨_,rfl⟩,.inl ⟨pre,by rw[c,R],h⟩⟩
theorem rS(n:Nat)(k:1<=n)(d c b off len a:Nat)(hlen:len<=1000)(f:len<=a)(w:Tw)(i:d<w.heap.size)(g:c<w.heap.size)(m:w.cell? ⟨d,0,none⟩=some (Zs (some ⟨b,off,none⟩) len a))(j:w.cell? ⟨c,0,none⟩=some (Zi 6)):
 SeqStopsK Fence.wide n prog 96 #[Zp (some ⟨d,0,none⟩),Zp (some ⟨c,0,none⟩)] (λx:CK len=>#[ckV b off len x]) (KpC d c) (λys=>ys.map ckN=List.range (aF len)) (λ_=>True) (aF len) w:=λl J Jx W hW hJ _ hY h0=>
 ADo n k l d c b off len a hlen f J Jx (λpre W h=>hJ pre W _ none h ⟨rfl,rfl,rfl,XB _,λ_ _ _=>rfl⟩ (λr e=>by cases e)) hY W ((hW.cell (p:=⟨d,0,none⟩) i).trans m) ((hW.cell (p:=⟨c,0,none⟩) g).trans j) h0
variable{W w:Tw}{x:Int×Tv×Tv}{g:Fk}{v:Tv}{l:List Aj}
def U7(w:World)(x:Int×Value×Value)(g:Fk):Prop:=x.1=g.1/\w.ownsRow 0 231 8 x.2.1 g.2.1.length (g.2.1.flatMap encS)/\w.ownsRow 0 9 1 x.2.2 g.2.2.length (g.2.2.flatMap Mc)
theorem U7.at(h:U7 w x g):Xr w x g:=⟨h.1,F7.Fz rG h.2.1 rfl,F7.Fz (k:=1) (enc:=Mc) (λ_=>rfl) h.2.2 rfl⟩
theorem U7.up(h:U7 w x g)(a:Zb w W):U7 W x g:=⟨h.1,E.Ad h.2.1 a,E.Ad h.2.2 a⟩
theorem U7.other{row:Option Nat}(h:U7 w x g)(f:w.grownBy W row)(i:∀r a fr,row=some r->w.heap[r]? ≠some (Zk a 231 fr)/\w.heap[r]? ≠some (Zk a 9 fr)):U7 W x g:=by
 refine⟨h.1,h.2.1.kept f ?_,h.2.2.kept f ?_⟩
 ·rcases h.2.1.2 with⟨e,_⟩|⟨q,b,a,e,_,d,_⟩
  ·rw[e];exact .inl rfl
  rw[e];exact .inr (λc=>(i q a (0,0) c.symm).1 d)
 rcases h.2.2.2 with⟨e,_⟩|⟨q,b,a,e,_,d,_⟩
 ·rw[e];exact .inl rfl
 rw[e];exact .inr (λc=>(i q a (0,0) c.symm).2 d)
def Wn(B:Nat)(w:World)(v:Value)(gs:List Fk):Prop:=∃xs:List (Int×Value×Value),xs.length=gs.length/\w.ownsRow B 160 3 v gs.length (xs.flatMap aG)/\∀(j:Nat)x g,xs[j]? = some x->gs[j]? = some g->U7 w x g
theorem Wn.slg{B:Nat}{gs:List Fk}(h:Wn B w v gs):vL w v gs:=by obtain⟨xs,a,b,c⟩:=h;exact⟨xs,F7.Fz (k:=3) (enc:=aG) (λ_=>rfl) b a.symm,a,λj x g hx hg=>(c j x g hx hg).at⟩
theorem Wn.kept{B:Nat}{w W:Tw}{v:Tv}{gs:List Fk}{row:Option Nat}(h:Wn B w v gs)(m:w.grownBy W row)(y:∀r,row=some r->∃o:Obj,w.heap[r]? = some o/\(o.isCells=false\/∃a,o=Zk a 105 (0,0))):Wn B W v gs:=by
 have c:∀(T:TypeId),T≠105->∀r a fr,row=some r->w.heap[r]? ≠some (Zk a T fr):=by
  intro T u r a fr e i;obtain⟨o,d,b⟩:=y r e;rw[i] at d;injection d with d;subst d
  rcases b with b|⟨k,b⟩
  ·cases b
  injection b with _ b _;exact u b
 obtain⟨xs,s,l,t⟩:=h;refine⟨xs,s,l.kept m ?_,λj x g z f=>(t j x g z f).other m (λr a fr e=>⟨c _ (by decide) r a fr e,c _ (by decide) r a fr e⟩)⟩
 rcases l.2 with⟨e,_⟩|⟨q,n,a,e,_,i,_⟩
 ·rw[e];exact .inl rfl
 rw[e];exact .inr (λp=>c _ (by decide) q a (0,0) p.symm i)
theorem uW(B:Nat)(w:Tw):Wn B w (Zs none 0 0) []:=⟨[],rfl,XL _ _ _ _,λj x g a=>by simp at a⟩
theorem Wn.app{B:Nat}{v v':Tv}{gs:List Fk}{xs:List (Int×Tv×Tv)}(m:xs.length=gs.length)(u:w.ownsRow B 160 3 v gs.length (xs.flatMap aG))(s:∀(j:Nat)x g,xs[j]? = some x->gs[j]? = some g->U7 w x g)(z:U7 w x g)(i:W.ownsRow B 160 3 v' (gs.length+1) (xs.flatMap aG++aG x))(n:w.grownBy W v.ownBlock):Wn B W v' (gs++[g]):=by
 have o:∀r a fr,v.ownBlock=some r->w.heap[r]? ≠some (Zk a 231 fr)/\w.heap[r]? ≠some (Zk a 9 fr):=by
  intro r a fr e
  rcases u.2 with⟨d,_⟩|⟨q,p,l,d,_,t,_⟩
  ·rw[d] at e;cases e
  rw[d] at e;injection e with e;subst e;rw[t];constructor <;> (intro h;injection h with h;injection h with _ h _;revert h;decide)
 refine⟨xs++[x],by simp[m],by rw[XD,XY];simpa using i,λj y k c b=>?_⟩
 by_cases hj:j<gs.length
 ·rw[XM (by omega)] at c
  rw[XM hj] at b;exact(s j y k c b).other n o
 rw[XK (by omega),m] at c;rw[XK (by omega)] at b;have f:j-gs.length=0:=by have:=Ax b;simp at this;omega
 rw[f] at c b;simp at c b;subst c b;exact z.other n o
def MkI(l:List Aj)(rows:List (List V))(fb:Nat)(b:Value)(w5:World)(pre:List (CK rows.length))(W:World):Prop:=(∃a,W.heap[fb]? = some (.cells #[b,a] 105)/\Wn (fb+3) W a (pre.map λk=>An l (Dz rows k.1)))/\Below fb w5 W/\fb+3<=W.heap.size
theorem MkI.own{rows:List (List V)}{fb B:Nat}{w5:Tw}(f:fb<=w5.heap.size)(n:fb<=B):OwnFrom B (MkI l rows fb v w5):=λs A C row p b h=>by
 obtain⟨⟨j,d,g⟩,i,m⟩:=p;refine⟨⟨j,(b.block fb (E.Ac d) (λe=>?_)).trans d,g.kept b (λr e=>by obtain⟨_,o,a,c⟩:=h r e;exact⟨o,a,.inl c⟩)⟩,i.grown b (XV f i.size) (λk e=>XV n (h k e).1),XV m b.size⟩;obtain⟨_,_,a,c⟩:=h fb e.symm;rw[d] at a;injection a with a;subst a;cases c
theorem Ie{A B:Tw}(h:Zb A B):KeepsOthers A B:=⟨h.size,λk _ a _=>(h.block k (Array.getElem?_eq_some_iff.1 a).1).trans a⟩
theorem P0{rows:List (List V)}{fb B:Nat}{u:Tv}{w5 W w s:Tw}{xs:List (Int×Tv×Tv)}{pre:List (CK rows.length)}{k:CK rows.length}{z t:To}{n i m d:Nat}(M:Zb W w)(X:xs.length=pre.length)(I:W.ownsRow (fb+3) 160 3 u pre.length (xs.flatMap aG))(U:∀(j:Nat)x g,xs[j]? = some x->(pre.map λk=>An l (Dz rows k.1))[j]? = some g->U7 W x g)(R:w.ownsRow W.heap.size 231 8 (Zs z l.length n) l.length ((An l (Dz rows k.1)).2.1.flatMap encS))(N:w.ownsRow W.heap.size 9 1 (Zs t l.length i) l.length ((An l (Dz rows k.1)).2.2.flatMap Mc))(O:s.ownsRow (fb+3) 160 3 (Zs (some ⟨m,0,none⟩) (pre.length+1) d) (pre.length+1) (xs.flatMap aG++[Zi (Dz rows k.1).length,Zs z l.length n,Zs t l.length i]))(c:(w.alloc (Zk #[Zi (Dz rows k.1).length,Zs z l.length n,Zs t l.length i] 160)).grownBy s u.ownBlock)(hf:W.heap[fb]? = some (Zk #[v,u] 105))(h5:Below fb w5 W)(h3:fb+3<=W.heap.size):
 s.cell? ⟨fb,1,none⟩=some u/\s.frozen? ⟨fb,1,none⟩=false/\∀(Y:Code->List (CK rows.length)->Tw->Prop)(a:Act),ownPostG B (KpC (fb+1) (fb+2)) (MkI l rows fb v w5) Y (pre++[k]) W .normal a (s.setCell ⟨fb,1,none⟩ (Zs (some ⟨m,0,none⟩) (pre.length+1) d)):=by
 have b:Zb W (w.alloc (Zk #[Zi (Dz rows k.1).length,Zs z l.length n,Zs t l.length i] 160)):=Ap M Zal;have P:fb+3<=(w.alloc (Zk #[Zi (Dz rows k.1).length,Zs z l.length n,Zs t l.length i] 160)).heap.size:=XV h3 b.size;have y:=E.Ad I b;have far:∀q,q<fb+3->some q≠u.ownBlock:=λq hq e=>by have:=(I.lt q e.symm).1;omega
 have h:s.heap[fb]? = some (Zk #[v,u] 105):=(c.block fb (by omega) (far fb (by omega))).trans ((b.block fb (by omega)).trans hf);have f:∀q,q<fb+3->s.cell? ⟨q,0,none⟩=W.cell? ⟨q,0,none⟩:=λq hq=>(c.cell_far ⟨q,0,none⟩ (by show q<_;omega) (far q hq)).trans (b.cell (p:=⟨q,0,none⟩) (by show q<_;omega))
 obtain⟨c0,c1⟩:=Hg h;refine⟨c1,Yab s fb 1 _ _ h,λY a=>⟨?_,?_,?_,?_,XV (XV P c.size) (E.Ar s fb 1 (Zs (some ⟨m,0,none⟩) (pre.length+1) d)).size⟩⟩
 ·refine KeepsOthers.from (((Ie b).trans (KeepsOthers.of_grownBy c (λj o e J=>?_))).trans (KeepsOthers.setCell _ _ _)) _
  rcases y.2 with⟨L,_⟩|⟨q,aa,ab,L,_,hh,_⟩
  ·rw[L] at e;cases e
  rw[L] at e;injection e with e;subst e;rw[hh] at J;injection J with J;subst J;rfl
 ·have hs:=E.Ar s fb 1 (Zs (some ⟨m,0,none⟩) (pre.length+1) d)
  have h9:=c.size;exact⟨(hs.cell_far ⟨fb+1,0,none⟩ (by show fb+1<_;omega) (by simp)).trans (f _ (by omega)),(hs.cell_far ⟨fb+2,0,none⟩ (by show fb+2<_;omega) (by simp)).trans (f _ (by omega))⟩
 ·have G:=heap_setCell_same s fb 1 _ _ (Zs (some ⟨m,0,none⟩) (pre.length+1) d) h
  refine⟨_,G,?_⟩;rw[WJ]
  have T:U7 (w.alloc (Zk #[Zi (Dz rows k.1).length,Zs z l.length n,Zs t l.length i] 160)) ((Dz rows k.1).length,Zs z l.length n,Zs t l.length i) (An l (Dz rows k.1)):=by
   have e1:(An l (Dz rows k.1)).2.1.length=l.length:=by simp[An]
   have e2:(An l (Dz rows k.1)).2.2.length=l.length:=by simp[An]
   refine⟨rfl,?_,?_⟩
   ·rw[e1];exact(E.Ai R (XG _)).alloc _
   rw[e2];exact(E.Ai N (XG _)).alloc _
  have D:=Wn.app (v':=Zs (some ⟨m,0,none⟩) (pre.length+1) d) (gs:=pre.map λk=>An l (Dz rows k.1)) (by simpa using X) (by rw[X4];exact y) (λj x g T hg=>(U j x g T hg).up b) T (by rw[X4];exact O) c;refine D.kept (E.Ar s fb 1 (Zs (some ⟨m,0,none⟩) (pre.length+1) d)) (λr e=>?_);injection e with e;subst e;exact⟨_,h,.inr ⟨_,rfl⟩⟩
 exact(E.Bj (h5.trans (b.mono (by have:=h5.size;omega))) (E.Ai y (XW fb 3)) c (by omega)).setCell (p:=⟨fb,1,none⟩) (XB _) _
theorem ADs{b off n c:Nat}{rows:List (List V)}(h:iJ w (Zs (some ⟨b,off,none⟩) n c) rows)(J:n=rows.length)(k:CK rows.length):iJ w (ckV b off rows.length k) (Dz rows k.1):=by
 obtain⟨m,q,s,t⟩:=h;have I:=k.2;obtain⟨z,l,D,e,G,v,a⟩:=q.cons (by omega);injection e with g _ _;injection g with g;injection g with o p _;subst o p;have y:(Dz rows k.1).length=ckL rows.length k.1:=by simp only[Dz,XP,WG,ckL];split <;> omega
 have d:((m.drop (6*k.1)).take 6).length=ckL rows.length k.1:=by simp only[XP,WG,ckL,s];split <;> omega
 refine⟨(m.drop (6*k.1)).take 6,⟨_,ckL rows.length k.1,by rw[d];rfl,by rw[d];exact XB _,λ_=>⟨b,off+6*k.1,rfl,v,λj x hx i u hu=>?_⟩⟩,by rw[y,d],λj x r hx hr=>?_⟩
 ·have f:j<6:=by have:=Ax hx;rw[XP] at this;omega
  rw[Ym f,WA] at hx;have:=a (6*k.1+j) x hx i u hu;rwa[show off+(6*k.1+j)*1+i=off+6*k.1+j*1+i by omega] at this
 have f:j<6:=by have:=Ax hx;rw[XP] at this;omega
 rw[Ym f,WA] at hx;unfold Dz at hr;rw[Ym f,WA] at hr;exact t _ x r hx hr
def L8(x:Int):Value:=if x=0 then .nilIface else .iface 47 (Zi x)
theorem wM{r:List V}{k:Nat}{c:Aj}{v:V}(a:l[k]? = some c)(b:r[k]? = some v):Ia (l.drop k) (r.drop k)=if Lx c v=false then 1 else if (c.2.2.2.1 && v.1==0)=true then 7 else Ia (l.drop (k+1)) (r.drop (k+1)):=by
 have d:l.drop k=c :: l.drop (k+1):=by rw[Yq (Ax a)];rw[Y' (Ax a)] at a;injection a with a;rw[a]
 have e:r.drop k=v :: r.drop (k+1):=by rw[Yq (Ax b)];rw[Y' (Ax b)] at b;injection b with b;rw[b]
 rw[d,e,Ia]
theorem AA2(lv rv:Tv)(l:List Aj)(r:List V)(w:Tw)(hl:F7 7 Cc w lv l)(hr:E.Sl w rv r)(hlen:l.length<=1000)(ht:∀v∈r,v.2.2.size<=maxLen):
 Zc 143 #[lv,rv] w λe w'=>e=Zr (L8 (Hu l r))/\Below w.heap.size w w':=by
 have HL:=Aa hl;have HT:=Aa ht;obtain⟨la,lc,rfl,_⟩:=hl.slice;obtain⟨ra,rc,rfl,ai,d⟩:=hr;have Y:=Aa d;clear hl ht d
 by_cases hne:r.length=l.length
 ·rw[<-hne]
  have U:Hid (Hu l r=Ia (l.drop 0) (r.drop 0)):=Aa (by unfold Hu;rw[Yaa hne];rfl);have z:=Aa hne;have aj:r.length<=1000:=by omega
  clear hne;go_enter func143,ntmps143;go_wp2
  go_loopw [15] (λvi wr=>∃k:Nat,k<=r.length/\vi=Zi k/\Hid (Hu l r=Ia (l.drop k) (r.drop k))/\Hid (Below w.heap.size w wr)) (λvi _=>r.length-(intOf vi).toNat)
  case atStart=>exact⟨0,XG _,rfl,U,Aa (XE _ _)⟩
  case round=>
   obtain⟨k,hk,rfl,t,b⟩:=hrel
   by_cases hlt:k<r.length
   ·have ac:k<l.length:=by rw[<-z.o];exact hlt
    obtain⟨⟨g,o,p⟩,I⟩:∃x,r[k]? = some x:=⟨_,Y' hlt⟩;obtain⟨⟨c1,c2,D,u,c5,c6,c7⟩,hc⟩:∃x,l[k]? = some x:=⟨_,Y' ac⟩;obtain⟨rb,ro,rfl,ah,h⟩:=Y.o (by intro e;rw[e] at hlt;simp at hlt);obtain⟨lb,f,ak,el,_,ag,c⟩:=(HL.o.up b.o).cons (by omega);injection el with aa _ ab;subst aa ab;obtain⟨J,L,M,N,O,P,R⟩:=F8 c hc;obtain⟨v0,v1,v2⟩:=h k _ I;replace v0:=Ag b.o v0;replace v1:=Ag b.o v1;replace v2:=Ag b.o v2;have HF:=Aa (λW=>Sn c1 c2 D u c5 c6 c7 g o p W (HT.o _ (XA I)));have X:Hid (Hu l r=if Cm D g o p=false then 1 else if (u && g==0)=true then 7 else Ia (l.drop (k+1)) (r.drop (k+1))):=Aa (by rw[t.o,wM hc I];rfl);have af:(k:Int)<(r.length:Int):=by omega
    have a:Below wr.heap.size wr (wr.alloc (Zk #[Zi g,Zi o,Zt p] 56)):=Zal;obtain⟨x0,x1,x2⟩:=E.Ei (Y8 wr (Zk #[Zi g,Zi o,Zt p] 56));have T:=Aa (Ap b.o a);clear h c t I hc;go_wp2_with fail;replace J:=Ag a J;replace L:=Ag a L;replace M:=Ag a M;replace N:=Ag a N;replace O:=Ag a O;replace P:=Ag a P;replace R:=Ag a R;clear v0 v1 v2 a b;generalize wr.alloc (Zk #[Zi g,Zi o,Zt p] 56)=G at *;generalize wr.heap.size=y at *;have HU:Hid (∀W,Below G.heap.size G W->(W.cell? ⟨lb,f+k*7,none⟩=some (Zi c1)/\W.cell? ⟨lb,f+k*7+1,none⟩=some (Zt c2)/\W.cell? ⟨lb,f+k*7+2,none⟩=some (Zi D)/\W.cell? ⟨lb,f+k*7+3,none⟩=some (Zo u)/\W.cell? ⟨lb,f+k*7+4,none⟩=some (Zi c5)/\W.cell? ⟨lb,f+k*7+5,none⟩=some (Zi c6)/\W.cell? ⟨lb,f+k*7+6,none⟩=some (Zt c7)/\W.cell? ⟨y,0,none⟩=some (Zi g)/\W.cell? ⟨y,1,none⟩=some (Zi o)/\W.cell? ⟨y,2,none⟩=some (Zt p))):=Aa (λW i=>⟨Ag i J,Ag i L,Ag i M,Ag i N,Ag i O,Ag i P,Ag i R,Ag i x0,Ag i x1,Ag i x2⟩)
    go_region_held3 (λW=>W.cell? ⟨lb,f+k*7,none⟩=some (Zi c1)/\W.cell? ⟨lb,f+k*7+1,none⟩=some (Zt c2)/\W.cell? ⟨lb,f+k*7+2,none⟩=some (Zi D)/\W.cell? ⟨lb,f+k*7+3,none⟩=some (Zo u)/\W.cell? ⟨lb,f+k*7+4,none⟩=some (Zi c5)/\W.cell? ⟨lb,f+k*7+5,none⟩=some (Zi c6)/\W.cell? ⟨lb,f+k*7+6,none⟩=some (Zt c7)/\W.cell? ⟨y,0,none⟩=some (Zi g)/\W.cell? ⟨y,1,none⟩=some (Zi o)/\W.cell? ⟨y,2,none⟩=some (Zt p))
     (first|(go_keep;done)|exact HU.o _ s|fail)
     (first|(go_at_call 139;refine(HF.o _).mono ?_;rintro e w1⟨rfl,n⟩;have s:Below G.heap.size G w1:=Ap (XE _ _).drew n)|fail)
    obtain⟨_,_,_,p3,_,_,_,p7,_,_⟩:=HU.o w1 s;have m:=Ap T.o s;clear J L M N O P R x0 x1 x2 HU n;cases hf:Cm D g o p with
    | false=>have j:Hid (Hu l r=1):=Aa (by rw[X.o,hf];rfl);go_wp2;go_ret;rw[j.o];exact⟨rfl,m⟩
    | true=>
      have q:Hid (Hu l r=if (u && g==0)=true then 7 else Ia (l.drop (k+1)) (r.drop (k+1))):=Aa (by rw[X.o,hf];rfl);clear X hf;cases u with
      | false=>
        have j:Hid (Hu l r=Ia (l.drop (k+1)) (r.drop (k+1))):=Aa (by rw[q.o];rfl);go_wp2
        go_roundw
        case rel=>exact⟨k+1,by omega,by go_num,j,Aa m⟩
        case measure=>simp[intOf];omega
      | true=>
        by_cases hv0:g=0
        ·subst hv0
         have j:Hid (Hu l r=7):=Aa (by rw[q.o];rfl);go_wp2;go_ret;rw[j.o];exact⟨rfl,m⟩
        have ad:(g==0)=false:=by simpa using hv0
        have j:Hid (Hu l r=Ia (l.drop (k+1)) (r.drop (k+1))):=Aa (by rw[q.o,ad];rfl);clear hv0;go_wp2
        go_roundw
        case rel=>exact⟨k+1,by omega,by go_num,j,Aa m⟩
        case measure=>simp[intOf];omega
   have ek:k=r.length:=by omega
   subst ek;have j:Hid (Hu l r=0):=Aa (by rw[t.o,z.o,List.drop_length];rfl);go_wp2;go_ret;rw[j.o];exact⟨rfl,b.o⟩
 have ae:((r.length:Int)==(l.length:Int))=false:=by simp;omega
 have U:Hid (Hu l r=1):=Aa (by unfold Hu;rw[Y9 hne]);clear hne;go_enter func143,ntmps143;go_wp2;go_ret;rw[U.o];exact⟨rfl,XE _ _⟩
variable{l:List Aj}
theorem cO{next:Int}{k:Nat}(a:k<l.length)(h:Mg l next k=false):Be l next=false:=by
 unfold Be
 have:(List.range l.length).all (Mg l next)=false:=by rw[Y3];exact⟨k,List.mem_range.2 a,by simp[h]⟩
 rw[this];simp
theorem AC8{next:Int}(a:1<=l.length)(b:l.length<=8)(h:∀j,j<l.length->Mg l next j=true):Be l next=true:=by
 unfold Be
 have:(List.range l.length).all (Mg l next)=true:=by rw[XS];exact λk c=>h k (List.mem_range.1 c)
 rw[this];simp[a,b]
theorem kR(lv:Value)(l:List Aj)(next:Int)(w:World)(h:F7 7 Cc w lv l)(hlen:l.length<=1000)(aa:∀x∈l,x.2.1.size<=maxLen/\x.2.2.2.2.2.2.size<=maxLen)(hw:Lw w):
 Zc 47 #[lv,.int .i64 next] w λe I=>e=.returned (.bool (Be l next))/\Zb w I:=by
 by_cases hl:1<=l.length/\l.length<=8
 ·obtain⟨ab,ac⟩:=hl
  obtain⟨g,o,c,rfl,ai,hS⟩:=wR h (by omega);have an:1<=(l.length:Int):=by omega
  have ao:(l.length:Int)<=8:=by omega
  have HS:=Aa hS;have HN:=Aa hw;have af:=Aa aa;clear h hS hw aa;go_enter func47,ntmps47;go_wp2
  go_loopw [17] (λi wr=>∃k:Nat,k<=l.length/\i=.int .i64 k/\Hid (∀j,j<k->Mg l next j=true)/\Hid (Zb w wr))
   (λi _=>l.length-(intOf i).toNat)
  case atStart=>exact⟨0,XG _,rfl,Aa (λj hj=>absurd hj (Yn _)),Aa (XE _ _)⟩
  case round=>
   obtain⟨k,hk,rfl,N,X⟩:=hrel
   by_cases hlt:k<l.length
   ·have aj:(k:Int)<(l.length:Int):=by omega
    have am:k<=c:=by omega
    obtain⟨⟨c1,b,f,m,n,q,r⟩,hx⟩:∃x,l[k]? = some x:=⟨_,Y' hlt⟩;have ad:l[k]! = (c1,b,f,m,n,q,r):=by rw[getElem!_pos l k hlt];rw[Y' hlt] at hx;injection hx
    obtain⟨q0,q1,q2,q3,q4,q5,q6⟩:=(HS.o.below X.o).cells hlt ad;have s:=af.o _ (XA hx);have z:Hid (Mg l next k=(Ko (c1,b,f,m,n,q,r) && (decide (c1<next) && !(l.take k).any (Ez (c1,b,f,m,n,q,r))))):=Aa (by unfold Mg;rw[hx];rfl);clear hx ad;cases hmay:Ko (c1,b,f,m,n,q,r) with
    | false=>
      have t:Hid (Be l next=false):=Aa (cO hlt (by rw[z.o,hmay];rfl));obtain⟨Y,D⟩:∃Y,(l.take k).any (Ez (c1,b,f,m,n,q,r))=Y:=⟨_,rfl⟩;have HD:Hid (decide (next<=c1)=decide (next<=c1)):=Aa rfl;clear z N
      have HM:Hid (∀W,Zb w W->Zc 82 #[.agg #[.int .i64 c1,.string b,.int .i64 f,.bool m,.int .i64 n,.int .i64 q,.string r]] W λe I=>e=.returned (.bool false)/\Zb W I):=Aa (λW hb=>by have:=I8 c1 b f m n q r W s.1 s.2 (HN.o.below hb);rwa[hmay] at this)
      have HA:Hid (∀W,Zb w W->Zc 83 #[.slice (some ⟨g,o,none⟩) k c,.agg #[.int .i64 c1,.string b,.int .i64 f,.bool m,.int .i64 n,.int .i64 q,.string r]] W λe I=>e=.returned (.bool Y)/\Zb W I):=Aa (λW hb=>by have:=M1 g o c (l.take k) (c1,b,f,m,n,q,r) W ((HS.o.below hb).take k) (by simp;omega);rw[D] at this;rwa[show (l.take k).length=k by simp;omega] at this)
      clear hmay D s;go_wp2_with fail;have J:Hid (Zb w (wr.alloc (.cells #[.int .i64 c1,.string b,.int .i64 f,.bool m,.int .i64 n,.int .i64 q,.string r] 60))):=Aa (X.o.alloc X.o.size _);obtain⟨e0,O,P,R,T,U,V⟩:=ABx wr (.int .i64 c1) (.string b) (.int .i64 f) (.bool m) (.int .i64 n) (.int .i64 q) (.string r);clear q0 q1 q2 q3 q4 q5 q6;generalize wr.alloc (.cells #[.int .i64 c1,.string b,.int .i64 f,.bool m,.int .i64 n,.int .i64 q,.string r] 60)=y at *;generalize wr.heap.size=nb at *;replace e0:=cell_regrown e0;replace O:=cell_regrown O;replace P:=cell_regrown P;replace R:=cell_regrown R;replace T:=cell_regrown T;replace U:=cell_regrown U;replace V:=cell_regrown V;have H1:Hid (∀d u,Zc 82 #[.agg #[.int .i64 c1,.string b,.int .i64 f,.bool m,.int .i64 n,.int .i64 q,.string r]] (grow (redrawn y d) u) λe v=>e=.returned (.bool false)/\∃p:Regrown,v=grow (redrawn y p.d) p.os):=Aa (λd u=>Calls.regrown_of (HM.o _ (Ap J.o (below_regrown y d u))));have H2:Hid (∀d u,Zc 83 #[.slice (some ⟨g,o,none⟩) k c,.agg #[.int .i64 c1,.string b,.int .i64 f,.bool m,.int .i64 n,.int .i64 q,.string r]] (grow (redrawn y d) u) λe v=>e=.returned (.bool Y)/\∃p:Regrown,v=grow (redrawn y p.d) p.os):=Aa (λd u=>Calls.regrown_of (HA.o _ (Ap J.o (below_regrown y d u))));have hd:=HD.o;refine wp_region_quiet_below (by kernel_rfl) (by kernel_rfl) ?_
      repeat (go_big_quiet_step (first
       | (go_at_call_of 82 (#[.agg #[.int .i64 c1,.string b,.int .i64 f,.bool m,.int .i64 n,.int .i64 q,.string r]]:Array Value);exact H1.o _ _)
       | (go_at_call_of 83 (#[.slice (some ⟨g,o,none⟩) k c,.agg #[.int .i64 c1,.string b,.int .i64 f,.bool m,.int .i64 n,.int .i64 q,.string r]]:Array Value);exact H2.o _ _)))
      refine wpQuiet_nil ?_;intro _ L;obtain⟨⟨dq,M⟩,G⟩:=L;subst G;go_wp2;go_ret;rw[t.o];exact⟨rfl,Ap J.o (below_regrown y dq M)⟩
    | true=>
      by_cases hid:c1<next
      ·have HD:Hid (decide (next<=c1)=false):=Aa (decide_eq_false (by omega))
       cases D:(l.take k).any (Ez (c1,b,f,m,n,q,r)) with
       | true=>
         have t:Hid (Be l next=false):=Aa (cO hlt (by rw[z.o,hmay,D];simp));clear z N hid
         have HM:Hid (∀W,Zb w W->Zc 82 #[.agg #[.int .i64 c1,.string b,.int .i64 f,.bool m,.int .i64 n,.int .i64 q,.string r]] W λe I=>e=.returned (.bool true)/\Zb W I):=Aa (λW hb=>by have:=I8 c1 b f m n q r W s.1 s.2 (HN.o.below hb);rwa[hmay] at this)
         have HA:Hid (∀W,Zb w W->Zc 83 #[.slice (some ⟨g,o,none⟩) k c,.agg #[.int .i64 c1,.string b,.int .i64 f,.bool m,.int .i64 n,.int .i64 q,.string r]] W λe I=>e=.returned (.bool true)/\Zb W I):=Aa (λW hb=>by have:=M1 g o c (l.take k) (c1,b,f,m,n,q,r) W ((HS.o.below hb).take k) (by simp;omega);rw[D] at this;rwa[show (l.take k).length=k by simp;omega] at this)
         clear hmay D s;go_wp2_with fail;have J:Hid (Zb w (wr.alloc (.cells #[.int .i64 c1,.string b,.int .i64 f,.bool m,.int .i64 n,.int .i64 q,.string r] 60))):=Aa (X.o.alloc X.o.size _);obtain⟨e0,O,P,R,T,U,V⟩:=ABx wr (.int .i64 c1) (.string b) (.int .i64 f) (.bool m) (.int .i64 n) (.int .i64 q) (.string r);clear q0 q1 q2 q3 q4 q5 q6;generalize wr.alloc (.cells #[.int .i64 c1,.string b,.int .i64 f,.bool m,.int .i64 n,.int .i64 q,.string r] 60)=y at *;generalize wr.heap.size=nb at *;replace e0:=cell_regrown e0;replace O:=cell_regrown O;replace P:=cell_regrown P;replace R:=cell_regrown R;replace T:=cell_regrown T;replace U:=cell_regrown U;replace V:=cell_regrown V;have H1:Hid (∀d u,Zc 82 #[.agg #[.int .i64 c1,.string b,.int .i64 f,.bool m,.int .i64 n,.int .i64 q,.string r]] (grow (redrawn y d) u) λe v=>e=.returned (.bool true)/\∃p:Regrown,v=grow (redrawn y p.d) p.os):=Aa (λd u=>Calls.regrown_of (HM.o _ (Ap J.o (below_regrown y d u))));have H2:Hid (∀d u,Zc 83 #[.slice (some ⟨g,o,none⟩) k c,.agg #[.int .i64 c1,.string b,.int .i64 f,.bool m,.int .i64 n,.int .i64 q,.string r]] (grow (redrawn y d) u) λe v=>e=.returned (.bool true)/\∃p:Regrown,v=grow (redrawn y p.d) p.os):=Aa (λd u=>Calls.regrown_of (HA.o _ (Ap J.o (below_regrown y d u))));have hd:=HD.o;refine wp_region_quiet_below (by kernel_rfl) (by kernel_rfl) ?_
         repeat (go_big_quiet_step (first
          | (go_at_call_of 82 (#[.agg #[.int .i64 c1,.string b,.int .i64 f,.bool m,.int .i64 n,.int .i64 q,.string r]]:Array Value);exact H1.o _ _)
          | (go_at_call_of 83 (#[.slice (some ⟨g,o,none⟩) k c,.agg #[.int .i64 c1,.string b,.int .i64 f,.bool m,.int .i64 n,.int .i64 q,.string r]]:Array Value);exact H2.o _ _)))
         refine wpQuiet_nil ?_;intro _ L;obtain⟨⟨dq,M⟩,G⟩:=L;subst G;go_wp2;go_ret;rw[t.o];exact⟨rfl,Ap J.o (below_regrown y dq M)⟩
       | false=>
         have ae:Hid (∀j,j<k+1->Mg l next j=true):=Aa (λj hj=>by
          by_cases e:j=k
          ·rw[e,z.o,hmay,D];simp[hid]
          exact N.o j (by omega))
         clear z N hid
         have HM:Hid (∀W,Zb w W->Zc 82 #[.agg #[.int .i64 c1,.string b,.int .i64 f,.bool m,.int .i64 n,.int .i64 q,.string r]] W λe I=>e=.returned (.bool true)/\Zb W I):=Aa (λW hb=>by have:=I8 c1 b f m n q r W s.1 s.2 (HN.o.below hb);rwa[hmay] at this)
         have HA:Hid (∀W,Zb w W->Zc 83 #[.slice (some ⟨g,o,none⟩) k c,.agg #[.int .i64 c1,.string b,.int .i64 f,.bool m,.int .i64 n,.int .i64 q,.string r]] W λe I=>e=.returned (.bool false)/\Zb W I):=Aa (λW hb=>by have:=M1 g o c (l.take k) (c1,b,f,m,n,q,r) W ((HS.o.below hb).take k) (by simp;omega);rw[D] at this;rwa[show (l.take k).length=k by simp;omega] at this)
         clear hmay D s;go_wp2_with fail;have J:Hid (Zb w (wr.alloc (.cells #[.int .i64 c1,.string b,.int .i64 f,.bool m,.int .i64 n,.int .i64 q,.string r] 60))):=Aa (X.o.alloc X.o.size _);obtain⟨e0,O,P,R,T,U,V⟩:=ABx wr (.int .i64 c1) (.string b) (.int .i64 f) (.bool m) (.int .i64 n) (.int .i64 q) (.string r);clear q0 q1 q2 q3 q4 q5 q6;generalize wr.alloc (.cells #[.int .i64 c1,.string b,.int .i64 f,.bool m,.int .i64 n,.int .i64 q,.string r] 60)=y at *;generalize wr.heap.size=nb at *;replace e0:=cell_regrown e0;replace O:=cell_regrown O;replace P:=cell_regrown P;replace R:=cell_regrown R;replace T:=cell_regrown T;replace U:=cell_regrown U;replace V:=cell_regrown V;have H1:Hid (∀d u,Zc 82 #[.agg #[.int .i64 c1,.string b,.int .i64 f,.bool m,.int .i64 n,.int .i64 q,.string r]] (grow (redrawn y d) u) λe v=>e=.returned (.bool true)/\∃p:Regrown,v=grow (redrawn y p.d) p.os):=Aa (λd u=>Calls.regrown_of (HM.o _ (Ap J.o (below_regrown y d u))));have H2:Hid (∀d u,Zc 83 #[.slice (some ⟨g,o,none⟩) k c,.agg #[.int .i64 c1,.string b,.int .i64 f,.bool m,.int .i64 n,.int .i64 q,.string r]] (grow (redrawn y d) u) λe v=>e=.returned (.bool false)/\∃p:Regrown,v=grow (redrawn y p.d) p.os):=Aa (λd u=>Calls.regrown_of (HA.o _ (Ap J.o (below_regrown y d u))));have hd:=HD.o;refine wp_region_quiet_below (by kernel_rfl) (by kernel_rfl) ?_
         repeat (go_big_quiet_step (first
          | (go_at_call_of 82 (#[.agg #[.int .i64 c1,.string b,.int .i64 f,.bool m,.int .i64 n,.int .i64 q,.string r]]:Array Value);exact H1.o _ _)
          | (go_at_call_of 83 (#[.slice (some ⟨g,o,none⟩) k c,.agg #[.int .i64 c1,.string b,.int .i64 f,.bool m,.int .i64 n,.int .i64 q,.string r]]:Array Value);exact H2.o _ _)))
         refine wpQuiet_nil ?_;intro _ L;obtain⟨⟨dq,M⟩,G⟩:=L;subst G;go_wp2
         go_roundw
         case rel=>exact⟨k+1,by omega,by go_num,ae,Aa (Ap J.o (below_regrown y dq M))⟩
         case measure=>simp[intOf];omega
      have HD:Hid (decide (next<=c1)=true):=Aa (decide_eq_true (by omega));have t:Hid (Be l next=false):=Aa (cO hlt (by rw[z.o,hmay];simp[hid]));obtain⟨Y,D⟩:∃Y,(l.take k).any (Ez (c1,b,f,m,n,q,r))=Y:=⟨_,rfl⟩;clear z N hid
      have HM:Hid (∀W,Zb w W->Zc 82 #[.agg #[.int .i64 c1,.string b,.int .i64 f,.bool m,.int .i64 n,.int .i64 q,.string r]] W λe I=>e=.returned (.bool true)/\Zb W I):=Aa (λW hb=>by have:=I8 c1 b f m n q r W s.1 s.2 (HN.o.below hb);rwa[hmay] at this)
      have HA:Hid (∀W,Zb w W->Zc 83 #[.slice (some ⟨g,o,none⟩) k c,.agg #[.int .i64 c1,.string b,.int .i64 f,.bool m,.int .i64 n,.int .i64 q,.string r]] W λe I=>e=.returned (.bool Y)/\Zb W I):=Aa (λW hb=>by have:=M1 g o c (l.take k) (c1,b,f,m,n,q,r) W ((HS.o.below hb).take k) (by simp;omega);rw[D] at this;rwa[show (l.take k).length=k by simp;omega] at this)
      clear hmay D s;go_wp2_with fail;have J:Hid (Zb w (wr.alloc (.cells #[.int .i64 c1,.string b,.int .i64 f,.bool m,.int .i64 n,.int .i64 q,.string r] 60))):=Aa (X.o.alloc X.o.size _);obtain⟨e0,O,P,R,T,U,V⟩:=ABx wr (.int .i64 c1) (.string b) (.int .i64 f) (.bool m) (.int .i64 n) (.int .i64 q) (.string r);clear q0 q1 q2 q3 q4 q5 q6;generalize wr.alloc (.cells #[.int .i64 c1,.string b,.int .i64 f,.bool m,.int .i64 n,.int .i64 q,.string r] 60)=y at *;generalize wr.heap.size=nb at *;replace e0:=cell_regrown e0;replace O:=cell_regrown O;replace P:=cell_regrown P;replace R:=cell_regrown R;replace T:=cell_regrown T;replace U:=cell_regrown U;replace V:=cell_regrown V;have H1:Hid (∀d u,Zc 82 #[.agg #[.int .i64 c1,.string b,.int .i64 f,.bool m,.int .i64 n,.int .i64 q,.string r]] (grow (redrawn y d) u) λe v=>e=.returned (.bool true)/\∃p:Regrown,v=grow (redrawn y p.d) p.os):=Aa (λd u=>Calls.regrown_of (HM.o _ (Ap J.o (below_regrown y d u))));have H2:Hid (∀d u,Zc 83 #[.slice (some ⟨g,o,none⟩) k c,.agg #[.int .i64 c1,.string b,.int .i64 f,.bool m,.int .i64 n,.int .i64 q,.string r]] (grow (redrawn y d) u) λe v=>e=.returned (.bool Y)/\∃p:Regrown,v=grow (redrawn y p.d) p.os):=Aa (λd u=>Calls.regrown_of (HA.o _ (Ap J.o (below_regrown y d u))));have hd:=HD.o;refine wp_region_quiet_below (by kernel_rfl) (by kernel_rfl) ?_
      repeat (go_big_quiet_step (first
       | (go_at_call_of 82 (#[.agg #[.int .i64 c1,.string b,.int .i64 f,.bool m,.int .i64 n,.int .i64 q,.string r]]:Array Value);exact H1.o _ _)
       | (go_at_call_of 83 (#[.slice (some ⟨g,o,none⟩) k c,.agg #[.int .i64 c1,.string b,.int .i64 f,.bool m,.int .i64 n,.int .i64 q,.string r]]:Array Value);exact H2.o _ _)))
      refine wpQuiet_nil ?_;intro _ L;obtain⟨⟨dq,M⟩,G⟩:=L;subst G;go_wp2;go_ret;rw[t.o];exact⟨rfl,Ap J.o (below_regrown y dq M)⟩
   have ah:k=l.length:=by omega
   have t:Hid (Be l next=true):=Aa (AC8 ab ac (λj hj=>N.o j (by omega)));subst ah;go_wp2;go_ret;rw[t.o];exact⟨rfl,X.o⟩
 have t:Hid (Be l next=false):=Aa (by unfold Be;rw[decide_eq_false hl];rfl);obtain⟨a,c,rfl,_⟩:=h.slice;clear h aa hw
 by_cases h0:l.length<1
 ·have ag:(l.length:Int)<1:=by omega
  go_enter func47,ntmps47;go_wp2;go_ret;rw[t.o];exact⟨rfl,XE _ _⟩
 have ag:¬(l.length:Int)<1:=by omega
 have ak:(8:Int)<(l.length:Int):=by omega
 go_enter func47,ntmps47;go_wp2;go_ret;rw[t.o];exact⟨rfl,XE _ _⟩
