import Derived.Test.YtbhhpheailbebaaGreatDoorZOs
import Derived.Maps.OwnRows
import Derived.Deep.RegionLawGrows
set_option maxHeartbeats 40000000
set_option maxRecDepth 100000
open List renaming getElem?_eq_getElem->Y9,length_map->XA,mem_of_getElem?->XC,getElem?_append_right->XD,getElem?_append_left->XE,length_append->XH,map_append->XI,getElem?_map->XJ,length_cons->XL,map_map->XP,map_cons->XQ,sum_cons->XR,length_take->XS,append_nil->XT,sum_append->XU,mem_of_mem_drop->XW,flatMap_cons->XY,append_assoc->XZ,map_nil->X4,sum_nil->X6,all_eq_true->X',mem_range->Wb,mem_map->WB
open Nat renaming le_refl->Y',zero_le->XB,le_trans->XF,le_succ->XV,add_zero->WA
open Go.RowKit.Below renaming refl->XG
open Go.World renaming ownsRow_nil->XK,news_of_block->XN,grownBy_alloc->XX,cells?_some->X2
open Bool renaming and_eq_true->XM
open Array renaming getElem?_eq_none->XO
namespace Go.Proofs.YtbhhpheailbebaaGreatDoor
open Tryz RowKit Shelf Joins Maps ChangeMaps MapKept ChangeShapes WideShapes ChangeAt Deep
open WideElems (Fit rd rg pl rd_val elemAt)
namespace F
variable{P:Program}{e k:TypeId}{W w:Tw}{q:IntKind}{D:Td}{v:Tv}
theorem Xe{base:Nat}{b n:Nat}(h:w.ownsGroups P k base e q b n D)(r:W.heap[b]? = w.heap[b]?)(o:∀v zs,w.ownsInts base e q v zs->W.ownsInts base e q v zs):W.ownsGroups P k base e q b n D:=by
 obtain⟨es,clock,s,F,t,rfl,f,hlen,d⟩:=h
 have i:∀x∈es.toList,∀z,rowElem (H:=Unit) w base e q x.val=some z->rowElem W base e q x.val=some z:=λx j z l=>by obtain⟨zs,g,rfl⟩:=rowElem_inv l;exact rowElem_mk (o _ _ g)
 obtain⟨p,a,_⟩:=F.stay i;refine⟨es,clock,r.trans s,p,t,by rw[a],f,λx j zs g=>?_,d⟩;obtain⟨y,u⟩:=F.reads x j;obtain⟨z,l,_⟩:=rd_val u;obtain⟨m,c,_⟩:=rowElem_inv l;rw[g.unique (o _ _ c)];exact hlen x j m c
theorem V9{base:Nat}{b n:Nat}(h:w.ownsGroups P k base e q b n D):b<w.heap.size:=by obtain⟨es,clock,a,_⟩:=h;exact Ac a
theorem Vx{base:Nat}{b n:Nat}(h:w.ownsGroups P k base e q b n D)(a:Zb w W):W.ownsGroups P k base e q b n D :=
 Xe h (a.block b (V9 h)) λ_ _ c=>⟨Bc c.1 a,c.2⟩
def jE(B:Nat)(w:World)(v:Value)(rs:List Px):Prop:=∃xs:List (ByteArray×Int×Value),xs.length=rs.length/\w.ownsRow B 53 3 v rs.length (xs.flatMap Og)/\∀(j:Nat)x r,xs[j]? = some x->rs[j]? = some r->x.1=r.1/\x.2.1=r.2.1/\∃a n c,x.2.2=.slice a n c
theorem Fp.AJP{I B:Nat}{rs:List Px}(h:Fp I B w v rs):jE B w v rs:=by obtain⟨zs,b,d,f⟩:=h;refine⟨zs,b,d,λj x r i g=>?_⟩;obtain⟨k,l,m⟩:=f j x r i g;obtain⟨a,c,e,_⟩:=Au m;exact⟨k,l,a,_,c,e⟩
theorem jE.up{B:Nat}{rs:List Px}(h:jE B w v rs)(d:Zb w W):jE B W v rs:=by obtain⟨zs,a,b,c⟩:=h;exact⟨zs,a,Bc b d,c⟩
structure Told(W:World)(m n:Nat)(rs:List Px):Prop where
 ex:∃D:DataW Unit,W.ownsGroups prog 9 (m+1) 3 .i64 m n D/\IsMap D/\∀p,(D.atKey (lit p) .nil=.nil/\aJ rs p=[])\/D.atKey (lit p) .nil=DataW.slice (lits .i64 (aJ rs p)) []
theorem Told.up{m n:Nat}{rs:List Px}(h:Told w m n rs)(d:Zb w W):Told W m n rs:=by obtain⟨D,a,b,c⟩:=h.ex;exact⟨D,Vx a d,b,c⟩
theorem AGX{a b:List Int}(h:(lits .i64 a:List (Td))=lits .i64 b):a=b:=by simp only[lits] at h;have:=List.map_inj_right (f:=λn:Int=>(DataW.lit (Lit.int IntKind.i64 n):Td)) (λx y e=>by simpa using e) (l:=a) (l':=b);exact this.mp h
theorem Sd{rs:List Px}{p:Tb}{base:Nat}{zs:List Int}(h:(D.atKey (lit p) .nil=.nil/\aJ rs p=[])\/D.atKey (lit p) .nil=DataW.slice (lits .i64 (aJ rs p)) [])(a:D.atKey (lit p) .nil=rowDatum .i64 v zs)(b:w.ownsInts base 3 .i64 v zs):zs=aJ rs p:=by
 rcases b.datum (H:=Unit) with⟨e1,e2⟩|e1
 ·rw[a,e1] at h
  rcases h with⟨_,h⟩|h
  ·rw[e2,h]
  cases h
 rw[a,e1] at h
 rcases h with⟨h,_⟩|h
 ·cases h
 injection h with h;exact AGX h
section
variable {P : Program} {w : World} {o : Oper} {a : Act} {K : Act → World → Prop} {Q : Exit → Act → World → Prop}
theorem Ke{t k E e:TypeId}(p:Keyed P k)(s:P.underlying t=some (.map k E))(x:(zeroValue E).run P w=.ok (.slice none 0 0) w){base b n:Nat}(f:w.ownsGroups P k base e q b n D)(r:n<maxLen){u:Tv}{m:Lit}(d:_root_.Go.keyOf P k u=some m)(h:∀v zs,D.atKey m .nil=rowDatum q v zs->w.ownsInts base e q v zs->zs.length<=n->w.groupBack P t k base e q b n D u m v->K (a.put o.dst v) w):
 Oper.upon P o a K Q (((Instr.lookup t (.map (some b)) u false).run P w).andThen λa y=>Result.ok (Next.value a) y):=by
 obtain⟨v,zs,g,i,j,l,c⟩:=f.at p s x r d;rw[g];exact h v zs i j l c
theorem Xs{t:TypeId}{w0:Tw}{base:Nat}{b n:Nat}{p:Lit}{u v':Tv}{z:List Int}(c:w0.groupBack P t k base e q b n D v p u)(l:w0.grownBy w u.ownBlock)(d:w.ownsInts base e q v' z)(m:z.length<=n+1)(f:v'.ownBlock=u.ownBlock\/∃g,v'.ownBlock=some g/\w0.heap.size<=g)(h:∀j,j.ownsGroups P k base e q b (n+1) (D.put p (rowDatum q v' z))->w.grownBy j (some b)->K (a.put o.dst undef) j):
 Oper.upon P o a K Q (((Instr.mapUpdate t (.map (some b)) v v').run P w).andThen λ_ x=>Result.ok Next.skip x):=by
 obtain⟨j,i,r,s⟩:=c w v' z l d m f;rw[i];exact h j r s
end
theorem U5(w:Tw):(zeroValue 28).run prog w=.ok (Zs none 0 0) w:=by kernel_rfl
theorem AGb:(prog.info? 3).map (λi=>(i.zero,i.size,i.bytes))=some (some (Zi 0),1,8):=by kernel_rfl
theorem sO{rs:List Px}{r:Px}{zs:List Int}(b:IsMap D)(a:∀p,(D.atKey (lit p) .nil=.nil/\aJ rs p=[])\/D.atKey (lit p) .nil=DataW.slice (lits .i64 (aJ rs p)) [])(d:zs=aJ rs r.1):∀p,((D.put (lit r.1) (DataW.slice (lits .i64 (zs++[r.2.1])) [])).atKey (lit p) .nil=.nil/\aJ (rs++[r]) p=[])\/(D.put (lit r.1) (DataW.slice (lits .i64 (zs++[r.2.1])) [])).atKey (lit p) .nil=DataW.slice (lits .i64 (aJ (rs++[r]) p)) []:=λp=>by
 rw[AEw]
 by_cases e:r.1=p
 ·subst e
  right;rw[if_pos rfl,atKey_put_same b (AEF _) _ _,d]
 rw[if_neg e,XT,atKey_put_other (λc=>e (Jr c).symm)];exact a p
theorem AHp{b:Nat}{v u f:Tv}{t:TypeId}(h:W.heap[b]? = some (Zk #[v,u,f] t (0,0))):W.cell? ⟨b,0,none⟩=some v/\W.cell? ⟨b,1,none⟩=some u:=by simp[World.cell?,h]
theorem fE(B:Nat)(v:Tv)(rs:List Px)(w:Tw)(hF:jE B w v rs)(a1:rs.length<=100000)(ab:∀r∈rs,r.1.size<=maxLen)(aa:∀r∈rs,Lu r.2.1):
 Zc 111 #[v] w λe w'=>∃m,e=Zr (.map (some m))/\w.heap.size<=m/\Told w' m rs.length rs/\Below w.heap.size w w':=by
 obtain⟨zs,e1,e2,e3⟩:=hF;obtain⟨fa,fc,rfl,_⟩:=Au e2;have ag:=Aa e1;have ah:=Aa e2;have ai:=Aa e3;have aj:=Aa ab;have ad:=Aa aa;obtain⟨i0,hi,ac,n,o⟩:=info_parts AGb;have b:=Zy hi ac n o;have aq:=@run_makeMap prog;have X:Hid (Told (w.alloc (.map #[] 0)) w.heap.size 0 (rs.take 0)):=Aa ⟨.map [],World.ownsGroups_made _ _ _ _ _,isMap_empty,λp=>.inl ⟨rfl,rfl⟩⟩;have U:Hid (Below w.heap.size w (w.alloc (.map #[] 0))):=Aa (Zal);clear e1 e2 e3 ab aa hi ac n o;go_enter func111,ntmps111;go_wp2_with fail;clear aq
 go_loopw [9] (λvi wr=>∃k:Nat,k<=rs.length/\vi=Zi (k:Int)/\Hid (Told wr w.heap.size k (rs.take k))/\Hid (Below w.heap.size w wr)) (λvi _=>rs.length-Ev vi)
 case atStart=>exact⟨0,XB _,rfl,X,U⟩
 case round=>
  obtain⟨k,hk,rfl,HT,T⟩:=hrel;clear X U
  rcases Yc k rs.length with ap|az
  ·obtain⟨r,hr⟩:∃r,rs[k]? = some r:=⟨_,Y9 ap⟩
   obtain⟨z,hz⟩:∃z,zs[k]? = some z:=⟨_,Y9 (by have:=ag.o;omega)⟩;obtain⟨n,o,au⟩:=ai.o k z r hz hr;obtain⟨zp,zi,zv⟩:=z;obtain⟨G,J,I,ez⟩:=au;simp only at ez;subst ez;have l:=E.Ad ah.o T.o
   obtain⟨fb,am,ay,f0,f1,f2⟩:∃fb,fa=some ⟨fb,0,none⟩/\fb<wr.heap.size/\wr.cell? ⟨fb,k*3,none⟩=some (Zt zp)/\wr.cell? ⟨fb,k*3+1,none⟩=some (Zi zi)/\wr.cell? ⟨fb,k*3+2,none⟩=some (Zs G J I):=by
    rcases l.2 with⟨_,h0⟩|⟨fb,aw,ax,ev,_,hh,_,_,_⟩
    ·omega
    injection ev with al _ _;subst al;have hc:=l.cells (g:=fb) rfl;simp only[E.addr_add] at hc
    have d:∀(i:Nat)u,(Og (zp,zi,Zs G J I))[i]? = some u->wr.cell? ⟨fb,k*3+i,none⟩=some u:=λi u P=>by have:=hc (k*3+i) u (Hi (k:=3) (enc:=Og) (λ_=>rfl) hz P);simpa using this
    exact⟨fb,rfl,E.Ac hh,d 0 _ rfl,d 1 _ rfl,d 2 _ rfl⟩
   subst am;simp only at n o;subst n o;have O:=XC hr;have ar:=aj.o r O;have c:=ad.o r O;have ao:(k:Int)<(rs.length:Int):=by omega
   have Y:Hid (rs.take (k+1)=rs.take k++[r]):=Aa (S.Cs hr);have HA:Hid (Below wr.heap.size wr (wr.alloc (Zk #[Zt r.1,Zi r.2.1,Zs G J I] 53))):=Aa (Zal)
   have a0:w.heap.size<wr.heap.size:=by obtain⟨_,d0,_⟩:=HT.o.ex;exact V9 d0
   obtain⟨D,d1,d2,d3⟩:=(HT.o.up HA.o).ex;have V:=Aa d1;have s:=Aa d2;have t:=Aa d3;have y:=Aa (Mh ar);clear d1 d2 d3 l hr hz O HT;have c0:=heap_alloc_new wr (Zk #[Zt r.1,Zi r.2.1,Zs G J I] 53);have q0:=S.cell_of_heap c0 0;have q1:=S.cell_of_heap c0 1;simp at q0 q1;clear c0;go_wp2_with fail;have ae:=Aa (Vx V.o ((XG _ _).drew));have af:=Aa (Vx V.o ((((XG _ _).alloc (Y' _) (Zk #[Zi r.2.1] 3))).drew))
   have W:Hid (((wr.alloc (Zk #[Zt r.1,Zi r.2.1,Zs G J I] 53)).alloc (Zk #[Zi r.2.1] 3)).drew.heap[wr.heap.size+1]? = some (Zk #[Zi r.2.1] 3)):=Aa (by have:=heap_alloc_new (wr.alloc (Zk #[Zt r.1,Zi r.2.1,Zs G J I] 53)) (Zk #[Zi r.2.1] 3);rwa[World.size_alloc] at this)
   have x:Hid (((wr.alloc (Zk #[Zt r.1,Zi r.2.1,Zs G J I] 53)).alloc (Zk #[Zi r.2.1] 3)).drew.heap[wr.heap.size]? = some (Zk #[Zt r.1,Zi r.2.1,Zs G J I] 53 (0,0))):=Aa (((((XG _ _).alloc (Y' _) (Zk #[Zi r.2.1] 3)).drew).block wr.heap.size (by simp)).trans (heap_alloc_new wr _));have a2:=T.o.size
   go_region_held3 (λw'=>w'.cell? ⟨wr.heap.size,0,none⟩=some (Zt r.1)/\w'.cell? ⟨wr.heap.size,1,none⟩=some (Zi r.2.1))
    (first
      | (go_keep;done)
      | exact AHp (Hq x.o (a.1.alloc _) (by decide) hg5)
      | exact AHp (Hq x.o a.1 (by decide) hg5)
      | exact AHp ((hgrow6.block _ (Ya (by simp;omega) hg5.size) (λe=>by injection e with e;omega)).trans (Hq x.o (a.1.alloc _) (by decide) hg5))
      | exact AHp ((hgrow6.block _ (Ya (by simp;omega) hg5.size) (λe=>by injection e with e;omega)).trans (Hq x.o a.1 (by decide) hg5))
      | fail)
    (first
      | (refine Ke Wl underlying204 (U5 _) ae.o (by unfold maxLen;omega) y.o ?_;intro v5 q d a av f)
      | (refine Ke Wl underlying204 (U5 _) af.o (by unfold maxLen;omega) y.o ?_;intro v5 q d a av f)
      | (refine step_append_lies _ (by rfl) (.tmp 19) (.tmp 22) 28 (by rfl) (w.heap.size+1) 3 i0 (Zi 0) 1 8 underlying28 b.o.1 b.o.2.1 b.o.2.2.1 b.o.2.2.2 rfl (by decide) v5 q.length (q.map (Value.int .i64)) (by rfl) (a.1.alloc _) ⟨wr.heap.size+1,0,none⟩ 1 1 [Zi r.2.1] (by rfl) rfl (λj u hj=>XN W.o j u hj) (by intro u P;simp at P;subst P;rfl) (by omega) (by unfold maxLen;omega) (by omega) (by simp;omega) _ rfl ?_;intro g5 c5 w5 ho5 hg5 hat5 hlt5)
      | (refine step_append_lies _ (by rfl) (.tmp 19) (.tmp 22) 28 (by rfl) (w.heap.size+1) 3 i0 (Zi 0) 1 8 underlying28 b.o.1 b.o.2.1 b.o.2.2.1 b.o.2.2.2 rfl (by decide) v5 q.length (q.map (Value.int .i64)) (by rfl) a.1 ⟨wr.heap.size+1,0,none⟩ 1 1 [Zi r.2.1] (by rfl) rfl (λj u hj=>XN W.o j u hj) (by intro u P;simp at P;subst P;rfl) (by omega) (by unfold maxLen;omega) (by omega) (by simp;omega) _ rfl ?_;intro g5 c5 w5 ho5 hg5 hat5 hlt5)
      | (refine Xs f ((XX _ _ _).trans hg5) (a.appended ho5 (WalkArith.wf_i64 (by have:=c.1;have:=c.2;omega))) (by simp;omega) (hat5.imp (λh=>h.symm) (λh=>⟨_,by rw[h];rfl,by simp⟩)) ?_;intro w6 hown6 hgrow6)
      | (refine Xs f hg5 (a.appended ho5 (WalkArith.wf_i64 (by have:=c.1;have:=c.2;omega))) (by simp;omega) (hat5.imp (λh=>h.symm) (λh=>⟨_,by rw[h];rfl,by simp⟩)) ?_;intro w6 hown6 hgrow6)
      | fail)
   ·have R:=Sd (t.o r.1) d a
    have N:=a.appended ho5 (WalkArith.wf_i64 (by have:=c.1;have:=c.2;omega));rw[N.datum_pos (by simp)] at hown6;have M:=Aa hown6;clear hown6;go_wp2;refine⟨⟨k+1,by omega,by simp,Aa ⟨_,M.o,s.o.put _ _,?_⟩,Aa ((Ap T.o (Ap HA.o ((XG _ _).drew))).groups a ((XX _ _ _).trans hg5) hgrow6 (by simp;omega) (XV _) (Y' _))⟩,by simp only[Ev];omega⟩;rw[Y.o];exact sO s.o t.o R
   have R:=Sd (t.o r.1) d a;have N:=a.appended ho5 (WalkArith.wf_i64 (by have:=c.1;have:=c.2;omega));rw[N.datum_pos (by simp)] at hown6;have M:=Aa hown6;clear hown6;go_wp2;refine⟨⟨k+1,by omega,by simp,Aa ⟨_,M.o,s.o.put _ _,?_⟩,Aa ((Ap T.o (Ap HA.o (((XG _ _).alloc (Y' _) (Zk #[Zi r.2.1] 3)).drew))).groups a hg5 hgrow6 (by simp;omega) (XV _) (Y' _))⟩,by simp only[Ev];omega⟩;rw[Y.o];exact sO s.o t.o R
  have ao:¬((k:Int)<(rs.length:Int)):=by omega
  have an:k=rs.length:=by omega
  subst an;have L:=HT.o;rw[Ye] at L;have ak:=Aa L;clear L;go_wp2;go_ret;exact⟨w.heap.size,rfl,Y' _,ak.o,T.o⟩
def tK(w:World)(s:Ah)(Eb:Int)(g:ByteArray)(T:S.CT)(xs:List A6)(e:Ending)(a:World):Prop :=
 Zb w a/\((s.cols=[]/\e=.returned (.tuple #[.pointer none,.slice none 0 0,.iface 90 (Zi 6)])) \/
  (s.cols≠[]/\Ex s.cols T≠0/\e=.returned (.tuple #[.pointer none,.slice none 0 0,AEy (Ex s.cols T)])) \/
  (s.cols≠[]/\Ex s.cols T=0/\∃b v' c n1 c1 h d n2 f,e=.returned (.tuple #[.pointer (some ⟨b,0,none⟩),v',.nilIface])/\Dv w.heap.size a b s Eb c n1 c1 h d n2 f g true none 0 [] ((Bo s.cols T xs).1.length:Int)/\Fp w.heap.size w.heap.size a v' (Bo s.cols T xs).1))
theorem Fp.base{B n:Nat}{w:Tw}{v:Tv}{rs:List Px}(h:Fp B B w v rs)(d:n<=B):Fp n n w v rs:=by obtain⟨zs,e,f,a⟩:=h;exact⟨zs,e,E.Ai f d,λj x r c b=>⟨(a j x r c b).1,(a j x r c b).2.1,E.Ai (a j x r c b).2.2 d⟩⟩
theorem Fp.far{w W:Tw}{I B b:Nat}{v:Tv}{rs:List Px}{cs:Array Tv}{t:TypeId}(h:Fp I B w v rs)(a:w.heap[b]? = some (Zk cs t (0,0)))(g:t≠53)(i:t≠56)(c:w.grownBy W (some b)):Fp I B W v rs:=by obtain⟨zs,d,e,f⟩:=h;refine⟨zs,d,Mk e a g c,λj z r l k=>?_⟩;obtain⟨m,n,o⟩:=f j z r l k;exact⟨m,n,Mk o a i c⟩
theorem AKm{W:Tw}{b:Nat}{f a e c d k g l:Tv}{t:TypeId}(h:W.heap[b]? = some (Zk #[f,a,e,c,d,k,g,l] t (0,0)))(u v:Tv):((W.setCell ⟨b,5,none⟩ u).setCell ⟨b,7,none⟩ v).heap[b]? = some (Zk #[f,a,e,c,d,u,g,v] t (0,0)):=by have i:=As W b 5 _ _ u h;have j:=As _ b 7 _ _ v i;simpa using j
theorem Wo(bb n:Nat)(D:Td)(mv:Tv)(H:List (Dn×Ah))(v:Tb)(xs:List A6)(T:S.CT)(G:Tv)(w:Tw)(h:Ground w bb n D mv)(O:B.Ob w)(t:S.Lp w)(R:U6 D H)(U:La H)(O5:H.length<=40)(u:Bx v=true)(I:v.size<=12)(x:Xh D (Ae H H.length) xs)(P:S.Gy w T G):
 Zc 69 #[Zp (some ⟨bb,0,none⟩),Zt v,G] w (tK w (Ae H H.length) H.length v T xs):=by
 have o:=Aa (fH bb n D mv H v w h R U O5 u I);have m:=Aa (λ(sv:Tv)W(y:Zb w W)(hS:Dl W (Ae H H.length) sv)=>oS bb n D mv (Ae H H.length) sv xs T G W (h.up y) (O.below y) (t.below y) hS x (P.up y));have ab:=Aa (L0 (Ae H H.length).cols T xs x.each);have ac:=x.Iz;have aa:Hid (∀W,Dl W (Ae H H.length)=Dl W (Ae H H.length)):=Aa λ_=>rfl
 unfold tK;unfold qP at m;generalize Ae H H.length=L at *;clear h O t R U x P u;go_enter func69,ntmps69;go_wp2_with fail;refine o.o.mono ?_;rintro e w1⟨g,⟨r,rfl⟩|⟨r,l,a1,n1,c1,x2,a2,n2,c2,rfl,J⟩⟩
 ·have q:=Aa (And.intro r g)
  clear r g;go_wp2_with fail;go_ret3;exact⟨q.o.2,.inl ⟨q.o.1,rfl⟩⟩
 have f:=Aa g;have q:=Aa r;have M:=Aa J;obtain⟨Y,y1,y2,y3,y4,y5,y6,y7,yf⟩:=F2 J.box;clear g r J o;go_wp2_with fail;refine(m.o _ _ f.o M.o.snap).mono ?_;rintro e X⟨d,⟨s,rfl⟩|⟨V,v2,rfl,k⟩⟩
 ·have j:=Aa s
  have i:=Aa d;clear s d;rw[Et j.o];go_wp2_with fail;go_ret3;exact⟨Ap f.o i.o,.inr (.inl ⟨q.o,j.o,by rw[Et j.o];rfl⟩)⟩
 have HZ:=Aa V;have i:=Aa d;have z:=Aa k;have b:=Aa (M.o.up d)
 obtain⟨fa,fc,rfl,_⟩:∃a c,v2=Zs a (Bo L.cols T xs).1.length c/\(Bo L.cols T xs).1.length<=c:=by obtain⟨zs,_,e2,_⟩:=k;exact Au e2
 clear V d k Y y1 y2 y3 y4 y5 y6 y7 yf;obtain⟨Y,y1,y2,y3,y4,y5,y6,y7,yf⟩:=F2 b.o.box;go_wp2_with fail;go_ret3;have N:X.grownBy ((X.setCell ⟨l,5,none⟩ (Zo true)).setCell ⟨l,7,none⟩ (Zi ((Bo L.cols T xs).1.length:Int))) (some l):=Gp (Aq _ _ _ _) (Aq _ _ _ _);exact⟨((Ap f.o i.o).setCell (p:=⟨l,5,none⟩) b.o.low _).setCell (p:=⟨l,7,none⟩) b.o.low _,.inr (.inr ⟨q.o,HZ.o,l,_,a1,n1,c1,x2,a2,n2,c2,rfl,b.o.set N (AKm b.o.box _ _),(z.o.base f.o.size).far b.o.box (by decide) (by decide) N⟩)⟩
theorem Told.pa{w W:Tw}{base m n:Nat}{rs:List Px}(h:Told w m n rs)(l:B.A0 (PA w base) w W):Told W m n rs:=by
 obtain⟨D,d,p,q⟩:=h.ex;refine⟨D,Xe d (l.block m (V9 d) ?_) λv zs j=>⟨?_,j.2⟩,p,q⟩
 ·rintro⟨_,cs,T,e,_⟩
  obtain⟨es,clock,r,_⟩:=d;rw[r] at e;cases e
 refine⟨j.1.1,?_⟩
 rcases j.1.2 with o|⟨g,c,b,s,f,i,k⟩
 ·exact .inl o
 refine .inr ⟨g,c,b,s,f,(l.block g (Ac i) ?_).trans i,k⟩;rintro⟨_,cs,T,e,a⟩;rw[i] at e;injection e with e;injection e with _ e;subst e
 rcases a with a|a <;> exact absurd a (by decide)
theorem dC{base:Nat}{a b c:Tw}(h:B.A0 (PA a base) a b)(k:B.A0 (PA b base) b c):B.A0 (PA a base) a c :=
 h.trans k λi j e=>by
  by_cases hs:PA a base i
  ·exact hs
  obtain⟨d,cs,T,f,g⟩:=e;exact⟨d,cs,T,(h.block i j hs).symm.trans f,g⟩
theorem AGu(l:List Aj)(T:S.CT)(x:A6):(Vm l T x).length<=1:=by
 unfold Vm;split
 ·exact XB _
 split <;> exact Y' _
theorem rV(l:List Aj)(T:S.CT):∀xs:List A6,(xs.flatMap (Vm l T)).length<=xs.length
 | []=>Y' _
 | x :: xs=>by have:=rV l T xs;have:=AGu l T x;rw[XY,XH,XL];omega
theorem AK0(path:Tb)(mask:List Int)(l:List Aj)(T:S.CT)(rs:List (List V))(b:rs.length<=1000):∀z∈Jw path mask l T 0 rs,Lu z.2.1:=λz a=>by
 have:=(Pv path mask l T rs 0).1 z a;exact⟨by omega,by omega⟩
theorem AJ0{D:Td}{l:List Aj}{xs:List A6}(c:∀x∈xs,Gt D x):∀z∈(Bo l .nil xs).1,Lu z.2.1/\z.1.size<=maxLen:=λz a=>by
 rw[H9] at a;obtain⟨x,b,a⟩:=List.mem_flatMap.1 a;have h:=c x b;refine⟨AK0 _ _ _ _ _ ?_ z a,?_⟩
 ·rw[J2]
  have:=(B4.mp h.ok).2.2.1;omega
 rw[N2 z a];have:=h.name;unfold maxLen;omega
theorem mL(base bb n:Nat)(D:Td)(mv:Tv)(pb:Nat)(s:Ah)(v:Int)(a1:To)(n1 c1:Nat)(x2:Int)(a2:To)(n2 c2:Nat)(tx:Tb)(rd:Bool)(aa:To)(ac:Nat)(L:List Gx)(rows:Int)(Bf:Nat)(rv:Tv)(T:S.CT)(xs:List A6)(w:Tw)(h:Ground w bb n D mv)(he:B.Ob w)(b4:S.Lp w)(hP:Dv base w pb s v a1 n1 c1 x2 a2 n2 c2 tx rd aa ac L rows)(cl:base<=w.heap.size)(V:Xh D s xs)(hg:Good Bv Cm s)(hF:jE Bf w rv (Bo s.cols T xs).1)(W:(Bo s.cols T xs).1=(Bo s.cols .nil xs).1.filter (Q9 s.cols T))(hL:L.length<=10):
 Zc 70 #[Zp (some ⟨bb,0,none⟩),Zp (some ⟨pb,0,none⟩),rv] w λe w'=>e=Zr Zn/\(∃f j t,Dv base w' pb s v a1 n1 c1 x2 a2 n2 c2 tx rd f j (L++t) rows/\t.map (·.1)=xs.flatMap (Vm s.cols T))/\B.A0 (PA w base) w w':=by
 have O5:=hg.Iz;have c7:xs.length<=40:=by have:=congrArg List.length V.files;rw[XA] at this;omega
 have b3:(xs.map (·.1.1)).Nodup:=by have:=hg.once;rw[<-V.files,XP] at this;exact this
 have ct:n2=xs.length:=by obtain⟨b1,d1,b2,d2,Ls,ev,hV⟩:=hP.snap;unfold K4 at ev;simp only[Value.agg.injEq,Array.mk.injEq,List.cons.injEq,Value.int.injEq,Value.slice.injEq] at ev;have h1:=congrArg List.length hV.files;have h2:=congrArg List.length V.files;rw[XA] at h1 h2;omega
 subst ct;have M:=Aa (AJ0 (l:=s.cols) V.each);have av:=Aa (L0 s.cols .nil xs V.each);have aw:=Aa (L0 s.cols T xs V.each)
 have ak:Hid (∀z∈(Bo s.cols T xs).1,Lu z.2.1/\z.1.size<=maxLen):=Aa λz hz=>by rw[W] at hz;exact M.o z (List.mem_filter.1 hz).1
 have ce:Hid (∀x∈xs,aJ (Bo s.cols T xs).1 x.1.1=Ct s.cols T x/\(aJ (Bo s.cols .nil xs).1 x.1.1).length=(E4 s.cols x).length):=Aa λx hx=>by refine⟨?_,by rw[ADn s.cols b3 hx,XA]⟩;rw[W,H9];exact Wm s.cols _ xs b3 x hx
 have J:=Aa (oS bb n D mv s _ xs .nil (Zp none) w h he b4 hP.snap V rfl);unfold qP at J;simp only[dB] at J;have cc:=Aa V.files;have HP:=Aa hP;have HF:=Aa hF;have cb:=Aa (λx(hx:x∈xs)=>And.intro (V.each x hx).name (V.each x hx).mask);obtain⟨y0,y1,y2,y3,y4,y5,y6,y7,yf⟩:=F2 hP.box
 obtain⟨fa,fc,rfl,_⟩:∃a c,rv=Zs a (Bo s.cols T xs).1.length c/\(Bo s.cols T xs).1.length<=c:=by obtain⟨zs,_,e2,_⟩:=hF;exact Au e2
 clear h he b4 V hg hF W hP;unfold K4 at J;go_enter func70,ntmps70;go_wp2_with fail;refine J.o.mono ?_;rintro e w1⟨bw,⟨q,_⟩|⟨_,v1,rfl,bd⟩⟩
 ·exact absurd rfl q
 obtain⟨va,vc,rfl,_⟩:∃a c,v1=Zs a (Bo s.cols .nil xs).1.length c/\(Bo s.cols .nil xs).1.length<=c:=by obtain⟨zs,_,e2,_⟩:=bd;exact Au e2
 have bh:=Aa bw;have bl:=Aa (fE _ _ _ w1 bd.AJP (by have:=av.o.2;omega) (λr hr=>(M.o r hr).2) (λr hr=>(M.o r hr).1));clear bw bd J y0 y1 y2 y3 y4 y5 y6 y7 yf;go_wp2_with fail;refine bl.o.mono ?_;rintro e w2⟨m1,rfl,c5,bu,bx⟩;have aq:=Aa (Ap bh.o bx);have bn:=Aa bu;have bm:=Aa (fE _ _ _ w2 (HF.o.up aq.o) (by have:=aw.o.2;omega) (λr hr=>(ak.o r hr).2) (λr hr=>(ak.o r hr).1));clear bx bu bl;go_wp2_with fail;refine bm.o.mono ?_;rintro e w3⟨m2,rfl,c6,bv,bc⟩;have ar:=Aa (Ap aq.o bc);have al:=Aa (bn.o.up bc);have bo:=Aa bv;have az:=Aa (HP.o.up ar.o);clear bc bv bm bn;obtain⟨y0,y1,y2,y3,y4,y5,y6,y7,yf⟩:=F2 az.o.box;go_wp2_with fail;clear y0 y1 y2 y3 y4 y5 y6 y7 yf;have bk:Hid (B.A0 (PA w base) w w3):=Aa (B.A0.Ba ar.o)
 go_loopw [37] (λvi wr=>∃(k:Nat)(f:To)(j:Nat)(t:List Gx),k<=xs.length/\vi=Zi (k:Int)/\t.length<=k/\Hid (Dv base wr pb s v a1 n1 c1 x2 a2 xs.length c2 tx rd f j (L++t) rows)/\Hid (t.map (·.1)=(xs.take k).flatMap (Vm s.cols T))/\Hid (Told wr m1 (Bo s.cols .nil xs).1.length (Bo s.cols .nil xs).1)/\Hid (Told wr m2 (Bo s.cols T xs).1.length (Bo s.cols T xs).1)/\Hid (B.A0 (PA w base) w wr)) (λvi _=>xs.length-Ev vi)
 case atStart=>exact⟨0,aa,ac,[],XB _,rfl,Y' _,Aa (by rw[XT];exact az.o),Aa rfl,al,bo,bk⟩
 case round=>
  clear az al bo bk ar aq bh;obtain⟨k,f,j,t,hk,rfl,c0,ah,HM,a5,a6,HO⟩:=hrel
  rcases Yc k xs.length with cs|c4
  ·obtain⟨x,ai⟩:∃x,xs[k]? = some x:=⟨_,Y9 cs⟩
   obtain⟨b1,d1,b2,d2,Ls,ev,hV⟩:=ah.o.snap;unfold K4 at ev;simp only[Value.agg.injEq,Array.mk.injEq,List.cons.injEq,Value.int.injEq,Value.slice.injEq] at ev;obtain⟨-,-,-,⟨e1,e2,e3⟩,-⟩:=ev;subst e1 e3;obtain⟨y,bg⟩:∃y,Ls[k]? = some y:=⟨_,Y9 (by omega)⟩
   have a9:y.1=x.1:=by
    have h1:(xs.map (·.1))[k]? = some x.1:=by simp[ai]
    rw[cc.o,hV.files,XJ,bg] at h1;simpa using h1
   have b5:=XC ai;obtain⟨⟨⟨b,m,mask⟩,l0,xr⟩,ex⟩:∃q,q=x:=⟨_,rfl⟩;obtain⟨ye,⟨ma,mn,mc⟩⟩:=y;have bt:ye=(b,m,mask):=by rw[<-ex] at a9;exact a9
   subst bt ex;have ae:=hV.row
   obtain⟨fb,co,c3,e0,e1,cz⟩:∃fb,a2=some ⟨fb,0,none⟩/\fb<wr.heap.size/\wr.cell? ⟨fb,k*3,none⟩=some (Zt b)/\wr.cell? ⟨fb,k*3+1,none⟩=some (Zi m)/\wr.cell? ⟨fb,k*3+2,none⟩=some (Zs ma mn mc):=by
    rcases ae.2 with⟨_,h0⟩|⟨fb,cx,cy,ev,_,hh,_,_,_⟩
    ·omega
    injection ev with ch _ _;subst ch;have hc:=ae.cells (g:=fb) rfl;simp only[E.addr_add] at hc
    have ba:∀(i:Nat)u,(Lv ((b,m,mask),ma,mn,mc))[i]? = some u->wr.cell? ⟨fb,k*3+i,none⟩=some u:=λi u hu=>by have:=hc (k*3+i) u (Hi (k:=3) (enc:=Lv) (λ_=>rfl) bg hu);simpa using this
    exact⟨fb,rfl,E.Ac hh,ba 0 _ rfl,ba 1 _ rfl,ba 2 _ rfl⟩
   subst co;obtain⟨ab,ad⟩:=ce.o _ b5;have cq:(k:Int)<(xs.length:Int):=by omega
   have a4:Hid ((xs.take (k+1)).flatMap (Vm s.cols T)=(xs.take k).flatMap (Vm s.cols T)++Vm s.cols T ((b,m,mask),l0,xr)):=Aa (by rw[S.Cs ai];simp);have bf:b.size<=maxLen:=by have:=(cb.o _ b5).1;unfold maxLen;simp only at this;omega
   have O:=Aa (Mh bf);have o:Hid (Zb wr (wr.alloc (Zk #[Zt b,Zi m,Zs ma mn mc] 65))):=Aa (Zal);have cw:=Aa (heap_alloc_new wr (Zk #[Zt b,Zi m,Zs ma mn mc] 65));obtain⟨Da,bp,cf,bq⟩:=(a5.o.up o.o).ex;obtain⟨Df,br,cg,bs⟩:=(a6.o.up o.o).ex;have bj:=Aa (And.intro bp (bq b));have ag:=Aa (And.intro br (bs b));have cr:(Bo s.cols .nil xs).1.length<maxLen:=by have:=av.o.2;unfold maxLen;omega
   have b0:(Bo s.cols T xs).1.length<maxLen:=by have:=aw.o.2;unfold maxLen;omega
   simp only at ab ad;have a0:=Aa (And.intro ab ad);clear bp cf bq br cg bs hV ae a9 bg ai ab ad e2;go_wp2_with fail;have au:Hid (Vm s.cols T ((b,m,mask),l0,xr)=if Ct s.cols T ((b,m,mask),l0,xr)=[] then [] else if (Ct s.cols T ((b,m,mask),l0,xr)).length=(E4 s.cols ((b,m,mask),l0,xr)).length then [(2,b,0,[],[],0)] else [(3,b,0,Ct s.cols T ((b,m,mask),l0,xr),[],0)]):=Aa rfl;generalize Ct s.cols T ((b,m,mask),l0,xr)=PL at *;generalize (E4 s.cols ((b,m,mask),l0,xr)).length=NP at *;generalize Vm s.cols T ((b,m,mask),l0,xr)=GA at *;refine Ke Wl underlying204 (U5 _) ag.o.1 b0 O.o ?_;intro v5 d am ap b6 _;have cu:d=PL:=(Sd ag.o.2 am ap).trans a0.o.1;subst cu;obtain⟨da,dc,ci,_⟩:=Au ap.1;subst ci;have c8:d.length<=100000:=by have:=aw.o.2;omega
   have a3:=Aa (ah.o.up o.o);have P:=Aa (a5.o.up o.o);have R:=Aa (a6.o.up o.o);have ay:Hid (B.A0 (PA w base) w (wr.alloc (Zk #[Zt b,Zi m,Zs ma mn mc] 65))):=Aa (dC HO.o (B.A0.Ba o.o));have bz:base<=(wr.alloc (Zk #[Zt b,Zi m,Zs ma mn mc] 65)).heap.size:=XF (XF cl HO.o.size) o.o.size;have bi:=Aa bz;clear am b6 bz HO ah a5 a6
   by_cases hq1:d=[]
   ·have N:Hid (GA=[]):=Aa (by rw[au.o,if_pos hq1])
    have cm:((d.length:Nat):Int)=0:=by rw[hq1];rfl
    clear hq1;go_wp2
    go_roundw
    case rel=>refine⟨k+1,f,j,t,by omega,by simp,by omega,a3,Aa ?_,P,R,ay⟩;rw[HM.o,a4.o,N.o,XT]
    case measure=>simp only[Ev];omega
   have cm:¬((d.length:Nat):Int)=0:=λe=>hq1 (List.length_eq_zero_iff.1 (by omega))
   go_wp2_with fail;refine Ke Wl underlying204 (U5 _) bj.o.1 cr O.o ?_;intro v6 af an Y b7 _;have aj:af.length=NP:=by rw[Sd bj.o.2 an Y];exact a0.o.2
   obtain⟨db,dd,cj,_⟩:=Au Y.1;subst cj;have c9:af.length<=100000:=by have:=av.o.2;omega
   clear an b7 Y
   by_cases hq2:d.length=af.length
   ·have N:Hid (GA=[(2,b,0,[],[],0)]):=Aa (by rw[au.o,if_neg hq1,if_pos (by rw[hq2,aj])])
    have cn:((d.length:Nat):Int)=((af.length:Nat):Int):=by omega
    have I:=Aa (N3 base pb s v a1 n1 c1 x2 _ xs.length c2 tx rd f j (L++t) rows _ a3.o bi.o 2 b 0 [] [] 0 none 0 0 none 0 0 ⟨XK _ _ _ _,XK _ _ _ _⟩ ⟨bf,XB _,(λx hx=>by cases hx)⟩ (by rw[XH];omega));clear hq1 hq2 aj;go_wp2_with fail;refine I.o.mono ?_;rintro e w6⟨rfl,⟨a7,a8,U⟩,X⟩;have H6:=Aa (And.intro U X);clear U X I;go_wp2
    go_roundw
    case rel=>refine⟨k+1,a7,a8,t++[((2,b,0,[],[],0),(none,0,0),(none,0,0))],by omega,by simp,by simp;omega,Aa (by rw[<-XZ];exact H6.o.1),Aa ?_,Aa (P.o.pa H6.o.2),Aa (R.o.pa H6.o.2),Aa (dC ay.o H6.o.2)⟩;rw[XI,HM.o,a4.o,N.o];rfl
    case measure=>simp only[Ev];omega
   have N:Hid (GA=[(3,b,0,d,[],0)]):=Aa (by rw[au.o,if_neg hq1,if_neg (λe=>hq2 (by rw[e,aj]))]);have cn:¬((d.length:Nat):Int)=((af.length:Nat):Int):=by omega
   clear hq1 hq2 aj;go_wp2_with fail;refine Ke Wl underlying204 (U5 _) ag.o.1 b0 O.o ?_;intro v7 G ao p b8 _;have cv:G=d:=(Sd ag.o.2 ao p).trans a0.o.1;subst cv;obtain⟨b9,ca,ck,_⟩:=Au p.1;subst ck;have I:=Aa (N3 base pb s v a1 n1 c1 x2 _ xs.length c2 tx rd f j (L++t) rows _ a3.o bi.o 3 b 0 G [] 0 b9 G.length ca none 0 0 ⟨E.Ai p.1 (XB _),XK _ _ _ _⟩ ⟨bf,by show G.length<=600000;omega,(λx hx=>by cases hx)⟩ (by rw[XH];omega));clear ao b8 p;go_wp2_with fail;refine I.o.mono ?_;rintro e w6⟨rfl,⟨a7,a8,U⟩,X⟩;have H6:=Aa (And.intro U X);clear U X I;go_wp2
   go_roundw
   case rel=>refine⟨k+1,a7,a8,t++[((3,b,0,G,[],0),(b9,G.length,ca),(none,0,0))],by omega,by simp,by simp;omega,Aa (by rw[<-XZ];exact H6.o.1),Aa ?_,Aa (P.o.pa H6.o.2),Aa (R.o.pa H6.o.2),Aa (dC ay.o H6.o.2)⟩;rw[XI,HM.o,a4.o,N.o];rfl
   case measure=>simp only[Ev];omega
  have cq:¬((k:Int)<(xs.length:Int)):=by omega
  have cp:k=xs.length:=by omega
  subst cp;have ax:=HM.o;rw[Ye] at ax;have cd:=Aa ax;clear ax;go_wp2;go_ret;exact⟨rfl,⟨f,j,t,ah.o,cd.o⟩,HO.o⟩
variable{W w:Tw}{v:Tv}{x:J4}{L c r:List V}{l:List Aj}{s:Ah}{I i k m n:Nat}{y:Int}{a:A5}{H:List (Dn×Ah)}{D:Td}{A:List A5}{e:Ending}{U:List Tb}
def SlJ(I B:Nat)(w:World)(v:Value)(rows:List (List V)):Prop:=∃a:List Value,a.length=rows.length/\w.ownsRow B 51 1 v rows.length a/\∀(j:Nat)x r,a[j]? = some x->rows[j]? = some r->w.ownsRow I 56 3 x r.length (E.A1 r)
theorem AHj(I B:Nat)(w:Tw):SlJ I B w (Zs none 0 0) []:=⟨[],rfl,XK _ _ _ _,λj x r a=>by simp at a⟩
theorem SlJ.o{I B:Nat}{rows:List (List V)}(h:SlJ I B w v rows):Sc B w v rows:=by obtain⟨f,a,b,c⟩:=h;exact⟨f,a,b,λj x r e d=>E.Ai (c j x r e d) (XB _)⟩
theorem SlJ.snoc{I B:Nat}{v v':Tv}{rows:List (List V)}{X:List Tv}{x:Tv}(g:X.length=rows.length)(i:w.ownsRow B 51 1 v rows.length X)(l:∀(j:Nat)x r,X[j]? = some x->rows[j]? = some r->w.ownsRow I 56 3 x r.length (E.A1 r))(s:w.ownsRow I 56 3 x r.length (E.A1 r))(o:w.grownBy W v.ownBlock)(p:W.ownsRow B 51 1 v' (rows.length+1) (X++[x])):SlJ I B W v' (rows++[r]):=by
 have c:∀{y:Tv}{n:Nat}{h:List Tv},w.ownsRow I 56 3 y n h->W.ownsRow I 56 3 y n h:=λa=>Az a o λk c e=>a8 i a (by decide) k e c
 refine⟨X++[x],by simp[g],?_,λj y q a b=>?_⟩
 ·simpa using p
 rcases Yc j X.length with f|d
 ·rw[XE f] at a
  rw[XE (by omega)] at b;exact c (l j y q a b)
 rw[XD d] at a;rw[XD (by omega)] at b;rw[g] at a;cases hj:j-rows.length with
 | zero=>rw[hj] at a b;simp at a b;subst a b;exact c s
 | succ m=>rw[hj] at a;simp at a
theorem X7(I B:Nat)(v:Tv)(rs:List Px)(w:Tw)(hF:Fp I B w v rs)(ao:rs.length<=100000):
 Zc 72 #[v] w λe w'=>∃v',e=Zr v'/\SlJ I w.heap.size w' v' (rs.map (·.2.2))/\Zb w w':=by
 obtain⟨zs,e1,e2,e3⟩:=hF;obtain⟨fa,fc,rfl,_⟩:=Au e2;have W:=Aa e1;have X:=Aa e2;have Y:=Aa e3;obtain⟨iC,N,O,P,R⟩:=info_parts eI;have h:=Zy N O P R;clear e1 e2 e3 N O P R;go_enter func72,ntmps72;go_wp2_with fail
 go_loopw [3,8] (λvo vi wr=>∃(k:Nat)(a:To)(c:Nat),k<=rs.length/\vi=Zi (k:Int)/\vo=Zs a k c/\Hid (SlJ I w.heap.size wr (Zs a k c) ((rs.take k).map (·.2.2)))/\Hid (Zb w wr)) (λ_ vi _=>rs.length-Ev vi)
 case atStart=>exact⟨0,none,0,XB _,rfl,rfl,Aa (AHj _ _ _),Aa (XG _ _)⟩
 case round=>
  obtain⟨k,a,c,hk,rfl,rfl,HO,p⟩:=hrel
  rcases Yc k rs.length with aj|an
  ·obtain⟨r,hr⟩:∃r,rs[k]? = some r:=⟨_,Y9 aj⟩
   obtain⟨z,hz⟩:∃z,zs[k]? = some z:=⟨_,Y9 (by have:=W.o;omega)⟩;obtain⟨_,_,o⟩:=Y.o k z r hz hr;obtain⟨zp,zi,zv⟩:=z;obtain⟨T,U,ez,_⟩:=Au o;simp only at ez;subst ez;have f:=E.Ad X.o p.o
   obtain⟨fb,ag,am,f0,f1,f2⟩:∃fb,fa=some ⟨fb,0,none⟩/\fb<wr.heap.size/\wr.cell? ⟨fb,k*3,none⟩=some (Zt zp)/\wr.cell? ⟨fb,k*3+1,none⟩=some (Zi zi)/\wr.cell? ⟨fb,k*3+2,none⟩=some (Zs T r.2.2.length U):=by
    rcases f.2 with⟨_,h0⟩|⟨fb,ak,al,ev,_,hh,_,_,_⟩
    ·omega
    injection ev with af _ _;subst af;have hc:=f.cells (g:=fb) rfl;simp only[E.addr_add] at hc
    have n:∀(i:Nat)u,(Og (zp,zi,Zs T r.2.2.length U))[i]? = some u->wr.cell? ⟨fb,k*3+i,none⟩=some u:=λi u V=>by have:=hc (k*3+i) u (Hi (k:=3) (enc:=Og) (λ_=>rfl) hz V);simpa using this
    exact⟨fb,rfl,E.Ac hh,n 0 _ rfl,n 1 _ rfl,n 2 _ rfl⟩
   subst ag;have ai:(k:Int)<(rs.length:Int):=by omega
   have M:rs.take (k+1)=rs.take k++[r]:=S.Cs hr;have ae:Hid ((rs.take (k+1)).map (·.2.2)=(rs.take k).map (·.2.2)++[r.2.2]):=Aa (by rw[M];simp);have J:((rs.take k).map (·.2.2)).length=k:=by rw[XA,XS];omega
   have HX:=Aa (E.Ad o p.o);obtain⟨vs,o1,o2,o3⟩:=HO.o;have ab:=Aa o1;have m:=Aa o2;have ac:=Aa o3;have t:=Aa J;obtain⟨t0,t1,t2,t3⟩:=C1 wr (Zk #[Zt zp,Zi zi,Zs T r.2.2.length U] 53) (Zk #[Zs T r.2.2.length U] 51);have b:=Aa t3;have aa:=Aa t2;have L:=p.o.size;clear M J o1 o2 o3 o f t0 t1 t2 t3
   go_wp2_with (first
    | (at_builtin;refine wpList_append_own _ rfl _ _ 35 rfl w.heap.size 51 iC (.slice none 0 0) 1 24 underlying35 h.o.1 h.o.2.1 h.o.2.2.1 h.o.2.2.2 rfl (by decide) (.slice a k c) k vs rfl (by have q:=E.Ad m.o b.o;rw[t.o] at q;exact q) ⟨wr.heap.size+1,0,none⟩ 1 1 [.slice T r.2.2.length U] rfl rfl (λj u hj=>XN aa.o j u hj) (by intro u V;simp at V;subst V;rfl) (by unfold maxLen;omega) (by omega) (XF L b.o.size) ?_
       intro v5 w5 d G _;have y:=Aa d;have s:=Aa G;clear d G))
   obtain⟨a',c',rfl,_⟩:=Au y.o;have D:=Ap p.o b.o;refine⟨⟨k+1,a',c',by omega,by simp,rfl,Aa ?_,Aa ?_⟩,by simp only[Ev];omega⟩
   ·rw[ae.o]
    refine SlJ.snoc ab.o (E.Ad m.o b.o) (λj x q hx hq=>E.Ad (ac.o j x q hx hq) b.o) (E.Ad HX.o b.o) s.o ?_;rw[t.o];exact y.o
   exact D.grown s.o D.size (λj hj=>Fu m.o hj)
  have ai:¬((k:Int)<(rs.length:Int)):=by omega
  have ah:k=rs.length:=by omega
  subst ah;have l:=HO.o;rw[Ye] at l;have ad:=Aa l;clear l;go_wp2;go_ret;exact⟨_,rfl,ad.o,p.o⟩
abbrev Vi:=ByteArray×V
def Wu(s:Vi):List Value:=[.string s.1,Zi s.2.1,Zi s.2.2.1,.string s.2.2.2]
structure Tgt(l:List Aj)(A3:List Vi)(ts:List Nat):Prop where
 len:ts.length=A3.length
 find:∀(j:Nat)(t:Nat)(s:Vi),ts[j]? = some t->A3[j]? = some s->Ce l s.1=t/\t<l.length
 once:ts.Nodup
theorem Tgt.nil(l:List Aj):Tgt l [] []:=⟨rfl,(λj t s h=>by simp at h),List.nodup_nil⟩
theorem Tgt.snoc{A3:List Vi}{ts:List Nat}(h:Tgt l A3 ts){s:Vi}{t:Nat}(n:Ce l s.1=t)(p:t<l.length)(o:¬t∈ts):Tgt l (A3++[s]) (ts++[t]):=by
 refine⟨by simp[h.len],λj t' s' c d=>?_,?_⟩
 ·rcases Yc j ts.length with g|f
  ·rw[XE g] at c
   rw[XE (by rw[<-h.len];exact g)] at d;exact h.find j t' s' c d
  rw[XD f] at c;rw[XD (by rw[<-h.len];exact f)] at d;rw[<-h.len] at d;cases hj:j-ts.length with
  | zero=>rw[hj] at c d;simp at c d;subst c d;exact⟨n,p⟩
  | succ m=>rw[hj] at c;simp at c
 rw[YT];exact⟨h.once,by simp,λa k b i e=>by simp at i;subst e i;exact o k⟩
def ints(ts:List Nat):List Int:=ts.map λ(t:Nat)=>(t:Int)
theorem uA(g cp:Nat)(l:List Aj)(sa:To)(sc:Nat)(A3:List Vi)(w:Tw)(hs:I1 w g 0 l)(h8:l.length<=8)(hS:F7 4 Wu w (Zs sa A3.length sc) A3)(ap:A3.length<=100):
 Zc 71 #[Zs (some ⟨g,0,none⟩) l.length cp,Zs sa A3.length sc] w λe w'=>Zb w w'/\((∃a c ts,e=Zr (Zu #[Zs a A3.length c,Zn])/\w'.ownsRow w.heap.size 3 1 (Zs a A3.length c) A3.length ((ints ts).map (.int .i64))/\Tgt l A3 ts)\/(∃a n c T y,e=Zr (Zu #[Zs a n c,Zf T y]))):=by
 have aa:=Aa (λnm W(hW:Zb w W)=>E8 g 0 cp l nm W (hs.below hW) h8);have ae:=Aa hS;obtain⟨i0,hi,O,P,R⟩:=info_parts AGb;have o:=Zy hi O P R;clear hs hS hi O P R;go_enter func71,ntmps71;go_wp2_with fail
 go_loopw [6,12] (λvo vi wr=>∃(k:Nat)(a:To)(c:Nat)(ts:List Nat),k<=A3.length/\vi=Zi (k:Int)/\vo=Zs a k c/\Hid (wr.ownsRow w.heap.size 3 1 (Zs a k c) k ((ints ts).map (.int .i64)))/\Hid (Tgt l (A3.take k) ts)/\Hid (Zb w wr)) (λ_ vi _=>A3.length-Ev vi)
 case atStart=>exact⟨0,none,0,[],XB _,rfl,rfl,Aa (XK _ _ _ _),Aa (Tgt.nil l),Aa (XG _ _)⟩
 case round=>
  obtain⟨k,a,c,ts,hk,rfl,rfl,HO,HT,U⟩:=hrel
  rcases Yc k A3.length with ak|an
  ·obtain⟨x,D⟩:∃x,A3[k]? = some x:=⟨_,Y9 ak⟩
   obtain⟨b,off,cc,ev,_,am,d⟩:=(ae.o.up U.o).cons (by omega);injection ev with e1 _ e3;subst e1 e3;obtain⟨nm,vk,vn,vt⟩:=x;have q0:=d k _ D 0 _ rfl;have q1:=d k _ D 1 _ rfl;have q2:=d k _ D 2 _ rfl;have q3:=d k _ D 3 _ rfl;have aj:(k:Int)<(A3.length:Int):=by omega
   have N:ts.length=k:=by rw[HT.o.len,XS];omega
   have L:=Aa N;have af:Hid (A3.take (k+1)=A3.take k++[(nm,vk,vn,vt)]):=Aa (S.Cs D);have X:Hid (Zb wr (wr.alloc (Zk #[Zt nm,Zi vk,Zi vn,Zt vt] 70))):=Aa (Zal);have p:=Aa (aa.o nm _ (Ap U.o X.o));have m:=Aa (Gz l nm);clear d D N;simp only[WA] at q0;obtain⟨fi,z⟩:∃fi,Ce l nm=fi:=⟨_,rfl⟩;rw[z] at p m;have Y:=Aa z;clear z;go_wp2_with fail;refine p.o.mono ?_;rintro e w1⟨rfl,t⟩;have f:=Aa (Ap U.o (Ap X.o t));have r:=Aa (Bc HO.o (Ap X.o t));clear t p
   rcases m.o with⟨hf,_⟩|⟨j,V,hf,_⟩
   ·subst hf
    clear m;go_wp2_with fail;go_ret2;exact⟨f.o,.inr ⟨_,_,_,_,_,rfl⟩⟩
   subst hf;have ao:¬(j:Int)<0:=by omega
   have I:Hid (Ph w1 (Zs a k c) (ints ts)):=Aa (by have:=Ph.Fz (l:=ints ts) (v:=Zs a k c) (w:=w1) (base:=w.heap.size) (by rw[show (ints ts).length=k by simp[ints,L.o]];exact r.o);exact this)
   have G:=Aa (Nc (Zs a k c) (ints ts) (j:Int) w1 I.o (by simp[ints,L.o];unfold maxLen;omega));clear m;go_wp2_with fail;refine G.o.mono ?_;rintro e w2⟨rfl,rfl⟩;clear G I;cases hany:(ints ts).any λy=>(j:Int)==y with
   | true=>clear hany;go_wp2_with fail;go_ret2;exact⟨f.o,.inr ⟨_,_,_,_,_,rfl⟩⟩
   | false=>
     have ad:Hid (¬j∈ts):=Aa (λhm=>by have:=List.any_eq_false.1 hany (j:Int) (List.mem_map.2 ⟨j,hm,rfl⟩);simp at this)
     clear hany;have i:Hid (Zb w2 (w2.alloc (Zk #[Zi (j:Int)] 3))):=Aa (Zal);have al:=f.o.size;have ac:=Aa V;clear V
     go_wp2_with (first
      | (at_builtin;refine wpList_append_own _ rfl _ _ 28 rfl w.heap.size 3 i0 (Zi 0) 1 8 underlying28 o.o.1 o.o.2.1 o.o.2.2.1 o.o.2.2.2 rfl (by decide) (.slice a k c) k _ rfl (Bc r.o i.o) ⟨w2.heap.size,0,none⟩ 1 1 [Zi (j:Int)] rfl rfl (λj u V=>XN (heap_alloc_new _ _) j u V) (by intro u hu;simp at hu;subst hu;rfl) (by unfold maxLen;omega) (by omega) (XF al i.o.size) ?_
         intro v5 w5 h M _;have J:=Aa h;have ab:=Aa M;clear h M))
     obtain⟨a',c',rfl,_⟩:=Au J.o;have ah:=(Ap f.o i.o).grown ab.o (Ap f.o i.o).size (λq hq=>Fu r.o hq)
     go_roundw
     case rel=>
      refine⟨k+1,a',c',ts++[j],by omega,by simp,rfl,Aa ?_,Aa ?_,Aa ah⟩
      ·simpa[ints] using J.o
      rw[af.o];exact HT.o.snoc Y.o ac.o ad.o
     case measure=>simp only[Ev];omega
  have aj:¬(k:Int)<(A3.length:Int):=by omega
  have ai:k=A3.length:=by omega
  subst ai;have s:=HT.o;rw[Ye] at s;have ag:=Aa s;clear s;go_wp2;go_ret2;exact⟨U.o,.inl ⟨a,c,rfl,ts,HO.o,ag.o⟩⟩
def Ly(ts:List Nat)(a:List V)(t:Nat):Option V:=((ts.zip a).find? λp=>p.1==t).map (·.2)
def tU(f:Nat->Option V)(r:List V):List V:=r.mapIdx λt x=>(f t).getD x
theorem AD5:∀{ts:List Nat}{L:List V}{i t:Nat}{v:V},ts.Nodup->ts[i]? = some t->L[i]? = some v->Ly ts L t=some v
 | [],_,_,_,_,_,h,_=>by simp at h
 | _ :: _,[],_,_,_,_,_,h=>by simp at h
 | a :: ts,b :: L,0,t,v,_,h1,h2=>by simp at h1 h2;subst h1 h2;simp[Ly]
 | a :: ts,b :: L,i+1,t,v,hn,h1,h2=>by
   rw[List.nodup_cons] at hn;simp at h1 h2;have d:=AD5 hn.2 h1 h2;have c:¬a=t:=λe=>hn.1 (e ▸ XC h1)
   unfold Ly at d ⊢;simp[c,d]
theorem bI:∀{ts:List Nat}{L:List V}{t:Nat}{v:V},Ly ts L t=some v->∃i:Nat,ts[i]? = some t/\L[i]? = some v
 | [],_,_,_,h=>by simp[Ly] at h
 | _ :: _,[],_,_,h=>by simp[Ly] at h
 | a :: ts,b :: L,t,v,h=>by
   by_cases e:a=t
   ·subst e
    simp[Ly] at h;exact⟨0,rfl,by simp[h]⟩
   have:Ly ts L t=some v:=by unfold Ly at h ⊢;simpa[e] using h
   obtain⟨i,c,d⟩:=bI this;exact⟨i+1,by simpa using c,by simpa using d⟩
def oI(f:Nat->Option V)(r c:List V):Prop:=∀t,t<r.length->c[t]? = r[t]? \/ ∃v,f t=some v/\c[t]? = some v
def fQ(f:Nat->Option V)(r c:List V):Prop:=∀t,t<r.length->c[t]? = some ((f t).getD (r[t]?.getD zV))
theorem oI.refl(f:Nat->Option V)(r:List V):oI f r r:=λ_ _=>.inl rfl
theorem oI.set{f:Nat->Option V}{r c:List V}(h:oI f r c){t:Nat}{v:V}(a:f t=some v)(d:c.length=r.length):oI f r (c.set t v):=λs b=>by
 by_cases e:t=s
 ·subst e
  exact .inr ⟨v,a,by rw[Yi (by omega)]⟩
 rw[Yp e];exact h s b
theorem fQ.set{f:Nat->Option V}{r c:List V}(h:fQ f r c){t:Nat}{v:V}(a:f t=some v)(d:c.length=r.length):fQ f r (c.set t v):=λs b=>by
 by_cases e:t=s
 ·subst e
  rw[Yi (by omega),a];rfl
 rw[Yp e];exact h s b
theorem fQ.eq{f:Nat->Option V}(h:fQ f r c)(d:c.length=r.length):c=tU f r:=by
 apply List.ext_getElem?;intro t;unfold tU;rw[List.getElem?_mapIdx]
 rcases Yc t r.length with a|b
 ·rw[h t a,Y9 a]
  simp
 rw[Yb (by omega),Yb b];rfl
theorem oI.done{ts:List Nat}(h:oI (Ly ts L) r c)(f:∀(i t:Nat)v,ts[i]? = some t->L[i]? = some v->c[t]? = some v):fQ (Ly ts L) r c:=λt a=>by
 cases e:Ly ts L t with
 | some v=>obtain⟨i,b,d⟩:=bI e;rw[f i t v b d];rfl
 | none=>
   rcases h t a with q|⟨v,q,_⟩
   ·rw[q,Y9 a]
    rfl
   rw[e] at q;cases q
theorem Ku(k n:Int)(a:Tb):∀(l:List V)(t:Nat),t<l.length->(((E.A1 l).set (t*3) (Zi k)).set (t*3+1) (Zi n)).set (t*3+2) (Zt a)=E.A1 (l.set t (k,n,a))
 | [],t,h=>absurd h (Ym _)
 | c :: l,0,_=>rfl
 | c :: l,t+1,h=>by
   have d:=Ku k n a l t (by simpa using h);have e:∀(y:V)(z:List V),E.A1 (y :: z)=[Zi y.1,Zi y.2.1,Zt y.2.2]++E.A1 z:=λ_ _=>rfl
   rw[e,List.set_cons_succ,e,<-d];have b:(t+1)*3=t*3+3:=by omega
   rw[b];rfl
def vK(I:Nat)(w:World)(xs:List Value)(rs:List (List V))(f:Nat->Option V)(m k:Nat)(P:List V->Prop):Prop :=
 ∀(j:Nat)x r,xs[j]? = some x->rs[j]? = some r->∃c:List V,w.ownsRow I 56 3 x m (E.A1 c)/\c.length=m/\r.length=m/\oI f r c/\(j<k->fQ f r c)/\(j=k->P c)
def aL(w:World)(g i:Nat)(a b c:Value):World:=((w.setCell ⟨g,i,none⟩ a).setCell ⟨g,i+1,none⟩ b).setCell ⟨g,i+2,none⟩ c
theorem vR(w:Tw)(g i:Nat)(a b c:Tv):w.grownBy (aL w g i a b c) (some g):=Gp (Gp (Aq _ _ _ _) (Aq _ _ _ _)) (Aq _ _ _ _)
theorem AF9{base g m i:Nat}(h:w.ownsRow base 56 3 (Zs (some ⟨g,0,none⟩) m i) m (E.A1 c))(b:c.length=m){t:Nat}(d:t<m)(k n:Int)(a:Tb):(aL w g (t*3) (Zi k) (Zi n) (Zt a)).ownsRow base 56 3 (Zs (some ⟨g,0,none⟩) m i) m (E.A1 (c.set t (k,n,a))):=by rw[<-Ku k n a c t (by omega)];exact(((h.stored _ _).1.stored _ _).1.stored _ _).1
theorem vK.store{xs:List Tv}{rs:List (List V)}{f:Nat->Option V}{P P':List V->Prop}(h:vK I w xs rs f m k P){g n t:Nat}{z:Int}{s:Tb}(W:xs[k]? = some (Zs (some ⟨g,0,none⟩) m n))(U:t<m)(G:f t=some (y,z,s))(O:∀c,c.length=m->P c->P' (c.set t (y,z,s))):vK I (aL w g (t*3) (Zi y) (Zi z) (Zt s)) xs rs f m k P':=λj x r b T=>by
 obtain⟨c,i,l,u,v,D,N⟩:=h j x r b T
 by_cases e:x.ownBlock=some g
 ·obtain⟨a,Y,M,_⟩:=Au i
  subst M
  have L:a=some ⟨g,0,none⟩:=by
   rcases i.2 with⟨q,_⟩|⟨g',X,J,q,_⟩
   ·injection q with p _ _
    subst p;simp[Value.ownBlock] at e
   injection q with p _ _;subst p;simp[Value.ownBlock] at e;rw[e]
  subst L;exact⟨c.set t (y,z,s),AF9 i l U y z s,by rw[List.length_set];exact l,u,v.set G (by omega),λd=>(D d).set G (by omega),λd=>O c l (N d)⟩
 refine⟨c,Az i (vR _ _ _ _ _ _) (λq R o=>?_),l,u,v,D,λd=>?_⟩
 ·injection o with o
  exact e (by rw[R,o])
 subst d;rw[W] at b;injection b with b;subst b;exact absurd rfl e
theorem vK.next{xs:List Tv}{rs:List (List V)}{ts:List Nat}{P':List V->Prop}(h:vK I w xs rs (Ly ts L) m k (λc=>∀(i t:Nat)v,ts[i]? = some t->L[i]? = some v->c[t]? = some v))(n:∀c,P' c):vK I w xs rs (Ly ts L) m (k+1) P':=λj x r hj hr=>by
 obtain⟨c,d,e,f,b,g,l⟩:=h j x r hj hr;refine⟨c,d,e,f,b,λp=>?_,λ_=>n c⟩
 rcases Yc j k with a|o
 ·exact g a
 exact b.done (l (by omega))
theorem vK.imp{xs:List Tv}{rs:List (List V)}{f:Nat->Option V}{P P':List V->Prop}(h:vK I w xs rs f m k P)(l:∀c,P c->P' c):vK I w xs rs f m k P':=λj x r n p=>by
 obtain⟨c,a,b,d,e,g,i⟩:=h j x r n p;exact⟨c,a,b,d,e,g,λo=>l c (i o)⟩
theorem vK.rows{I B:Nat}{xs:List Tv}{rs:List (List V)}{f:Nat->Option V}{P:List V->Prop}(h:vK I w xs rs f m rs.length P)(i:xs.length=rs.length)(k:w.ownsRow B 51 1 v rs.length xs):Sc B w v (rs.map (tU f)):=by
 refine⟨xs,by simp[i],by rw[XA];exact k,λj x r l a=>?_⟩;rw[XJ] at a;cases hrj:rs[j]? with
 | none=>rw[hrj] at a;cases a
 | some q=>rw[hrj] at a;simp at a;obtain⟨c,b,d,n,o,g,p⟩:=h j x q l hrj;have e:=(g (Ax hrj)).eq (by omega);rw[<-a,<-e,d];exact E.Ai b (XB _)
theorem uI(h:Good Bv Cm s):∀c∈s.cols,Nz (bP c):=λc b=>by
 rcases h.cols with e|e
 ·rw[e] at b;cases b
 have d:=(e.2.2.1 c b).1.2.2.2;simp only[Cm,XM] at d;have a:=d.1;unfold A9 at a;unfold Nz bP;split at a
 ·rename_i h;exact .inl h
 split at a
 ·rename_i h;exact .inr (.inl h)
 split at a
 ·rename_i h;exact .inr (.inr h)
 cases a
def AIX(D:DataW Unit)(s:Ah)(xs:List A6)(T:S.CT)(a:DataW Unit)(b:Bool)(A:List A5)(rows:Int):Prop :=
 s.cols≠[]/\Ex s.cols T=0/\a=D/\b=true/\A=xs.flatMap (Vm s.cols T)/\rows=(Bo s.cols T xs).1.length
def AIV(s:Ah)(T:S.CT):Prop:=s.cols=[]\/Ex s.cols T≠0
theorem Lo(w0:Tw)(V bb n:Nat)(D:Td)(fs:List Int)(mv I:Tv)(H:List (Dn×Ah))(U:List Tb)(k:Tb)(O:Tv)(T:S.CT)(xs:List A6)(w:Tw)(h:iK w0 w V bb n D fs mv I H U k)(J:C7 D (Ae H H.length) xs)(P:S.Gy w T O):
 Zc 39 #[Zp (some ⟨bb,0,none⟩),Zt k,O] w (Kd w0 w V bb n D mv H k (AIV (Ae H H.length) T) (AIX D (Ae H H.length) xs T)):=by
 have o:=Aa h;have d:=Aa (Wo bb n D mv H k xs T O w h.base.ground (h.et.below h.base.low) (h.Pw.below h.base.low) h.inv.Lm h.inv.past h.O5 h.name h.short J.Lz P)
 have m:=Aa (λ(z:Nat)(p:To)(n1 c1:Nat)(G:Int)(q:To)(n2 r:Nat)(rows:Int)(Y:Tv)W(L:Zb w W)(f:Ex (Ae H H.length).cols T=0)(u:Dv w.heap.size W z (Ae H H.length) (H.length:Int) p n1 c1 G q n2 r k true none 0 [] rows)(s:Fp w.heap.size w.heap.size W Y (Bo (Ae H H.length).cols T xs).1)=>mL w.heap.size bb n D mv z (Ae H H.length) (H.length:Int) p n1 c1 G q n2 r k true none 0 [] rows w.heap.size Y T xs W (h.base.ground.up L) ((h.et.below h.base.low).below L) ((h.Pw.below h.base.low).below L) u L.size J.Lz h.Of s.AJP (all_filter _ T (uI h.Of) P.ok f xs J.Lz.each).1 (XB _))
 clear h J P;unfold tK at d;generalize y:Ae H H.length=sn at *;have N:=Aa y;clear y;go_enter func39,ntmps39;go_wp2_with fail;refine d.o.mono ?_;rintro e w1⟨b,⟨f,rfl⟩|⟨f,j,rfl⟩|⟨f,R,z,v1,p,n1,c1,G,q,n2,r,rfl,u,s⟩⟩
 ·have g:=Aa b
  have M:=Aa f;clear f b d;go_wp2_with fail;go_ret2;exact⟨n,D,fs,mv,I,o.o.base.up g.o,by omega,B.A0.Ba g.o,λ_ e=>.inl e,.refl,.inr ⟨.inl M.o,_,_,rfl⟩⟩
 ·have g:=Aa b
  have M:=Aa j;rw[Et j];clear f b j d;go_wp2_with fail;go_ret2;exact⟨n,D,fs,mv,I,o.o.base.up g.o,by omega,B.A0.Ba g.o,λ_ e=>.inl e,.refl,.inr ⟨.inr M.o,_,_,rfl⟩⟩
 have l:=Aa b;have g:=Aa (And.intro f R);have HP:=Aa u;have i:=Aa (m.o z p n1 c1 G q n2 r _ v1 w1 b R u s)
 obtain⟨fa,fc,rfl,_⟩:∃a c,v1=Zs a (Bo sn.cols T xs).1.length c/\(Bo sn.cols T xs).1.length<=c:=by obtain⟨zs,_,e2,_⟩:=s;exact Au e2
 clear b f R u s d m;go_wp2_with fail;refine i.o.mono ?_;rintro e w2⟨rfl,⟨aa,ac,Lq,v,t⟩,x⟩;have H2:=Aa (And.intro v (And.intro t x));clear v t x i;go_wp2_with fail;go_ret2;have X:=(Mv.below (base:=w.heap.size) (bb:=bb) (mv:=mv) l.o).trans (Mv.ACV H2.o.2.2);refine⟨n,D,fs,mv,I,Kv (o.o.base.up l.o) o.o.nf o.o.base.low.size H2.o.2.2,by omega,X.o (Y' _),X.link,.refl,.inl ⟨z,Lq,true,_,p,n1,c1,G,q,n2,r,aa,ac,rfl,by rw[N.o];exact H2.o.1,g.o.1,g.o.2,rfl,rfl,H2.o.2.1,rfl⟩⟩
theorem iD(path:Tb)(mask:List Int)(l:List Aj)(T:S.CT):∀(rs:List (List V))(p:Int),∀z∈Jw path mask l T p rs,z.2.2∈rs
 | [],_,z,a=>by cases a
 | r :: rs,p,z,a=>by
   simp only[Jw] at a;split at a
   ·rcases List.mem_cons.1 a with rfl|a
    ·exact Yf ..
    exact Yg _ (iD path mask l T rs _ z a)
   exact Yg _ (iD path mask l T rs _ z a)
theorem ADa{x:A6}{z:Px}(a:z∈E4 l x):z.2.2.length=l.length:=by obtain⟨q,_,e⟩:=List.mem_map.1 (iD _ _ _ _ _ _ z a);rw[<-e,XA]
theorem AC5{s t:Ah}(h:pQ Bx Bv Cm s a t)(d:Fh a)(b:∀c∈s.cols,Ib c):∀c∈t.cols,Ib c:=by
 rcases h with⟨_,_,rfl⟩|⟨_,_,rfl⟩|⟨_,_,rfl⟩|⟨_,_,rfl⟩
 ·exact b
 ·exact b
 ·exact b
 exact d.cols
theorem kL:∀{l:List A5}{s t:Ah},Il Bx Bv Cm s l t->(∀a∈l,Fh a)->(∀c∈s.cols,Ib c)->∀c∈t.cols,Ib c
 | [],_,_,h,_,hs=>by simp only[Il] at h;subst h;exact hs
 | a :: l,s,t,⟨u,h1,h2⟩,hl,hs=>kL h2 (λb d=>hl b (Yg _ d)) (AC5 h1 (hl a (Yf ..)) hs)
theorem gH:∀{s:Ah}{H:List (Dn×Ah)},Xv s H->(∀c∈s.cols,Ib c)->∀k,k<=H.length->∀c∈(Ic s (H.take k)).cols,Ib c
 | _,_,_,hs,0,_=>by simpa[Ic] using hs
 | _,x :: l,h,hs,k+1,hk=>by have:=gH (s:=x.2) (H:=l) h.2.2 (kL h.1.2 h.2.1.lines hs) k (by simpa using hk);simpa[Ic] using this
theorem Mq(h:La H)(b:k<=H.length):∀c∈(Ae H k).cols,Ib c:=gH h (λc a=>by cases a) k b
theorem AFe{c:Aj}{v:V}(h:Lx c v=true):v.2.2.size<=40:=by unfold Lx Cm at h;simp only[XM] at h;exact Go.Proofs.YtbhhpheailbebaaGreatDoor.gA (k:=v.1) (n:=v.2.1) h.1
theorem AIe{L:List Aj}(d:∀v∈r,Ks v)(f:r.length=L.length)(b:∀c∈l,Ks (bP c)):∀v∈l.map (pick (By L) r),Ks v:=λv e=>by
 obtain⟨c,a,rfl⟩:=List.mem_map.1 e;rw[eV];unfold pick
 by_cases hp:pos L c.1<L.length
 ·rw[if_pos hp,Y9 (by omega)]
  exact d _ (Yh _)
 rw[if_neg hp];exact b c a
theorem No{xs:List A6}(m:C7 D s xs)(t:Good Bv Cm s)(r:∀c∈s.cols,Ib c):∀z∈(Bo s.cols .nil xs).1,∀v∈z.2.2,Ks v/\v.2.2.size<=40:=λz p v i=>by
 rw[H9] at p;obtain⟨x,o,k⟩:=List.mem_flatMap.1 p;have d:=m.Lz.each x o;obtain⟨q,g,e⟩:=List.mem_map.1 (iD _ _ _ _ _ _ z k);have a:=kA (m.link x o) ((B4.mp d.ok).2.2.2 q g) (sM t);have h:=(O7.mp ((B4.mp d.ok).2.2.2 q g)).1;rw[<-e] at i;refine⟨AIe (d.i64 q g) h (λc b=>(r c b).num) v i,?_⟩;obtain⟨j,n,rfl⟩:=List.mem_iff_getElem.mp i;have f:j<s.cols.length:=by simpa using n
 have l:=((O7.mp a).2 j f).1;rw[Y9 n] at l;exact AFe l
def VB(w:World)(base i:Nat):Prop:=base<=i/\∃cs,w.heap[i]? = some (.cells cs 56 (0,0))
theorem AFV{base:Nat}{a b c:Tw}(h:B.A0 (VB a base) a b)(k:B.A0 (VB b base) b c):B.A0 (VB a base) a c :=
 h.trans k λi g e=>by
  by_cases hs:VB a base i
  ·exact hs
  obtain⟨d,cs,f⟩:=e;exact⟨d,cs,(h.block i g hs).symm.trans f⟩
theorem Mf{base b z m:Nat}{T:TypeId}{xs:List Tv}(h:w.ownsRow b T z v m xs)(l:B.A0 (VB w base) w W)(k:T≠56):W.ownsRow b T z v m xs:=by
 refine⟨h.1,?_⟩
 rcases h.2 with j|⟨g,c,a,n,d,f,i⟩
 ·exact .inl j
 refine .inr ⟨g,c,a,n,d,(l.block g (Ac f) ?_).trans f,i⟩;rintro⟨_,cs,e⟩;rw[f] at e;injection e with e;injection e with _ e;exact k e
theorem uH{base:Nat}(d:B.A0 (VB w base) w W){w0:Tw}(b:Below base w0 w)(a:base<=w.heap.size):Below base w0 W:=d.below b a λ_ c=>c.1
theorem AHn{w0 w W:Tw}{k base bb n:Nat}{fs:List Int}{mv v:Tv}(h:Ey w0 w k bb n D fs mv v)(R:k<=base)(O:w0.heap.size<=base)(o:B.A0 (VB w base) w W):Ey w0 W k bb n D fs mv v:=by
 obtain⟨p,c,J⟩:=h.bu
 have r:¬VB w base bb:=by rintro⟨_,cs,b⟩;have q:w.heap[bb]? = _:=p;rw[q] at b;injection b with b;injection b with _ b;exact absurd b (by decide)
 refine⟨⟨p.keep (o.block bb p.lt r),c.keep λm e=>o.block m (c.lt e) ?_,?_⟩,o.below h.low h.low.size (λi hi=>XF O hi.1),h.hb,h.hm,h.er,h.nc,h.tb,h.hf⟩
 ·rintro⟨_,cs,b⟩
  rcases c with⟨I,_⟩|⟨T,z,es,clock,s,_⟩
  ·rw[I] at e;cases e
  rw[z] at e;cases e;rw[s] at b;cases b
 obtain⟨a,j,e,L,M⟩:=J;refine⟨a,j,e,L,λu=>?_⟩;obtain⟨g,off,t,d⟩:=M u;refine⟨g,off,t,λi x P=>?_⟩
 have N:g<k:=by
  cases hfs:fs with
  | nil=>exact absurd hfs u
  | cons y l=>refine h.hf g off l.length j ?_;rw[e,t,hfs];rfl
 have f:=d i x P;have G:=o.block g (Fv f) (λe=>by have:=e.1;omega);simp only[World.cell?,G] at f ⊢;exact f
theorem AH1{base b:Nat}{v:Int}{d:To}{n1 c1:Nat}{f:To}{n2 k:Nat}{t:Tb}{l:Bool}{g:To}{L:List Gx}{rows:Int}(h:Dv base w n s v d n1 c1 y f n2 k t l g i L rows)(a:B.A0 (VB w b) w W):Dv base W n s v d n1 c1 y f n2 k t l g i L rows:=by
 refine⟨(a.block n (Ac h.box) ?_).trans h.box,?_,Mf h.row a (by decide),λq j=>⟨Mf (h.own q j).1 a (by decide),Mf (h.own q j).2 a (by decide)⟩,h.Vv,h.low⟩
 ·rintro⟨_,cs,e⟩
  rw[h.box] at e;injection e with e;injection e with _ e;exact absurd e (by decide)
 obtain⟨o,r,p,u,m,e,c⟩:=h.snap;exact⟨o,r,p,u,m,e,Mf c.cols a (by decide),c.files,Mf c.row a (by decide),λx z=>Mf (c.Cl x z) a (by decide)⟩
theorem AJc{B0 b:Nat}{rs:List Px}(h:jE B0 w v rs)(e:B.A0 (VB w b) w W):jE B0 W v rs:=by obtain⟨zs,a,c,d⟩:=h;exact⟨zs,a,Mf c e (by decide),d⟩
theorem AIy{B0 base bb n:Nat}{fs:List Int}{mv u f:Tv}{rs:List Px}(h:jE B0 w v rs)(e:Mv base bb mv f w W)(d:B.Bu w bb n D fs mv u):jE B0 W v rs:=by obtain⟨zs,a,b,c⟩:=h;exact⟨zs,a,e.row d b (by decide) (by decide) (by decide),c⟩
theorem ABg{f:Nat->Option V}{v:V}(h:v∈tU f r):v∈r\/∃t,f t=some v:=by
 unfold tU at h;rw[List.mem_mapIdx] at h;obtain⟨i,a,e⟩:=h;cases hf:f i with
 | none=>rw[hf] at e;simp at e;left;rw[<-e];exact Yh _
 | some x=>rw[hf] at e;simp at e;exact .inr ⟨i,by rw[hf,e]⟩
def AIS(D:DataW Unit)(s:Ah)(xs:List A6)(b:ByteArray)(T:S.CT)(A3:List Vi)(a:DataW Unit)(c:Bool)(A:List A5)(rows:Int):Prop :=
 s.cols≠[]/\Ex s.cols T=0/\c=true/\rows=(Bo s.cols T xs).1.length/\∃ts,Tgt s.cols A3 ts /\
  (((Bo s.cols T xs).1=[]/\a=D/\A=[]) \/
   ((Bo s.cols T xs).1≠[]/\∃R,R=(Bo s.cols T xs).1.map (λz=>tU (Ly ts (A3.map (·.2))) z.2.2)/\De s.cols R=true/\a=D.put (B.lit (Eh (Bw b 0))) (Pa s.cols R)/\A=(1,Bw b 0,(R.length:Int),[],[],0) :: xs.flatMap (Vm s.cols T)))
theorem xQ(w0:Tw)(NF bb n:Nat)(D:Td)(fs:List Int)(mv fv:Tv)(H:List (Dn×Ah))(U:List Tb)(tx:Tb)(cv:Tv)(T:S.CT)(xs:List A6)(sa:To)(sc:Nat)(A3:List Vi)(w:Tw)(h:iK w0 w NF bb n D fs mv fv H U tx)(hT:C7 D (Ae H H.length) xs)(hi:S.Gy w T cv)(hS:F7 4 Wu w (Zs sa A3.length sc) A3)(c7:A3.length<=100)(b4:∀s∈A3,s.2.2.2.size<=maxLen/\Lu s.2.2.1):
 Zc 40 #[Zp (some ⟨bb,0,none⟩),Zt tx,cv,Zs sa A3.length sc] w (Kd w0 w NF bb n D mv H tx True (AIS D (Ae H H.length) xs tx T A3)):=by
 have m:=Aa h;have bh:=Aa hT;have dd:=Aa hi;have aa:=Aa (Wo bb n D mv H tx xs T cv w h.base.ground (h.et.below h.base.low) (h.Pw.below h.base.low) h.inv.Lm h.inv.past h.O5 h.name h.short hT.Lz hi);have h8:=M9 h.Of;have bf:=Aa (λg cp W(hW:Zb w W)(hs:I1 W g 0 (Ae H H.length).cols)=>uA g cp (Ae H H.length).cols sa sc A3 W hs h8 (hS.up hW) c7);have cj:=Aa b4;have ci:=Aa hS;have a7:=Aa (L0 (Ae H H.length).cols T xs hT.Lz.each);have di:=hT.Lz.Iz;have av:=Aa (λ(l:Ex (Ae H H.length).cols T=0)=>(all_filter _ T (uI h.Of) hi.ok l xs hT.Lz.each).1);have a6:=Aa h.Of;have cb:=Aa (No hT h.Of (Mq h.inv.past (Y' _)));clear h hT hi hS b4;unfold tK at aa;go_enter func40,ntmps40;go_wp2_with fail;refine aa.o.mono ?_;rintro e w1⟨L,⟨l,rfl⟩|⟨l,bz,rfl⟩|⟨l,hz,pb,v1,a1,n1,c1,x2,a2,n2,c2,rfl,hP,hF⟩⟩
 ·have M:=Aa L
  clear l L aa;go_wp2_with fail;go_ret2;exact⟨n,D,fs,mv,fv,m.o.base.up M.o,by omega,B.A0.Ba M.o,λ_ e=>.inl e,.refl,.inr ⟨trivial,_,_,rfl⟩⟩
 ·have M:=Aa L
  rw[Et bz];clear l L bz aa;go_wp2_with fail;go_ret2;exact⟨n,D,fs,mv,fv,m.o.base.up M.o,by omega,B.A0.Ba M.o,λ_ e=>.inl e,.refl,.inr ⟨trivial,_,_,rfl⟩⟩
 have a4:=Aa L;have M:=Aa (And.intro l hz);have HP:=Aa hP;have HF:=Aa hF
 obtain⟨fa,fc,rfl,_⟩:∃a c,v1=Zs a (Bo (Ae H H.length).cols T xs).1.length c/\(Bo (Ae H H.length).cols T xs).1.length<=c:=by obtain⟨zs,_,e2,_⟩:=hF;exact Au e2
 obtain⟨g,ga,am⟩:∃g,a1=some ⟨g,0,none⟩/\n1=(Ae H H.length).cols.length/\I1 w1 g 0 (Ae H H.length).cols:=by
  obtain⟨b1,d1,b2,d2,Ls,ev,hV⟩:=hP.snap;unfold K4 at ev;simp only[Value.agg.injEq,Array.mk.injEq,List.cons.injEq,Value.int.injEq,Value.slice.injEq] at ev;obtain⟨-,⟨e1,e2,e3⟩,-⟩:=ev
  rcases hV.cols.2 with⟨_,h0⟩|⟨g,ak,al,ev,_⟩
  ·exact absurd (List.length_eq_zero_iff.1 h0) l
  injection ev with ac _ dg;subst ac;exact⟨g,e1,e2,I1.Fz hV.cols rfl⟩
 obtain⟨ct,am⟩:=am;subst ga ct;have ab:=Aa (bf.o g c1 w1 L am);obtain⟨y0,y1,y2,y3,y4,y5,y6,y7,yf⟩:=F2 hP.box;clear L l hz hP hF aa bf am;generalize b3:Ae H H.length=d at *;have ax:=Aa b3;clear b3;go_wp2_with fail;refine ab.o.mono ?_;rintro e w2⟨X,⟨ta,tc,ts,rfl,b7,b5⟩|⟨ta,tn,tc,T',y,rfl⟩⟩
 rotate_left
 ·have O:=Aa (Ap a4.o X)
  clear X ab y0 y1 y2 y3 y4 y5 y6 y7 yf;go_wp2_with fail;go_ret2;exact⟨n,D,fs,mv,fv,m.o.base.up O.o,by omega,B.A0.Ba O.o,λ_ e=>.inl e,.refl,.inr ⟨trivial,_,_,rfl⟩⟩
 have O:=Aa (Ap a4.o X);have an:=Aa b7;have f:=Aa b5;have aw:=Aa (HP.o.up X);have au:=Aa (HF.o.up X);clear X b7 b5 ab y0 y1 y2 y3 y4 y5 y6 y7 yf HP HF
 by_cases hem:(Bo d.cols T xs).1.length=0
 ·have ar:Hid ((Bo d.cols T xs).1=[]):=Aa (List.length_eq_zero_iff.1 hem)
  have cy:(((Bo d.cols T xs).1.length:Nat):Int)=0:=by omega
  clear hem;go_wp2_with fail;go_ret2;exact⟨n,D,fs,mv,fv,m.o.base.up O.o,by omega,B.A0.Ba O.o,λ_ e=>.inl e,.refl,.inl ⟨pb,[],true,_,_,_,c1,x2,a2,n2,c2,none,0,rfl,by rw[ax.o];exact aw.o,M.o.1,M.o.2,rfl,rfl,ts,f.o,.inl ⟨ar.o,rfl,rfl⟩⟩⟩
 have ar:Hid ((Bo d.cols T xs).1≠[]):=Aa (λe=>hem (by rw[e];rfl));have cy:¬(((Bo d.cols T xs).1.length:Nat):Int)=0:=by omega
 have bm:=Aa (X7 _ _ _ _ w2 au.o (by have:=a7.o.2;omega));clear hem;go_wp2_with fail;refine bm.o.mono ?_;rintro e w3⟨v3,rfl,cx,af⟩;obtain⟨us,u1,u2,u3⟩:=cx;obtain⟨ra,rc,rfl,_⟩:=Au u2;have Y:=Aa (Ap O.o af);have bj:=Aa u1;have bk:=Aa u2;have cm:=Aa u3;have cf:=Aa (aw.o.up af);have b9:=Aa (au.o.up af);have ck:=Aa (Bc an.o af);clear af u1 u2 u3 bm aw au an
 have aq:Hid (∀r∈(Bo d.cols T xs).1.map (·.2.2),r.length=d.cols.length):=Aa (λr p=>by obtain⟨z,hz,rfl⟩:=List.mem_map.1 p;rw[av.o M.o.2,H9] at hz;obtain⟨x,_,hz⟩:=List.mem_flatMap.1 (List.mem_filter.1 hz).1;exact ADa hz)
 have G:Hid (((Bo d.cols T xs).1.map (·.2.2)).length=(Bo d.cols T xs).1.length):=Aa (XA ..);have df:Hid ((A3.map (·.2)).length=A3.length):=Aa (XA ..);have a9:Hid (vK w.heap.size w3 us ((Bo d.cols T xs).1.map (·.2.2)) (Ly ts (A3.map (·.2))) d.cols.length 0 (λ_=>True)):=Aa λj x r hx p=>⟨r,by rw[<-aq.o r (XC p)];exact cm.o j x r hx p,aq.o r (XC p),aq.o r (XC p),oI.refl _ _,(λh=>absurd h (Ym _)),λ_=>trivial⟩
 have c4:(Bo d.cols T xs).1.length<=100000:=by have:=a7.o.2;omega
 go_wp2_with fail
 go_loopw [53] (λvi wr=>∃k:Nat,k<=(Bo d.cols T xs).1.length/\vi=Zi (k:Int)/\Hid (vK w.heap.size wr us ((Bo d.cols T xs).1.map (·.2.2)) (Ly ts (A3.map (·.2))) d.cols.length k (λ_=>True))/\Hid (B.A0 (VB w3 w.heap.size) w3 wr)) (λvi _=>(Bo d.cols T xs).1.length-Ev vi)
 case atStart=>exact⟨0,XB _,rfl,a9,Aa (B.A0.refl _ _)⟩
 case round=>
  clear a9;obtain⟨k,hk,rfl,HR,P⟩:=hrel
  rcases Yc k (Bo d.cols T xs).1.length with bv|dl
  ·obtain⟨u,hu⟩:∃u,us[k]? = some u:=⟨_,Y9 (by have:=bj.o;rw[G.o] at this;omega)⟩
   obtain⟨r,p⟩:∃r,((Bo d.cols T xs).1.map (·.2.2))[k]? = some r:=⟨_,Y9 (by rw[G.o];exact bv)⟩;obtain⟨c0,q1,q2,_⟩:=HR.o k u r hu p;have dk:0<d.cols.length:=List.length_pos_iff.2 M.o.1
   obtain⟨g,ak,eu,bq⟩:∃g ak,u=Zs (some ⟨g,0,none⟩) d.cols.length ak/\w.heap.size<=g:=by
    rcases Di q1 with⟨_,e⟩|⟨g,c,e,hb,_⟩
    ·omega
    exact⟨g,c,e,hb⟩
   subst eu;have N:=Mf bk.o P.o (by decide);rw[G.o] at N
   obtain⟨rb,cu,dp,c6⟩:∃rb,ra=some ⟨rb,0,none⟩/\rb<wr.heap.size/\wr.cell? ⟨rb,k,none⟩=some (Zs (some ⟨g,0,none⟩) d.cols.length ak):=by
    rcases N.2 with⟨_,h0⟩|⟨rb,cp,al,ev,_,hh,_,_,_⟩
    ·omega
    injection ev with ac _ _;subst ac;have l:=N.cells (g:=rb) rfl;simp only[E.addr_add] at l;have:=l k _ hu;exact⟨rb,rfl,E.Ac hh,by simpa using this⟩
   subst cu;have c3:(k:Int)<((Bo d.cols T xs).1.length:Int):=by omega
   have bl:=Aa hu;have cd:=Aa bq;have c8:d.cols.length<=8:=h8;clear N q1 q2 p hu bq;have ba:Hid (vK w.heap.size wr us ((Bo d.cols T xs).1.map (·.2.2)) (Ly ts (A3.map (·.2))) d.cols.length k (λc=>∀(i t:Nat)v,i<0->ts[i]? = some t->(A3.map (·.2))[i]? = some v->c[t]? = some v)):=Aa (HR.o.imp λc _ i t v h=>absurd h (Ym _));go_wp2_with fail
   go_loopw [59] (λvi wi=>∃i:Nat,i<=A3.length/\vi=Zi (i:Int)/\Hid (vK w.heap.size wi us ((Bo d.cols T xs).1.map (·.2.2)) (Ly ts (A3.map (·.2))) d.cols.length k (λc=>∀(j t:Nat)v,j<i->ts[j]? = some t->(A3.map (·.2))[j]? = some v->c[t]? = some v))/\Hid (B.A0 (VB w3 w.heap.size) w3 wi)) (λvi _=>A3.length-Ev vi)
   case atStart=>exact⟨0,XB _,rfl,ba,P⟩
   case round=>
    clear ba HR P c6;rename_i wr0;obtain⟨i,dm,rfl,HR,P⟩:=hrel
    rcases Yc i A3.length with ao|c9
    ·obtain⟨x,hx⟩:∃x,A3[i]? = some x:=⟨_,Y9 ao⟩
     obtain⟨t,ht⟩:∃t,ts[i]? = some t:=⟨_,Y9 (by rw[f.o.len];exact ao)⟩;obtain⟨_,b6⟩:=f.o.find i t x ht hx;have ad:=uH P.o Y.o Y.o.size;obtain⟨b,off,cc,ev,_,dj,o⟩:=(ci.o.up ad).cons (by omega);injection ev with e1 _ e3;subst e1 e3;obtain⟨nm,vk,vn,vt⟩:=x;have s1:=o i _ hx 1 _ rfl;have s2:=o i _ hx 2 _ rfl;have s3:=o i _ hx 3 _ rfl;have a0:=Mf ck.o P.o (by decide)
     obtain⟨tb,cw,dq,dr⟩:∃tb,ta=some ⟨tb,0,none⟩/\tb<wr.heap.size/\wr.cell? ⟨tb,i,none⟩=some (Zi (t:Int)):=by
      rcases a0.2 with⟨_,h0⟩|⟨tb,cp,al,ev,_,hh,_,_,_⟩
      ·omega
      injection ev with ac _ _;subst ac;have l:=a0.cells (g:=tb) rfl;simp only[E.addr_add] at l;have:=l i (Zi (t:Int)) (by simp[ints,ht]);exact⟨tb,rfl,E.Ac hh,by simpa using this⟩
     subst cw;obtain⟨r,p⟩:∃r,((Bo d.cols T xs).1.map (·.2.2))[k]? = some r:=⟨_,Y9 (by rw[G.o];exact bv)⟩;obtain⟨c0,q1,q2,_⟩:=HR.o k _ r bl.o p;have cz:(E.A1 c0).length=d.cols.length*3:=by rw[E.K3,q2]
     obtain⟨z0,dt⟩:∃z,wr.cell? ⟨g,t*3,none⟩=some z:=by rw[q1.cellAt (t*3) (by omega)];exact⟨_,Y9 (by omega)⟩
     obtain⟨z1,du⟩:∃z,wr.cell? ⟨g,t*3+1,none⟩=some z:=by rw[q1.cellAt (t*3+1) (by omega)];exact⟨_,Y9 (by omega)⟩
     obtain⟨z2,dv⟩:∃z,wr.cell? ⟨g,t*3+2,none⟩=some z:=by rw[q1.cellAt (t*3+2) (by omega)];exact⟨_,Y9 (by omega)⟩
     have f0:=q1.frozenAt (t*3);have f1:=q1.frozenAt (t*3+1);have f2:=q1.frozenAt (t*3+2)
     have ay:Hid (VB wr w.heap.size g):=Aa (by obtain⟨al,l⟩:=Go.Proofs.YtbhhpheailbebaaGreatDoor.Ho q1 (k:=g) rfl;exact⟨cd.o,al,l⟩)
     have bi:Hid (Ly ts (A3.map (·.2)) t=some (vk,vn,vt)):=Aa (AD5 f.o.once ht (by simp[hx]));have cl:=Aa ht;have bt:(i:Int)<(A3.length:Int):=by omega
     have ds:(t:Int)<(d.cols.length:Int):=by omega
     have dc:(0:Int)<=(t:Int):=by omega
     have db:(0:Int)<=(i:Int):=by omega
     have bg:=Aa b6;clear o a0 hx ht b6 p q1 q2 cz ad;go_wp2;refine⟨⟨i+1,by omega,by simp,Aa (HR.o.store bl.o bg.o bi.o λc l hP j t' v' hj h1 h2=>?_),Aa (AFV P.o ((((B.A0.refl _ _).setCell (λ_=>ay.o) _).setCell (λ_=>ay.o) _).setCell (λ_=>ay.o) _))⟩,by simp only[Ev];omega⟩;have b8:=AD5 f.o.once h1 h2
     by_cases e:t=t'
     ·subst e
      rw[bi.o] at b8;rw[Yi (by rw[l];exact bg.o)];exact b8
     rw[Yp e];refine hP j t' v' ?_ h1 h2
     rcases Yc j i with bw|da
     ·exact bw
     have:j=i:=by omega
     subst this;rw[cl.o] at h1;injection h1 with h1;exact absurd h1 e
    have bt:¬(i:Int)<(A3.length:Int):=by omega
    have br:i=A3.length:=by omega
    have bc:=Aa ((HR.o.imp (P':=λc=>∀(j t:Nat)v,ts[j]? = some t->(A3.map (·.2))[j]? = some v->c[t]? = some v) λc l j t v h1 h2=>l j t v (by rw[br,<-f.o.len];exact Ax h1) h1 h2).next (P':=λ_=>True) λ_=>trivial);clear br;go_wp2
    go_roundw
    case rel=>exact⟨k+1,by omega,by simp,bc,P⟩
    case measure=>simp only[Ev];omega
  have c3:¬(k:Int)<((Bo d.cols T xs).1.length:Int):=by omega
  have bs:k=(Bo d.cols T xs).1.length:=by omega
  have bd:Hid (Sc w2.heap.size wr (Zs ra ((Bo d.cols T xs).1.map (·.2.2)).length rc) (((Bo d.cols T xs).1.map (·.2.2)).map (tU (Ly ts (A3.map (·.2)))))):=Aa (vK.rows (by rw[G.o,<-bs];exact HR.o) bj.o (Mf bk.o P.o (by decide)));have ad:=uH P.o Y.o Y.o.size;have ah:=Aa ad;have a5:=Aa (AHn (m.o.base.up Y.o) m.o.nf m.o.base.low.size P.o);have cg:=Aa (AH1 cf.o P.o);have ca:=Aa (AJc b9.o.AJP P.o);obtain⟨R,ae⟩:∃R,((Bo d.cols T xs).1.map (·.2.2)).map (tU (Ly ts (A3.map (·.2))))=R:=⟨_,rfl⟩;rw[ae,G.o] at bd;have ch:=Aa ae;have J:R.length=(Bo d.cols T xs).1.length:=by rw[<-ae,XA,G.o]
  have bc:=Aa J
  have ag:∀r∈R,∀v∈r,Ks v/\v.2.2.size<=maxLen:=λr p v hv=>by
   rw[<-ae] at p;obtain⟨q,hq,rfl⟩:=List.mem_map.1 p;obtain⟨z,hz,rfl⟩:=List.mem_map.1 hq
   rcases ABg hv with h|⟨t,h⟩
   ·rw[av.o M.o.2] at hz
    have:=cb.o z (List.mem_filter.1 hz).1 v h;exact⟨this.1,by have:=this.2;unfold maxLen;omega⟩
   obtain⟨i,_,h2⟩:=bI h;rw[XJ] at h2;cases hs:A3[i]? with
   | none=>rw[hs] at h2;cases h2
   | some x=>rw[hs] at h2;simp at h2;have:=cj.o x (XC hs);rw[h2] at this;exact⟨this.2,this.1⟩
  have aj:=Aa (bK w0 NF w.heap.size bb n D fs mv fv pb d (H.length:Int) _ _ c1 x2 a2 n2 c2 tx true none 0 [] _ _ R wr a5.o m.o.nf m.o.base.low.size (by have:=m.o.Iz;omega) m.o.inv.Lm.1 cg.o ah.o.size a6.o m.o.et bd.o.slr (by rw[J];exact c4) (λr p v hv=>(ag r p v hv).2) (λr p v hv=>(ag r p v hv).1) m.o.short (XB _) (m.o.free 0));unfold AIr at aj;clear bs ad ag ae J;go_wp2_with fail;refine aj.o.mono ?_;rintro e w5⟨n5,D5,dh,a3,bn,I,dn,V,⟨rfl,hm,hf,rfl,rfl,co,cr,az⟩|⟨T5,x5,rfl,rfl,c5⟩⟩
  ·have ai:=Aa ((Mv.below (base:=w.heap.size) ah.o).trans V)
   have ap:=Aa I;have de:=Aa az;have ce:=Aa hm;have cn:=Aa (XF ah.o.size V.only.size);have a8:=Aa (mL w.heap.size bb n5 _ a3 pb d (H.length:Int) _ _ c1 x2 a2 n2 c2 tx true co cr _ _ _ _ T xs w5 I.ground (m.o.et.below I.low) (m.o.Pw.below I.low) az cn.o (by rw[<-ax.o] at bh ⊢;exact bh.o.Lz.put (m.o.free 0) _) a6.o (AIy ca.o V a5.o.bu) (av.o M.o.2) (by simp));clear I V hm hf az aj;go_wp2_with fail;refine a8.o.mono ?_;rintro e w6⟨rfl,⟨cq,cs,Lq,bp,bo⟩,b0⟩;have H6:=Aa (And.intro bp (And.intro bo b0));clear bp bo b0 a8;go_wp2_with fail;go_ret2;have bx:=ai.o.trans (Mv.ACV H6.o.2.2);refine⟨n5,_,_,a3,bn,Kv ap.o m.o.nf m.o.base.low.size H6.o.2.2,by omega,bx.o (Y' _),bx.link,.put 0 _ .refl (m.o.free 0),.inl ⟨pb,_,true,_,_,_,c1,x2,a2,n2,c2,cq,cs,rfl,by rw[ax.o];exact H6.o.1,M.o.1,M.o.2,rfl,rfl,ts,f.o,.inr ⟨ar.o,R,?_,ce.o,rfl,?_⟩⟩⟩
   ·rw[<-ch.o,XP];rfl
   rw[XI,H6.o.2.1];rfl
  have ai:=Aa ((Mv.below (base:=w.heap.size) ah.o).trans V);have ap:=Aa I;clear I V c5 aj;go_wp2_with fail;go_ret2;exact⟨n5,_,_,a3,bn,ap.o,by omega,ai.o.o (Y' _),ai.o.link,.refl,.inr ⟨trivial,_,_,rfl⟩⟩
def n60(n:Nat):Nat:=(n+59) / 60
def Gg(rows:List (List V))(k:Nat):List (List V):=(rows.drop (60*k)).take 60
def Gd(rows:List (List V)):List (List (List V)):=(List.range (n60 rows.length)).map (Gg rows)
theorem Oz(rows:List (List V)):(Gd rows).length=n60 rows.length:=by simp[Gd]
theorem bU{rows:List (List V)}(h:k<n60 rows.length):1<=(Gg rows k).length/\(Gg rows k).length<=60:=by unfold n60 at h;simp only[Gg,XS,List.length_drop];omega
theorem Xj{rows p:List (List V)}(h:p∈Gd rows):1<=p.length/\p.length<=60/\∀r∈p,r∈rows:=by simp only[Gd,WB,Wb] at h;obtain⟨k,a,rfl⟩:=h;have:=bU a;exact⟨this.1,this.2,λr b=>XW (Yk b)⟩
structure AJH(A:List A5):Prop where
 Iz:A.length<=100
 ints:∀a∈A,Ints a
 kind:A.length<=12\/∀a∈A,a.1=1\/a.1=2\/a.1=3
theorem AAX(h:Fh a)(f:a.1=1\/a.1=2\/a.1=3):(F3 a).size<=3000:=by
 have j:=h.path;have k:=Dw h.rows;unfold F3
 rcases f with e|e|e
 ·rw[if_pos e]
  simp only[Ea];have:(⟨#[97,100,100,32]⟩:Tb).size=4:=rfl;have:(⟨#[32]⟩:Tb).size=1:=rfl;omega
 ·rw[if_neg (by omega),if_pos e]
  simp only[Ea];have:(⟨#[114,101,109,111,118,101,32]⟩:Tb).size=7:=rfl;omega
 rw[if_neg (by omega),if_neg (by omega),if_pos e];simp only[Ea]
 have d:=Jh (b:=21) (xs:=a.2.2.2.1.map Bm) (sep:=⟨#[44]⟩) (λx g=>by obtain⟨y,i,rfl⟩:=List.mem_map.1 g;exact Dw (h.mask y i))
 have:(⟨#[109,97,115,107,32]⟩:Tb).size=5:=rfl;have:(⟨#[32]⟩:Tb).size=1:=rfl;have c:(⟨#[44]⟩:Tb).size=1:=rfl;have l:=h.Iz;rw[XA,c] at d;omega
theorem X9:∀{l:List A5},(∀a∈l,Fh a/\(a.1=1\/a.1=2\/a.1=3))->(Ed l).length<=l.length*3001
 | [],_=>by simp[Ed]
 | a :: l,h=>by
   have f:=AAX (h a (Yf ..)).1 (h a (Yf ..)).2;have g:=X9 (l:=l) (λb d=>h b (Yg _ d))
   have e:(Ed (a :: l)).length=(F3 a).data.toList.length+1+(Ed l).length:=by simp only[Ed,XY,XH,XL,List.length_nil]
   have c:(F3 a).data.toList.length=(F3 a).size:=by simp
   rw[e,c,XL,Y1];omega
theorem lV{s:Tb}{b:Bool}(d:AJH A)(h:Cv (s,b,A)=true):0<(C6 (s,b,A)).size/\(C6 (s,b,A)).size<=1000000:=by
 have g:∀a∈A,Fh a:=λa c=>by simp only[Cv,XM,X'] at h;exact Qb (h.2 a c) (d.ints a c)
 rcases d.kind with f|f
 ·exact ACx h g f
 have e:(C6 (s,b,A)).size=(I4 s b).size+(Ed A).length:=by show (Nn (s,b,A)).toArray.size=_;rw[List.size_toArray,Nn,XH,Gm]
 simp only[Cv,XM] at h;have i:=Ri b (XF (Hh h.1) (by decide));have j:=X9 (l:=A) (λa c=>⟨g a c,f a c⟩);have m:=d.Iz
 have k:0<(I4 s b).size:=by unfold I4;have e9:(⟨#[10]⟩:Tb).size=1:=rfl;rw[Ea,e9];omega
 omega
theorem AG0{w0 w:Tw}{k bb n:Nat}{fs:List Int}{mv:Tv}{C:Dn}{j:Nat}(h:Jy w0 w k bb n D fs mv C H j e W):∃v a,e=Zr (Zu #[v,a])/\Hid (Jy w0 w k bb n D fs mv C H j (Zr (Zu #[v,a])) W):=by
 have b:=h;obtain⟨n',g,c,f,d,_,_,_,_,⟨t,rfl,_⟩|⟨i,x,rfl,_⟩⟩:=h
 ·exact⟨_,_,rfl,Aa b⟩
 exact⟨_,_,rfl,Aa b⟩
def DoP(w0 w:World)(b bb n:Nat)(D:DataW Unit)(fs:List Int)(mv:Value)(C:Dn)(H:List (Dn×Ah))(j:Nat)(e:Ending)(a:World):Prop :=
 (C.2.2=[]/\e=.returned (.tuple #[Zi (j:Int),.nilIface])/\Zb w a)\/(C.2.2≠[]/\∃W,Zb w W/\Jy w0 W b bb n D fs mv C H j e a)
theorem AHB(w0:Tw)(i base bb n:Nat)(D:Td)(fs:List Int)(mv G:Tv)(H:List (Dn×Ah))(j:Nat)(N:Nat)(r:To)(n1 c1:Nat)(z:Int)(s:To)(n2 t:Nat)(g:Tb)(p:Bool)(k:To)(l:Nat)(L:List Gx)(rows:Int)(w:Tw)(h:Ey w0 w i bb n D fs mv G)(x:i<=w.heap.size)(P:n<=90000)(J:U6 D H)(M:La H)(O5:H.length<=40)(O:j<=H.length)(d:Dv base w N (Ae H j) (j:Int) r n1 c1 z s n2 t g p k l L rows)(o:AJH (L.map (·.1)))(y:g.size<=60):
 Zc 24 #[Zp (some ⟨bb,0,none⟩),Zp (some ⟨N,0,none⟩)] w (DoP w0 w i bb n D fs mv (g,p,L.map (·.1)) H j):=by
 have I:Dt w (Zs k L.length l) (L.map (·.1)):=sP (base:=0) (E.Ai d.row (XB _)) d.own d.Vv;have c:=Aa (λW(m:Zb w W)=>AHx w0 i bb n D fs mv G g p (L.map (·.1)) k L.length l H j r n1 c1 z s n2 t W (h.up m) (XF x m.size) P J M O5 O (d.snap.up m) (I.below m) o.Iz (lV o) y (λa ha hr=>Qb hr (o.ints a ha)));obtain⟨R,T,U,V,X,Y,y6,y7,yf⟩:=F2 d.box;clear h J M d o I
 by_cases hL:L.length=0
 ·have q:Hid (L=[]):=Aa (List.length_eq_zero_iff.1 hL)
  have u:((L.length:Nat):Int)=0:=by omega
  clear hL c;go_enter func24,ntmps24;go_wp2_with fail;go_ret2;exact .inl ⟨by rw[q.o];rfl,rfl,XG _ _⟩
 have q:Hid (L.map (·.1)≠[]):=Aa (λe=>hL (by have:=congrArg List.length e;simpa using this));have u:¬((L.length:Nat):Int)=0:=by omega
 have f:Hid (∀args w,(callFunc 42 args).run prog w=.ok (.enter 42 args) w):=Aa (enters_of func42 (by kernel_rfl) rfl);have b:=Aa ((c.o w.drew ((XG _ _).drew)).mono λe w'=>AG0);unfold K4 at b;clear hL c;go_enter func24,ntmps24;go_wp2_with fail
 go_region_law
  (first
    | (refine Nh (by rfl) 42 (.tmp 23) (.tmp 27) (.tmp 31) 26 42 86 (by rfl) (Zp (some ⟨bb,0,none⟩)) (Zg #[Zi (j:Int),Zs r n1 c1,Zi z,Zs s n2 t]) (Zg #[Zt g,Zo p,Zs k L.length l]) (by rfl) (by rfl) (by rfl) f.o _ b.o ?_
       rintro e w2⟨v,er,rfl,H2⟩;refine⟨_,rfl,?_⟩)
    | fail)
 all_goals
  clear b f R T U V X Y y6 y7 yf;go_wp2;go_ret2;exact .inr ⟨q.o,w.drew,(XG _ _).drew,H2.o⟩
def Km(a:ByteArray)(l:List Aj):Nat->List (List (List V))->DataW Unit->DataW Unit
 | _,[],D=>D
 | k,p :: ps,D=>Km a l (k+1) ps (D.put (B.lit (Eh (Bw a k))) (Pa l p))
def N5(b:ByteArray)(k:Nat)(a:List (List (List V))):List A5:=(a.zipIdx k).map λq=>(1,Bw b q.2,(q.1.length:Int),[],[],0)
def Tog(s:Ah)(n:Nat):Prop:=(∀e∈s.files,e.2.2=[])/\s.files.length<=n60 n
def AEz(D:DataW Unit)(s:Ah)(xs:List A6)(b:ByteArray)(a:DataW Unit)(c:Bool)(A:List A5)(rows:Int):Prop :=
 s.cols≠[]/\c=true/\rows=(Bo s.cols .nil xs).1.length /\
  ((Tog s (Bo s.cols .nil xs).1.length/\a=D/\A=[]) \/
   (¬Tog s (Bo s.cols .nil xs).1.length/\(∀p∈Gd (Fc s.cols xs),De s.cols p=true)/\a=Km b s.cols 0 (Gd (Fc s.cols xs)) D/\A=(s.files.map λe=>((2,e.1,0,[],[],0):A5))++N5 b 0 (Gd (Fc s.cols xs))))
def Mw:Prop:=∀(w0:World)(b bb n:Nat)(D:DataW Unit)(fs:List Int)(mv c:Value)(H:List (Dn×Ah))(U:List ByteArray)(a:ByteArray)(xs:List A6)(w:World),iK w0 w b bb n D fs mv c H U a->C7 D (Ae H H.length) xs ->
 Zc 41 #[.pointer (some ⟨bb,0,none⟩),.string a] w (Kd w0 w b bb n D mv H a True (AEz D (Ae H H.length) xs a))
def nK:Aj:=(0,⟨#[]⟩,0,false,0,0,⟨#[]⟩)
def V7(D:DataW Unit)(s:Ah)(xs:List A6)(c:ByteArray)(x:J4)(a:DataW Unit)(b:Bool)(A:List A5)(rows:Int):Prop :=
 (x.Qk=0/\AIP D s x.cols a b A rows)\/(x.Qk=1/\AId D s x.change (x.cols.headD nK) x.name x.tw a b A rows)\/(x.Qk=2/\AIO D s c x.rows a b A rows) \/
 (x.Qk=3/\∃T,x.tree T/\AIX D s xs T a b A rows)\/(x.Qk=4/\∃T,x.tree T/\AIS D s xs c T x.A3 a b A rows)\/((x.Qk<0\/4<x.Qk)/\AEz D s xs c a b A rows)
def AB0(s:Ah)(fs:List Int)(x:J4):Prop:=(x.Qk=0->AIU s x.cols)/\(x.Qk=2->AGF s fs x.rows)/\(x.Qk=3->∃T,x.tree T/\AIV s T)
structure AA5(x:J4):Prop where
 cols:∀c∈x.cols,Vp c
 Iz:x.cols.length<=20
 rows:K9 x.rows
 ADp:x.rows.length<=100
 A3:∀s∈x.A3,Ks s.2
theorem mB:∀(k:Nat)(l:List Aj),(∀c∈l,Vp c)->k+l.length<=1000->∀c∈Nl k l,Vp c
 | _,[],_,_,c,a=>by cases a
 | k,d :: l,h,hk,c,a=>by
   simp at hk
   rcases List.mem_cons.1 a with rfl|a
   ·exact⟨⟨by show -9223372036854775808<=(k:Int);omega,by show (k:Int)<=9223372036854775807;omega⟩,(h d (Yf ..)).2⟩
   exact mB (k+1) l (λe b=>h e (Yg _ b)) (by omega) c a
theorem Jg{n:Int}(a : -1000000<=n)(b:n<=1000000):Lu n:=⟨by omega,by omega⟩
theorem AAl{xs:List A6}(d:C7 D s xs)(f:Good Bv Cm s)(T:S.CT):(∀a∈xs.flatMap (Vm s.cols T),Ints a/\(a.1=1\/a.1=2\/a.1=3))/\(xs.flatMap (Vm s.cols T)).length<=40:=by
 refine⟨λa b=>?_,?_⟩
 ·obtain⟨x,g,b⟩:=List.mem_flatMap.1 b
  have e:x.1∈s.files:=by rw[<-d.Lz.files];exact List.mem_map.2 ⟨x,g,rfl⟩
  have j:=(O6 s.cols T x (d.rows x g)).1;have i:=f.rows _ e;unfold Vm at b;split at b
  ·cases b
  split at b
  ·simp at b;subst b
   exact⟨⟨Im,(λy c=>by cases c),(λy c=>by cases c),Im⟩,.inr (.inl rfl)⟩
  simp at b;subst b;refine⟨⟨Im,λy c=>?_,(λy c=>by cases c),Im⟩,.inr (.inr rfl)⟩;have:=j.2 y c;exact Jg (by omega) (by omega)
 have k:=rV s.cols T xs;have h:=congrArg List.length d.Lz.files;rw[XA] at h;have:=f.Iz;omega
theorem AH5{α:Type}{l:List α}{q:α×Nat}(h:q∈l.zipIdx k):q.1∈l:=by have:=Y0 (f:=Prod.fst) h;rwa[List.zipIdx_map_fst] at this
theorem nH(h:n<=60*m):n60 n<=m:=by unfold n60;omega
theorem aN{xs:List A6}(a:C7 D s xs)(c:Good Bv Cm s)(T:S.CT):(Bo s.cols T xs).1.length<=60*40:=by have d:=(L0 s.cols T xs a.Lz.each).2;have b:=congrArg List.length a.Lz.files;rw[XA] at b;have:=c.Iz;have:60*xs.length<=60*40:=Nat.mul_le_mul_left _ (by omega);omega
theorem AEj{w:Td}{xs:List A6}{t:Tb}{L:Bool}{rows:Int}(o:C7 D s xs)(n:Good Bv Cm s)(p:∀c∈s.cols,Ib c)(N:0<=s.next/\s.next<=1000)(r:AA5 x)(h:V7 D s xs t x w L A rows):AJH A:=by
 have uB:∀c∈s.cols,Vp c:=λc h=>⟨(p c h).id,(p c h).kind,(p c h).num⟩
 rcases h with⟨_,_,_,_,_,rfl,_⟩|⟨_,_,⟨l',v,j,rfl⟩,_⟩|⟨_,_,g,_,_,rfl,_⟩|⟨_,T,_,_,_,_,_,rfl,_⟩|⟨_,T,_,_,_,_,_,ts,_,⟨_,_,rfl⟩|⟨_,R,rfl,g,_,rfl⟩⟩|⟨_,_,_,_,⟨_,_,rfl⟩|⟨_,_,_,rfl⟩⟩
 ·have:=r.Iz
  exact⟨by simp,λa b=>by simp at b;subst b;exact⟨Im,(λy f=>by cases f),mB 1 x.cols r.cols (by omega),Jg (by show (-1000000:Int)<=((x.cols.length+1:Nat):Int);omega) (by show ((x.cols.length+1:Nat):Int)<=1000000;omega)⟩,.inl (by simp)⟩
 ·refine⟨by simp,λa b=>?_,.inl (by simp)⟩
  simp at b;subst b;have i:=rQ j;refine⟨Im,(λy f=>by cases f),λc d=>?_,Jg (by show (-1000000:Int)<=v;omega) (by show v<=1000000;omega)⟩
  rcases j with⟨_,_,rfl,_⟩|⟨_,k,_,_,_,rfl,_⟩|⟨_,k,_,u,_,_,rfl,_⟩
  ·rcases List.mem_append.1 d with d|d
   ·exact uB c d
   rw[List.mem_singleton.1 d]
   have I:Vp (x.cols.headD nK):=by
    cases hxc:x.cols with
    | nil=>exact⟨⟨by decide,by decide⟩,⟨by decide,by decide⟩,⟨by decide,by decide⟩⟩
    | cons y l=>exact r.cols y (by rw[hxc];exact Yf ..)
   exact⟨Jg (by show (-1000000:Int)<=s.next;omega) (by show s.next<=1000000;omega),I.2⟩
  ·rcases List.mem_append.1 d with d|d
   ·exact uB c (Yk d)
   exact uB c (XW d)
  rcases Yt d with d|rfl
  ·exact uB c d
  exact(show Vp (rR s.cols[k]! _) from⟨(uB s.cols[k]! (Jj u)).1,(uB s.cols[k]! (Jj u)).2⟩)
 ·have:=(B4.mp g).2.2.1
  exact⟨by simp,λa b=>by simp at b;subst b;exact⟨Jg (by show (-1000000:Int)<=((x.rows.length:Nat):Int);omega) (by show ((x.rows.length:Nat):Int)<=1000000;omega),(λy f=>by cases f),(λy f=>by cases f),Im⟩,.inl (by simp)⟩
 ·obtain⟨i,z⟩:=AAl o n T
  exact⟨by omega,λa b=>(i a b).1,.inr λa b=>(i a b).2⟩
 ·exact⟨by simp,(λa b=>by cases b),.inl (by simp)⟩
 ·obtain⟨i,z⟩:=AAl o n T
  have G:=(B4.mp g).2.2.1;refine⟨by rw[XL];omega,λa b=>?_,.inr λa b=>?_⟩
  ·rcases List.mem_cons.1 b with rfl|b
   ·exact⟨Jg (Y8 (by decide) (Int.natCast_nonneg _)) (Y8 (Int.ofNat_le.2 G) (by decide)),(λy f=>by cases f),(λy f=>by cases f),Im⟩
   exact(i a b).1
  rcases List.mem_cons.1 b with rfl|b
  ·exact .inl rfl
  exact(i a b).2
 ·exact⟨by simp,(λa b=>by cases b),.inl (by simp)⟩
 have M:n60 (Fc s.cols xs).length<=40:=nH (by unfold Fc;rw[XA];exact aN o n .nil)
 have m:∀a∈(s.files.map λe=>((2,e.1,0,[],[],0):A5))++N5 t 0 (Gd (Fc s.cols xs)),Ints a/\(a.1=1\/a.1=2\/a.1=3):=λa b=>by
  rcases List.mem_append.1 b with b|b
  ·obtain⟨e,_,rfl⟩:=List.mem_map.1 b
   exact⟨⟨Im,(λy f=>by cases f),(λy f=>by cases f),Im⟩,.inr (.inl rfl)⟩
  obtain⟨q,J,rfl⟩:=List.mem_map.1 b;have O:=Xj (AH5 J);exact⟨⟨Jg (by show (-1000000:Int)<=((q.1.length:Nat):Int);omega) (by show ((q.1.length:Nat):Int)<=1000000;omega),(λy f=>by cases f),(λy f=>by cases f),Im⟩,.inl rfl⟩
 refine⟨?_,λa b=>(m a b).1,.inr λa b=>(m a b).2⟩;have:=n.Iz;simp[N5,Oz];omega
theorem uX(b:Tb)(l:List Aj):∀(a:List (List (List V)))(k:Nat)(D:Td),Maps.IsMap D->Maps.IsMap (Km b l k a D)
 | [],_,_,h=>h
 | _ :: a,k,_,h=>uX b l a (k+1) _ (h.put _ _)
theorem lU(b:Tb)(c:Plain b)(l:List Aj):∀(a:List (List (List V)))(k:Nat)(D:Td)(x:A6),(∀j,k<=j->j<=1000000->x.1.1≠Bw b j)->k+a.length<=1000000->Gt D x->Gt (Km b l k a D) x
 | [],_,_,_,_,_,h=>h
 | p :: a,k,D,x,hne,hk,h=>by simp at hk;exact lU b c l a (k+1) _ x (λj d=>hne j (by omega)) (by omega) (h.AFx (λe=>hne k (Y' _) (by omega) e.symm) _)
theorem ABh(a:Tb)(d:Plain a)(i:a.size<=12)(l:List Aj):∀(b:List (List (List V)))(k:Nat)(D:Td),Maps.IsMap D->k+b.length<=1000->(∀p∈b,De l p=true/\K9 p)->∀q∈b.zipIdx k,Gt (Km a l k b D) (((Bw a q.2,(q.1.length:Int),[]),l,q.1):A6)
 | [],_,_,_,_,_,q,c=>by cases c
 | p :: b,k,D,hD,hk,h,q,c=>by
   simp at hk;rw[List.zipIdx_cons] at c
   rcases List.mem_cons.1 c with rfl|c
   ·refine lU a d l b (k+1) _ _ (λj m f e=>?_) (by omega) (bD hD (h p (Yf ..)).1 (h p (Yf ..)).2 ?_)
    ·have:=(S5 d d e).2 (by omega) f
     omega
    have:=Vu a k (by omega);show (Bw a k).size<=1000;omega
   exact ABh a d i l b (k+1) _ (hD.put _ _) (by omega) (λy g=>h y (Yg _ g)) q c
theorem AHC(b:Tb)(k:Nat)(a:List (List (List V))):N5 b k a=((a.zipIdx k).map λq=>(Bw b q.2,(q.1.length:Int))).map λe=>((1,e.1,e.2,[],[],0):A5):=by unfold N5;rw[XP];rfl
theorem mS(path:Tb)(mask:List Int)(l:List Aj)(T:S.CT)(c:List Aj):∀(b:List (List (List V)))(f:Int),∀z∈(Oe path mask l T c f b).1,∃p∈b,∃q∈p,z.2.2=l.map (pick c q)
 | [],_,z,a=>by cases a
 | p :: b,f,z,a=>by
   simp only[Oe] at a;split at a
   ·rcases List.mem_append.1 a with a|a
    ·obtain⟨q,i,e⟩:=List.mem_map.1 (iD _ _ _ _ _ _ z a)
     exact⟨p,Yf ..,q,i,e.symm⟩
    obtain⟨g,d,h⟩:=mS path mask l T c b _ z a;exact⟨g,Yg _ d,h⟩
   obtain⟨g,d,h⟩:=mS path mask l T c b _ z a;exact⟨g,Yg _ d,h⟩
theorem uQ(l:List Aj)(T:S.CT):∀(xs:List A6),∀z∈(Bo l T xs).1,∃x∈xs,∃q∈x.2.2,z.2.2=l.map (pick (By x.2.1) q)
 | [],z,a=>by cases a
 | x :: xs,z,a=>by
   simp only[Bo] at a
   rcases List.mem_append.1 a with a|a
   ·unfold N9 at a
    obtain⟨p,b,q,c,e⟩:=mS _ _ _ _ _ _ _ z a;exact⟨x,Yf ..,q,(Ij b).2.2 q c,e⟩
   obtain⟨y,d,h⟩:=uQ l T xs z a;exact⟨y,Yg _ d,h⟩
theorem ADx{xs:List A6}(g:C7 D s xs)(h:∀c∈s.cols,Ib c){T:S.CT}:∀z∈(Bo s.cols T xs).1,∀v∈z.2.2,Ks v:=λz j v f=>by
 obtain⟨x,i,q,d,e⟩:=uQ s.cols T xs z j;have b:=g.Lz.each x i;rw[e] at f;exact AIe (b.i64 q d) (O7.mp ((B4.mp b.ok).2.2.2 q d)).1 (λc a=>(h c a).num) v f
theorem AI2{D D':Td}{s t:Ah}{xs:List A6}{n:Tb}{rd:Bool}{rows:Int}(V:Maps.IsMap D)(a:C7 D s xs)(b:Good Bv Cm s)(hc:∀c∈s.cols,Ib c)(hp:Plain n)(hz:n.size<=12)(G:∀k,Maps.has D (B.lit (Eh (Bw n k)))=false)(hx:AA5 x)(h:V7 D s xs n x D' rd A rows)(w:Bi s (n,rd,A) t)(hA:A≠[]):∃ys,C7 D' t ys/\t.next<=max (s.next+1) 9:=by
 have P:∀k,k<=1000->(Bw n k).size<=1000:=λk hk=>by have:=Vu n k hk;omega
 have aa:∀k,¬Bw n k∈s.files.map (·.1):=λk O=>by rw[<-a.Lz.files,XP] at O;obtain⟨y,m,e⟩:=List.mem_map.1 O;have M:=(a.Lz.each y m).has;simp only[Function.comp] at e;rw[e,G k] at M;cases M
 rcases h with⟨_,W,_,rfl,_,rfl,_⟩|⟨_,_,⟨l',nx,N,rfl⟩,rfl,_⟩|⟨_,j,f,rfl,_,rfl,_⟩|⟨_,T,_,j,_,rfl,_,rfl,_⟩|⟨_,T,_,j,_,_,_,ts,ac,⟨_,_,rfl⟩|⟨_,R,hR,f,rfl,rfl⟩⟩|⟨_,j,_,_,⟨_,_,rfl⟩|⟨_,f,rfl,rfl⟩⟩
 ·obtain⟨rfl,g,Y⟩:=Ry w
  have ab:xs=[]:=by have:=a.Lz.files;rw[a.Lz.bare W] at this;simpa using this
  subst ab;have h8:=g.2.1;rw[dK] at h8;refine⟨[],a.cols g.2.1 (λe=>by have:=g.1;rw[e] at this;simp at this) (λy m=>by cases m) Y _,?_⟩;show ((x.cols.length+1:Nat):Int)<=_;omega
 ·obtain⟨rfl,g,Y⟩:=Ry w
  have M:=rQ N;refine⟨xs,a.cols g.2.1 (λe=>by have:=g.1;rw[e] at this;simp at this) (λy m=>AJb N (a.link y m) (a.below y m)) Y _,?_⟩;show nx<=_;omega
 ·have I:=eH w
  subst I;exact⟨_,(a.put (G 0) _).add (bD V f hx.rows (P 0 (by omega))) (We b) (by have:=congrArg List.length a.Lz.files;rw[XA] at this;have:=b.Iz;omega) _,by show s.next<=_;omega⟩
 ·have I:=zU a.Lz.files b.once a.rows w
  subst I;exact⟨_,a.go b T _,by show s.next<=_;omega⟩
 ·exact absurd rfl hA
 ·have I:=AAO a.Lz.files a.rows (aa 0) b.once w
  subst I
  have o:K9 R:=λr g v U=>by
   rw[hR] at g;obtain⟨z,J,rfl⟩:=List.mem_map.1 g
   rcases ABg U with U|⟨u,hu⟩
   ·exact ADx a hc z J v U
   obtain⟨i,_,L⟩:=bI hu;rw[XJ] at L;cases hs:x.A3[i]? with
   | none=>rw[hs] at L;cases L
   | some y=>rw[hs] at L;simp at L;rw[<-L];exact hx.A3 y (XC hs)
  have M:=(a.put (G 0) (Pa s.cols R)).go b T 0;refine⟨_,M.add (bD V f o (P 0 (by omega))) (show ∀d∈s.cols,d.1<s.next from We b) ?_ _,by show s.next<=_;omega⟩;have:=congrArg List.length a.Lz.files;rw[XA] at this;have h3:=List.length_filterMap_le (pO s.cols T) xs;have:=b.Iz;omega
 ·exact absurd rfl hA
 rw[AHC] at w;have I:=tW b.once w;subst I;have hl:n60 (Fc s.cols xs).length<=40:=nH (by unfold Fc;rw[XA];exact aN a b .nil)
 have o:∀p∈Gd (Fc s.cols xs),K9 p:=λp l r g v U=>by have O:=(Xj l).2.2 r g;unfold Fc at O;obtain⟨z,J,rfl⟩:=List.mem_map.1 O;exact(No a b hc z J v U).1
 have X:=ABh n hp hz s.cols (Gd (Fc s.cols xs)) 0 D V (by rw[Oz];omega) (λp l=>⟨f p l,o p l⟩);refine⟨((Gd (Fc s.cols xs)).zipIdx 0).map λq=>(((Bw n q.2,(q.1.length:Int),[]),s.cols,q.1):A6),?_,by show s.next<=_;omega⟩
 have:=AHL (D:=Km n s.cols 0 (Gd (Fc s.cols xs)) D) (M9 b) (We b) (s.Eb+1) (((Gd (Fc s.cols xs)).zipIdx 0).map λq=>(((Bw n q.2,(q.1.length:Int),[]),s.cols,q.1):A6)) (λy m=>by obtain⟨q,hq,rfl⟩:=List.mem_map.1 m;exact⟨X q hq,rfl,rfl⟩) (by simp[Oz];omega) j (ADC b)
 rw[XP] at this ⊢;exact this
theorem iK.up{w0 w W:Tw}{k bb n:Nat}{D:Td}{fs:List Int}{mv v:Tv}{H:List (Dn×Ah)}{U:List Tb}{s:Tb}(h:iK w0 w k bb n D fs mv v H U s)(a:Zb w W):iK w0 W k bb n D fs mv v H U s :=
 ⟨h.base.up a,h.inv,h.et,h.Pw,XF h.nf a.size,h.Iz,h.O5,h.name,h.short,h.plain,h.new⟩
theorem Kd.low{w0 w W r:Tw}{i bb n:Nat}{D:Td}{mv:Tv}{H:List (Dn×Ah)}{s:Tb}{p b:Prop}{Ok c:Td->Bool->List A5->Int->Prop}{e:Ending}(h:Kd w0 W i bb n D mv H s p Ok e r)(g:Zb w W)(N:p->b)(O:∀d j A rows,Ok d j A rows->c d j A rows):Kd w0 w i bb n D mv H s b c e r:=by
 obtain⟨n',d,l,o,m,z,G,I,J,M,f⟩:=h;refine⟨n',d,l,o,m,z,G,(B.A0.Ba g).trans I (λ_ _ e=>e),λk hk=>(J k hk).imp id (λq=>XF g.size q),M,?_⟩
 rcases f with⟨R,L,j,rows,t,n1,c1,T,u,n2,y,v,x,rfl,a,P⟩|f
 ·exact .inl ⟨R,L,j,rows,t,n1,c1,T,u,n2,y,v,x,rfl,⟨a.box,a.snap,E.Ai a.row g.size,a.own,a.Vv,XF g.size a.low⟩,O _ _ _ _ P⟩
 exact .inr ⟨N f.1,f.2⟩
theorem AAG{g:Array Oper}{o:Oper}{a:Act}{K:Act->Tw->Prop}{Q:Exit->Act->Tw->Prop}{E:Prop}(c:o.guard=none)(f:Nat)(x y z q:Operand)(t s r p:TypeId)(l:o.op=.call { callee:=.value (.func f),args:=#[x,y,z,q],argTypes:=#[t,s,r,p] })(u v b d:Tv)(n:a.eval x=u)(D:a.eval y=v)(G:a.eval z=b)(m:a.eval q=d)(j:∀args w,(callFunc f args).run prog w=.ok (.enter f args) w)(R:Ending->Tw->Prop)(k:Zc f #[u,v,b,d] W R)(h:∀e i,R e i->∃v,e=Zr v/\K (a.put o.dst v) i):
 if Region.wanted o (yielded g a.tmps)=true then Oper.wp prog o a W K Q else E :=
 Ih c f #[x,y,z,q] #[t,s,r,p] l #[u,v,b,d] (by simp[n,D,G,m]) j R k h
structure K8(w:World)(x:J4)(ca:Option Addr)(cc:Nat)(ra:Option Addr)(rc:Nat)(pa:Option Addr)(pn pc:Nat)(sa:Option Addr)(sc:Nat):Prop where
 cols:bH w (.slice ca x.cols.length cc) x.cols
 ACl:∀c∈x.cols,c.2.1.size<=maxLen/\c.2.2.2.2.2.2.size<=maxLen
 rows:iJ w (.slice ra x.rows.length rc) x.rows
 ACg:∀r∈x.rows,∀v∈r,v.2.2.size<=maxLen
 A3:F7 4 Wu w (.slice sa x.A3.length sc) x.A3
 AKL:x.A3.length<=100
 wX:∀s∈x.A3,s.2.2.2.size<=maxLen
 cnd:∀W,Zb w W->Zc 10 #[.slice pa pn pc] W λe w'=>∃v T,e=.returned v/\S.Gy w' T v/\x.tree T/\Zb W w'
 tw:x.tw.size<=maxLen
 ints:AA5 x
theorem K8.up{w W:Tw}{x:J4}{b:To}{n:Nat}{c:To}{k:Nat}{pa:To}{i j:Nat}{d:To}{m:Nat}(h:K8 w x b n c k pa i j d m)(a:Zb w W):K8 W x b n c k pa i j d m :=
 ⟨h.cols.below a,h.ACl,h.rows.up a,h.ACg,h.A3.up a,h.AKL,h.wX,λV e=>h.cnd V (Ap a e),h.tw,h.ints⟩
theorem Lc{w0 w W:Tw}{k bb n:Nat}{mv:Tv}{s:Tb}{a:Prop}{Ok:Td->Bool->List A5->Int->Prop}(h:Kd w0 w k bb n D mv H s a Ok e W):∃p b,e=Zr (Zu #[Zp p,b])/\Hid (Kd w0 w k bb n D mv H s a Ok (Zr (Zu #[Zp p,b])) W):=by
 have c:=h;obtain⟨n',i,d,g,f,_,_,_,_,_,⟨r,L,t,rows,j,n1,c1,u,l,n2,q,m,o,rfl,_⟩|⟨_,T,x,rfl⟩⟩:=h
 ·exact⟨_,_,rfl,Aa c⟩
 exact⟨_,_,rfl,Aa c⟩
theorem ACy(w0:Tw)(x bb n:Nat)(D:Td)(fs:List Int)(mv Y:Tv)(H:List (Dn×Ah))(U:List Tb)(m:Tb)(xs:List A6)(cols:List Aj)(rows:List (List V))(A3:List Vi)(a:Int)(nm b:Tb)(tr:S.CT->Prop)(O:To)(y:Nat)(I:To)(J:Nat)(pa:To)(G z:Nat)(L:To)(M:Nat)(w:Tw)(h:iK w0 w x bb n D fs mv Y H U m)(f:K8 w ⟨1,cols,rows,A3,a,nm,b,tr⟩ O y I J pa G z L M):
 Zc 23 #[Zp (some ⟨bb,0,none⟩),Zg #[Zi 1,Zs O cols.length y,Zs I rows.length J,Zs pa G z,Zs L A3.length M,Zi a,Zt nm,Zt b],Zt m] w (Kd w0 w x bb n D mv H m (AB0 (Ae H H.length) fs ⟨1,cols,rows,A3,a,nm,b,tr⟩) (V7 D (Ae H H.length) xs m ⟨1,cols,rows,A3,a,nm,b,tr⟩)):=by
 cases hcl:cols with
 | nil=>subst hcl;obtain⟨t0,t1,t2,l⟩:=C1 w (Zk #[Zi 1,Zs O 0 y,Zs I rows.length J,Zs pa G z,Zs L A3.length M,Zi a,Zt nm,Zt b] 38) (Zk #[Zi 0,Zt ⟨#[]⟩,Zi 0,Zo false,Zi 0,Zi 0,Zt ⟨#[]⟩] 72);have HB:=Aa l;have r:=Aa (kP w0 x bb n D fs mv Y H U m a 0 ⟨#[]⟩ 0 false 0 0 ⟨#[]⟩ nm b _ (h.up l) ⟨XB _,XB _,f.tw⟩);clear h f t0 t1 t2 l;go_enter func23,ntmps23;go_wp2_with fail;refine(r.o.mono λe w'=>Lc).mono ?_;rintro e w1⟨p1,er,rfl,H1⟩;clear r;go_wp2_with fail;go_ret2;exact H1.o.low HB.o (λ_=>⟨λe=>absurd e (by simp),λe=>absurd e (by simp),λe=>absurd e (by simp)⟩) λ_ _ _ _ q=>.inr (.inl ⟨rfl,q⟩)
 | cons c0 l0=>
   rw[<-hcl];have d:0<cols.length:=by rw[hcl];simp
   have s:cols[0]! = c0:=by rw[hcl];rfl
   have u:cols.headD nK=c0:=by rw[hcl];rfl
   have t:c0∈cols:=by rw[hcl];exact Yf ..
   obtain⟨i,P,k,mu,R,T,X⟩:=c0
   rcases f.cols with⟨_,e0⟩|⟨g,o,c',e,hc,hs⟩
   ·simp only at e0;rw[e0] at d;simp at d
   injection e with e1 _ e2;subst e1 e2;obtain⟨t0,t1,t2,l⟩:=C1 w (Zk #[Zi 1,Zs (some ⟨g,o,none⟩) cols.length y,Zs I rows.length J,Zs pa G z,Zs L A3.length M,Zi a,Zt nm,Zt b] 38) (Zk #[Zi i,Zt P,Zi k,Zo mu,Zi R,Zi T,Zt X] 72);have aa:g<w.heap.size:=hs.1
   have cell:∀(j:Nat)(v:Tv),(Cc (i,P,k,mu,R,T,X))[j]? = some v->w.cell? ⟨g,o+j,none⟩=some v:=λj v hv=>by have:=hs.2 0 d j v (by show (Cc cols[0]!)[j]? = some v;rw[s];exact hv);simpa using this
   have q0:=cell 0 _ rfl;have q1:=cell 1 _ rfl;have q2:=cell 2 _ rfl;have q3:=cell 3 _ rfl;have q4:=cell 4 _ rfl;have q5:=cell 5 _ rfl;have q6:=cell 6 _ rfl;simp only[WA] at q0;have ab:(0:Int)<(cols.length:Int):=by omega
   have p:=Aa l;have N:=Aa u;have c:=f.ACl _ t;have r:=Aa (λW(hW:Zb w W)=>kP w0 x bb n D fs mv Y H U m a i P k mu R T X nm b W (h.up hW) ⟨c.1,c.2,f.tw⟩);clear h f hs hcl s t c cell t0 t1 t2 l u;go_enter func23,ntmps23;go_wp2_with fail;refine((r.o _ p.o).mono λe w'=>Lc).mono ?_;rintro e w1⟨p1,er,rfl,H1⟩;clear r;go_wp2_with fail;go_ret2;exact H1.o.low p.o (λ_=>⟨λe=>absurd e (by simp),λe=>absurd e (by simp),λe=>absurd e (by simp)⟩) λ_ _ _ _ q=>.inr (.inl ⟨rfl,by rw[N.o];exact q⟩)
theorem ACD(af:Mw)(w0:Tw)(z bb n:Nat)(D:Td)(fs:List Int)(mv L:Tv)(H:List (Dn×Ah))(U:List Tb)(f:Tb)(xs:List A6)(x:J4)(i:To)(j:Nat)(l:To)(m:Nat)(pa:To)(d c:Nat)(a:To)(b:Nat)(w:Tw)(h:iK w0 w z bb n D fs mv L H U f)(hT:C7 D (Ae H H.length) xs)(hx:K8 w x i j l m pa d c a b):
 Zc 23 #[Zp (some ⟨bb,0,none⟩),Zg #[Zi x.Qk,Zs i x.cols.length j,Zs l x.rows.length m,Zs pa d c,Zs a x.A3.length b,Zi x.change,Zt x.name,Zt x.tw],Zt f] w (Kd w0 w z bb n D mv H f (AB0 (Ae H H.length) fs x) (V7 D (Ae H H.length) xs f x)):=by
 obtain⟨J,cols,rows,A3,k,nm,o,tr⟩:=x;simp only;have G:Zb w (w.alloc (Zk #[Zi J,Zs i cols.length j,Zs l rows.length m,Zs pa d c,Zs a A3.length b,Zi k,Zt nm,Zt o] 38)):=Zal;have r:=Aa G;have V:=Aa (h.up G);have g:=Aa (hx.up G);have HT:=Aa hT;have R:=Aa (heap_alloc_new w (Zk #[Zi J,Zs i cols.length j,Zs l rows.length m,Zs pa d c,Zs a A3.length b,Zi k,Zt nm,Zt o] 38));have ad:=Aa h;have ae:=Aa hx;clear h hx hT G
 by_cases k0:J=0
 ·subst k0
  have t:=Aa (zI w0 z bb n D fs mv L H U f i j cols _ V.o g.o.cols (by have:=g.o.ints.Iz;simp only at this;omega) g.o.ACl);go_enter func23,ntmps23;go_wp2_with fail;refine(t.o.mono λe y=>Lc).mono ?_;rintro e w1⟨p1,N,rfl,H1⟩;clear t;go_wp2_with fail;go_ret2;exact H1.o.low r.o (λq=>⟨λ_=>q,λe=>absurd e (by simp),λe=>absurd e (by simp)⟩) λ_ _ _ _ q=>.inl ⟨rfl,q⟩
 by_cases k2:J=2
 ·subst k2
  have t:=Aa (wV w0 z bb n D fs mv L H U f _ rows _ V.o g.o.rows (by have:=g.o.ints.ADp;simp only at this;omega) g.o.ACg g.o.ints.rows);clear k0;go_enter func23,ntmps23;go_wp2_with fail;refine(t.o.mono λe y=>Lc).mono ?_;rintro e w1⟨p1,N,rfl,H1⟩;clear t;go_wp2_with fail;go_ret2;exact H1.o.low r.o (λq=>⟨λe=>absurd e (by simp),λ_=>q,λe=>absurd e (by simp)⟩) λ_ _ _ _ q=>.inr (.inr (.inl ⟨rfl,q⟩))
 by_cases k3:J=3
 ·subst k3
  have u:=Aa (g.o.cnd _ (XG _ _));clear k0 k2;go_enter func23,ntmps23;go_wp2_with fail;refine u.o.mono ?_;rintro e w2⟨cv,T,rfl,aa,ab,M⟩;have X:=Aa ab;clear ab;have t:=Aa (Lo w0 z bb n D fs mv L H U f cv T xs w2 (V.o.up M) HT.o aa);have ac:=Aa (Ap r.o M);clear aa M u;go_wp2_with fail;refine(t.o.mono λe y=>Lc).mono ?_;rintro e w1⟨p1,N,rfl,H1⟩;clear t;go_wp2_with fail;go_ret2;exact H1.o.low ac.o (λq=>⟨λe=>absurd e (by simp),λe=>absurd e (by simp),λ_=>⟨T,X.o,q⟩⟩) λ_ _ _ _ q=>.inr (.inr (.inr (.inl ⟨rfl,T,X.o,q⟩)))
 by_cases k4:J=4
 ·subst k4
  have I:=(XG (w.alloc (Zk #[Zi 4,Zs i cols.length j,Zs l rows.length m,Zs pa d c,Zs a A3.length b,Zi k,Zt nm,Zt o] 38)).heap.size (w.alloc (Zk #[Zi 4,Zs i cols.length j,Zs l rows.length m,Zs pa d c,Zs a A3.length b,Zi k,Zt nm,Zt o] 38))).drew
  have u:Hid (Zc 10 #[Zs pa d c] (w.alloc (Zk #[Zi 4,Zs i cols.length j,Zs l rows.length m,Zs pa d c,Zs a A3.length b,Zi k,Zt nm,Zt o] 38)).drew λe y=>∃v,e=Zr v/\Hid (∃T,S.Gy y T v/\tr T/\Zb w y/\Below (w.alloc (Zk #[Zi 4,Zs i cols.length j,Zs l rows.length m,Zs pa d c,Zs a A3.length b,Zi k,Zt nm,Zt o] 38)).heap.size (w.alloc (Zk #[Zi 4,Zs i cols.length j,Zs l rows.length m,Zs pa d c,Zs a A3.length b,Zi k,Zt nm,Zt o] 38)) y)):=Aa ((g.o.cnd _ I).mono (by rintro e y⟨v,T,rfl,h1,ht,h2⟩;exact⟨v,rfl,Aa ⟨T,h1,ht,Ap r.o (Ap I h2),Ap I h2⟩⟩))
  have Y:Hid (∀(v:Tv)(W:Tw),Hid (∃T,S.Gy W T v/\tr T/\Zb w W/\Below (w.alloc (Zk #[Zi 4,Zs i cols.length j,Zs l rows.length m,Zs pa d c,Zs a A3.length b,Zi k,Zt nm,Zt o] 38)).heap.size (w.alloc (Zk #[Zi 4,Zs i cols.length j,Zs l rows.length m,Zs pa d c,Zs a A3.length b,Zi k,Zt nm,Zt o] 38)) W)->Zc 40 #[Zp (some ⟨bb,0,none⟩),Zt f,v,Zs a A3.length b] W λe y=>∃p N,e=Zr (Zu #[Zp p,N])/\Hid (Kd w0 w z bb n D mv H f (AB0 (Ae H H.length) fs ⟨4,cols,rows,A3,k,nm,o,tr⟩) (V7 D (Ae H H.length) xs f ⟨4,cols,rows,A3,k,nm,o,tr⟩) (Zr (Zu #[Zp p,N])) y)):=Aa λv W hW=>by
   obtain⟨T,h1,ht,h2,h3⟩:=hW.o;refine(xQ w0 z bb n D fs mv L H U f v T xs a b A3 W (V.o.up h3) HT.o h1 (g.o.A3.up h3) g.o.AKL (λs hs=>⟨g.o.wX s hs,g.o.ints.A3 s hs⟩)).mono λe y hP=>?_
   exact Lc (hP.low h2 (λq=>⟨λe=>absurd e (by simp),λe=>absurd e (by simp),λe=>absurd e (by simp)⟩) λ_ _ _ _ q=>.inr (.inr (.inr (.inr (.inl ⟨rfl,T,ht,q⟩)))))
  have O:Hid (∀args w,(callFunc 10 args).run prog w=.ok (.enter 10 args) w):=Aa (enters_of func10 (by kernel_rfl) rfl);have P:Hid (∀args w,(callFunc 40 args).run prog w=.ok (.enter 40 args) w):=Aa (enters_of func40 (by kernel_rfl) rfl);clear k0 k2 k3 I;go_enter func23,ntmps23;go_wp2_with fail
  go_region_law
   (first
     | (refine I6 (by rfl) 10 (.tmp 67) 23 (by rfl) (Zs pa d c) (by rfl) O.o _ u.o ?_
        rintro e w2⟨cv,rfl,H2⟩;refine⟨_,rfl,?_⟩;have z4:w2.cell? ⟨w.heap.size,4,none⟩=some (Zs a A3.length b):=(F2 ((H2.o.choose_spec.2.2.2.block _ (Ac R.o)).trans R.o)).2.2.2.2.1)
     | (refine AAG (by rfl) 40 (.tmp 64) (.tmp 65) (.tmp 68) (.tmp 70) 26 9 45 36 (by rfl) (Zp (some ⟨bb,0,none⟩)) (Zt f) cv (Zs a A3.length b) (by rfl) (by rfl) (by rfl) (by rfl) P.o _ (Y.o cv w2 H2) ?_
        rintro e w3⟨p3,ag,rfl,H3⟩;refine⟨_,rfl,?_⟩)
     | fail)
  all_goals
   clear Y u O P z4;go_wp2;go_ret2;exact H3.o
 by_cases k1:J=1
 ·subst k1
  exact ACy w0 z bb n D fs mv L H U f xs cols rows A3 k nm o tr i j l m pa d c a b w ad.o ae.o
 have t:=Aa (af w0 z bb n D fs mv L H U f xs _ V.o HT.o);have HK:Hid (J<0\/4<J):=Aa (by omega);go_enter func23,ntmps23;go_wp2_with fail;refine(t.o.mono λe y=>Lc).mono ?_;rintro e w1⟨p1,N,rfl,H1⟩;clear t;go_wp2_with fail;go_ret2;exact H1.o.low r.o (λq=>⟨λe=>absurd e (by have:=HK.o;simp only;omega),λe=>absurd e (by have:=HK.o;simp only;omega),λe=>absurd e (by have:=HK.o;simp only;omega)⟩) λ_ _ _ _ q=>.inr (.inr (.inr (.inr (.inr ⟨HK.o,q⟩))))
def Xt(w0 w:World)(o bb n:Nat)(D:DataW Unit)(fs:List Int)(mv:Value)(H:List (Dn×Ah))(U:List ByteArray)(a:ByteArray)(xs:List A6)(x:J4)(e:Ending)(p:World):Prop :=
 ∃n' g i f j h,Ey w0 p o bb n' g i f j/\n'<=n+100/\B.A0 (B.Own bb mv) w p/\(∀k,f=.map (some k)->mv=.map (some k)\/w.heap.size<=k)/\Inv g h (a :: U) /\
  ((e=.returned .nilIface/\∃b c A rows,V7 D (Ae H H.length) xs a x b c A rows/\((A=[]/\h=H/\g=b)\/(A≠[]/\Inv b H (a :: U)/\∃t,Bi (Ae H H.length) (a,c,A) t/\h=H++[((a,c,A),t)]/\g=b.put (B.lit (Ek (H.length+1))) (B.Gw (C6 (a,c,A)))))) \/
   (∃T y,e=.returned (.iface T y)/\h=H/\(AB0 (Ae H H.length) fs x\/∃b c A rows d q n1 m l,V7 D (Ae H H.length) xs a x b c A rows/\A≠[]/\Ey w0 q o bb n1 b d m l/\AD8 (a,c,A) H d H.length (.iface T y))))
theorem Xt.wU{w0 w W:Tw}{i bb n:Nat}{fs:List Int}{mv:Tv}{s:Tb}{xs:List A6}(h:Xt w0 w i bb n D fs mv H U s xs x e W):∃q,e=Zr q/\∃n' f b a d g,Ey w0 W i bb n' f b a d/\n'<=n+100/\B.A0 (B.Own bb mv) w W/\(∀k,a=.map (some k)->mv=.map (some k)\/w.heap.size<=k)/\Inv f g (s :: U)/\(g=H\/∃c,g=H++[c])/\g.length<=H.length+1:=by
 obtain⟨n',f,b,a,d,g,j,l,m,o,p,⟨rfl,r,u,A,rows,_,⟨_,rfl,_⟩|⟨_,_,t,_,rfl,_⟩⟩|⟨T,y,rfl,rfl,_⟩⟩:=h
 ·exact⟨_,rfl,n',f,b,a,d,_,j,l,m,o,p,.inl rfl,XV _⟩
 ·exact⟨_,rfl,n',f,b,a,d,_,j,l,m,o,p,.inr ⟨_,rfl⟩,by simp⟩
 exact⟨_,rfl,n',f,b,a,d,_,j,l,m,o,p,.inl rfl,XV _⟩
theorem dD{bb:Nat}{mv v u:Tv}{r:Tw}(a:B.A0 (B.Own bb mv) w W)(b:∀k,v=.map (some k)->mv=.map (some k)\/w.heap.size<=k)(d:B.A0 (B.Own bb v) W r)(f:∀k,u=.map (some k)->v=.map (some k)\/W.heap.size<=k):B.A0 (B.Own bb mv) w r/\∀k,u=.map (some k)->mv=.map (some k)\/w.heap.size<=k:=by
 refine⟨a.trans d λi g e=>?_,λk c=>?_⟩
 ·rcases e with e|e
  ·exact .inl e
  rcases b i e with e|e
  ·exact .inr e
  omega
 rcases f k c with e|e
 ·exact b k e
 exact .inr (XF a.size e)
theorem jN:∀{l:List A5}{s t:Ah},Il Bx Bv Cm s l t->0<=s.next->0<=t.next
 | [],_,_,h,hs=>by simp only[Il] at h;subst h;exact hs
 | a :: l,s,t,⟨u,b,h2⟩,hs=>by
   refine jN h2 ?_
   rcases b with⟨_,_,rfl⟩|⟨_,_,rfl⟩|⟨_,_,rfl⟩|⟨_,c,rfl⟩
   ·exact hs
   ·exact hs
   ·exact hs
   have:=c.2;show 0<=a.2.2.2.2.2;omega
theorem eD:∀{s:Ah}{H:List (Dn×Ah)},Xv s H->0<=s.next->∀k,k<=H.length->0<=(Ic s (H.take k)).next
 | _,_,_,hs,0,_=>by simpa[Ic] using hs
 | _,x :: l,h,hs,k+1,hk=>by have:=eD (s:=x.2) (H:=l) h.2.2 (jN h.1.2 hs) k (by simpa using hk);simpa[Ic] using this
theorem vC(h:La H)(b:Good Bv Cm (Ae H H.length)):0<=(Ae H H.length).next:=by
 rcases b.cols with e|e
 ·exact eD h (by show (0:Int)<=0;omega) H.length (Y' _)
 have a:=e.1;have:=e.2.2.1 (Ae H H.length).cols[0] (Yh a);have:=this.1.2.1;omega
theorem AGp{w0 w r s:Tw}{i bb n n1:Nat}{l:Td}{fs z:List Int}{mv u f:Tv}{p:Tb}{xs:List A6}{m:Bool}{rows:Int}(h:iK w0 w i bb n D fs mv u H U p)(aa:H.length<40)(hT:C7 D (Ae H H.length) xs)(hx:AA5 x)(hG:Grown p D l)(hn:n1<=n+50)(V:B.A0 (B.Own bb mv) w r)(P:∀k,f=.map (some k)->mv=.map (some k)\/w.heap.size<=k)(b:V7 D (Ae H H.length) xs p x l m A rows)(g:∃d,Ey w0 r i bb n1 l z f d)(hd:DoP w0 r i bb n1 l z f (p,m,A) H H.length e s):
 ∃v X,e=Zr (Zu #[v,X])/\Xt w0 w i bb n D fs mv H U p xs x (Zr X) s:=by
 have j:Inv l H (p :: U):=(h.inv.user h.plain).grown (Yf ..) hG;obtain⟨d,g⟩:=g
 rcases hd with⟨I,rfl,hb⟩|⟨I,W,L,n',D',o,J,G,Y,h2,h3,h4,⟨t,rfl,N,M,_,rfl⟩|⟨ty,y,rfl,rfl,T⟩⟩
 ·have c:=dD V P (B.A0.Ba hb) (λk b=>.inl b)
  exact⟨_,_,rfl,n1,l,z,f,d,H,g.up hb,by omega,c.1,c.2,j,.inl ⟨rfl,l,m,A,rows,b,.inl ⟨I,rfl,rfl⟩⟩⟩
 ·have c:=dD V P ((B.A0.Ba L).trans h3 (λ_ _ e=>e)) (λk b=>(h4 k b).imp id λq=>XF L.size q)
  have hc:=Mq h.inv.past (Y' _);have ab:=h.inv.next H.length (Y' _);have R:0<=(Ae H H.length).next:=vC h.inv.past h.Of;have O:=AEj hT h.Of hc ⟨R,by omega⟩ hx b;obtain⟨ys,hy,ac⟩:=AI2 h.inv.Lm.1 hT h.Of hc h.plain h.short h.free hx b N I;refine⟨_,_,rfl,n',_,o,J,G,H++[((p,m,A),t)],Y,by omega,c.1,c.2,j.AJO (by omega) N ⟨M,λa c=>?_,O.Iz,lV O M⟩ hy (by omega),.inl ⟨rfl,l,m,A,rows,b,.inr ⟨I,j,t,N,rfl,rfl⟩⟩⟩;simp only[Cv,XM,X'] at M;exact Qb (M.2 a c) (O.ints a c)
 have c:=dD V P ((B.A0.Ba L).trans h3 (λ_ _ e=>e)) (λk b=>(h4 k b).imp id λq=>XF L.size q);exact⟨_,_,rfl,n',_,o,J,G,H,Y,by omega,c.1,c.2,j,.inr ⟨_,_,rfl,rfl,.inr ⟨_,m,A,rows,z,r,n1,f,d,b,I,g,T⟩⟩⟩
theorem V1(ae:Mw)(w0:Tw)(j bb n:Nat)(D:Td)(fs:List Int)(mv fv:Tv)(H:List (Dn×Ah))(U:List Tb)(b:Tb)(xs:List A6)(x:J4)(N:To)(O:Nat)(W:To)(X:Nat)(pa:To)(V R:Nat)(Y:To)(sc:Nat)(w:Tw)(h:iK w0 w j bb n D fs mv fv H U b)(ad:H.length<40)(hT:C7 D (Ae H H.length) xs)(hx:K8 w x N O W X pa V R Y sc):
 Zc 7 #[Zp (some ⟨bb,0,none⟩),Zg #[Zi x.Qk,Zs N x.cols.length O,Zs W x.rows.length X,Zs pa V R,Zs Y x.A3.length sc,Zi x.change,Zt x.name,Zt x.tw],Zt b] w (Xt w0 w j bb n D fs mv H U b xs x):=by
 have g:Zb w (w.alloc (Zk #[Zi x.Qk,Zs N x.cols.length O,Zs W x.rows.length X,Zs pa V R,Zs Y x.A3.length sc,Zi x.change,Zt x.name,Zt x.tw] 38)):=Zal;have m:=Aa (ACD ae w0 j bb n D fs mv fv H U b xs x N O W X pa V R Y sc _ (h.up g) hT (hx.up g));have l:Hid (∀e w',Kd w0 (w.alloc (Zk #[Zi x.Qk,Zs N x.cols.length O,Zs W x.rows.length X,Zs pa V R,Zs Y x.A3.length sc,Zi x.change,Zt x.name,Zt x.tw] 38)) j bb n D mv H b (AB0 (Ae H H.length) fs x) (V7 D (Ae H H.length) xs b x) e w'->Kd w0 w j bb n D mv H b (AB0 (Ae H H.length) fs x) (V7 D (Ae H H.length) xs b x) e w'):=Aa λe w' hp=>hp.low g (λq=>q) λ_ _ _ _ q=>q
 have a:=Aa h;have J:=Aa hT;have M:=Aa hx.ints;clear h hT hx g;go_enter func7,ntmps7;go_wp2_with fail;refine m.o.mono ?_;intro e w1 t;obtain⟨n1,D1,o,u,p,c,af,f,i,d,⟨pb,L,rd,rows,a1,ah,c1,x2,a2,n2,c2,aa,ac,rfl,hP,s⟩|⟨P,T,y,rfl⟩⟩:=l.o _ _ t
 ·have ag:=a.o.inv.next H.length (Y' _)
  have k:=AEj J.o a.o.Of (Mq a.o.inv.past (Y' _)) ⟨vC a.o.inv.past a.o.Of,by have:=a.o.O5;omega⟩ M.o s;have r:Inv D1 H (b :: U):=(a.o.inv.user a.o.plain).grown (Yf ..) d;have I:=Aa (AHB w0 j _ bb n1 D1 o u p H H.length pb a1 ah c1 x2 a2 n2 c2 b rd aa ac L rows w1 c (XF a.o.nf f.size) (by have:=a.o.Iz;omega) r.Lm r.past a.o.O5 (Y' _) hP k (by have:=a.o.short;omega));have G:Hid (∀e z,DoP w0 w1 j bb n1 D1 o u (b,rd,L.map (·.1)) H H.length e z->∃v er,e=Zr (Zu #[v,er])/\Hid (Xt w0 w j bb n D fs mv H U b xs x (Zr er) z)):=Aa λe z hd=>AGp a.o ad J.o M.o d af f i s ⟨p,c⟩ hd
  clear t c f i d hP s k r ag m l;go_wp2_with fail;refine(I.o.mono λe z=>G.o e z).mono ?_;rintro e z⟨v,er,rfl,H2⟩;clear I G;go_wp2_with fail;go_ret;exact H2.o
 have H1:=Aa (And.intro c (And.intro f (And.intro i ((a.o.inv.user a.o.plain).grown (Yf ..) d))));have ab:=Aa P;clear P t c f i d m l;go_wp2_with fail;go_ret;exact⟨n1,D1,o,u,p,H,H1.o.1,by omega,H1.o.2.1,H1.o.2.2.1,H1.o.2.2.2,.inr ⟨_,_,rfl,rfl,.inl ab.o⟩⟩
theorem bJ{w0 w:Tw}{bb n:Nat}{fs:List Int}{mv v:Tv}(h:Ey w0 w 0 bb n D fs mv v):fs=[]:=by
 obtain⟨a,c,e,g,f⟩:=h.bu.2.2;cases fs with
 | nil=>rfl
 | cons x l=>obtain⟨b,off,d,_⟩:=f (by simp);exact absurd (h.hf b off l.length c (by rw[e,d];rfl)) (Ym _)
theorem AIz:(List.range 31).all (λi=>Bx (wK i))=true:=by kernel_rfl
theorem AGv(h:i<=30):Bx (wK i)=true:=List.all_eq_true.1 AIz i (List.mem_range.2 (by omega))
def nms:Nat->List ByteArray
 | 0=>[]
 | i+1=>wK i :: nms i
theorem AD3:∀(i k:Nat),i<=k->k<=600->¬wK k∈nms i
 | 0,_,_,_,h=>by cases h
 | i+1,k,h1,h2,h=>by
   rcases List.mem_cons.1 h with e|e
   ·have:=AHh (by omega) (by omega) e
    omega
   exact AD3 i k (by omega) h2 e
structure LwT(w0 w:World)(bb i m:Nat)(D:DataW Unit)(fs:List Int)(mv fv:Value)(H:List (Dn×Ah)):Prop where
 base:Ey w0 w 0 bb m D fs mv fv
 inv:Inv D H (nms i)
 Iz:H.length<=i
 AFx:m<=i*100
theorem LwT.sit{w0 w:Tw}{bb i m:Nat}{fs:List Int}{mv v:Tv}(h:LwT w0 w bb i m D fs mv v H)(b:i<=30)(a:B.Ob w0)(c:S.Lp w0):iK w0 w 0 bb m D fs mv v H (nms i) (wK i) :=
 ⟨h.base,h.inv,a,c,XB _,by have:=h.AFx;omega,by have:=h.Iz;omega,AGv b,by show 3<=12;decide,AFl i,AD3 i i (Y' _) (by omega)⟩
theorem LwT.up{w0 w W:Tw}{bb i m:Nat}{D:Td}{fs:List Int}{mv v:Tv}{H:List (Dn×Ah)}(h:LwT w0 w bb i m D fs mv v H)(a:Zb w W):LwT w0 W bb i m D fs mv v H:=⟨h.base.up a,h.inv,h.Iz,h.AFx⟩
theorem uF(w:Tw)(a:Ik w)(g:Lw w)(f:Jp w):Ey w (w.alloc (Zk #[.map none,Zs none 0 0] 30)) 0 w.heap.size 0 (.map []) [] (.map none) (Zs none 0 0) :=
 ⟨B.AJj w,Zal,Y' _,λk d=>(by cases d),a,g,f,λb off l c e=>(by cases e)⟩
theorem LwT.start(w:Tw)(a:Ik w)(c:Lw w)(b:Jp w):LwT w (w.alloc (Zk #[.map none,Zs none 0 0] 30)) w.heap.size 0 0 (.map []) [] (.map none) (Zs none 0 0) [] :=
 ⟨uF w a c b,Inv.nil,Y' _,Y' _⟩
theorem AHq(l:Mw)(w0:Tw)(bb i m:Nat)(D:Td)(fs:List Int)(mv t:Tv)(H:List (Dn×Ah))(x:J4)(g:To)(j:Nat)(p:To)(q:Nat)(pa:To)(o n:Nat)(r:To)(s:Nat)(w:Tw)(h:LwT w0 w bb i m D fs mv t H)(P:i<30)(I:B.Ob w0)(J:S.Lp w0)(L:K8 w x g j p q pa o n r s):
 Zc 7 #[Zp (some ⟨bb,0,none⟩),Zg #[Zi x.Qk,Zs g x.cols.length j,Zs p x.rows.length q,Zs pa o n,Zs r x.A3.length s,Zi x.change,Zt x.name,Zt x.tw],Zt (wK i)] w λe u=>∃k,e=Zr k/\∃M d a c b f,LwT w0 u bb (i+1) M d a c b f:=by
 obtain⟨xs,z⟩:=h.inv.wU H.length (Y' _);refine(V1 l w0 0 bb m D fs mv t H (nms i) (wK i) xs x g j p q pa o n r s w (h.sit (by omega) I J) (by have:=h.Iz;omega) z L).mono ?_;intro e u G;obtain⟨k,rfl,n',d,a,c,b,f,v,N,_,_,y,_,O⟩:=G.wU;exact⟨k,rfl,n',d,a,c,b,f,v,y,by have:=h.Iz;omega,by have:=h.AFx;omega⟩
def Pb(P:Prop)(w:World)(e:Ending)(a:World):Prop:=∃b,e=.returned (.bool b)/\(b=true->P)/\Zb w a
def ABP(l:List Aj):Prop:=l.length<=20/\∀c∈l,c.2.1.size<=60/\c.2.2.2.2.2.2.size<=100
def RowsFit(l:List (List V)):Prop:=l.length<=70/\∀r∈l,r.length<=20/\∀v∈r,v.2.2.size<=100
theorem O1{α:Type}{P:α->Prop}{l:List α}(h:∀x∈l.take k,P x)(a:l.length<=k):∀x∈l,P x:=by rwa[Yd a] at h
theorem My{α:Type}{P:α->Prop}{l:List α}{x:α}(h:∀x∈l.take k,P x)(c:l[k]? = some x)(b:P x):∀x∈l.take (k+1),P x:=by
 rw[E.Br c];intro y a
 rcases List.mem_append.1 a with a|a
 ·exact h y a
 simp at a;subst a;exact b
theorem pS(u:Tv)(l:List Aj)(w:Tw)(s:F7 7 Cc w u l)(e:∀c∈l,c.2.1.size<=maxLen/\c.2.2.2.2.2.2.size<=maxLen):
 Zc 20 #[u] w (Pb (ABP l) w):=by
 have x:=Aa s;obtain⟨R,T,rfl,_⟩:=s.slice;have h:=Aa e;clear s e
 by_cases h20:l.length<=20
 ·have d:¬(20:Int)<(l.length:Int):=by omega
  go_enter func20,ntmps20;go_wp2
  go_loopw [3] (λt wr=>∃k:Nat,k<=l.length/\t=Zi k/\Hid (∀c∈l.take k,c.2.1.size<=60/\c.2.2.2.2.2.2.size<=100)/\Hid (Zb w wr)) (λt _=>l.length-(intOf t).toNat)
  case atStart=>exact⟨0,XB _,rfl,Aa (by simp),Aa (XG _ _)⟩
  case round=>
   obtain⟨k,P,rfl,f,b⟩:=hrel
   by_cases hlt:k<l.length
   ·obtain⟨⟨c1,n,L,M,N,O,o⟩,g⟩:∃c,l[k]? = some c:=⟨_,Y9 hlt⟩
    obtain⟨lb,U,G,z,_,D,a⟩:=(x.o.up b.o).cons (by omega);injection z with p _ q;subst p q;obtain⟨V,W,X,Y,q4,q5,q6⟩:=F8 a g;obtain⟨I,J⟩:=h.o _ (XC g);dsimp only at I J;have r:(k:Int)<(l.length:Int):=by omega
    have v:=Aa g;clear a g
    by_cases a1:n.size<=60
    ·have j:¬(60:Int)<(n.size:Int):=by omega
     by_cases a2:o.size<=100
     ·have m:¬(100:Int)<(o.size:Int):=by omega
      have i:=Aa (My f.o v.o ⟨a1,a2⟩);go_wp2;exact⟨⟨k+1,by omega,by go_num,i,b⟩,by simp[intOf];omega⟩
     have m:(100:Int)<(o.size:Int):=by omega
     go_wp2;go_ret;exact⟨_,rfl,by simp,b.o⟩
    have j:(60:Int)<(n.size:Int):=by omega
    go_wp2;go_ret;exact⟨_,rfl,by simp,b.o⟩
   have r:¬(k:Int)<(l.length:Int):=by omega
   have y:=Aa (O1 f.o (by omega));go_wp2;go_ret;exact⟨_,rfl,λ_=>⟨h20,y.o⟩,b.o⟩
 have d:(20:Int)<(l.length:Int):=by omega
 go_enter func20,ntmps20;go_wp2;go_ret;exact⟨_,rfl,by simp,XG _ _⟩
theorem oH(W:Tv)(l:List (List V))(w:Tw)(T:iJ w W l)(m:∀r∈l,∀v∈r,v.2.2.size<=maxLen):
 Zc 21 #[W] w (Pb (RowsFit l) w):=by
 have HL:=Aa T;obtain⟨la,lc,rfl,_⟩:=T.slice;have y:=Aa m;clear T m
 by_cases h70:l.length<=70
 ·have h:¬(70:Int)<(l.length:Int):=by omega
  go_enter func21,ntmps21;go_wp2
  go_loopw [3] (λg wr=>∃k:Nat,k<=l.length/\g=Zi k/\Hid (∀r∈l.take k,r.length<=20/\∀v∈r,v.2.2.size<=100)/\Hid (Zb w wr)) (λg _=>l.length-(intOf g).toNat)
  case atStart=>exact⟨0,XB _,rfl,Aa (by simp),Aa (XG _ _)⟩
  case round=>
   obtain⟨k,hk,rfl,n,c⟩:=hrel
   by_cases hlt:k<l.length
   ·obtain⟨r,s⟩:∃r,l[k]? = some r:=⟨_,Y9 hlt⟩
    obtain⟨rb,ro,ac,xv,er,aa,f,N⟩:=(HL.o.up c.o).at s;injection er with L _ M;subst L M;obtain⟨xa,xc,rfl,_,p⟩:=N;have G:=Aa p;have o:=y.o r (XC s);have D:=Aa o;have z:=Aa s;have R:(k:Int)<(l.length:Int):=by omega
    clear p o s
    by_cases a1:r.length<=20
    ·have I:¬(20:Int)<(r.length:Int):=by omega
     go_wp2;rename Tw=>wo
     go_loopw [4] (λg wi=>∃j:Nat,j<=r.length/\g=Zi j/\Hid (∀v∈r.take j,v.2.2.size<=100)/\Hid (Zb wo wi)) (λg _=>r.length-(intOf g).toNat)
     case atStart=>exact⟨0,XB _,rfl,Aa (by simp),Aa (XG _ _)⟩
     case round=>
      obtain⟨j,hj,rfl,i,a⟩:=hrel;have q:=Ag a.o f
      by_cases hjl:j<r.length
      ·obtain⟨⟨vk,vn,U⟩,t⟩:∃x,r[j]? = some x:=⟨_,Y9 hjl⟩
       obtain⟨xb,xo,rfl,ab,b⟩:=G.o (by intro e;rw[e] at hjl;simp at hjl);obtain⟨X,Y,y2⟩:=b j _ t;replace X:=Ag a.o X;replace Y:=Ag a.o Y;replace y2:=Ag a.o y2;have m1:=D.o _ (XC t);dsimp only at m1;have O:(j:Int)<(r.length:Int):=by omega
       have HV:=Aa t;clear b t
       by_cases a2:U.size<=100
       ·have J:¬(100:Int)<(U.size:Int):=by omega
        have d:=Aa (My (P:=λv:V=>v.2.2.size<=100) i.o HV.o a2);go_wp2;exact⟨⟨j+1,by omega,by go_num,d,a⟩,by simp[intOf];omega⟩
       have J:(100:Int)<(U.size:Int):=by omega
       go_wp2;go_ret;exact⟨_,rfl,by simp,Ap c.o a.o⟩
      have O:¬(j:Int)<(r.length:Int):=by omega
      have d:=Aa (My (P:=λr:List V=>r.length<=20/\∀v∈r,v.2.2.size<=100) n.o z.o ⟨a1,O1 (P:=λv:V=>v.2.2.size<=100) i.o (by omega)⟩);have u:=Aa (Ap c.o a.o);go_wp2;exact⟨⟨k+1,by omega,by go_num,d,u⟩,by simp[intOf];omega⟩
    have I:(20:Int)<(r.length:Int):=by omega
    go_wp2;go_ret;exact⟨_,rfl,by simp,c.o⟩
   have R:¬(k:Int)<(l.length:Int):=by omega
   have z:=Aa (O1 (P:=λr:List V=>r.length<=20/\∀v∈r,v.2.2.size<=100) n.o (by omega));go_wp2;go_ret;exact⟨_,rfl,λ_=>⟨h70,z.o⟩,c.o⟩
 have h:(70:Int)<(l.length:Int):=by omega
 go_enter func21,ntmps21;go_wp2;go_ret;exact⟨_,rfl,by simp,XG _ _⟩
variable{H:Type}{W:Tw}{x:DataW H×List MemPlace}
theorem Db:prog.cellsOf 3=1:=by kernel_rfl
theorem zS:prog.cellsOf 2=1:=by kernel_rfl
theorem Vw:prog.cellsOf 9=1:=by kernel_rfl
theorem gQ:prog.cellsOf 56=3:=by kernel_rfl
theorem AGR:prog.cellsOf 72=7:=by kernel_rfl
theorem AHc:prog.cellsOf 51=1:=by kernel_rfl
theorem bounds{n:Int}(h:(Lit.int .i64 n).wf=true):-9223372036854775808<=n/\n<=9223372036854775807:=by have a:IntKind.i64.min = -9223372036854775808:=rfl;have b:IntKind.i64.max=9223372036854775807:=rfl;simp[Lit.wf,a,b] at h;omega
theorem qU{enc:TypeId×Tv->H}{base:Nat}{j:Nat->Bool}{held:Bool}{n:Nat}{cs:List Tv}(h:DataW.trod enc prog W base j held n 56 cs=some x):
 ∃v:V,cs=[Zi v.1,Zi v.2.1,Zt v.2.2]/\Ks v/\v.2.2.size<=maxLen:=by
 obtain⟨l,o,p,n1,_,f,c,d,e⟩:=trod_struct3 underlying56 h;rw[gQ] at f
 match cs,f with
 | [v0,v1,v2],_=>simp only[Db,Vw,zS,List.drop_zero,List.drop_succ_cons,List.take_succ_cons,List.take_zero] at c d e;obtain⟨k,e0,_,_⟩:=DataW.trod_int underlying3 c;obtain⟨m,a,_,g⟩:=DataW.trod_int underlying2 d;obtain⟨t,b,_,i⟩:=DataW.trod_string underlying9 e;simp at e0 a b;subst e0 a b;exact⟨(k,m,t),rfl,⟨(bounds g).1,(bounds g).2⟩,i⟩
theorem M0{α:Type}[Inhabited α]{enc:TypeId×Tv->H}{O:Nat->Bool}{held:Bool}{fuel k:Nat}{T E:TypeId}{en:α->List Tv}{P:α->Prop}{cs:List Tv}(y:0<k)(hlen:∀x,(en x).length=k)(X:prog.underlying T=some (.slice E))(V:prog.cellsOf E=k)(J:∀{n:Nat}{cs:List Tv}{x:DataW H×List MemPlace},DataW.trod enc prog W 0 O held n E cs=some x->∃q,cs=en q/\P q)(h:DataW.trod enc prog W 0 O held fuel T cs=some x):∃v,cs=[v]/\∃l:List α,F7 k en W v l/\∀q∈l,P q:=by
 rcases open_slice X h with⟨d,_⟩|⟨a,len,G,m,n,D,Pl,d,hb,Y,hm,L,b,r⟩
 ·exact⟨_,d,[],⟨_,_,rfl,XB _,λh=>absurd rfl h⟩,λx b=>by simp at b⟩
 refine⟨_,d,?_⟩
 rcases Ys len with rfl|c
 ·exact⟨[],⟨_,_,rfl,XB _,λh=>absurd rfl h⟩,λx b=>by simp at b⟩
 have aa:len<=m:=by rw[L];split <;> omega
 have p:∀i,i<len->∃q:α,W.cells? 0 (a.add (i*k)) k=some (en q)/\P q:=λi w=>by obtain⟨R,N,U⟩:=r i (by omega);obtain⟨q,rfl,hq⟩:=J U;rw[V] at N;exact⟨q,N,hq⟩
 obtain⟨Q,I⟩:=choose_lt p;obtain⟨z,M,spot⟩:=a
 have g:spot=none:=by have:=(X2 (I 0 c).1).2.2 0 y;obtain⟨u,t,o⟩:=YX (l:=en (Q 0)) (by rw[hlen];exact y);rw[o] at this;simpa[Addr.add] using World.cell?_spot this
 subst g
 have cell:∀j,j<len->∀i,i<k->W.cell? ⟨z,M+j*k+i,none⟩=(en (Q j))[i]? := λj e i w=>by have:=(X2 (I j e).1).2.2 i w;rwa[add_plain,add_plain] at this
 have f:((List.range len).map Q).length=len:=by simp
 refine⟨(List.range len).map Q,⟨some ⟨z,M,none⟩,G,by rw[f],by rw[f];exact Y,λ_=>⟨z,M,rfl,?_,λj x e i u o=>?_⟩⟩,λx b=>?_⟩
 ·obtain⟨u,t,o⟩:=YX (l:=en (Q 0)) (by rw[hlen];exact y)
  exact block_lt_of_cell ((cell 0 c 0 y).trans (by rw[o];rfl))
 ·have s:j<len:=by have:=Ax e;rwa[f] at this
  have b:x=Q j:=by rw[XJ,List.getElem?_range s] at e;exact(Yu e).symm
  subst b;have w:i<k:=by have:=Ax o;rwa[hlen] at this
  rw[cell j s i w,o]
 simp only[WB,Wb] at b;obtain⟨j,e,rfl⟩:=b;exact(I j e).2
def AIQ(v:V):List Value:=[Zi v.1,Zi v.2.1,.string v.2.2]
theorem mW{w:Tw}{v:Tv}{l:List V}(h:F7 3 AIQ w v l):E.Sl w v l:=by obtain⟨a,c,e,k,m⟩:=h;refine⟨a,c,e,k,λn=>?_⟩;obtain⟨b,off,g,i,d⟩:=m n;exact⟨b,off,g,i,λj x f=>⟨d j x f 0 _ rfl,d j x f 1 _ rfl,d j x f 2 _ rfl⟩⟩
end F
namespace S
variable{W w:Tw}{u v:Tv}{i m n:Nat}{X:List Tv}{a:List CT}{T:CT}
def A2:CT->Nat
 | .nil=>0
 | .node _ _ _ l r=>1+max (A2 l) (A2 r)
theorem Gy.grown{w W:Tw}{row:Option Nat}(i:w.grownBy W row)(a:∀g,row=some g->∃d,w.heap[g]? = some (Zk d 45)):∀{T:CT}{v:Tv},Gy w T v->Gy W T v
 | .nil,_,h=>h
 | .node _ _ ⟨_,_,_,_,_⟩ _ _,_,⟨b,pl,pr,e,hh,hcd,hl,hr⟩=>⟨b,pl,pr,e,by
    rw[i.block b (by
     rcases Yc b w.heap.size with f|f
     ·exact f
     rw[XO f] at hh;cases hh) (λj=>by
     obtain⟨d,c⟩:=a b j.symm;rw[hh] at c;injection c with c;injection c with _ c;exact absurd c (by decide))]
    exact hh,hcd,Gy.grown i a hl,Gy.grown i a hr⟩
structure Stack(w0 wr:World)(i:Nat)(v:Value)(n:Nat)(vs:List Value)(Ts:List CT):Prop where
 own:wr.ownsRow w0.heap.size 45 1 v n vs
 len:Ts.length=n
 ins:∀(j:Nat)(T:CT)(u:Value),Ts[j]? = some T->vs[j]? = some u->Gy wr T u/\0<A2 T
 dep:(Ts.map A2).sum<=i
 xL:Zb w0 wr
theorem Ad{B e z n:Nat}{xs:List Tv}(h:w.ownsRow B e z v n xs)(k:Zb w W):W.ownsRow B e z v n xs:=by
 refine⟨h.1,?_⟩
 rcases h.2 with a|⟨g,b,c,f,i,d,j⟩
 ·exact .inl a
 refine .inr ⟨g,b,c,f,i,?_,j⟩
 rw[k.block g (by
  rcases Yc g w.heap.size with a|a
  ·exact a
  rw[XO a] at d;cases d)]
 exact d
theorem Ai{B k e z n:Nat}{xs:List Tv}(h:w.ownsRow B e z v n xs)(j:k<=B):w.ownsRow k e z v n xs:=by
 refine⟨h.1,?_⟩
 rcases h.2 with i|⟨g,a,b,c,d,f⟩
 ·exact .inl i
 exact .inr ⟨g,a,b,c,XF j d,f⟩
theorem Ak{B e z n:Nat}{xs:List Tv}(h:w.ownsRow B e z v n xs):∃b a,v=Zs b n a/\n<=a/\a<=maxLen:=by
 rcases h.2 with⟨rfl,rfl⟩|⟨g,c,d,f,k,l,i,j,_⟩
 ·exact⟨none,0,rfl,Y' _,by unfold maxLen;omega⟩
 exact⟨_,_,f,i,j⟩
theorem below_grown(a:w.grownBy W none):Zb w W :=
 ⟨a.os,a.tape,a.output,a.size,λk b=>a.block k b (by simp)⟩
theorem AFp:∀(a:List CT),(∀T∈a,0<A2 T)->a.length<=(a.map A2).sum
 | [],_=>by simp
 | T :: a,h=>by have d:=h T (by simp);have e:=AFp a (λc b=>h c (by simp[b]));simp only[XQ,XR,XL];omega
theorem Stack.sS{w0 wr:Tw}(h:Stack w0 wr i v n X a):X.length=n:=by have:=h.own.1;omega
theorem Stack.pos{w0 wr:Tw}(h:Stack w0 wr i v n X a):∀T∈a,0<A2 T:=by
 intro T c;obtain⟨j,b,e⟩:=List.mem_iff_getElem.1 c;have d:j<X.length:=by rw[h.sS,<-h.len];exact b
 exact(h.ins j T X[j] (by rw[Y9 b,e]) (Y9 d)).2
theorem Stack.AK5{w0 wr:Tw}(h:Stack w0 wr i v n X a):n<=i:=by have b:=AFp a h.pos;have c:=h.dep;have d:=h.len;omega
theorem Stack.up{w0 wr W:Tw}{i k:Nat}{v:Tv}{n:Nat}{X:List Tv}{b:List CT}(h:Stack w0 wr i v n X b)(a:Zb wr W)(e:i<=k):Stack w0 W k v n X b :=
 ⟨Ad h.own a,h.len,λj T u c d=>⟨(h.ins j T u c d).1.up a,(h.ins j T u c d).2⟩,XF h.dep e,Below.up h.xL a⟩
theorem AHw{B n:Nat}{xs:List Tv}(h:w.ownsRow B 45 1 v n xs):∀g,v.ownBlock=some g->∃a,w.heap[g]? = some (Zk a 45):=by
 intro g b
 rcases h.2 with⟨rfl,_⟩|⟨i,c,a,rfl,e,d,f⟩
 ·cases b
 cases b;exact⟨a,d⟩
theorem Stack.push{w0 wr w:Tw}{v v':Tv}{d:List CT}(h:Stack w0 wr i v n X d)(o:Gy wr T u)(s:A2 T=1)(f:wr.grownBy w v.ownBlock)(r:w.ownsRow w0.heap.size 45 1 v' (n+1) (X++[u])):Stack w0 w (i+1) v' (n+1) (X++[u]) (d++[T]):=by
 have b:=AHw h.own;refine⟨r,by simp[h.len],?_,?_,?_⟩
 ·intro j g m a c
  have q:d.length=X.length:=by rw[h.len,h.sS]
  by_cases hj:j<d.length
  ·rw[XE hj] at a
   rw[XE (by omega)] at c;exact⟨(h.ins j g m a c).1.grown f b,(h.ins j g m a c).2⟩
  rw[XD (by omega)] at a;rw[XD (by omega)] at c
  have e:j-d.length=0:=by
   rcases Ys (j-d.length) with l|l
   ·exact l
   rw[Yb (by simp;omega)] at a;cases a
  rw[e] at a;rw[<-q,e] at c;simp at a c;subst a c;exact⟨o.grown f b,by omega⟩
 ·have:=h.dep;simp;omega
 exact Below.grown h.xL f h.xL.size (λk p=>(h.own.lt k p).1)
theorem Stack.replace{w0 wr w:Tw}{v v':Tv}{c:List CT}(h:Stack w0 wr i v n X c)(m:Nat)(x:m<=n)(l:Gy wr T u)(r:0<A2 T)(t:((c.take m).map A2).sum+A2 T<=i+1)(o:wr.grownBy w none)(q:w.ownsRow wr.heap.size 45 1 v' (m+1) (X.take m++[u])):Stack w0 w (i+1) v' (m+1) (X.take m++[u]) (c.take m++[T]):=by
 have d:=below_grown o;have p:(c.take m).length=m:=by simp[h.len];omega
 have s:(X.take m).length=m:=by simp[h.sS];omega
 refine⟨Ai q h.xL.size,by simp[h.len];omega,?_,by rw[XI,XU];simp only[XQ,X4,XR,X6];omega,Below.up h.xL d⟩;intro j f k a b
 by_cases hj:j<m
 ·rw[XE (by omega),Yl hj] at a
  rw[XE (by omega),Yl hj] at b;exact⟨(h.ins j f k a b).1.up d,(h.ins j f k a b).2⟩
 rw[XD (by omega)] at a;rw[XD (by omega)] at b
 have e:j-m=0:=by
  rcases Ys (j-m) with g|g
  ·exact g
  rw[Yb (by simp;omega)] at a;cases a
 rw[p,e] at a;rw[s,e] at b;simp at a b;subst a b;exact⟨l.up d,r⟩
theorem Stack.AK1{w0 wr:Tw}(h:Stack w0 wr i v (m+1) X a):∃u T,X[m]? = some u/\Gy wr T u/\((a.take m).map A2).sum+A2 T<=i:=by
 have c:m<X.length:=by rw[h.sS];omega
 have b:m<a.length:=by rw[h.len];omega
 refine⟨X[m],a[m],Y9 c,(h.ins m _ _ (Y9 b) (Y9 c)).1,?_⟩
 have e:a=a.take m++[a[m]]:=by rw[<-Yr b,Yd (by rw[h.len];omega)]
 have f:=h.dep;have d:=congrArg (λl=>(l.map A2).sum) e;simp only[XI,XU,XQ,X4,XR,X6] at d;omega
theorem Stack.AKv{w0 wr:Tw}(h:Stack w0 wr i v (m+2) X a):∃k n c d,X[m]? = some k/\X[m+1]? = some n/\Gy wr c k/\Gy wr d n/\0<A2 c/\0<A2 d/\((a.take m).map A2).sum+A2 c+A2 d<=i:=by
 have f:m+1<X.length:=by rw[h.sS];omega
 have b:m+1<a.length:=by rw[h.len];omega
 have g:=h.ins m _ _ (Y9 (Y6 b)) (Y9 (Y6 f));have j:=h.ins (m+1) _ _ (Y9 b) (Y9 f);refine⟨X[m],X[m+1],a[m],a[m+1],Y9 _,Y9 f,g.1,j.1,g.2,j.2,?_⟩
 have e:a=a.take m++[a[m]]++[a[m+1]]:=by rw[<-Yr (Y6 b),<-Yr b,Yd (by rw[h.len];omega)]
 have p:=h.dep;have o:=congrArg (λl=>(l.map A2).sum) e;simp only[XI,XU,XQ,X4,XR,X6] at o;omega
theorem Stack.cells{w0 wr:Tw}{i:Nat}{g k:Nat}{n:Nat}{X:List Tv}{b:List CT}(h:Stack w0 wr i (Zs (some ⟨g,0,none⟩) n k) n X b){j:Nat}{u:Tv}(c:X[j]? = some u):wr.cell? ⟨g,j,none⟩=some u:=by
 have:=h.own.cells (g:=g) rfl j u c;have a:(⟨g,0,none⟩:Addr).add j=⟨g,j,none⟩:=by unfold Addr.add;split <;> simp_all
 rwa[a] at this
theorem Stack.Hc{w0 wr:Tw}{c:To}{k:Nat}{f:List CT}(h:Stack w0 wr i (Zs c n k) n X f)(p:0<n):∃g,c=some ⟨g,0,none⟩/\w0.heap.size<=g/\g<wr.heap.size:=by
 rcases h.own.2 with⟨e,o⟩|⟨g,j,l,a,m,d,_⟩
 ·omega
 injection a with a _ _;refine⟨g,a,m,?_⟩
 rcases Yc g wr.heap.size with b|b
 ·exact b
 rw[XO b] at d;cases d
theorem Stack.last{w0 wr:Tw}(h:Stack w0 wr i v n X a){j:Nat}(d:j<n):∃u T,X[j]? = some u/\a[j]? = some T/\Gy wr T u/\0<A2 T:=by
 have c:j<X.length:=by rw[h.sS];omega
 have b:j<a.length:=by rw[h.len];omega
 exact⟨X[j],a[j],Y9 c,Y9 b,h.ins j _ _ (Y9 b) (Y9 c)⟩
