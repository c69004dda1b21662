import Derived.Test.YtbhhpheailbebaaGreatDoorZC
import Derived.Maps.OwnRows
set_option maxHeartbeats 40000000
set_option maxRecDepth 100000
open List renaming getElem?_eq_getElem->Y8,length_map->XB,mem_of_getElem?->XE,length_append->XF,getElem?_append_right->XG,getElem?_append_left->XH,map_append->XK,mem_of_mem_drop->XL,set_cons_succ->XM,getElem?_map->XN,length_cons->XO,append_nil->XP,map_map->XQ,filter_append->XR,flatMap_cons->XS,length_take->XT,append_assoc->XV,length_set->XW,nodup_cons->XX,map_cons->XZ,map_nil->X2
open Nat renaming zero_le->Y9,le_refl->XA,le_trans->XC,add_zero->X4,le_succ->X6
open Go.RowKit.Below renaming refl->Y',setCell->XY
open Go.World renaming ownsRow_nil->XD,news_of_block->XI,grownBy_alloc->XU
open Bool renaming and_eq_true->XJ
namespace Go.Proofs.YtbhhpheailbebaaGreatDoor
open Tryz RowKit Lib Joins Shelf Maps ChangeMaps MapKept ChangeShapes
open Go.Sort (grow)
open WideElems (Fit rd rg pl rd_val elemAt)
variable{W:Tw}{a:Act}
def S7(W:World)(b:Nat)(a c d e f g h:Value):Prop:=W.cell? ⟨b,0,none⟩=some a/\W.cell? ⟨b,1,none⟩=some c/\W.cell? ⟨b,2,none⟩=some d/\W.cell? ⟨b,3,none⟩=some e/\W.cell? ⟨b,4,none⟩=some f/\W.cell? ⟨b,5,none⟩=some g/\W.cell? ⟨b,6,none⟩=some h
theorem s7{b:Nat}{v u f a e c d:Tv}(h:W.heap[b]? = some (Zk #[v,u,f,a,e,c,d] 72)):S7 W b v u f a e c d:=by refine⟨?_,?_,?_,?_,?_,?_,?_⟩ <;> simp[World.cell?,h]
theorem heap_alloc_new(w:Tw)(o:Obj):(w.alloc o).heap[w.heap.size]? = some o:=by show (w.heap.push o)[w.heap.size]? = some o;simp
theorem P2{q:Array Oper}{o:Oper}{K:Act->Tw->Prop}{Q:Exit->Act->Tw->Prop}{E:Prop}(i:o.guard=none)(s x:Operand)(y:o.op=.call { callee:=.builtin .append,args:=#[s,x],argTypes:=#[34,34] })(base n:Nat)(v:Tv)(xs:List Tv)(e:W.ownsRow base 72 7 v n xs)(b:Nat)(cs:List Tv)(t:W.heap[b]? = some (Zk cs.toArray 72))(z:a.eval s=v)(D:a.eval x=Zs (some ⟨b,0,none⟩) 1 1)(I:cs.length=7)(r:∀u∈cs,u.oneCell'=true)(J:n<=1000)(d:base<=W.heap.size)(h:∀g c f,Hid (f.ownsRow base 72 7 (Zs (some ⟨g,0,none⟩) (n+1) c) (n+1) (xs++cs)/\W.grownBy f v.ownBlock)->K (a.put o.dst (Zs (some ⟨g,0,none⟩) (n+1) c)) f):
 if Region.wanted o (yielded q a.tmps)=true then Oper.wp prog o a W K Q else E:=by
 obtain⟨G,k,l,m,p⟩:=info_parts Kh;exact step_append_lies W i s x 34 y base 72 G L6 7 72 underlying34 k l m p rfl (by omega) v n xs z e ⟨b,0,none⟩ 1 1 cs D (by omega) (λj u w=>XI t j u (by simpa using w)) r (by omega) (by unfold maxLen;omega) (by omega) d _ rfl (λg c f h2 h3 _ _=>h g c f ⟨h2,h3⟩)
theorem AFQ(g o T:Nat)(l:List Aj)(next i:Int)(nm:Tb)(k:Int)(mu:Bool)(r u:Int)(v:Tb)(w:Tw)(h:I1 w g o l)(h8:l.length<8)(hf:Ce l nm = -1)(J:Ko (next,nm,k,mu,r,u,v)=true)(aa:(mu && r==0)=false)(ad:1<=next)(ae:next<=1000000000000000)(hw:Lw w):
 Zc 106 #[Zs (some ⟨g,o,none⟩) l.length T,Zi next,Zg #[Zi i,Zt nm,Zi k,Zo mu,Zi r,Zi u,Zt v]] w λe c=>∃s t,e=Zr (Zu #[Zs (some ⟨s,0,none⟩) (l.length+1) t,Zi (next+1),Zn])/\c.ownsRow w.heap.size 72 7 (Zs (some ⟨s,0,none⟩) (l.length+1) t) (l.length+1) (Av (l++[(next,nm,k,mu,r,u,v)]))/\Zb w c:=by
 have hm:=(Ou _).1 J;have ac:¬(8:Int)<=(l.length:Int):=by omega
 have HW:Hid (IntKind.i64.wrap (next+1)=next+1):=by rw[show IntKind.i64.wrap (next+1)=next+1 by rw[IntKind.wrap_i64];omega];exact rfl
 have HF:Hid (∀W,Zb w W->Zc 15 #[Zs (some ⟨g,o,none⟩) l.length T,Zt nm] W λe c=>e=Zr (Zi (-1))/\Zb W c):=λW n=>by have:=E8 g o T l nm W (h.below n) (by omega);rwa[hf] at this
 have HM:Hid (∀W,Zb w W->Zc 104 #[Zg #[Zi next,Zt nm,Zi k,Zo mu,Zi r,Zi u,Zt v]] W λe c=>e=Zr (Zo true)/\Zb W c):=λW n=>by have:=I8 next nm k mu r u v W (jU hm.2.2.1) (kU hm.2.2.2) (hw.below n);rwa[J] at this
 have HC:Hid (∀W,Zb w W->Zc 103 #[Zs (some ⟨g,o,none⟩) l.length T] W λe c=>∃s t,e=Zr (Zs (some ⟨s,0,none⟩) l.length t)/\c.ownsRow W.heap.size 72 7 (Zs (some ⟨s,0,none⟩) l.length t) l.length (Av l)/\Zb W c):=λW n=>Rb g o T l W (h.below n) (by omega)
 have B1:Hid (∀X:Obj,Zb w (w.alloc X)):=λX=>Zal
 clear h hf J hm hw;cases mu with
 | false=>
   go_enter func106,ntmps106
   go_wp2_with (first
    | (go_at_call 15;refine(HF.out _ (B1.out _)).mono ?_;rintro e w1⟨rfl,b⟩;have z:∀o,w1.cell? ⟨w.heap.size,o,none⟩=_:=λo=>b.cell (p:=⟨w.heap.size,o,none⟩) (by simp))
    | (go_at_call 104;refine(HM.out _ (Below.Ap (B1.out _) b)).mono ?_;rintro e m⟨rfl,f⟩;have D:∀o,m.cell? ⟨w.heap.size,o,none⟩=_:=λo=>f.cell (p:=⟨w.heap.size,o,none⟩) (Ya (by simp) b.size)))
   have Y:Hid (m.heap[w.heap.size]? = some (Zk #[Zi next,Zt nm,Zi k,Zo false,Zi r,Zi u,Zt v] 72)):=by have e1:=b.block w.heap.size (by simp);have e2:=f.block w.heap.size (Ya (by simp) b.size);exact e2.trans (e1.trans (heap_alloc_new _ _))
   have x:Hid (Zb w m):=Below.Ap (Below.Ap (B1.out _) b) f;have I:w.heap.size<m.heap.size:=Ya (Ya (by simp) b.size) f.size;clear z D b f;have HX:Hid (∀W,Zb m W->Zc 103 #[Zs (some ⟨g,o,none⟩) l.length T] W λe c=>∃s t,e=Zr (Zs (some ⟨s,0,none⟩) l.length t)/\c.ownsRow w.heap.size 72 7 (Zs (some ⟨s,0,none⟩) l.length t) l.length (Av l)/\m.heap.size<=s/\Zb W c/\Zb m c):=λW n=>(HC.out W (Below.Ap x.out n)).mono λe c⟨s,t,he,ho,hb'⟩=>⟨s,t,he,ownsRow_le ho (XC (YD I) n.size),XC n.size (ho.lt _ rfl).1,hb',Below.Ap n hb'⟩
   have P:Hid (∀W:Tw,Zb m W->S7 W w.heap.size (Zi next) (Zt nm) (Zi k) (Zo false) (Zi r) (Zi u) (Zt v)):=λW n=>s7 ((n.block _ I).trans Y.out)
   obtain⟨i0,G,M,N,O⟩:=info_parts Kh;have HI:=Zy G M N O;clear G M N O;obtain⟨q0,q1,q2,q3,q4,q5,q6⟩:=P.out m (Y' _ _)
   go_region_held3 (λc=>c.cell? ⟨w.heap.size,0,none⟩=some (Zi next)/\c.cell? ⟨w.heap.size,1,none⟩=some (Zt nm)/\c.cell? ⟨w.heap.size,2,none⟩=some (Zi k)/\c.cell? ⟨w.heap.size,3,none⟩=some (Zo false)/\c.cell? ⟨w.heap.size,4,none⟩=some (Zi r)/\c.cell? ⟨w.heap.size,5,none⟩=some (Zi u)/\c.cell? ⟨w.heap.size,6,none⟩=some (Zt v))
    (first
      | (go_keep;done)
      | exact P.out _ a
      | exact P.out _ ((a.alloc a.size _).grown d.out.2 (by have:=a.size;simp;omega) (λj y=>by cases y;exact q))
      | exact P.out _ (a.grown d.out.2 a.size (λj y=>by cases y;exact q))
      | fail)
    (first
      | (go_at_call 103;refine(HX.out _ ?_).mono ?_;(first|exact(Y' _ _).drew|exact(Y' _ _).drew.alloc (by simp) _|exact(Zal).drew);rintro e w3⟨g3,c3,rfl,L,q,V,a⟩)
      | (refine P2 (by rfl) (.tmp 37) (.tmp 39) (by rfl) w.heap.size l.length (Zs (some ⟨g3,0,none⟩) l.length c3) (Av l) (L.alloc _) w3.heap.size [Zi next,Zt nm,Zi k,Zo false,Zi r,Zi u,Zt v] (heap_alloc_new _ _) (by rfl) (by rfl) rfl (by simp[Value.oneCell']) (by omega) (by have:=a.size;simp;omega) ?_;intro U R w4 d)
      | (refine P2 (by rfl) (.tmp 37) (.tmp 39) (by rfl) w.heap.size l.length (Zs (some ⟨g3,0,none⟩) l.length c3) (Av l) L m.heap.size [Zi next,Zt nm,Zi k,Zo false,Zi r,Zi u,Zt v] ((V.block _ (by simp)).trans (heap_alloc_new _ _)) (by rfl) (by rfl) rfl (by simp[Value.oneCell']) (by omega) (by have:=a.size;simp;omega) ?_;intro U R w4 d)
      | fail)
   ·go_wp2
    go_ret3;refine⟨U,R,by simp[HW.out],?_,Below.Ap x.out ((a.alloc a.size _).grown d.out.2 (by have:=a.size;simp;omega) (λj y=>by cases y;exact q))⟩;rw[Hs];exact d.out.1
   go_wp2;go_ret3;refine⟨U,R,by simp[HW.out],?_,Below.Ap x.out (a.grown d.out.2 a.size (λj y=>by cases y;exact q))⟩;rw[Hs];exact d.out.1
 | true=>
   have ab:(r==0)=false:=by simpa using aa
   go_enter func106,ntmps106
   go_wp2_with (first
    | (go_at_call 15;refine(HF.out _ (B1.out _)).mono ?_;rintro e w1⟨rfl,b⟩;have z:∀o,w1.cell? ⟨w.heap.size,o,none⟩=_:=λo=>b.cell (p:=⟨w.heap.size,o,none⟩) (by simp))
    | (go_at_call 104;refine(HM.out _ (Below.Ap (B1.out _) b)).mono ?_;rintro e m⟨rfl,f⟩;have D:∀o,m.cell? ⟨w.heap.size,o,none⟩=_:=λo=>f.cell (p:=⟨w.heap.size,o,none⟩) (Ya (by simp) b.size)))
   have Y:Hid (m.heap[w.heap.size]? = some (Zk #[Zi next,Zt nm,Zi k,Zo true,Zi r,Zi u,Zt v] 72)):=by have e1:=b.block w.heap.size (by simp);have e2:=f.block w.heap.size (Ya (by simp) b.size);exact e2.trans (e1.trans (heap_alloc_new _ _))
   have x:Hid (Zb w m):=Below.Ap (Below.Ap (B1.out _) b) f;have I:w.heap.size<m.heap.size:=Ya (Ya (by simp) b.size) f.size;clear z D b f;have HX:Hid (∀W,Zb m W->Zc 103 #[Zs (some ⟨g,o,none⟩) l.length T] W λe c=>∃s t,e=Zr (Zs (some ⟨s,0,none⟩) l.length t)/\c.ownsRow w.heap.size 72 7 (Zs (some ⟨s,0,none⟩) l.length t) l.length (Av l)/\m.heap.size<=s/\Zb W c/\Zb m c):=λW n=>(HC.out W (Below.Ap x.out n)).mono λe c⟨s,t,he,ho,hb'⟩=>⟨s,t,he,ownsRow_le ho (XC (YD I) n.size),XC n.size (ho.lt _ rfl).1,hb',Below.Ap n hb'⟩
   have P:Hid (∀W:Tw,Zb m W->S7 W w.heap.size (Zi next) (Zt nm) (Zi k) (Zo true) (Zi r) (Zi u) (Zt v)):=λW n=>s7 ((n.block _ I).trans Y.out)
   obtain⟨i0,G,M,N,O⟩:=info_parts Kh;have HI:=Zy G M N O;clear G M N O;obtain⟨q0,q1,q2,q3,q4,q5,q6⟩:=P.out m (Y' _ _)
   go_region_held3 (λc=>c.cell? ⟨w.heap.size,0,none⟩=some (Zi next)/\c.cell? ⟨w.heap.size,1,none⟩=some (Zt nm)/\c.cell? ⟨w.heap.size,2,none⟩=some (Zi k)/\c.cell? ⟨w.heap.size,3,none⟩=some (Zo true)/\c.cell? ⟨w.heap.size,4,none⟩=some (Zi r)/\c.cell? ⟨w.heap.size,5,none⟩=some (Zi u)/\c.cell? ⟨w.heap.size,6,none⟩=some (Zt v))
    (first
      | (go_keep;done)
      | exact P.out _ a
      | exact P.out _ ((a.alloc a.size _).grown d.out.2 (by have:=a.size;simp;omega) (λj y=>by cases y;exact q))
      | exact P.out _ (a.grown d.out.2 a.size (λj y=>by cases y;exact q))
      | fail)
    (first
      | (go_at_call 103;refine(HX.out _ ?_).mono ?_;(first|exact(Y' _ _).drew|exact(Y' _ _).drew.alloc (by simp) _|exact(Zal).drew);rintro e w3⟨g3,c3,rfl,L,q,V,a⟩)
      | (refine P2 (by rfl) (.tmp 37) (.tmp 39) (by rfl) w.heap.size l.length (Zs (some ⟨g3,0,none⟩) l.length c3) (Av l) (L.alloc _) w3.heap.size [Zi next,Zt nm,Zi k,Zo true,Zi r,Zi u,Zt v] (heap_alloc_new _ _) (by rfl) (by rfl) rfl (by simp[Value.oneCell']) (by omega) (by have:=a.size;simp;omega) ?_;intro U R w4 d)
      | (refine P2 (by rfl) (.tmp 37) (.tmp 39) (by rfl) w.heap.size l.length (Zs (some ⟨g3,0,none⟩) l.length c3) (Av l) L m.heap.size [Zi next,Zt nm,Zi k,Zo true,Zi r,Zi u,Zt v] ((V.block _ (by simp)).trans (heap_alloc_new _ _)) (by rfl) (by rfl) rfl (by simp[Value.oneCell']) (by omega) (by have:=a.size;simp;omega) ?_;intro U R w4 d)
      | fail)
   ·go_wp2
    go_ret3;refine⟨U,R,by simp[HW.out],?_,Below.Ap x.out ((a.alloc a.size _).grown d.out.2 (by have:=a.size;simp;omega) (λj y=>by cases y;exact q))⟩;rw[Hs];exact d.out.1
   go_wp2;go_ret3;refine⟨U,R,by simp[HW.out],?_,Below.Ap x.out (a.grown d.out.2 a.size (λj y=>by cases y;exact q))⟩;rw[Hs];exact d.out.1
def AAg(l:List Aj)(c:Aj):Prop:=Ce l c.2.1 = -1/\l.length<8/\Ko c=true/\(c.2.2.2.1 && c.2.2.2.2.1==0)=false
theorem AHP(g o L:Nat)(l:List Aj)(next i:Int)(nm:Tb)(k:Int)(mu:Bool)(q u:Int)(r:Tb)(w:Tw)(h:I1 w g o l)(T:l.length<=8)(D:nm.size<=maxLen)(z:r.size<=maxLen)(m:¬AAg l (next,nm,k,mu,q,u,r))(O:Lw w):
 Zc 106 #[Zs (some ⟨g,o,none⟩) l.length L,Zi next,Zg #[Zi i,Zt nm,Zi k,Zo mu,Zi q,Zi u,Zt r]] w λe G=>∃x,e=Zr (Zu #[Zs none 0 0,Zi 0,Zf 90 (Zi x)])/\Zb w G:=by
 have s:Hid (∀W,Zb w W->Zc 15 #[Zs (some ⟨g,o,none⟩) l.length L,Zt nm] W λe G=>e=Zr (Zi (Ce l nm))/\Zb W G):=λW hb=>E8 g o L l nm W (h.below hb) T
 have t:Hid (∀W,Zb w W->Zc 104 #[Zg #[Zi next,Zt nm,Zi k,Zo mu,Zi q,Zi u,Zt r]] W λe G=>e=Zr (Zo (Ko (next,nm,k,mu,q,u,r)))/\Zb W G):=λW hb=>I8 next nm k mu q u r W D z (O.below hb)
 have n:Hid (∀X:Obj,Zb w (w.alloc X)):=λX=>Zal
 clear h O D z
 by_cases J:0<=Ce l nm
 ·generalize Ce l nm=f at s J
  clear t m;go_enter func106,ntmps106
  go_wp2_with (first
   | (go_at_call 15;refine(s.out _ (n.out _)).mono ?_;rintro e I⟨rfl,a⟩))
  go_ret3;exact⟨_,rfl,Below.Ap (n.out _) a⟩
 have c:Ce l nm = -1:=by
  rcases Gz l nm with⟨e,_⟩|⟨j,_,e,_⟩
  ·exact e
  omega
 rw[c] at s
 by_cases h7:l.length<8
 ·have M:¬(8:Int)<=(l.length:Int):=by omega
  cases hm:Ko (next,nm,k,mu,q,u,r) with
  | false=>
    rw[hm] at t;clear m J c hm;go_enter func106,ntmps106
    go_wp2_with (first
     | (go_at_call 15;refine(s.out _ (n.out _)).mono ?_;rintro e I⟨rfl,a⟩;have v:∀o,I.cell? ⟨w.heap.size,o,none⟩=_:=λo=>a.cell (p:=⟨w.heap.size,o,none⟩) (by simp))
     | (go_at_call 104;refine(t.out _ (Below.Ap (n.out _) a)).mono ?_;rintro e N⟨rfl,b⟩;have y:∀o,N.cell? ⟨w.heap.size,o,none⟩=_:=λo=>b.cell (p:=⟨w.heap.size,o,none⟩) (Ya (by simp) a.size)))
    go_ret3;exact⟨_,rfl,Below.Ap (Below.Ap (n.out _) a) b⟩
  | true=>
    rw[hm] at t
    have d:(mu && q==0)=true:=by
     cases hq:(mu && q==0) with
     | true=>rfl
     | false=>exact(m ⟨c,h7,hm,hq⟩).elim
    have P:mu=true:=by simp at d;exact d.1
    have R:q=0:=by simp at d;exact d.2
    subst P R;clear m J c hm d;go_enter func106,ntmps106
    go_wp2_with (first
     | (go_at_call 15;refine(s.out _ (n.out _)).mono ?_;rintro e I⟨rfl,a⟩;have v:∀o,I.cell? ⟨w.heap.size,o,none⟩=_:=λo=>a.cell (p:=⟨w.heap.size,o,none⟩) (by simp))
     | (go_at_call 104;refine(t.out _ (Below.Ap (n.out _) a)).mono ?_;rintro e N⟨rfl,b⟩;have y:∀o,N.cell? ⟨w.heap.size,o,none⟩=_:=λo=>b.cell (p:=⟨w.heap.size,o,none⟩) (Ya (by simp) a.size)))
    go_ret3;exact⟨_,rfl,Below.Ap (Below.Ap (n.out _) a) b⟩
 have M:(8:Int)<=(l.length:Int):=by omega
 clear t m J c;go_enter func106,ntmps106
 go_wp2_with (first
  | (go_at_call 15;refine(s.out _ (n.out _)).mono ?_;rintro e I⟨rfl,a⟩))
 go_ret3;exact⟨_,rfl,Below.Ap (n.out _) a⟩
theorem tR(w:Tw)(o:Obj):w.heap.size<(w.alloc o).heap.size:=by simp
theorem fX(n:Nat):(Builtin.zeroCells L6.cells n).size=n*7:=by simp[Builtin.zeroCells,show L6.cells.size=7 from rfl]
theorem AFw(n:Nat)(w:Tw)(m:1<=n)(o:n<=8):
 Zc 211 #[Zs none 0 0,Zi n] w λe h=>∃j i,e=Zr (Zs (some ⟨j,0,none⟩) 0 i)/\h.ownsRow w.heap.size 72 7 (Zs (some ⟨j,0,none⟩) 0 i) 0 (Av [])/\Zb w h:=by
 obtain⟨l,d,f,k,g⟩:=info_parts Kh;refine(Any8.slices_Grow_grow layGro l L6 d f (by omega) none 0 0 n [] w (XA _) (by omega) (by rw[g];omega) (by omega) (by simp) (λ_=>rfl) (λa ha=>by cases ha)).mono ?_;rintro e h⟨rfl,rfl⟩;have c:0+n<=grownCap w (0+n) 0 72:=grownCap_ge w _ _ _;have b:grownCap w (0+n) 0 72<=maxLen:=grownCap_le_maxLen w (0+n) 0 72 (by unfold maxLen;omega);refine⟨_,_,rfl,?_,((Y' _ _).drew).alloc (XA _) _⟩
 change (w.drew.alloc (Zk (#[]++Builtin.zeroCells L6.cells (0+n-0)++Builtin.zeroCells L6.cells (grownCap w (0+n) 0 72-(0+n))) 72)).ownsRow w.heap.size 72 7 (Zs (some ⟨w.heap.size,0,none⟩) 0 (grownCap w (0+n) 0 72)) 0 []
 generalize grownCap w (0+n) 0 72=G at c b;exact YQ (w:=w.drew) _ G (XA _) b (by simp only[Array.size_append,fX,Array.size_empty];omega)
theorem Oc{f:Array Oper}{rest:List Oper}{o:Oper}{Q:Exit->Act->Tw->Prop}(q:o.guard=none)(s x:Operand)(N:o.op=.call { callee:=.builtin .append,args:=#[s,x],argTypes:=#[34,34] })(base g c:Nat)(l:List Aj)(O:a.eval s=Zs (some ⟨g,0,none⟩) l.length c)(e:W.ownsRow base 72 7 (Zs (some ⟨g,0,none⟩) l.length c) l.length (Av l))(p y z:Nat)(m:List Aj)(P:a.eval x=Zs (some ⟨p,y,none⟩) m.length z)(M:I1 W p y m)(T:l.length+m.length<=1000)(b:base<=W.heap.size)(h:∀k d i,Hid (i.ownsRow base 72 7 (Zs (some ⟨k,0,none⟩) (l.length+m.length) d) (l.length+m.length) (Av (l++m))/\W.grownBy i (some g))->wpList prog f Q rest (a.put o.dst (Zs (some ⟨k,0,none⟩) (l.length+m.length) d)) i):wpList prog f Q (o :: rest) a W:=by
 obtain⟨R,r,t,v,w⟩:=info_parts Kh;refine wpList_append_own W q s x 34 N base 72 R L6 7 72 underlying34 r t v w rfl (by omega) _ _ _ O e ⟨p,y,none⟩ m.length z (Av m) P (Hy m) (λj u L=>by rw[Addr.add_lit];exact M.flat j u L) (Ni m) (by unfold maxLen;omega) (by omega) b ?_;intro v' i D I J
 rcases ownsRow_forms D with⟨n,_⟩|⟨k,G,n⟩
 ·exact absurd (J.1 n).1 (by simp)
 subst n;exact h k G i ⟨by rw[Hs];exact D,I⟩
theorem vO(p g o c m r t:Nat)(a b:List Aj)(w:Tw)(v:w.cell? ⟨p,0,none⟩=some (Zs (some ⟨g,o,none⟩) a.length c))(x:w.cell? ⟨p,1,none⟩=some (Zs (some ⟨m,r,none⟩) b.length t))(L:p<w.heap.size)(I:I1 w g o a)(J:I1 w m r b)(X:1<=a.length+b.length)(Y:a.length+b.length<=8):
 Zc 163 #[Zs (some ⟨p,0,none⟩) 2 2] w λe s=>∃l k,e=Zr (Zs (some ⟨l,0,none⟩) (a.length+b.length) k)/\s.ownsRow w.heap.size 72 7 (Zs (some ⟨l,0,none⟩) (a.length+b.length) k) (a.length+b.length) (Av (a++b))/\Zb w s:=by
 have P:Hid (Zc 211 #[Zs none 0 0,Zi ((a.length:Int)+(b.length:Int))] w λe s=>∃l k,e=Zr (Zs (some ⟨l,0,none⟩) 0 k)/\s.ownsRow w.heap.size 72 7 (Zs (some ⟨l,0,none⟩) 0 k) 0 (Av [])/\Zb w s):=by have:=AFw (a.length+b.length) w X Y;rwa[show ((a.length+b.length:Nat):Int)=(a.length:Int)+(b.length:Int) by omega] at this
 have N:Hid (I1 w g o a):=I;have O:Hid (I1 w m r b):=J;have y:Hid (∀W,Zb w W->W.cell? ⟨p,0,none⟩=some (Zs (some ⟨g,o,none⟩) a.length c)/\W.cell? ⟨p,1,none⟩=some (Zs (some ⟨m,r,none⟩) b.length t)):=λW G=>⟨(G.cell (p:=⟨p,0,none⟩) L).trans v,(G.cell (p:=⟨p,1,none⟩) L).trans x⟩
 clear I J;have n1:¬(a.length:Int)<0:=by omega
 have n2:¬(a.length:Int)+(b.length:Int)<0:=by omega
 have n3:IntKind.i64.wrap ((a.length:Int)+(b.length:Int))=(a.length:Int)+(b.length:Int):=by rw[IntKind.wrap_i64];omega
 have n4:IntKind.i64.wrap (a.length:Int)=(a.length:Int):=by rw[IntKind.wrap_i64];omega
 go_enter func163,ntmps163;go_wp2;refine wp_loop_rounds 3 ?_;rw[rounds_succ];go_wp2;rw[rounds_succ];go_wp2;rw[rounds_succ]
 go_wp2_with (first
  | (go_at_call 211;refine P.out.mono ?_;rintro e w1⟨U,R,rfl,n,d⟩;obtain⟨r0,r1⟩:=y.out _ d))
 refine wp_loop_rounds 3 ?_;rw[rounds_succ];go_wp2_with (at_builtin;refine Oc rfl _ _ rfl w.heap.size U R [] rfl n g o c a rfl (N.out.below d) (by simp;omega) d.size ?_;intro D z M h;have f:Zb w M:=d.grown h.out.2 d.size (λj hj=>by cases hj;exact(n.lt _ rfl).1);obtain⟨s0,s1⟩:=y.out _ f;have i:Hid (M.ownsRow w.heap.size 72 7 (Zs (some ⟨D,0,none⟩) a.length z) a.length (Av a)):=Aa (by have:=h.out.1;simpa using this);clear h);rw[rounds_succ];go_wp2_with (at_builtin;refine Oc rfl _ _ rfl w.heap.size D z a rfl i.out m r t b rfl (O.out.below f) (by omega) f.size ?_;intro V T w5 q;have u:Zb w w5:=f.grown q.out.2 f.size (λj hj=>by cases hj;exact(i.out.lt _ rfl).1));rw[rounds_succ];go_wp2;go_ret;exact⟨V,T,rfl,q.out.1,u⟩
theorem AFn(g o b:Nat)(l:List Aj)(nm:Tb)(k:Nat)(w:Tw)(h:I1 w g o l)(T:Ce l nm=k)(hk:k<l.length)(h1:l.length≠1)(h8:l.length<=8)(P:l.length<=b):
 Zc 107 #[Zs (some ⟨g,o,none⟩) l.length b,Zt nm] w λe d=>∃q n,e=Zr (Zu #[Zs (some ⟨q,0,none⟩) (l.take k++l.drop (k+1)).length n,Zn])/\d.ownsRow w.heap.size 72 7 (Zs (some ⟨q,0,none⟩) (l.take k++l.drop (k+1)).length n) (l.take k++l.drop (k+1)).length (Av (l.take k++l.drop (k+1)))/\Zb w d:=by
 have N:Hid (∀W,Zb w W->Zc 15 #[Zs (some ⟨g,o,none⟩) l.length b,Zt nm] W λe d=>e=Zr (Zi k)/\Zb W d):=λW r=>by have:=E8 g o b l nm W (h.below r) h8;rwa[T] at this
 have V:(l.take k).length=k:=by simp;omega
 have lb:(l.drop (k+1)).length=l.length-(k+1):=by simp
 obtain⟨m,I⟩:∃m,m=k+1:=⟨_,rfl⟩;rw[<-I] at lb ⊢
 have L:Hid (∀W p u y nb,Zb w W->p<W.heap.size->nb=(l.drop m).length->W.heap[p]? = some (Zk #[Zs (some ⟨g,o,none⟩) k b,Zs (some ⟨g,u,none⟩) nb y] 34)->I1 W g u (l.drop m)->Zc 163 #[Zs (some ⟨p,0,none⟩) 2 2] W λe d=>∃q n,e=Zr (Zs (some ⟨q,0,none⟩) (l.take k++l.drop m).length n)/\d.ownsRow W.heap.size 72 7 (Zs (some ⟨q,0,none⟩) (l.take k++l.drop m).length n) (l.take k++l.drop m).length (Av (l.take k++l.drop m))/\Zb W d):=λW p u y nb r hp hnb hh hs=>by rw[XF];exact vO p g o b g u y (l.take k) (l.drop m) W (by rw[V];simp[World.cell?,hh]) (by rw[<-hnb];simp[World.cell?,hh]) hp ((h.below r).take k) hs (by omega) (by omega)
 have t:Hid (I1 w g o l):=h;have Y:∃x,l[0]! = x:=⟨_,rfl⟩;obtain⟨⟨J,x2,x3,x4,x5,x6,x7⟩,U⟩:=Y;have s:Hid (∀W,Zb w W->W.cell? ⟨g,o,none⟩=some (Zi J)):=λW r=>by have:=((h.below r).cells (k:=0) (by omega) U).1;simpa using this
 clear U;generalize hM:l.take k++l.drop m=M at *
 have ad:((l.length:Int)==1)=false:=by
  have:¬(l.length:Int)=1:=by omega
  simpa using this
 have aa:(0:Int)<=(k:Int):=by omega
 have ab:IntKind.i64.wrap ((k:Int)+1)=(m:Int):=by rw[IntKind.wrap_i64];omega
 have ac:(k:Int)<=(b:Int):=by omega
 have af:(0:Int)<=(m:Int):=by omega
 have ah:(m:Int)<=(l.length:Int):=by omega
 have ag:(m:Int)<=(b:Int):=by omega
 have ae:(l.length:Int)<=(b:Int):=by omega
 have X:Hid (l.length-m=(l.drop m).length):=by rw[lb,I];exact rfl
 have v:Hid (b=m->l.drop m=[]):=λe=>YK (by omega)
 clear h T V lb I
 by_cases hcc:b=m
 ·have O:Hid (l.drop m=[]):=v.out hcc
  subst hcc;clear v;go_enter func107,ntmps107
  go_wp2_with (first
   | (go_at_call 15;refine(N.out _ (Y' _ _)).mono ?_;rintro e f⟨rfl,a⟩))
  have q0:=s.out f a;have G:g<f.heap.size:=Ya t.out.1 a.size
  go_region_held3 (λd=>d.cell? ⟨g,o,none⟩=some (Zi J)) (first|(go_keep;done)|exact s.out _ (Below.Ap (a.alloc a.size _).drew c))
   (first
     | (go_at_call 163;refine(L.out _ f.heap.size o 0 0 ?_ ?_ ?_ ?_ ?_).mono ?_;exact(a.alloc a.size _).drew;exact tR f _;(rw[O.out];rfl);exact heap_alloc_new f _;(rw[O.out];exact⟨Ya t.out.1 (a.alloc a.size _).size,λj hj=>by simp at hj⟩);rintro e w3⟨D,z,rfl,i,c⟩)
     | fail)
  go_wp2;go_ret2;exact⟨D,z,rfl,ownsRow_le i (a.alloc a.size _).size,Below.Ap (a.alloc a.size _).drew c⟩
 clear v;have R:¬(b:Int)=(m:Int):=by omega
 go_enter func107,ntmps107
 go_wp2_with (first
  | (go_at_call 15;refine(N.out _ (Y' _ _)).mono ?_;rintro e f⟨rfl,a⟩))
 have q0:=s.out f a;have G:g<f.heap.size:=Ya t.out.1 a.size
 go_region_held3 (λd=>d.cell? ⟨g,o,none⟩=some (Zi J)) (first|(go_keep;done)|exact s.out _ (Below.Ap (a.alloc a.size _).drew c))
  (first
    | (go_at_call 163;refine(L.out _ f.heap.size (o+m*7) (b-m) (l.length-m) ?_ ?_ ?_ ?_ ?_).mono ?_;exact(a.alloc a.size _).drew;exact tR f _;exact X.out;exact heap_alloc_new f _;(have:=(t.out.below (a.alloc a.size (Zk #[Zs (some ⟨g,o,none⟩) k b,Zs (some ⟨g,o+m*7,none⟩) (l.length-m) (b-m)] 34)).drew).drop m;exact this);rintro e w3⟨D,z,rfl,i,c⟩)
    | fail)
 go_wp2;go_ret2;exact⟨D,z,rfl,ownsRow_le i (a.alloc a.size _).size,Below.Ap (a.alloc a.size _).drew c⟩
theorem AG7(g o c:Nat)(l:List Aj)(nm:Tb)(w:Tw)(h:I1 w g o l)(b:Ce l nm = -1\/l.length=1)(d:l.length<=8):
 Zc 107 #[Zs (some ⟨g,o,none⟩) l.length c,Zt nm] w λe i=>(∃x,e=Zr (Zu #[Zs none 0 0,Zf 90 (Zi x)])/\(0<=Ce l nm->x=6))/\Zb w i:=by
 have j:Hid (∀W,Zb w W->Zc 15 #[Zs (some ⟨g,o,none⟩) l.length c,Zt nm] W λe i=>e=Zr (Zi (Ce l nm))/\Zb W i):=λW hb=>E8 g o c l nm W (h.below hb) d
 clear h
 by_cases hf:Ce l nm<0
 ·generalize Ce l nm=f at *
  clear b d;go_enter func107,ntmps107
  go_wp2_with (first
   | (go_at_call 15;refine(j.out _ (Y' _ _)).mono ?_;rintro e p⟨rfl,a⟩))
  go_ret2;exact⟨⟨_,rfl,λh=>by omega⟩,a⟩
 have k:l.length=1:=by rcases b with h|h <;> omega
 have m:((l.length:Int)==1)=true:=by rw[k];rfl
 generalize Ce l nm=f at *;generalize l.length=n at *;clear b d k;go_enter func107,ntmps107
 go_wp2_with (first
  | (go_at_call 15;refine(j.out _ (Y' _ _)).mono ?_;rintro e p⟨rfl,a⟩))
 go_ret2;exact⟨⟨_,rfl,λ_=>rfl⟩,a⟩
theorem eF(a:Tb):∀(l:List Aj)(k:Nat),k<l.length->(Av l).set (k*7+1) (Zt a)=Av (l.set k (rR l[k]! a))
 | [],k,h=>absurd h (Ym _)
 | c :: l,0,_=>rfl
 | c :: l,k+1,h=>by
   have d:=eF a l k (by simpa using h);have e:Av (c :: l)=Cc c++Av l:=rfl;have b:(c :: l)[k+1]! = l[k]! := by simp
   rw[e,b,XM,show Av (c :: l.set k (rR l[k]! a))=Cc c++Av (l.set k (rR l[k]! a)) from rfl,<-d];rw[YB _ _ (by rw[Gl];omega),Gl,show (k+1)*7+1-7=k*7+1 by omega]
theorem yL(g o d:Nat)(l:List Aj)(nm c:ByteArray)(k:Nat)(w:World)(h:I1 w g o l)(z:Ce l nm=k)(P:k<l.length)(j:Bv c=true)(q:Ce l c = -1)(t:l.length<=8)(D:Lw w):
 Zc 108 #[.slice (some ⟨g,o,none⟩) l.length d,.string nm,.string c] w λe a=>∃b i,e=.returned (.tuple #[.slice (some ⟨b,0,none⟩) l.length i,.nilIface])/\a.ownsRow w.heap.size 72 7 (.slice (some ⟨b,0,none⟩) l.length i) l.length (Av (l.set k (rR l[k]! c)))/\Zb w a:=by
 have I:Hid (∀W,Zb w W->Zc 15 #[.slice (some ⟨g,o,none⟩) l.length d,.string nm] W λe a=>e=.returned (.int .i64 k)/\Zb W a):=λW hb=>by have:=E8 g o d l nm W (h.below hb) t;rwa[z] at this
 have M:Hid (∀W,Zb w W->Zc 15 #[.slice (some ⟨g,o,none⟩) l.length d,.string c] W λe a=>e=.returned (.int .i64 (-1))/\Zb W a):=λW hb=>by have:=E8 g o d l c W (h.below hb) t;rwa[q] at this
 have J:Hid (∀W,Zb w W->Zc 160 #[.string c] W λe a=>e=.returned (.bool true)/\Zb W a):=λW hb=>by have:=Li c W (jU j) (D.below hb);rwa[j] at this
 have G:Hid (∀W,Zb w W->Zc 103 #[.slice (some ⟨g,o,none⟩) l.length d] W λe a=>∃b i,e=.returned (.slice (some ⟨b,0,none⟩) l.length i)/\a.ownsRow w.heap.size 72 7 (.slice (some ⟨b,0,none⟩) l.length i) l.length (Av l)/\(∃u,a.cell? ⟨b,k*7+1,none⟩=some u)/\a.frozen? ⟨b,k*7+1,none⟩=false/\Zb w a):=λW hb=>(Rb g o d l W (h.below hb) t).mono λe a⟨b,i,he,ho,hb'⟩=>⟨b,i,he,ownsRow_le ho hb.size,by rw[ho.cellAt (k*7+1) (by omega)];exact⟨_,Y8 (by rw[Hy];omega)⟩,ho.frozenAt _,Below.Ap hb hb'⟩
 have L:=Aa (eF c l k P);have R:¬(k:Int)<0:=by omega
 have T:(k:Int)<(l.length:Int):=by omega
 have U:(0:Int)<=(k:Int):=by omega
 clear h z j q D;go_enter func108,ntmps108
 go_wp2_with (first
  | (go_at_call_of 15 (#[.slice (some ⟨g,o,none⟩) l.length d,.string nm]:Array Value);refine(I.out _ (Y' _ _)).mono ?_;rintro e Y⟨rfl,m⟩)
  | (go_at_call 160;refine(J.out _ m).mono ?_;rintro e w2⟨rfl,v⟩;have f:=Below.Ap m v)
  | (go_at_call 15;refine(M.out _ f).mono ?_;rintro e w3⟨rfl,x⟩;have n:=Below.Ap f x)
  | (go_at_call 103;refine(G.out _ n).mono ?_;rintro e w4⟨s,N,rfl,r,⟨X,V⟩,O,y⟩))
 go_ret2;refine⟨s,N,rfl,?_,XY (p:=⟨s,k*7+1,none⟩) y (r.lt s rfl).1 _⟩;rw[<-L.out];exact(r.stored _ _).1
theorem ACv(g o q:Nat)(l:List Aj)(nm c:ByteArray)(w:World)(h:I1 w g o l)(j:Ce l nm = -1\/Bv c=false\/0<=Ce l c)(s:c.size<=maxLen)(u:l.length<=8)(y:Lw w):
 Zc 108 #[.slice (some ⟨g,o,none⟩) l.length q,.string nm,.string c] w λe n=>∃x,e=.returned (.tuple #[.slice none 0 0,.iface 90 (.int .i64 x)])/\Zb w n:=by
 have t:Hid (∀W,Zb w W->Zc 15 #[.slice (some ⟨g,o,none⟩) l.length q,.string nm] W λe n=>e=.returned (.int .i64 (Ce l nm))/\Zb W n):=λW hb=>E8 g o q l nm W (h.below hb) u
 have r:Hid (∀W,Zb w W->Zc 15 #[.slice (some ⟨g,o,none⟩) l.length q,.string c] W λe n=>e=.returned (.int .i64 (Ce l c))/\Zb W n):=λW hb=>E8 g o q l c W (h.below hb) u
 have p:Hid (∀W,Zb w W->Zc 160 #[.string c] W λe n=>e=.returned (.bool (Bv c))/\Zb W n):=λW hb=>Li c W s (y.below hb)
 clear h y s u
 by_cases hf:Ce l nm<0
 ·generalize Ce l nm=f at *
  clear j r p;go_enter func108,ntmps108
  go_wp2_with (first
   | (go_at_call 15;refine(t.out _ (Y' _ _)).mono ?_;rintro e v⟨rfl,b⟩))
  go_ret2;exact⟨_,rfl,b⟩
 have m:¬Ce l nm = -1:=by omega
 cases hc:Bv c with
 | false=>
   rw[hc] at p;generalize Ce l nm=f at *;clear j r m;go_enter func108,ntmps108
   go_wp2_with (first
    | (go_at_call 15;refine(t.out _ (Y' _ _)).mono ?_;rintro e v⟨rfl,b⟩)
    | (go_at_call 160;refine(p.out _ b).mono ?_;rintro e z⟨rfl,d⟩;have a:=Below.Ap b d))
   go_ret2;exact⟨_,rfl,a⟩
 | true=>
   rw[hc] at p
   have I:0<=Ce l c:=by
    rcases j with h|h|h
    ·exact(m h).elim
    ·rw[hc] at h;cases h
    exact h
   clear j m
   by_cases hnt:nm=c
   ·subst hnt
    generalize Ce l nm=f at *;clear t;go_enter func108,ntmps108;go_wp2_with fail;refine(r.out _ (Y' _ _)).mono ?_;rintro e v⟨rfl,b⟩
    go_wp2_with (first
     | (go_at_call 160;refine(p.out _ b).mono ?_;rintro e z⟨rfl,d⟩;have a:=Below.Ap b d)
     | (go_at_call 15;refine(r.out _ a).mono ?_;rintro e D⟨rfl,k⟩;have i:=Below.Ap a k))
    go_ret2;exact⟨_,rfl,i⟩
   generalize Ce l nm=f at *;generalize Ce l c=G at *;clear hnt;go_enter func108,ntmps108
   go_wp2_with (first
    | (go_at_call_of 15 (#[.slice (some ⟨g,o,none⟩) l.length q,.string nm]:Array Value);refine(t.out _ (Y' _ _)).mono ?_;rintro e v⟨rfl,b⟩)
    | (go_at_call 160;refine(p.out _ b).mono ?_;rintro e z⟨rfl,d⟩;have a:=Below.Ap b d)
    | (go_at_call 15;refine(r.out _ a).mono ?_;rintro e D⟨rfl,k⟩;have i:=Below.Ap a k))
   go_ret2;exact⟨_,rfl,i⟩
namespace F
variable{D:Td}{H:List (Dn×Ah)}{U:List Tb}{s:Ah}{l:List Aj}{x:A6}{c:Aj}{W:Tw}{n:Int}{p:Tb}{T:S.CT}
structure Inv(D:DataW Unit)(H:List (Dn×Ah))(U:List ByteArray):Prop where
 Lm:U6 D H
 past:La H
 wU:R6 D H
 used:Used D U
 plain:∀u∈U,Plain u
 next:∀k,k<=H.length->(Ae H k).next<=10+k
theorem vA(D:Td):C7 D F6 [] :=
 ⟨⟨rfl,(λx a=>by cases a),Y9 _,Y9 _,λ_=>rfl⟩,(λx a=>by cases a),(λx a=>by cases a),(λx a=>by cases a)⟩
theorem Inv.nil:Inv (.map []) [] []:=by
 refine⟨AGO,trivial,λk a=>⟨[],?_⟩,Used.nil,(λu hu=>by cases hu),λk a=>?_⟩
 ·have:k=0:=by simpa using a
  subst this;exact vA _
 have:k=0:=by simpa using a
 subst this;show (0:Int)<=_;omega
theorem Inv.user(h:Inv D H U){s:Tb}(b:Plain s):Inv D H (s :: U) :=
 ⟨h.Lm,h.past,h.wU,h.used.more λu a=>Yg _ a,λu a=>by
  rcases List.mem_cons.1 a with rfl|a
  ·exact b
  exact h.plain u a,h.next⟩
theorem Inv.put{D:Td}{H:List (Dn×Ah)}{U:List Tb}(h:Inv D H U){s:Tb}(b:s∈U)(k:Nat)(v:Td)(a:Maps.has D (B.lit (Eh (Bw s k)))=false):Inv (D.put (B.lit (Eh (Bw s k))) v) H U :=
 ⟨ACQ h.Lm _ _,h.past,h.wU.put a v,h.used.put b k v,h.plain,h.next⟩
theorem Inv.AJO(h:Inv D H U)(O5:H.length<90){C:Dn}{t:Ah}(b:Bi (Ae H H.length) C t)(f:Lay C){i:List A6}(g:C7 D t i)(j:t.next<=11+H.length):Inv (D.put (B.lit (Ek (H.length+1))) (B.Gw (C6 C))) (H++[(C,t)]) U:=by
 have c:=(h.Lm.2 H.length (by omega)).2 (XA _);refine⟨AFI h.Lm O5 C t,ADc h.past b f,(h.wU.snoc g).put c _,h.used.log _ _,h.plain,λk d=>?_⟩
 rcases Yc H.length k with a|a
 ·have e:k=H.length+1:=by simp at d;omega
  subst e;rw[rJ];show t.next<=_;omega
 rw[qV a];exact h.next k a
structure J4 where
 Qk:Int
 cols:List Aj
 rows:List (List V)
 A3:List (ByteArray×V)
 change:Int
 name:ByteArray
 tw:ByteArray
 tree:S.CT->Prop
def Nl:Nat->List Aj->List Aj
 | _,[]=>[]
 | k,c :: l=>((k:Int),c.2) :: Nl (k+1) l
theorem dK:∀(k:Nat)(l:List Aj),(Nl k l).length=l.length
 | _,[]=>rfl
 | k,c :: l=>by simp[Nl,dK (k+1) l]
def cI(l:List Aj)(next:Int)(a:Int)(c:Aj)(nm b:ByteArray)(l':List Aj)(next':Int):Prop :=
 (a=1/\AAg l (next,c.2)/\l'=l++[(next,c.2)]/\next'=next+1) \/
 (a=2/\∃k:Nat,Ce l nm=k/\k<l.length/\l.length≠1/\l'=l.take k++l.drop (k+1)/\next'=next) \/
 (a=3/\∃k:Nat,Ce l nm=k/\k<l.length/\Bv b=true/\Ce l b = -1/\l'=l.set k (rR l[k]! b)/\next'=next)
def Pa(l:List Aj)(rows:List (List V)):DataW Unit:=B.Gw (E.str (Cq (l,Ay l rows)))
theorem bD(b:Maps.IsMap D){path:Tb}{rows:List (List V)}(c:De l rows=true)(a:K9 rows)(d:path.size<=1000):Gt (D.put (B.lit (Eh path)) (Pa l rows)) ((path,(rows.length:Int),[]),l,rows) :=
 ⟨Maps.has_put_same b L4 _,Maps.atKey_put_same b L4 _ _,c,a,d,Y9 _⟩
theorem Gt.AFx(h:Gt D x){path:Tb}(b:path≠x.1.1)(v:Td):Gt (D.put (B.lit (Eh path)) v) x:=by
 have a:B.lit (Eh x.1.1)≠B.lit (Eh path):=λe=>b (Uw (B.Jr e)).symm
 exact⟨by rw[Maps.has_put_other a];exact h.has,by rw[Maps.atKey_put_other a];exact h.Gw,h.ok,h.i64,h.name,h.mask⟩
theorem AJb{L l l':List Aj}{next next' y:Int}{nm s:Tb}(h:cI l next y c nm s l' next')(f:Lk L l)(i:∀d∈L,d.1<next):Lk L l':=by
 rcases h with⟨_,g,rfl,_⟩|⟨_,k,_,b,_,rfl,_⟩|⟨_,k,_,b,_,_,rfl,_⟩
 ·refine f.more (λd j e=>?_) (λhm e=>?_)
  ·have:=i d j
   simp at e;omega
  have:=g.2.2.2;simp only[mst,bP] at hm e;simp[hm,e] at this
 ·refine f.sub λx a=>?_
  rcases List.mem_append.1 a with a|a
  ·exact Yi a
  exact XL a
 refine f.named λx a=>?_
 rcases Ys a with a|rfl
 ·exact⟨x,a,rfl,rfl⟩
 exact⟨l[k]!,Jj b,rfl,rfl⟩
theorem rQ{l l':List Aj}{next next' x:Int}{nm s:Tb}(h:cI l next x c nm s l' next'):next<=next'/\next'<=next+1:=by rcases h with⟨_,_,_,rfl⟩|⟨_,k,_,_,_,_,rfl⟩|⟨_,k,_,_,_,_,_,rfl⟩ <;> omega
theorem AA6(a:Tb)(k:Nat):a++⟨#[95]⟩++Bm (k:Int)=Bw a k:=by apply ByteArray.ext;apply Array.toList_inj.mp;simp[Bw,Bm]
theorem Vu(a:Tb)(k:Nat)(b:k<=1000):(Bw a k).size<=a.size+22:=by have h:=Dw (n:=(k:Int)) ⟨by omega,by omega⟩;rw[<-AA6,ByteArray.size_append,ByteArray.size_append];have e:(⟨#[95]⟩:Tb).size=1:=rfl;omega
theorem fB(h:Good Bv Cm s):∀x∈s.cols,x.2.1.size<=maxLen/\x.2.2.2.2.2.2.size<=maxLen:=λx a=>by
 rcases h.cols with e|e
 ·rw[e] at a;cases a
 have d:=(e.2.2.1 x a).1;have b:=d.2.2.1;have c:=d.2.2.2;simp only[Bv,XJ] at b;simp only[Cm,XJ] at c;have:=Hh b.2;have:=gA c.1;unfold maxLen;omega
def noA(path:ByteArray)(n:Int):Gx:=((1,path,n,[],[],0),(none,0,0),(none,0,0))
def AIr(w0 w:World)(h base bb n:Nat)(D:DataW Unit)(fs:List Int)(mv:Value)(o:Nat)(s:Ah)(v:Int)(i:Option Addr)(n1 c1:Nat)(q:Int)(j:Option Addr)(n2 m:Nat)(f:ByteArray)(p:Bool)(L:List Gx)(rows:Int)(R:List (List V))(e:Ending)(g:World):Prop :=
 ∃n' c a b d,Ey w0 g h bb n' c a b d/\n'<=n+1/\Mv base bb mv b w g /\
  ((e=.returned .nilIface/\De s.cols R=true/\fs.headD 0≠1/\a=fs.tail/\c=D.put (B.lit (Eh (Bw f L.length))) (Pa s.cols R)/\∃k l,Dv base g o s v i n1 c1 q j n2 m f p k l (L++[noA (Bw f L.length) R.length]) rows) \/
   (∃T x,e=.returned (.iface T x)/\c=D/\((De s.cols R=false/\a=fs)\/(De s.cols R=true/\fs.headD 0=1/\a=fs.tail))))
theorem bK(w0:Tw)(NF base bb n:Nat)(D:Td)(fs:List Int)(mv fv:Tv)(P:Nat)(s:Ah)(v:Int)(a1:To)(n1 c1:Nat)(x2:Int)(a2:To)(n2 c2:Nat)(o:Tb)(rd:Bool)(aa:To)(ac:Nat)(L:List Gx)(rows:Int)(rv:Tv)(R:List (List V))(w:Tw)(h:Ey w0 w NF bb n D fs mv fv)(hN:NF<=base)(a8:w0.heap.size<=base)(hn:n<100000)(hD:Maps.IsMap D)(hP:Dv base w P s v a1 n1 c1 x2 a2 n2 c2 o rd aa ac L rows)(az:base<=w.heap.size)(hg:Good Bv Cm s)(he:B.Ob w0)(hR:iJ w rv R)(ay:R.length<=100000)(Y:∀r∈R,∀v∈r,v.2.2.size<=maxLen)(l:K9 R)(ba:o.size<=12)(hL:L.length<=100)(f:Maps.has D (B.lit (Eh (Bw o L.length)))=false):
 Zc 68 #[Zp (some ⟨bb,0,none⟩),Zp (some ⟨P,0,none⟩),rv] w (AIr w0 w NF base bb n D fs mv P s v a1 n1 c1 x2 a2 n2 c2 o rd L rows R):=by
 have a0:s.cols.length<=8:=by
  rcases hg.cols with e|e
  ·rw[e];exact Y9 _
  exact e.2.1
 obtain⟨b1,d1,b2,d2,Ls,ev,hV⟩:=hP.snap;unfold K4 at ev;simp only[Value.agg.injEq,Array.mk.injEq,List.cons.injEq,Value.int.injEq,Value.slice.injEq] at ev;obtain⟨⟨_,_⟩,⟨e1,e2,e3⟩,_⟩:=ev;subst e1 e2 e3;have d:F7 7 Cc w (Zs a1 s.cols.length c1) s.cols:=F7.Fz (k:=7) (enc:=Cc) (λ_=>rfl) (show w.ownsRow 0 72 7 (Zs a1 s.cols.length c1) s.cols.length (s.cols.flatMap Cc) from hV.cols) rfl;have c:=Aa (rW (Zs a1 s.cols.length c1) rv s.cols R w d hR (by omega) ay (fB hg) Y l (AHr h.ground.nc) (AJI (he.below h.low)));obtain⟨ra,rc,rfl,_⟩:=hR.slice;obtain⟨x0,x1,y2,x3,x4,x5,x6,x7,xf⟩:=F2 hP.box;have HP:=Aa hP;have ae:=Aa h;have a6:=Vu o L.length (by omega);have a5:(0:Int)<=(L.length:Int):=by omega
 cases hm:De s.cols R with
 | false=>rw[Ss hm] at c;have HM:=Aa hm;clear hm d hV hP h hg f hR Y l;unfold gK at c;go_enter func68,ntmps68;go_wp2_with fail;refine c.out.mono ?_;rintro e w1⟨T,u,rfl,t⟩;have i:Hid (Zb w (w1.alloc (Zk #[Zs none 0 0,Zs none 0 0] 98))):=Aa (Ap t (Zal));clear t c;go_wp2_with fail;go_ret;exact⟨n,D,fs,mv,fv,ae.out.up i.out,by omega,Mv.below i.out,.inr ⟨_,_,rfl,rfl,.inl ⟨HM.out,rfl⟩⟩⟩
 | true=>
   rw[lG hm] at c;have HM:=Aa hm;have hG:=opened hm l
   have X:=Aa (λcv gv W(N:Zb w W)(hF:Hm W cv gv (s.cols,Ay s.cols R))=>lH cv gv s.cols (Ay s.cols R) W hF a0 (by rw[hG.2];intro g hg b hb;obtain⟨p,hp,rfl⟩:=List.mem_map.1 hg;exact hG.1.bytes p hp b hb) (by rw[hG.2,XB];have:=hG.1.p10;omega) (AHr (h.ground.nc.below N)) (AJI ((he.below h.low).below N)))
   rw[show Jn (s.cols,Ay s.cols R)=some (Cq (s.cols,Ay s.cols R)) by unfold Jn;rw[if_pos (o8 hm ⟨rfl,rfl⟩ l)]] at X;have M:Hid (∀(cv gv:Tv)(W:Tw),Zb w W->Hm W cv gv (s.cols,Ay s.cols R)->Zc 92 #[Zg #[cv,gv]] W λe w'=>e=Zr (Zu #[Zt (E.str (Cq (s.cols,Ay s.cols R))),Zn])/\Zb W w'):=Aa X.out;clear X;have a9:=Vn hm l;have ag:=Aa (λW(N:Zb w W)=>Mx (L.length:Int) W ⟨by omega,by omega⟩ (h.ground.tb.below N));have a4:=Dw (n:=(L.length:Int)) ⟨by omega,by omega⟩;have ai:=Aa (AA6 o L.length);have ah:=Aa (λW=>tC (Bw o L.length) W (by omega));have q:=Aa (λW(N:Zb w W)=>oD w0 NF bb n D fs mv fv (Eh (Bw o L.length)) (E.str (Cq (s.cols,Ay s.cols R))) W (h.up N) hn hD (by simp[B.Wz,lS];omega) f (by rw[E.Ds];unfold maxLen;omega));unfold ABM at q;have ap:(⟨#[95]⟩:Tb).size=1:=rfl;have a7:(o++⟨#[95]⟩:Tb).size<=13:=by rw[ByteArray.size_append,ap];omega
   have au:Hid (B.Gw (E.str (Cq (s.cols,Ay s.cols R)))=Pa s.cols R):=Aa rfl;have ak:=Aa (And.intro hN a8);clear hm d hV hP h hg f hR Y l hG;unfold gK at c;generalize a3:Ay s.cols R=gs at *;generalize E.str (Cq (s.cols,gs))=tt at *;obtain⟨ar,y⟩:∃p,Bw o L.length=p:=⟨_,rfl⟩;rw[y] at ai ah q a6;have aj:=Aa y;clear y;generalize Bm (L.length:Int)=it at *;clear a3;go_enter func68,ntmps68;go_wp2_with fail;refine c.out.mono ?_;rintro e w1⟨cv,gv,rfl,I,t⟩;obtain⟨ca,cc,ec,_⟩:=I.1.slice;obtain⟨ga,gc,eg,_⟩:=I.2.slice;simp only at ec eg;subst ec eg;have af:=Aa I;have i:=Aa t;have z:Hid (Zb w1 (w1.alloc (Zk #[Zs ca s.cols.length cc,Zs ga gs.length gc] 98))):=Aa (Zal);clear I t c x0 x1 y2 x3 x4 x5 x6 x7 xf;go_wp2_with fail;refine(M.out _ _ _ (Ap i.out z.out) (af.out.up z.out)).mono ?_;rintro e w2⟨rfl,an⟩;have U:=Aa (Ap (Ap i.out z.out) an);clear an M af z i
   have HK:Hid (∀W,Zb w W->W.cell? ⟨P,4,none⟩=some (Zt o)/\W.cell? ⟨P,6,none⟩=some (Zs aa L.length ac)):=Aa λW N=>by obtain⟨_,_,_,_,x4,_,x6,_⟩:=F2 (HP.out.up N).box;exact⟨x4,x6⟩
   obtain⟨x4,x6⟩:=HK.out _ U.out;go_wp2_with fail
   go_region_held (λw'=>w'.cell? ⟨P,4,none⟩=some (Zt o)/\w'.cell? ⟨P,6,none⟩=some (Zs aa L.length ac))
    (first
      | (go_keep;done)
      | exact HK.out _ ab
      | fail)
    (first
      | (go_at_call 81;refine(ag.out _ U.out.drew).mono ?_;rintro e w3⟨rfl,O⟩
         have ab:=Ap U.out.drew O;clear O)
      | fail)
   all_goals
    have j:=Aa ab;clear ab ag x4 x6 ap a7 a9 a4;go_wp2_with fail;rw[ai.out];refine(ah.out _).mono ?_;rintro e w4⟨rfl,rfl⟩;go_wp2_with fail;refine(q.out _ j.out).mono ?_;rintro e w5⟨aq,al,D5,G,m,J,⟨hh,rfl,rfl⟩|⟨hh,rfl,rfl⟩⟩
    ·have a:=Zy G m J hh
     have av:=Aa ((HP.out.up j.out).put (ae.out.up j.out).bu m);have ad:=Aa (N3 base P s v a1 _ c1 x2 a2 n2 c2 o rd aa ac L rows w5 av.out (XC (XC az j.out.size) m.size) 1 ar (R.length:Int) [] [] 0 none 0 0 none 0 0 ⟨XD _ _ _ _,XD _ _ _ _⟩ ⟨by unfold maxLen;show ar.size<=_;omega,Y9 _,(λx hx=>by cases hx)⟩ (by omega));clear G m J hh q;go_wp2_with fail;refine ad.out.mono ?_;rintro e w6⟨rfl,⟨aw,ax,am⟩,ao⟩;have H6:=Aa (And.intro am ao);clear am ao ad;go_wp2_with fail;go_ret;refine⟨n+1,_,_,aq,al,Kv a.out.1 ak.out.1 ak.out.2 H6.out.2,by omega,((Mv.below j.out).trans (Mv.put a.out.2.1 a.out.2.2.1)).trans (Mv.ACV H6.out.2),.inl ⟨rfl,HM.out,a.out.2.2.2,rfl,by rw[au.out,aj.out],aw,ax,by rw[aj.out];exact H6.out.1⟩⟩
    have a:=Zy G m J hh;clear G m J hh q;go_wp2_with fail;go_ret;exact⟨n+1,_,_,aq,al,a.out.1,by omega,(Mv.below j.out).trans (Mv.put a.out.2.1 a.out.2.2.1),.inr ⟨_,_,rfl,rfl,.inr ⟨HM.out,a.out.2.2.2,rfl⟩⟩⟩
inductive Grown (tx:ByteArray) (D:DataW Unit):DataW Unit->Prop
 | refl:Grown tx D D
 | put {D':DataW Unit} (k:Nat) (v:DataW Unit):Grown tx D D'->Maps.has D' (B.lit (Eh (Bw tx k)))=false->Grown tx D (D'.put (B.lit (Eh (Bw tx k))) v)
theorem Inv.grown{a:Td}{s:Tb}(h:Inv D H U)(c:s∈U)(b:Grown s D a):Inv a H U:=by
 induction b with
 | refl=>exact h
 | put k v _ hf ih=>exact ih.put c k v hf
def Kd(w0 w:World)(l bb n:Nat)(D:DataW Unit)(mv:Value)(H:List (Dn×Ah))(i:ByteArray)(j:Prop)(Ok:DataW Unit->Bool->List A5->Int->Prop)(e:Ending)(f:World):Prop :=
 ∃n' b c a d,Ey w0 f l bb n' b c a d/\n'<=n+50/\B.A0 (B.Own bb mv) w f/\(∀k,a=.map (some k)->mv=.map (some k)\/w.heap.size<=k)/\Grown i D b /\
  ((∃g L h rows m n1 c1 s o n2 r p q,e=.returned (.tuple #[.pointer (some ⟨g,0,none⟩),.nilIface])/\Dv w.heap.size f g (Ae H H.length) (H.length:Int) m n1 c1 s o n2 r i h p q L rows/\Ok b h (L.map (·.1)) rows) \/
   (j/\∃T x,e=.returned (.tuple #[.pointer none,.iface T x])))
structure iK(w0 w:World)(NF bb n:Nat)(D:DataW Unit)(fs:List Int)(mv fv:Value)(H:List (Dn×Ah))(U:List ByteArray)(tx:ByteArray):Prop where
 base:Ey w0 w NF bb n D fs mv fv
 inv:Inv D H U
 et:B.Ob w0
 Pw:S.Lp w0
 nf:NF<=w.heap.size
 Iz:n<=80000
 O5:H.length<=40
 name:Bx tx=true
 short:tx.size<=12
 plain:Plain tx
 new:¬tx∈U
theorem iK.free{w0 w:Tw}{i bb n:Nat}{fs:List Int}{mv v:Tv}{s:Tb}(h:iK w0 w i bb n D fs mv v H U s)(k:Nat):Maps.has D (B.lit (Eh (Bw s k)))=false:=h.inv.used.fresh h.new h.plain h.inv.plain k
theorem iK.Of{w0 w:Tw}{k bb n:Nat}{fs:List Int}{mv v:Tv}{s:Tb}(h:iK w0 w k bb n D fs mv v H U s):Good Bv Cm (Ae H H.length):=(Jb h.inv.past (XA _)).1
def AIO(D:DataW Unit)(s:Ah)(a:ByteArray)(R:List (List V))(b:DataW Unit)(c:Bool)(A:List A5)(rows:Int):Prop :=
 s.cols≠[]/\De s.cols R=true/\b=D.put (B.lit (Eh (Bw a 0))) (Pa s.cols R)/\c=false/\A=[(1,Bw a 0,(R.length:Int),[],[],0)]/\rows=R.length
def AGF(s:Ah)(fs:List Int)(R:List (List V)):Prop:=s.cols=[]\/De s.cols R=false\/fs.headD 0=1
theorem AK7{b:Nat}{u f a e c d g j:Tv}{t:TypeId}(h:W.heap[b]? = some (Zk #[u,f,a,e,c,d,g,j] t (0,0)))(v:Tv):(W.setCell ⟨b,7,none⟩ v).heap[b]? = some (Zk #[u,f,a,e,c,d,g,v] t (0,0)):=by have i:=As W b 7 _ _ v h;simpa using i
theorem Dv.set{base:Nat}{w:Tw}{n:Nat}{v:Int}{g:To}{n1 c1:Nat}{y:Int}{j:To}{n2 k:Nat}{t:Tb}{R d:Bool}{l:To}{i:Nat}{L:List Gx}{rows a:Int}(h:Dv base w n s v g n1 c1 y j n2 k t R l i L rows)(N:w.grownBy W (some n))(M:W.heap[n]? = some (Zk #[Zi v,Zs g n1 c1,Zi y,Zs j n2 k,Zt t,Zo d,Zs l L.length i,Zi a] 116 (0,0))):Dv base W n s v g n1 c1 y j n2 k t d l i L a:=by
 have c:∀{b z m:Nat}{T:TypeId}{u:Tv}{xs:List Tv},w.ownsRow b T z u m xs->T≠116->W.ownsRow b T z u m xs:=λO J=>Mk O h.box (λe=>J e.symm) N
 refine⟨M,?_,c h.row (by decide),λq o=>⟨c (h.own q o).1 (by decide),c (h.own q o).2 (by decide)⟩,h.Vv,h.low⟩;obtain⟨r,G,D,I,p,e,f⟩:=h.snap;exact⟨r,G,D,I,p,e,c f.cols (by decide),f.files,c f.row (by decide),λx P=>c (f.Cl x P) (by decide)⟩
theorem wV(w0:Tw)(Y bb n:Nat)(D:Td)(fs:List Int)(mv fv:Tv)(H:List (Dn×Ah))(U:List Tb)(i:Tb)(rv:Tv)(R:List (List V))(w:Tw)(h:iK w0 w Y bb n D fs mv fv H U i)(hR:iJ w rv R)(ab:R.length<=100000)(u:∀r∈R,∀v∈r,v.2.2.size<=maxLen)(q:K9 R):
 Zc 38 #[Zp (some ⟨bb,0,none⟩),Zt i,rv] w (Kd w0 w Y bb n D mv H i (AGF (Ae H H.length) fs R) (AIO D (Ae H H.length) i R)):=by
 have HS:=Aa h;have g:=Aa (fH bb n D mv H i w h.base.ground h.inv.Lm h.inv.past h.O5 h.name h.short)
 have P:=Aa (λ(f:Nat)(k:To)(n1 c1:Nat)(J:Int)(l:To)(n2 m:Nat)W(hW:Zb w W)(s:Dv w.heap.size W f (Ae H H.length) (H.length:Int) k n1 c1 J l n2 m i false none 0 [] (R.length:Int))=>bK w0 Y w.heap.size bb n D fs mv fv f (Ae H H.length) (H.length:Int) k n1 c1 J l n2 m i false none 0 [] (R.length:Int) rv R W (h.base.up hW) h.nf h.base.low.size (by have:=h.Iz;omega) h.inv.Lm.1 s hW.size h.Of h.et (hR.up hW) ab u q h.short (Y9 _) (h.free 0))
 obtain⟨ra,rc,rfl,_⟩:=hR.slice;clear h hR u q;generalize G:Ae H H.length=sn at *;have X:=Aa G;clear G;go_enter func38,ntmps38;go_wp2_with fail;refine g.out.mono ?_;rintro e w1⟨d,⟨y,rfl⟩|⟨y,f,k,n1,c1,J,l,n2,m,rfl,s⟩⟩
 ·have j:=Aa (And.intro y d)
  clear y d g;go_wp2_with fail;go_ret2;exact⟨n,D,fs,mv,fv,HS.out.base.up j.out.2,by omega,B.A0.Ba j.out.2,λ_ e=>.inl e,.refl,.inr ⟨.inl j.out.1,_,_,rfl⟩⟩
 have L:=Aa d;have j:=Aa y;have N:=Aa s;obtain⟨y0,y1,y2,y3,y4,y5,y6,y7,yf⟩:=F2 s.box;clear d y s g;have HG:Hid (w1.grownBy (w1.setCell ⟨f,7,none⟩ (Zi (R.length:Int))) (some f)):=Aa (Aq _ _ _ _);have O:=Aa (N.out.set HG.out (AK7 N.out.box _));have a:Hid (Zb w (w1.setCell ⟨f,7,none⟩ (Zi (R.length:Int)))):=Aa (L.out.setCell (p:=⟨f,7,none⟩) N.out.low _);go_wp2_with fail;refine(P.out f k n1 c1 J l n2 m _ a.out O.out).mono ?_;rintro e w3⟨n3,D3,ad,I,o,b,ae,c,⟨rfl,hm,hf,rfl,rfl,aa,ac,t⟩|⟨T,x,rfl,rfl,z⟩⟩
 ·have H3:=Zy b c hm t
  clear b c hm t hf;go_wp2_with fail;go_ret2;refine⟨n3,_,_,I,o,H3.out.1,by omega,((Mv.below a.out).trans H3.out.2.1).out (XA _),((Mv.below (base:=w.heap.size) a.out).trans H3.out.2.1).link,.put 0 _ .refl (HS.out.free 0),.inl ⟨f,_,false,_,k,n1,c1,J,l,n2,m,aa,ac,rfl,by rw[X.out];exact H3.out.2.2.2,j.out,H3.out.2.2.1,rfl,rfl,rfl,rfl⟩⟩
 have H3:=Aa (And.intro b c);have M:Hid (AGF sn fs R):=Aa (z.elim (λh=>.inr (.inl h.1)) (λh=>.inr (.inr h.2.1)));clear b c z;go_wp2_with fail;go_ret2;exact⟨n3,_,_,I,o,H3.out.1,by omega,((Mv.below a.out).trans H3.out.2).out (XA _),((Mv.below (base:=w.heap.size) a.out).trans H3.out.2).link,.refl,.inr ⟨M.out,_,_,rfl⟩⟩
theorem k9(x:Int):∀(l:List Aj)(k:Nat),k<l.length->(Av l).set (k*7) (Zi x)=Av (l.set k (x,l[k]!.2))
 | [],k,h=>absurd h (Ym _)
 | c :: l,0,_=>rfl
 | c :: l,k+1,h=>by
   have b:=k9 x l k (by simpa using h);have e:Av (c :: l)=Cc c++Av l:=rfl;have a:(c :: l)[k+1]! = l[k]! := by simp
   rw[e,a,XM,show Av (c :: l.set k (x,l[k]!.2))=Cc c++Av (l.set k (x,l[k]!.2)) from rfl,<-b];rw[YB _ _ (by rw[Gl];omega),Gl,show (k+1)*7-7=k*7 by omega]
def Qj:Nat->Nat->List Aj->List Aj
 | _,0,l=>l
 | _,_+1,[]=>[]
 | i,k+1,c :: l=>((i:Int),c.2) :: Qj (i+1) k l
theorem gN:∀(i k:Nat)(l:List Aj),(Qj i k l).length=l.length
 | _,0,l=>rfl
 | _,_+1,[]=>rfl
 | i,k+1,c :: l=>by simp[Qj,gN (i+1) k l]
theorem tM:∀(i:Nat)(l:List Aj),Qj i l.length l=Nl i l
 | _,[]=>rfl
 | i,c :: l=>by simp[Qj,Nl,tM (i+1) l]
theorem jO:∀(i k:Nat)(l:List Aj),k<l.length->Qj i (k+1) l=(Qj i k l).set k (((i+k:Nat):Int),(Qj i k l)[k]!.2)
 | i,0,c :: l,_=>by simp[Qj]
 | i,k+1,c :: l,h=>by
   have a:=jO (i+1) k l (by simpa using h);rw[show Qj i (k+1+1) (c :: l)=((i:Int),c.2) :: Qj (i+1) (k+1) l from rfl,a,show Qj i (k+1) (c :: l)=((i:Int),c.2) :: Qj (i+1) k l from rfl,XM];have e:i+1+k=i+(k+1):=by omega
   rw[e];simp
 | _,_,[],h=>absurd h (Ym _)
theorem Rh:∀(i:Nat)(l:List Aj),(∀x∈l,x.2.1.size<=maxLen/\x.2.2.2.2.2.2.size<=maxLen)->∀x∈Nl i l,x.2.1.size<=maxLen/\x.2.2.2.2.2.2.size<=maxLen
 | _,[],_,x,a=>by cases a
 | i,c :: l,h,x,a=>by
   rcases List.mem_cons.1 a with rfl|a
   ·exact h c (Yf ..)
   exact Rh (i+1) l (λy b=>h y (Yg _ b)) x a
theorem qK(o:To)(d:Nat)(w:Tw):
 Zc 103 #[Zs o 0 d] w λe x=>∃a c,e=Zr (Zs a 0 c)/\Zb w x:=by
 have v:∀(w:Tw)(a:To)(n c n' h:Nat),(binOp .eql 34 (.slice a n c) (.slice none n' h)).run prog w=.ok (.bool a.isNone) w:=λw a n c n' h=>Lib.run_eql_slice_nil w _ _ a n c n' h underlying34
 obtain⟨u,r,j,l,m⟩:=info_parts Kh;cases o with
 | none=>go_enter func103,ntmps103;go_wp2;go_ret;exact⟨_,_,rfl,Y' _ _⟩
 | some a=>
   go_enter func103,ntmps103;go_wp2_with (at_builtin;refine wpList_append_own _ rfl _ _ 34 rfl w.heap.size 72 u L6 7 72 underlying34 r j l m rfl (by decide) _ _ _ rfl (YQ w #[] 0 (XA _) (Y9 _) (by simp)) a 0 d [] rfl (by simp) (by simp) (by simp) (by decide) (by decide) (by simp) ?_);intro v' y f b p
   have t:∃g c,v'=Zs g 0 c:=by
    obtain⟨_,⟨i,_⟩|⟨g,c,q,i,_⟩⟩:=f
    ·exact⟨_,_,i⟩
    exact⟨_,_,i⟩
   obtain⟨g,c,rfl⟩:=t;go_wp2;go_ret;exact⟨_,_,rfl,((Y' _ w).alloc (XA _) _).grown b (by simp) (by intro k s;simp[Value.ownBlock] at s;omega)⟩
theorem pD(a:To)(c:Nat)(l:List Aj)(w:Tw)(h:bH w (Zs a l.length c) l)(Y:l.length<=100):
 Zc 63 #[Zs a l.length c] w λe N=>∃J z,e=Zr (Zu #[Zs J l.length z,Zi (l.length+1:Nat)])/\Zb w N/\(l=[]\/N.ownsRow w.heap.size 72 7 (Zs J l.length z) l.length (Av (Nl 1 l))):=by
 cases b:l with
 | nil=>
   have j:=Aa (qK a c w);go_enter func63,ntmps63;go_wp2_with fail;refine j.out.mono ?_;rintro e O⟨P,c1,rfl,d⟩;have f:=Aa d;clear d j h b;go_wp2_with fail
   go_loopw [10] (λv wr=>v=Zi 0/\wr=O) (λ_ _=>0)
   case atStart=>exact⟨rfl,rfl⟩
   case round=>obtain⟨rfl,rfl⟩:=hrel;go_wp2;go_ret2;exact⟨P,c1,by simp,f.out,by simp⟩
 | cons c0 l0=>
   rw[<-b];have L:0<l.length:=by rw[b];simp
   rcases h with⟨_,e0⟩|⟨g,o,z,e,U,M⟩
   ·rw[e0] at L;simp at L
   injection e with R _ T;subst R T;have j:=Aa (P9 g o c l w M Y);clear b M U;go_enter func63,ntmps63;go_wp2_with fail;refine j.out.mono ?_;rintro e O⟨x,c1,rfl,t,d⟩;have f:=Aa d;have r:=Aa t;clear d t j;go_wp2_with fail
   go_loopw [10] (λv wr=>∃k:Nat,k<=l.length/\v=Zi (k:Int)/\Hid (wr.ownsRow w.heap.size 72 7 (Zs (some ⟨x,0,none⟩) l.length c1) l.length (Av (Qj 1 k l)))/\Hid (Zb w wr)) (λv _=>l.length-Ev v)
   case atStart=>exact⟨0,Y9 _,rfl,r,f⟩
   case round=>
    clear r f;obtain⟨k,hk,rfl,q,I⟩:=hrel
    rcases Yc k l.length with s|W
    ·have G:(k:Int)<(l.length:Int):=by omega
     have X:(0:Int)<=(k:Int):=by omega
     have hlen:(Av (Qj 1 k l)).length=l.length*7:=by rw[Hy,gN]
     obtain⟨u,hu⟩:∃u,wr.cell? ⟨x,k*7,none⟩=some u:=by rw[q.out.cellAt (k*7) (by omega)];exact⟨_,Y8 (by omega)⟩
     have V:=q.out.frozenAt (k*7);have n:=Aa (jO 1 k l s);have m:=Aa (k9 ((1+k:Nat):Int) (Qj 1 k l) k (by rw[gN];exact s));have b:((1+k:Nat):Int)=(k:Int)+1:=by omega
     rw[b] at n m;clear hlen b;go_wp2;refine⟨⟨k+1,by omega,by simp,Aa ?_,Aa (XY (p:=⟨x,k*7,none⟩) I.out (q.out.lt x rfl).1 _)⟩,by simp only[Ev];omega⟩;rw[n.out,<-m.out];exact(q.out.stored _ _).1
    have G:¬(k:Int)<(l.length:Int):=by omega
    have D:k=l.length:=by omega
    subst D;have i:=q.out;rw[tM] at i;have y:=Aa i;clear i;have aa:IntKind.i64.wrap ((l.length:Int)+1)=(l.length:Int)+1:=by rw[IntKind.wrap_i64];omega
    go_wp2;go_ret2;exact⟨_,_,rfl,I.out,.inr y.out⟩
def AIP(D:DataW Unit)(s:Ah)(l:List Aj)(a:DataW Unit)(b:Bool)(A:List A5)(rows:Int):Prop :=
 s.cols=[]/\Go.Proofs.YtbhhpheailbebaaGreatDoor.Be (Nl 1 l) (l.length+1:Nat)=true/\a=D/\b=false/\A=([(4,⟨#[]⟩,0,[],Nl 1 l,((l.length+1:Nat):Int))]:List A5)/\rows=0
def AIU(s:Ah)(l:List Aj):Prop:=Go.Proofs.YtbhhpheailbebaaGreatDoor.Be (Nl 1 l) (l.length+1:Nat)=false\/s.cols≠[]
theorem AHG{b c:Nat}{a:To}(h:l=[]\/W.ownsRow b 72 7 (Zs a l.length c) l.length (Av l)):bH W (Zs a l.length c) l:=by
 rcases h with h|h
 ·subst h;exact .inl ⟨⟨a,c,rfl⟩,rfl⟩
 exact p8 (gL (k:=7) (en:=Cc) (λ_=>rfl) h)
theorem zI(w0:Tw)(NF bb n:Nat)(D:Td)(fs:List Int)(mv Y:Tv)(H:List (Dn×Ah))(U:List Tb)(X:Tb)(la:To)(lc:Nat)(l:List Aj)(w:Tw)(h:iK w0 w NF bb n D fs mv Y H U X)(hl:bH w (Zs la l.length lc) l)(ah:l.length<=100)(m:∀x∈l,x.2.1.size<=maxLen/\x.2.2.2.2.2.2.size<=maxLen):
 Zc 36 #[Zp (some ⟨bb,0,none⟩),Zt X,Zs la l.length lc] w (Kd w0 w NF bb n D mv H X (AIU (Ae H H.length) l) (AIP D (Ae H H.length) l)):=by
 have J:=Aa h;have t:=Aa (kN bb n D mv H X w h.base.ground h.inv.Lm h.inv.past h.O5 h.name h.short);have v:=Aa (λW(hW:Zb w W)=>pD la lc l W (hl.below hW) ah);have I:=Aa (λ(a:To)(c:Nat)W(hW:Zb w W)(hL:bH W (Zs a l.length c) (Nl 1 l))=>Vs a l.length c (Nl 1 l) (l.length+1:Nat) W hL (h.base.ground.nc.below hW) (Rh 1 l m));have i:=Aa (dK 1 l);have af:=Aa (Rh 1 l m);clear h hl m;generalize V:Ae H H.length=sn at *;have ae:=Aa V;clear V;go_enter func36,ntmps36;go_wp2_with fail;refine t.out.mono ?_;rintro e w1⟨pb,a1,n1,c1,x2,a2,n2,c2,rfl,hP,O⟩
 have ai:n1=sn.cols.length:=by obtain⟨_,_,_,_,_,e,_⟩:=hP.snap;unfold K4 at e;simp only[Value.agg.injEq,Array.mk.injEq,List.cons.injEq,Value.int.injEq,Value.slice.injEq] at e;exact e.2.1.2.1
 subst ai;have HP:=Aa hP;have r:=Aa O;clear hP O t;go_wp2_with fail;refine(v.out _ r.out).mono ?_;rintro e w2⟨L,M,rfl,k,p⟩;have s:=Aa (Ap r.out k);have z:=Aa (HP.out.up k)
 have u:Hid (bH w2 (Zs L l.length M) (Nl 1 l)):=Aa (by
  have:=AHG (W:=w2) (b:=w1.heap.size) (a:=L) (c:=M) (l:=Nl 1 l) (by
   rw[i.out]
   rcases p with e|e
   ·left;rw[e];rfl
   exact .inr e)
  rw[i.out] at this;exact this)
 have y:=Aa p;clear k p v HP;generalize R:((l.length+1:Nat):Int)=nx at *;have j:=Aa R;clear R;go_wp2_with fail;refine(I.out L M _ s.out u.out).mono ?_;rintro e w3⟨rfl,f⟩;have d:=Aa (Ap s.out f);have G:=Aa (z.out.up f);have ab:Hid (l=[]\/w3.ownsRow w1.heap.size 72 7 (Zs L l.length M) l.length (Av (Nl 1 l))):=Aa (y.out.imp id λo=>Bc o f);clear f I z y u;cases hrb:Go.Proofs.YtbhhpheailbebaaGreatDoor.Be (Nl 1 l) nx with
 | false=>have HN:=Aa hrb;clear hrb;go_wp2_with fail;go_ret2;exact⟨n,D,fs,mv,Y,J.out.base.up d.out,by omega,B.A0.Ba d.out,λ_ e=>.inl e,.refl,.inr ⟨.inl (by rw[j.out];exact HN.out),_,_,rfl⟩⟩
 | true=>
   have ad:=Aa hrb
   have P:l≠[]:=by intro e;rw[e] at hrb;have:=((Go.Proofs.YtbhhpheailbebaaGreatDoor.I9 _ _).1 hrb).1;simp[Nl] at this
   clear hrb;obtain⟨y0,y1,y2,y3,y4,y5,y6,y7,yf⟩:=F2 G.out.box
   by_cases hcc:sn.cols.length=0
   ·have HC:Hid (sn.cols=[]):=Aa (List.length_eq_zero_iff.1 hcc)
    have ag:¬(0:Int)<((sn.cols.length:Nat):Int):=by omega
    have g:=ab.out.resolve_left P;have q:=Aa (N3 w.heap.size pb sn (H.length:Int) a1 _ c1 x2 a2 n2 c2 X false none 0 [] 0 w3 G.out d.out.size 4 ⟨#[]⟩ 0 [] (Nl 1 l) nx none 0 0 L l.length M ⟨XD _ _ _ _,by rw[i.out];exact E.Ai g (Y9 _)⟩ ⟨Y9 _,Y9 _,af.out⟩ (Y9 _));clear hcc g P;go_wp2_with fail;refine q.out.mono ?_;rintro e w4⟨rfl,⟨aa,ac,N⟩,T⟩;have H4:=Aa (And.intro N T);clear N T q y0 y1 y2 y3 y4 y5 y6 y7 yf;go_wp2_with fail;go_ret2;have hm:=(Mv.below (base:=w.heap.size) (bb:=bb) (mv:=mv) d.out).trans (Mv.ACV H4.out.2);exact⟨n,D,fs,mv,Y,Kv (J.out.base.up d.out) J.out.nf J.out.base.low.size H4.out.2,by omega,hm.out (XA _),hm.link,.refl,.inl ⟨pb,_,false,_,a1,_,c1,x2,a2,n2,c2,aa,ac,rfl,by rw[ae.out];exact H4.out.1,HC.out,by rw[j.out];exact ad.out,rfl,rfl,by rw[j.out];rfl,rfl⟩⟩
   have ag:(0:Int)<((sn.cols.length:Nat):Int):=by omega
   have HN:Hid (sn.cols≠[]):=Aa (λe=>hcc (by rw[e];rfl));clear hcc;go_wp2_with fail;go_ret2;exact⟨n,D,fs,mv,Y,J.out.base.up d.out,by omega,B.A0.Ba d.out,λ_ e=>.inl e,.refl,.inr ⟨.inr HN.out,_,_,rfl⟩⟩
theorem Ry{s t:Ah}{n:Tb}{f:Bool}{r:Int}{m:List Int}{next:Int}(h:Bi s (n,f,[(4,p,r,m,l,next)]) t):t=⟨s.Eb+1,l,next,s.files⟩/\Wc Bv Cm l next/\s.next<=next:=by
 obtain⟨_,u,d,e⟩:=h;simp only[Il] at e;subst e
 rcases d with⟨a,_⟩|⟨a,_⟩|⟨a,_⟩|⟨_,b,c⟩
 ·exact absurd a (by simp)
 ·exact absurd a (by simp)
 ·exact absurd a (by simp)
 exact⟨c,b.1,b.2⟩
theorem pH{nb:Tb->Bool}{cb:Tb->Bool}{fb:Int->Int->Int->Tb->Bool}:∀{es:List (Tb×Int)}{s t:Ah},Il nb cb fb s (es.map λe=>(1,e.1,e.2,[],[],0)) t->t=⟨s.Eb,s.cols,s.next,s.files++es.map λe=>(e.1,e.2,[])⟩
 | [],s,t,h=>by simp only[X2,Il] at h;subst h;simp
 | e :: es,s,t,h=>by
   obtain⟨u,b,c⟩:=h
   rcases b with⟨_,_,rfl⟩|⟨a,_⟩|⟨a,_⟩|⟨a,_⟩
   ·rw[pH c]
    simp[oE]
   ·exact absurd a (by simp)
   ·exact absurd a (by simp)
   exact absurd a (by simp)
theorem eH{s t:Ah}{b:Tb}{a:Bool}(h:Bi s (b,a,[(1,p,n,[],[],0)]) t):t=⟨s.Eb+1,s.cols,s.next,s.files++[(p,n,[])]⟩:=by have:=pH (es:=[(p,n)]) h.2;simpa[bump] using this
theorem zU{s t:Ah}{f:Bool}{xs:List A6}(c:xs.map (·.1)=s.files)(d:(s.files.map (·.1)).Nodup)(e:∀x∈xs,x.1.2.1=x.2.2.length)(h:Bi s (p,f,xs.flatMap (Vm s.cols T)) t):t=⟨s.Eb+1,s.cols,s.next,(xs.filterMap (pO s.cols T)).map (·.1)⟩:=by have a:=h.2;have b:=Sp (nb:=Bx) (cb:=Bv) (fb:=Cm) s.cols T xs [] [] (bump s) (by simp[bump,c]) d e;have:=K6 a b;rw[this];simp[bump]
theorem AAO{s t:Ah}{v:Tb}{r:Bool}{xs:List A6}(k:xs.map (·.1)=s.files)(o:∀x∈xs,x.1.2.1=x.2.2.length)(m:¬p∈s.files.map (·.1))(l:(s.files.map (·.1)).Nodup)(h:Bi s (v,r,(1,p,n,[],[],0) :: xs.flatMap (Vm s.cols T)) t):t=⟨s.Eb+1,s.cols,s.next,(xs.filterMap (pO s.cols T)).map (·.1)++[(p,n,[])]⟩:=by
 obtain⟨_,u,j,d⟩:=h
 have q:u=⟨s.Eb+1,s.cols,s.next,s.files++[(p,n,[])]⟩:=by
  rcases j with⟨_,_,rfl⟩|⟨c,_⟩|⟨c,_⟩|⟨c,_⟩
  ·rfl
  ·exact absurd c (by simp)
  ·exact absurd c (by simp)
  exact absurd c (by simp)
 subst q
 have g:=Sp (nb:=Bx) (cb:=Bv) (fb:=Cm) s.cols T xs [] [(p,n,[])] ⟨s.Eb+1,s.cols,s.next,s.files++[(p,n,[])]⟩ (by simp[k]) (by simp only[XK,XZ,X2];rw[YR];refine⟨l,by simp,λa i b f e=>?_⟩;simp at f;subst e f;exact m i) o
 have:=K6 d g;rw[this];simp
theorem tW{s t:Ah}{f:Bool}{es:List (Tb×Int)}(d:(s.files.map (·.1)).Nodup)(h:Bi s (p,f,(s.files.map λe=>(2,e.1,0,[],[],0))++es.map λe=>(1,e.1,e.2,[],[],0)) t):t=⟨s.Eb+1,s.cols,s.next,es.map λe=>(e.1,e.2,[])⟩:=by obtain⟨u,a,b⟩:=Go.Proofs.YtbhhpheailbebaaGreatDoor.cE h.2;have c:=qO (nb:=Bx) (cb:=Bv) (fb:=Cm) s.files [] (bump s) (by simp[bump]) d;have:=K6 a c;subst this;have:=pH b;rw[this];simp[bump]
theorem AHL{cols:List Aj}{next:Int}(g:cols.length<=8)(i:∀d∈cols,d.1<next)(Eb:Int):∀(f:List A6),(∀y∈f,Gt D y/\y.2.1=cols/\y.1.2=((y.2.2.length:Int),[]))->f.length<=1000->cols≠[]->cols.Pairwise (λa b=>a.1≠b.1)->C7 D ⟨Eb,cols,next,f.map (·.1)⟩ f:=λf h hl hc hp=>
 ⟨⟨rfl,λy c=>(h y c).1,hl,g,λe=>absurd e hc⟩,λy c=>by rw[(h y c).2.1];exact Lk.self hp,λy c=>by rw[(h y c).2.1];exact i,λy c=>by rw[(h y c).2.2]⟩
theorem ADC(h:Good Bv Cm s):s.cols.Pairwise (λa b=>a.1≠b.1):=by
 rcases h.cols with e|e
 ·rw[e];exact List.Pairwise.nil
 exact e.2.2.2.imp λx=>x.1
theorem We(h:Good Bv Cm s):∀d∈s.cols,d.1<s.next:=λd a=>by
 rcases h.cols with e|e
 ·rw[e] at a;cases a
 exact(e.2.2.1 d a).2
theorem M9(h:Good Bv Cm s):s.cols.length<=8:=by
 rcases h.cols with e|e
 ·rw[e];exact Y9 _
 exact e.2.1
theorem sM(h:Good Bv Cm s):∀c∈s.cols,Lx c (bP c)=true:=λc a=>by
 rcases h.cols with e|e
 ·rw[e] at a;cases a
 exact(e.2.2.1 c a).1.2.2.2
theorem rB{nm:Tb}(h:¬Ce l nm = -1):∃k:Nat,Ce l nm=k/\k<l.length:=by
 rcases Gz l nm with⟨e,_⟩|⟨k,a,e,_⟩
 ·exact absurd e h
 exact⟨k,e,a⟩
def ChP(w:World)(s:Ah)(f:Int)(c:Aj)(nm g:ByteArray)(e:Ending)(d:World):Prop :=
 Zb w d/\((∃l' next' a b,cI s.cols s.next f c nm g l' next'/\e=.returned (.tuple #[.slice a l'.length b,Zi next',.nilIface])/\d.ownsRow w.heap.size 72 7 (.slice a l'.length b) l'.length (Av l'))\/(∃a n' b x T y,e=.returned (.tuple #[.slice a n' b,Zi x,.iface T y])))
theorem qB(s:Ah)(v:Int)(a1:To)(n1 c1:Nat)(x2:Int)(a2:To)(n2 c2:Nat)(L i:Int)(y:Tb)(k:Int)(mu:Bool)(M N:Int)(z:Tb)(nm m:Tb)(w:Tw)(hS:Dl w s (K4 v a1 n1 c1 x2 a2 n2 c2))(hg:Good Bv Cm s)(U:s.cols≠[])(ad:s.next<=1000000000000000)(hz:y.size<=maxLen/\z.size<=maxLen/\m.size<=maxLen)(hw:Lw w):
 Zc 67 #[Zg #[Zi v,Zs a1 n1 c1,Zi x2,Zs a2 n2 c2],Zg #[Zi L,Zi i,Zt y,Zi k,Zo mu,Zi M,Zi N,Zt z,Zt nm,Zt m]] w (ChP w s L (i,y,k,mu,M,N,z) nm m):=by
 obtain⟨b1,d1,b2,d2,Ls,P,W⟩:=hS;unfold K4 at P;simp only[Value.agg.injEq,Array.mk.injEq,List.cons.injEq,Value.int.injEq,Value.slice.injEq] at P;obtain⟨⟨-,-⟩,⟨e1,e2,e3⟩,⟨-,e4⟩,-⟩:=P;subst e1 e2 e3 e4;have R:=M9 hg;have h1:0<s.cols.length:=List.length_pos_iff.2 U
 obtain⟨g,ab⟩:∃g,a1=some ⟨g,0,none⟩:=by
  rcases W.cols.2 with⟨_,h0⟩|⟨g,ae,af,P,_⟩
  ·omega
  injection P with aa _ _;exact⟨g,aa⟩
 subst ab
 have T:s.cols.length<=c1:=by obtain⟨a,c,e,hc⟩:=Au W.cols;injection e with _ _ e;omega
 have ac:1<=s.next:=by
  rcases hg.cols with e|e
  ·exact absurd e U
  have:=e.2.2.1 s.cols[0] (Yh h1);have:=this.1.2.1;omega
 have hs:I1 w g 0 s.cols:=I1.Fz W.cols rfl;obtain⟨t0,t1,t2,X⟩:=C1 w (Zk #[Zi v,Zs (some ⟨g,0,none⟩) s.cols.length c1,Zi s.next,Zs a2 n2 c2] 42) (Zk #[Zi L,Zi i,Zt y,Zi k,Zo mu,Zi M,Zi N,Zt z,Zt nm,Zt m] 110);have b:=Aa X;have h:=Aa t1;have n:=hs.below X;have p:Lw _:=AHr (hw.below X);unfold ChP;clear t0 t1 t2 X W hg hs hw
 by_cases c1':L=1
 ·subst c1'
  by_cases hok:AAg s.cols (s.next,y,k,mu,M,N,z)
  ·have f:=Aa (AFQ g 0 c1 s.cols s.next i y k mu M N z _ n hok.2.1 hok.1 hok.2.2.1 hok.2.2.2 ac ad p)
   have Y:=Aa hok;clear hok;go_enter func67,ntmps67;go_wp2_with fail;refine f.out.mono ?_;rintro e V⟨g',c',rfl,t,d⟩;have H1:=Aa (And.intro t d);clear t d f;go_wp2_with fail;go_ret3;exact⟨Ap b.out H1.out.2,.inl ⟨_,_,some ⟨g',0,none⟩,c',.inl ⟨rfl,Y.out,rfl,rfl⟩,by rw[XF];rfl,by rw[XF];exact E.Ai H1.out.1 b.out.size⟩⟩
  have f:=Aa (AHP g 0 c1 s.cols s.next i y k mu M N z _ n R hz.1 hz.2.1 hok p);clear hok;go_enter func67,ntmps67;go_wp2_with fail;refine f.out.mono ?_;rintro e V⟨x,rfl,d⟩;have H1:=Aa d;clear d f;go_wp2_with fail;go_ret3;exact⟨Ap b.out H1.out,.inr ⟨_,_,_,_,_,_,rfl⟩⟩
 by_cases c2':L=2
 ·subst c2'
  by_cases hf:Ce s.cols nm = -1\/s.cols.length=1
  ·have f:=Aa (AG7 g 0 c1 s.cols nm _ n hf R)
   clear hf c1';go_enter func67,ntmps67;go_wp2_with fail;refine f.out.mono ?_;rintro e V⟨⟨x,rfl,_⟩,d⟩;have H1:=Aa d;obtain⟨_,_,z2,_,_⟩:=Go.Proofs.YtbhhpheailbebaaGreatDoor.B3 ((d.block _ (Ac h.out)).trans h.out);clear d f;go_wp2_with fail
   go_region
   go_wp2;go_ret3;exact⟨Ap b.out H1.out.drew,.inr ⟨_,_,_,_,_,_,rfl⟩⟩
  obtain⟨j,I,l⟩:=rB (λe=>hf (.inl e));have J:s.cols.length≠1:=λe=>hf (.inr e)
  have f:=Aa (AFn g 0 c1 s.cols nm j _ n I l J R T);have r:=Aa (And.intro I (And.intro l J));clear hf I l J c1';generalize o:s.cols.take j++s.cols.drop (j+1)=l' at *;have u:=Aa o;clear o;go_enter func67,ntmps67;go_wp2_with fail;refine f.out.mono ?_;rintro e V⟨g',c',rfl,t,d⟩;have H1:=Aa (And.intro t d);obtain⟨_,_,z2,_,_⟩:=Go.Proofs.YtbhhpheailbebaaGreatDoor.B3 ((d.block _ (Ac h.out)).trans h.out);clear t d f;go_wp2_with fail
  go_region
  go_wp2;go_ret3;exact⟨Ap b.out H1.out.2.drew,.inl ⟨l',_,_,_,.inr (.inl ⟨rfl,j,r.out.1,r.out.2.1,r.out.2.2,u.out.symm,rfl⟩),rfl,E.Ai (Bc H1.out.1 ((Y' _ _).drew)) b.out.size⟩⟩
 by_cases c3':L=3
 ·subst c3'
  by_cases hf:Ce s.cols nm = -1\/Bv m=false\/0<=Ce s.cols m
  ·have f:=Aa (ACv g 0 c1 s.cols nm m _ n hf hz.2.2 R p)
   clear hf c1' c2';go_enter func67,ntmps67;go_wp2_with fail;refine f.out.mono ?_;rintro e V⟨x,rfl,d⟩;have H1:=Aa d;obtain⟨_,_,z2,_,_⟩:=Go.Proofs.YtbhhpheailbebaaGreatDoor.B3 ((d.block _ (Ac h.out)).trans h.out);clear d f;go_wp2_with fail
   go_region
   go_wp2;go_ret3;exact⟨Ap b.out H1.out.drew,.inr ⟨_,_,_,_,_,_,rfl⟩⟩
  obtain⟨j,I,l⟩:=rB (λe=>hf (.inl e))
  have D:Bv m=true:=by
   cases e:Bv m with
   | true=>rfl
   | false=>exact absurd (.inr (.inl e)) hf
  have G:Ce s.cols m = -1:=by
   rcases Gz s.cols m with⟨e,_⟩|⟨q,_,e,_⟩
   ·exact e
   exact absurd (.inr (.inr (by omega))) hf
  have f:=Aa (yL g 0 c1 s.cols nm m j _ n I l D G R p);have r:=Zy I l D G;clear hf I l D G c1' c2';have O:Hid ((s.cols.set j (rR s.cols[j]! m)).length=s.cols.length):=Aa (XW ..);generalize o:s.cols.set j (rR s.cols[j]! m)=l' at *;have u:=Aa o;clear o;go_enter func67,ntmps67;go_wp2_with fail;refine f.out.mono ?_;rintro e V⟨g',c',rfl,t,d⟩;have H1:=Aa (And.intro t d);obtain⟨_,_,z2,_,_⟩:=Go.Proofs.YtbhhpheailbebaaGreatDoor.B3 ((d.block _ (Ac h.out)).trans h.out);clear t d f;go_wp2_with fail
  go_region
  go_wp2;go_ret3;exact⟨Ap b.out H1.out.2.drew,.inl ⟨l',_,_,_,.inr (.inr ⟨rfl,j,r.out.1,r.out.2.1,r.out.2.2.1,r.out.2.2.2,u.out.symm,rfl⟩),by rw[O.out];rfl,by rw[O.out];exact E.Ai (Bc H1.out.1 ((Y' _ _).drew)) b.out.size⟩⟩
 go_enter func67,ntmps67;go_wp2_with fail;go_ret3;exact⟨b.out,.inr ⟨_,_,_,_,_,_,rfl⟩⟩
theorem AHI{b:Nat}{v u f a e c d g i j:Tv}{t:TypeId}(h:W.heap[b]? = some (Zk #[v,u,f,a,e,c,d,g,i,j] t (0,0))):
 W.cell? ⟨b,0,none⟩=some v/\W.cell? ⟨b,1,none⟩=some u/\W.cell? ⟨b,2,none⟩=some f/\W.cell? ⟨b,3,none⟩=some a/\W.cell? ⟨b,4,none⟩=some e/\W.cell? ⟨b,5,none⟩=some c/\W.cell? ⟨b,6,none⟩=some d/\W.cell? ⟨b,7,none⟩=some g/\W.cell? ⟨b,8,none⟩=some i/\W.cell? ⟨b,9,none⟩=some j:=by
 simp[World.cell?,h]
theorem ADB{l l':List Aj}{next next' y i:Int}{s:Tb}{k:Int}{mu:Bool}{z t:Int}{p nm n:Tb}(b:∀x∈l,x.2.1.size<=maxLen/\x.2.2.2.2.2.2.size<=maxLen)(c:s.size<=maxLen/\p.size<=maxLen/\n.size<=maxLen)(h:cI l next y (i,s,k,mu,z,t,p) nm n l' next'):∀x∈l',x.2.1.size<=maxLen/\x.2.2.2.2.2.2.size<=maxLen:=λx a=>by
 rcases h with⟨_,_,rfl,_⟩|⟨_,j,_,_,_,rfl,_⟩|⟨_,j,_,d,_,_,rfl,_⟩
 ·rcases List.mem_append.1 a with a|a
  ·exact b x a
  simp at a;subst a;exact⟨c.1,c.2.1⟩
 ·rcases List.mem_append.1 a with a|a
  ·exact b x (Yi a)
  exact b x (XL a)
 rcases Ys a with a|rfl
 ·exact b x a
 exact⟨c.2.2,(b _ (Jj d)).2⟩
def AId(D:DataW Unit)(s:Ah)(b:Int)(c:Aj)(nm e:ByteArray)(a:DataW Unit)(d:Bool)(A:List A5)(rows:Int):Prop :=
 s.cols≠[]/\(∃l' next',cI s.cols s.next b c nm e l' next'/\A=([(4,⟨#[]⟩,0,[],l',next')]:List A5))/\a=D/\d=false/\rows=0
theorem kP(w0:Tw)(NF bb n:Nat)(D:Td)(fs:List Int)(mv fv:Tv)(H:List (Dn×Ah))(U:List Tb)(tx:Tb)(r i:Int)(l:Tb)(k:Int)(mu:Bool)(s t:Int)(m nm p:Tb)(w:Tw)(h:iK w0 w NF bb n D fs mv fv H U tx)(hz:l.size<=maxLen/\m.size<=maxLen/\p.size<=maxLen):
 Zc 37 #[Zp (some ⟨bb,0,none⟩),Zt tx,Zg #[Zi r,Zi i,Zt l,Zi k,Zo mu,Zi s,Zi t,Zt m,Zt nm,Zt p]] w (Kd w0 w NF bb n D mv H tx True (AId D (Ae H H.length) r (i,l,k,mu,s,t,m) nm p)):=by
 have Y:=Aa h;have N:Zb w (w.alloc (Zk #[Zi r,Zi i,Zt l,Zi k,Zo mu,Zi s,Zi t,Zt m,Zt nm,Zt p] 110)):=Zal;have M:=Aa (heap_alloc_new w (Zk #[Zi r,Zi i,Zt l,Zi k,Zo mu,Zi s,Zi t,Zt m,Zt nm,Zt p] 110));have I:=Aa N;have L:=Aa (fH bb n D mv H tx _ (h.base.ground.up N) h.inv.Lm h.inv.past h.O5 h.name h.short);have ad:(Ae H H.length).next<=1000000000000000:=by have:=h.inv.next H.length (XA _);have:=h.O5;omega
 have V:=Aa (λ(b:To)(n1 c1:Nat)(f:Int)(c:To)(n2 d:Nat)W(hW:Zb w W)(o:(Ae H H.length).cols≠[])(hS:Dl W (Ae H H.length) (K4 (H.length:Int) b n1 c1 f c n2 d))=>qB (Ae H H.length) (H.length:Int) b n1 c1 f c n2 d r i l k mu s t m nm p W hS h.Of o ad hz (h.base.ground.nc.below hW))
 have ak:=Aa (λl' next'(o:cI (Ae H H.length).cols (Ae H H.length).next r (i,l,k,mu,s,t,m) nm p l' next')=>ADB (fB h.Of) hz o);clear h N ad hz
 have u:Hid (∀(b:To)(n1 c1:Nat)(f:Int)(c:To)(n2 d:Nat)W,Zb w W->(Ae H H.length).cols≠[]->Dl W (Ae H H.length) (K4 (H.length:Int) b n1 c1 f c n2 d)->Zc 67 #[Zg #[Zi (H.length:Int),Zs b n1 c1,Zi f,Zs c n2 d],Zg #[Zi r,Zi i,Zt l,Zi k,Zo mu,Zi s,Zi t,Zt m,Zt nm,Zt p]] W λe w'=>∃z n' G x er,e=Zr (Zu #[Zs z n' G,Zi x,er])/\Hid (Zb W w'/\((er=Zn/\∃l',n'=l'.length/\cI (Ae H H.length).cols (Ae H H.length).next r (i,l,k,mu,s,t,m) nm p l' x/\w'.ownsRow W.heap.size 72 7 (Zs z n' G) l'.length (Av l'))\/∃T y,er=Zf T y))):=Aa λb n1 c1 f c n2 d W hW o hS=>(V.out b n1 c1 f c n2 d W hW o hS).mono (by
  rintro e w'⟨hb,⟨l',al,z,G,h1,rfl,h2⟩|⟨z,n',G,x,T,y,rfl⟩⟩
  ·exact⟨z,l'.length,G,al,_,rfl,Aa ⟨hb,.inl ⟨rfl,l',rfl,h1,h2⟩⟩⟩
  exact⟨z,n',G,x,_,rfl,Aa ⟨hb,.inr ⟨T,y,rfl⟩⟩⟩)
 clear V;generalize af:Ae H H.length=sn at *;have aj:=Aa af;clear af;go_enter func37,ntmps37;go_wp2_with fail;refine L.out.mono ?_;rintro e w1⟨g,⟨o,rfl⟩|⟨o,pb,b,n1,c1,f,c,n2,d,rfl,hP⟩⟩
 ·have R:=Aa (Ap I.out g)
  clear o g L;go_wp2_with fail;go_ret2;exact⟨n,D,fs,mv,fv,Y.out.base.up R.out,by omega,B.A0.Ba R.out,λ_ e=>.inl e,.refl,.inr ⟨trivial,_,_,rfl⟩⟩
 have J:=Aa (Ap I.out g);have R:=Aa o;have HP:=Aa hP;have ai:=Aa ((g.block _ (Ac M.out)).trans M.out);obtain⟨y0,y1,y2,y3,y4,y5,y6,y7,yf⟩:=F2 hP.box;obtain⟨z0,z1,z2,z3,z4,z5,z6,z7,z8,z9⟩:=AHI ai.out;clear g o hP L M;have X:Hid (∀args w,(callFunc 67 args).run prog w=.ok (.enter 67 args) w):=Aa (enters_of func67 (by kernel_rfl) rfl);have v:=Aa (u.out b n1 c1 f c n2 d w1.drew J.out.drew R.out (HP.out.snap.up ((Y' _ _).drew)));clear u;go_wp2_with fail
 go_region_law
  (first
    | (refine Gc (by rfl) 67 (.tmp 25) (.tmp 26) 42 110 (by rfl) (Zg #[Zi (H.length:Int),Zs b n1 c1,Zi f,Zs c n2 d]) (Zg #[Zi r,Zi i,Zt l,Zi k,Zo mu,Zi s,Zi t,Zt m,Zt nm,Zt p]) (by rfl) (by rfl) X.out _ v.out ?_
       rintro e w2⟨z,n',G,x,er,rfl,H2⟩;refine⟨_,rfl,?_⟩)
    | fail)
 all_goals
  clear v X y0 y1 y2 y3 y4 y5 y6 y7 yf z0 z1 z2 z3 z4 z5 z6 z7 z8 z9;obtain⟨j,⟨rfl,l',rfl,O,ho⟩|⟨T,y,rfl⟩⟩:=H2.out
  ·have ah:=Aa O
   have a:=Aa (Ap J.out.drew j);have q:=Aa ((HP.out.up ((Y' _ _).drew)).up j);have ag:=XC I.out.size HP.out.low;have P:=Aa (N3 w.heap.size pb sn (H.length:Int) b n1 c1 f c n2 d tx false none 0 [] 0 w2 ⟨q.out.box,q.out.snap,XD _ _ _ _,q.out.own,q.out.Vv,ag⟩ a.out.size 4 ⟨#[]⟩ 0 [] l' x none 0 0 z l'.length G ⟨XD _ _ _ _,E.Ai ho (Y9 _)⟩ ⟨Y9 _,Y9 _,ak.out l' x O⟩ (Y9 _));clear O j ho ag H2;go_wp2_with fail;refine P.out.mono ?_;rintro e w4⟨rfl,⟨aa,ac,ab⟩,ae⟩;have H4:=Aa (And.intro ab ae);clear ab ae P;go_wp2_with fail;go_ret2;have hm:=(Mv.below (base:=w.heap.size) (bb:=bb) (mv:=mv) a.out).trans (Mv.ACV H4.out.2);exact⟨n,D,fs,mv,fv,Kv (Y.out.base.up a.out) Y.out.nf Y.out.base.low.size H4.out.2,by omega,hm.out (XA _),hm.link,.refl,.inl ⟨pb,_,false,_,b,n1,c1,f,c,n2,d,aa,ac,rfl,by rw[aj.out];exact H4.out.1,R.out,⟨l',x,ah.out,rfl⟩,rfl,rfl,rfl⟩⟩
  have a:=Aa (Ap J.out.drew j);clear j H2;go_wp2_with fail;go_ret2;exact⟨n,D,fs,mv,fv,Y.out.base.up a.out,by omega,B.A0.Ba a.out,λ_ e=>.inl e,.refl,.inr ⟨trivial,_,_,rfl⟩⟩
def aJ(rs:List Px)(p:ByteArray):List Int:=(rs.filter λz=>decide (z.1=p)).map (·.2.1)
theorem AEw(rs:List Px)(z:Px)(p:Tb):aJ (rs++[z]) p=aJ rs p++if z.1=p then [z.2.1] else []:=by
 unfold aJ;rw[XR,XK];congr 1
 by_cases h:z.1=p
 ·simp[h]
 simp[h]
theorem yW(a b:List Px)(p:Tb):aJ (a++b) p=aJ a p++aJ b p:=by unfold aJ;rw[XR,XK]
theorem uP{rs:List Px}(h:∀z∈rs,z.1≠p):aJ rs p=[]:=by unfold aJ;rw[List.filter_eq_nil_iff.2 (λz a=>by simpa using h z a)];rfl
theorem AHm{rs:List Px}(h:∀z∈rs,z.1=p):aJ rs p=rs.map (·.2.1):=by unfold aJ;rw[List.filter_eq_self.2 (λz a=>by simpa using h z a)]
theorem N2:∀z∈E4 l x,z.1=x.1.1:=λz a=>((Pv x.1.1 x.1.2.2 l .nil (Cw (By x.2.1) l x.2.2) 0).1 z a).1
theorem Wm(l:List Aj)(q:Px->Bool):∀(xs:List A6),(xs.map (·.1.1)).Nodup->∀x∈xs,aJ ((xs.flatMap (E4 l)).filter q) x.1.1=((E4 l x).filter q).map (·.2.1)
 | [],_,x,a=>by cases a
 | y :: xs,hn,x,a=>by
   rw[XZ,XX] at hn;rw[XS,XR,yW]
   rcases List.mem_cons.1 a with rfl|a
   ·rw[AHm (λz b=>N2 z (List.mem_filter.1 b).1),uP (λz b e=>?_),XP]
    obtain⟨u,d,c⟩:=List.mem_flatMap.1 (List.mem_filter.1 b).1;have:=N2 z c;exact hn.1 (List.mem_map.2 ⟨u,d,by rw[<-this,e]⟩)
   rw[uP (rs:=(E4 l y).filter q) (λz b e=>?_),Wm l q xs hn.2 x a,List.nil_append];have:=N2 z (List.mem_filter.1 b).1;exact hn.1 (List.mem_map.2 ⟨x,a,by rw[<-e,this]⟩)
theorem ADn(l:List Aj){xs:List A6}(a:(xs.map (·.1.1)).Nodup)(b:x∈xs):aJ (Bo l .nil xs).1 x.1.1=(E4 l x).map (·.2.1):=by have:=Wm l (λ_=>true) xs a x b;rw[List.filter_eq_self.2 (λ_ _=>rfl),List.filter_eq_self.2 (λ_ _=>rfl)] at this;rw[H9];exact this
variable{P:Program}{e k:TypeId}{W w:Tw}{q:IntKind}{D:Td}{v:Tv}
theorem Xe{base:Nat}{b n:Nat}(h:w.ownsGroups P k base e q b n D)(r:W.heap[b]? = w.heap[b]?)(o:∀v zs,w.ownsInts base e q v zs->W.ownsInts base e q v zs):W.ownsGroups P k base e q b n D:=by
 obtain⟨es,clock,s,F,t,rfl,f,hlen,d⟩:=h
 have i:∀x∈es.toList,∀z,rowElem (H:=Unit) w base e q x.val=some z->rowElem W base e q x.val=some z:=λx j z l=>by obtain⟨zs,g,rfl⟩:=rowElem_inv l;exact rowElem_mk (o _ _ g)
 obtain⟨p,a,_⟩:=F.stay i;refine⟨es,clock,r.trans s,p,t,by rw[a],f,λx j zs g=>?_,d⟩;obtain⟨y,u⟩:=F.reads x j;obtain⟨z,l,_⟩:=rd_val u;obtain⟨m,c,_⟩:=rowElem_inv l;rw[g.unique (o _ _ c)];exact hlen x j m c
theorem V9{base:Nat}{b n:Nat}(h:w.ownsGroups P k base e q b n D):b<w.heap.size:=by obtain⟨es,clock,a,_⟩:=h;exact Ac a
theorem Vx{base:Nat}{b n:Nat}(h:w.ownsGroups P k base e q b n D)(a:Zb w W):W.ownsGroups P k base e q b n D :=
 Xe h (a.block b (V9 h)) λ_ _ c=>⟨Bc c.1 a,c.2⟩
def jE(B:Nat)(w:World)(v:Value)(rs:List Px):Prop:=∃xs:List (ByteArray×Int×Value),xs.length=rs.length/\w.ownsRow B 53 3 v rs.length (xs.flatMap Og)/\∀(j:Nat)x r,xs[j]? = some x->rs[j]? = some r->x.1=r.1/\x.2.1=r.2.1/\∃a n c,x.2.2=.slice a n c
theorem Fp.AJP{I B:Nat}{rs:List Px}(h:Fp I B w v rs):jE B w v rs:=by obtain⟨zs,b,d,f⟩:=h;refine⟨zs,b,d,λj x r i g=>?_⟩;obtain⟨k,l,m⟩:=f j x r i g;obtain⟨a,c,e,_⟩:=Au m;exact⟨k,l,a,_,c,e⟩
theorem jE.up{B:Nat}{rs:List Px}(h:jE B w v rs)(d:Zb w W):jE B W v rs:=by obtain⟨zs,a,b,c⟩:=h;exact⟨zs,a,Bc b d,c⟩
structure Told(W:World)(m n:Nat)(rs:List Px):Prop where
 ex:∃D:DataW Unit,W.ownsGroups prog 9 (m+1) 3 .i64 m n D/\IsMap D/\∀p,(D.atKey (lit p) .nil=.nil/\aJ rs p=[])\/D.atKey (lit p) .nil=DataW.slice (lits .i64 (aJ rs p)) []
theorem Told.up{m n:Nat}{rs:List Px}(h:Told w m n rs)(d:Zb w W):Told W m n rs:=by obtain⟨D,a,b,c⟩:=h.ex;exact⟨D,Vx a d,b,c⟩
theorem AGX{a b:List Int}(h:(lits .i64 a:List (Td))=lits .i64 b):a=b:=by simp only[lits] at h;have:=List.map_inj_right (f:=λn:Int=>(DataW.lit (Lit.int IntKind.i64 n):Td)) (λx y e=>by simpa using e) (l:=a) (l':=b);exact this.mp h
theorem Sd{rs:List Px}{p:Tb}{base:Nat}{zs:List Int}(h:(D.atKey (lit p) .nil=.nil/\aJ rs p=[])\/D.atKey (lit p) .nil=DataW.slice (lits .i64 (aJ rs p)) [])(a:D.atKey (lit p) .nil=rowDatum .i64 v zs)(b:w.ownsInts base 3 .i64 v zs):zs=aJ rs p:=by
 rcases b.datum (H:=Unit) with⟨e1,e2⟩|e1
 ·rw[a,e1] at h
  rcases h with⟨_,h⟩|h
  ·rw[e2,h]
  cases h
 rw[a,e1] at h
 rcases h with⟨h,_⟩|h
 ·cases h
 injection h with h;exact AGX h
section
variable {P : Program} {w : World} {o : Oper} {a : Act} {K : Act → World → Prop} {Q : Exit → Act → World → Prop}
theorem Ke{t k E e:TypeId}(p:Keyed P k)(s:P.underlying t=some (.map k E))(x:(zeroValue E).run P w=.ok (.slice none 0 0) w){base b n:Nat}(f:w.ownsGroups P k base e q b n D)(r:n<maxLen){u:Tv}{m:Lit}(d:_root_.Go.keyOf P k u=some m)(h:∀v zs,D.atKey m .nil=rowDatum q v zs->w.ownsInts base e q v zs->zs.length<=n->w.groupBack P t k base e q b n D u m v->K (a.put o.dst v) w):
 Oper.upon P o a K Q (((Instr.lookup t (.map (some b)) u false).run P w).andThen λa y=>Result.ok (Next.value a) y):=by
 obtain⟨v,zs,g,i,j,l,c⟩:=f.at p s x r d;rw[g];exact h v zs i j l c
theorem Xs{t:TypeId}{w0:Tw}{base:Nat}{b n:Nat}{p:Lit}{u v':Tv}{z:List Int}(c:w0.groupBack P t k base e q b n D v p u)(l:w0.grownBy w u.ownBlock)(d:w.ownsInts base e q v' z)(m:z.length<=n+1)(f:v'.ownBlock=u.ownBlock\/∃g,v'.ownBlock=some g/\w0.heap.size<=g)(h:∀j,j.ownsGroups P k base e q b (n+1) (D.put p (rowDatum q v' z))->w.grownBy j (some b)->K (a.put o.dst undef) j):
 Oper.upon P o a K Q (((Instr.mapUpdate t (.map (some b)) v v').run P w).andThen λ_ x=>Result.ok Next.skip x):=by
 obtain⟨j,i,r,s⟩:=c w v' z l d m f;rw[i];exact h j r s
end
theorem U5(w:Tw):(zeroValue 28).run prog w=.ok (Zs none 0 0) w:=by kernel_rfl
theorem AGb:(prog.info? 3).map (λi=>(i.zero,i.size,i.bytes))=some (some (Zi 0),1,8):=by kernel_rfl
theorem sO{rs:List Px}{r:Px}{zs:List Int}(b:IsMap D)(a:∀p,(D.atKey (lit p) .nil=.nil/\aJ rs p=[])\/D.atKey (lit p) .nil=DataW.slice (lits .i64 (aJ rs p)) [])(d:zs=aJ rs r.1):∀p,((D.put (lit r.1) (DataW.slice (lits .i64 (zs++[r.2.1])) [])).atKey (lit p) .nil=.nil/\aJ (rs++[r]) p=[])\/(D.put (lit r.1) (DataW.slice (lits .i64 (zs++[r.2.1])) [])).atKey (lit p) .nil=DataW.slice (lits .i64 (aJ (rs++[r]) p)) []:=λp=>by
 rw[AEw]
 by_cases e:r.1=p
 ·subst e
  right;rw[if_pos rfl,atKey_put_same b (AEF _) _ _,d]
 rw[if_neg e,XP,atKey_put_other (λc=>e (Jr c).symm)];exact a p
theorem AHp{b:Nat}{v u f:Tv}{t:TypeId}(h:W.heap[b]? = some (Zk #[v,u,f] t (0,0))):W.cell? ⟨b,0,none⟩=some v/\W.cell? ⟨b,1,none⟩=some u:=by simp[World.cell?,h]
theorem fE(B:Nat)(v:Tv)(rs:List Px)(w:Tw)(hF:jE B w v rs)(a1:rs.length<=100000)(ab:∀r∈rs,r.1.size<=maxLen)(aa:∀r∈rs,Lu r.2.1):
 Zc 111 #[v] w λe w'=>∃m,e=Zr (.map (some m))/\w.heap.size<=m/\Told w' m rs.length rs/\Below w.heap.size w w':=by
 obtain⟨zs,e1,e2,e3⟩:=hF;obtain⟨fa,fc,rfl,_⟩:=Au e2;have ag:=Aa e1;have ah:=Aa e2;have ai:=Aa e3;have aj:=Aa ab;have ad:=Aa aa;obtain⟨i0,hi,ac,n,o⟩:=info_parts AGb;have b:=Zy hi ac n o;have aq:=@run_makeMap prog;have X:Hid (Told (w.alloc (.map #[] 0)) w.heap.size 0 (rs.take 0)):=Aa ⟨.map [],World.ownsGroups_made _ _ _ _ _,isMap_empty,λp=>.inl ⟨rfl,rfl⟩⟩;have U:Hid (Below w.heap.size w (w.alloc (.map #[] 0))):=Aa (Zal);clear e1 e2 e3 ab aa hi ac n o;go_enter func111,ntmps111;go_wp2_with fail;clear aq
 go_loopw [9] (λvi wr=>∃k:Nat,k<=rs.length/\vi=Zi (k:Int)/\Hid (Told wr w.heap.size k (rs.take k))/\Hid (Below w.heap.size w wr)) (λvi _=>rs.length-Ev vi)
 case atStart=>exact⟨0,Y9 _,rfl,X,U⟩
 case round=>
  obtain⟨k,hk,rfl,HT,T⟩:=hrel;clear X U
  rcases Yc k rs.length with ap|az
  ·obtain⟨r,hr⟩:∃r,rs[k]? = some r:=⟨_,Y8 ap⟩
   obtain⟨z,hz⟩:∃z,zs[k]? = some z:=⟨_,Y8 (by have:=ag.out;omega)⟩;obtain⟨n,o,au⟩:=ai.out k z r hz hr;obtain⟨zp,zi,zv⟩:=z;obtain⟨G,J,I,ez⟩:=au;simp only at ez;subst ez;have l:=E.Ad ah.out T.out
   obtain⟨fb,am,ay,f0,f1,f2⟩:∃fb,fa=some ⟨fb,0,none⟩/\fb<wr.heap.size/\wr.cell? ⟨fb,k*3,none⟩=some (Zt zp)/\wr.cell? ⟨fb,k*3+1,none⟩=some (Zi zi)/\wr.cell? ⟨fb,k*3+2,none⟩=some (Zs G J I):=by
    rcases l.2 with⟨_,h0⟩|⟨fb,aw,ax,ev,_,hh,_,_,_⟩
    ·omega
    injection ev with al _ _;subst al;have hc:=l.cells (g:=fb) rfl;simp only[E.addr_add] at hc
    have d:∀(i:Nat)u,(Og (zp,zi,Zs G J I))[i]? = some u->wr.cell? ⟨fb,k*3+i,none⟩=some u:=λi u P=>by have:=hc (k*3+i) u (Hi (k:=3) (enc:=Og) (λ_=>rfl) hz P);simpa using this
    exact⟨fb,rfl,E.Ac hh,d 0 _ rfl,d 1 _ rfl,d 2 _ rfl⟩
   subst am;simp only at n o;subst n o;have O:=XE hr;have ar:=aj.out r O;have c:=ad.out r O;have ao:(k:Int)<(rs.length:Int):=by omega
   have Y:Hid (rs.take (k+1)=rs.take k++[r]):=Aa (S.Cs hr);have HA:Hid (Below wr.heap.size wr (wr.alloc (Zk #[Zt r.1,Zi r.2.1,Zs G J I] 53))):=Aa (Zal)
   have a0:w.heap.size<wr.heap.size:=by obtain⟨_,d0,_⟩:=HT.out.ex;exact V9 d0
   obtain⟨D,d1,d2,d3⟩:=(HT.out.up HA.out).ex;have V:=Aa d1;have s:=Aa d2;have t:=Aa d3;have y:=Aa (Mh ar);clear d1 d2 d3 l hr hz O HT;have c0:=heap_alloc_new wr (Zk #[Zt r.1,Zi r.2.1,Zs G J I] 53);have q0:=S.cell_of_heap c0 0;have q1:=S.cell_of_heap c0 1;simp at q0 q1;clear c0;go_wp2_with fail;have ae:=Aa (Vx V.out ((Y' _ _).drew));have af:=Aa (Vx V.out ((((Y' _ _).alloc (XA _) (Zk #[Zi r.2.1] 3))).drew))
   have W:Hid (((wr.alloc (Zk #[Zt r.1,Zi r.2.1,Zs G J I] 53)).alloc (Zk #[Zi r.2.1] 3)).drew.heap[wr.heap.size+1]? = some (Zk #[Zi r.2.1] 3)):=Aa (by have:=heap_alloc_new (wr.alloc (Zk #[Zt r.1,Zi r.2.1,Zs G J I] 53)) (Zk #[Zi r.2.1] 3);rwa[World.size_alloc] at this)
   have x:Hid (((wr.alloc (Zk #[Zt r.1,Zi r.2.1,Zs G J I] 53)).alloc (Zk #[Zi r.2.1] 3)).drew.heap[wr.heap.size]? = some (Zk #[Zt r.1,Zi r.2.1,Zs G J I] 53 (0,0))):=Aa (((((Y' _ _).alloc (XA _) (Zk #[Zi r.2.1] 3)).drew).block wr.heap.size (by simp)).trans (heap_alloc_new wr _));have a2:=T.out.size
   go_region_held3 (λw'=>w'.cell? ⟨wr.heap.size,0,none⟩=some (Zt r.1)/\w'.cell? ⟨wr.heap.size,1,none⟩=some (Zi r.2.1))
    (first
      | (go_keep;done)
      | exact AHp (Hq x.out (a.1.alloc _) (by decide) hg5)
      | exact AHp (Hq x.out a.1 (by decide) hg5)
      | exact AHp ((hgrow6.block _ (Ya (by simp;omega) hg5.size) (λe=>by injection e with e;omega)).trans (Hq x.out (a.1.alloc _) (by decide) hg5))
      | exact AHp ((hgrow6.block _ (Ya (by simp;omega) hg5.size) (λe=>by injection e with e;omega)).trans (Hq x.out a.1 (by decide) hg5))
      | fail)
    (first
      | (refine Ke Wl underlying204 (U5 _) ae.out (by unfold maxLen;omega) y.out ?_;intro v5 q d a av f)
      | (refine Ke Wl underlying204 (U5 _) af.out (by unfold maxLen;omega) y.out ?_;intro v5 q d a av f)
      | (refine step_append_lies _ (by rfl) (.tmp 19) (.tmp 22) 28 (by rfl) (w.heap.size+1) 3 i0 (Zi 0) 1 8 underlying28 b.out.1 b.out.2.1 b.out.2.2.1 b.out.2.2.2 rfl (by decide) v5 q.length (q.map (Value.int .i64)) (by rfl) (a.1.alloc _) ⟨wr.heap.size+1,0,none⟩ 1 1 [Zi r.2.1] (by rfl) rfl (λj u hj=>XI W.out j u hj) (by intro u P;simp at P;subst P;rfl) (by omega) (by unfold maxLen;omega) (by omega) (by simp;omega) _ rfl ?_;intro g5 c5 w5 ho5 hg5 hat5 hlt5)
      | (refine step_append_lies _ (by rfl) (.tmp 19) (.tmp 22) 28 (by rfl) (w.heap.size+1) 3 i0 (Zi 0) 1 8 underlying28 b.out.1 b.out.2.1 b.out.2.2.1 b.out.2.2.2 rfl (by decide) v5 q.length (q.map (Value.int .i64)) (by rfl) a.1 ⟨wr.heap.size+1,0,none⟩ 1 1 [Zi r.2.1] (by rfl) rfl (λj u hj=>XI W.out j u hj) (by intro u P;simp at P;subst P;rfl) (by omega) (by unfold maxLen;omega) (by omega) (by simp;omega) _ rfl ?_;intro g5 c5 w5 ho5 hg5 hat5 hlt5)
      | (refine Xs f ((XU _ _ _).trans hg5) (a.appended ho5 (WalkArith.wf_i64 (by have:=c.1;have:=c.2;omega))) (by simp;omega) (hat5.imp (λh=>h.symm) (λh=>⟨_,by rw[h];rfl,by simp⟩)) ?_;intro w6 hown6 hgrow6)
      | (refine Xs f hg5 (a.appended ho5 (WalkArith.wf_i64 (by have:=c.1;have:=c.2;omega))) (by simp;omega) (hat5.imp (λh=>h.symm) (λh=>⟨_,by rw[h];rfl,by simp⟩)) ?_;intro w6 hown6 hgrow6)
      | fail)
   ·have R:=Sd (t.out r.1) d a
    have N:=a.appended ho5 (WalkArith.wf_i64 (by have:=c.1;have:=c.2;omega));rw[N.datum_pos (by simp)] at hown6;have M:=Aa hown6;clear hown6;go_wp2;refine⟨⟨k+1,by omega,by simp,Aa ⟨_,M.out,s.out.put _ _,?_⟩,Aa ((Ap T.out (Ap HA.out ((Y' _ _).drew))).groups a ((XU _ _ _).trans hg5) hgrow6 (by simp;omega) (X6 _) (XA _))⟩,by simp only[Ev];omega⟩;rw[Y.out];exact sO s.out t.out R
   have R:=Sd (t.out r.1) d a;have N:=a.appended ho5 (WalkArith.wf_i64 (by have:=c.1;have:=c.2;omega));rw[N.datum_pos (by simp)] at hown6;have M:=Aa hown6;clear hown6;go_wp2;refine⟨⟨k+1,by omega,by simp,Aa ⟨_,M.out,s.out.put _ _,?_⟩,Aa ((Ap T.out (Ap HA.out (((Y' _ _).alloc (XA _) (Zk #[Zi r.2.1] 3)).drew))).groups a hg5 hgrow6 (by simp;omega) (X6 _) (XA _))⟩,by simp only[Ev];omega⟩;rw[Y.out];exact sO s.out t.out R
  have ao:¬((k:Int)<(rs.length:Int)):=by omega
  have an:k=rs.length:=by omega
  subst an;have L:=HT.out;rw[Ye] at L;have ak:=Aa L;clear L;go_wp2;go_ret;exact⟨w.heap.size,rfl,XA _,ak.out,T.out⟩
def tK(w:World)(s:Ah)(Eb:Int)(g:ByteArray)(T:S.CT)(xs:List A6)(e:Ending)(a:World):Prop :=
 Zb w a/\((s.cols=[]/\e=.returned (.tuple #[.pointer none,.slice none 0 0,.iface 90 (Zi 6)])) \/
  (s.cols≠[]/\Ex s.cols T≠0/\e=.returned (.tuple #[.pointer none,.slice none 0 0,AEy (Ex s.cols T)])) \/
  (s.cols≠[]/\Ex s.cols T=0/\∃b v' c n1 c1 h d n2 f,e=.returned (.tuple #[.pointer (some ⟨b,0,none⟩),v',.nilIface])/\Dv w.heap.size a b s Eb c n1 c1 h d n2 f g true none 0 [] ((Bo s.cols T xs).1.length:Int)/\Fp w.heap.size w.heap.size a v' (Bo s.cols T xs).1))
theorem Fp.base{B n:Nat}{w:Tw}{v:Tv}{rs:List Px}(h:Fp B B w v rs)(d:n<=B):Fp n n w v rs:=by obtain⟨zs,e,f,a⟩:=h;exact⟨zs,e,E.Ai f d,λj x r c b=>⟨(a j x r c b).1,(a j x r c b).2.1,E.Ai (a j x r c b).2.2 d⟩⟩
theorem Fp.far{w W:Tw}{I B b:Nat}{v:Tv}{rs:List Px}{cs:Array Tv}{t:TypeId}(h:Fp I B w v rs)(a:w.heap[b]? = some (Zk cs t (0,0)))(g:t≠53)(i:t≠56)(c:w.grownBy W (some b)):Fp I B W v rs:=by obtain⟨zs,d,e,f⟩:=h;refine⟨zs,d,Mk e a g c,λj z r l k=>?_⟩;obtain⟨m,n,o⟩:=f j z r l k;exact⟨m,n,Mk o a i c⟩
theorem AKm{W:Tw}{b:Nat}{f a e c d k g l:Tv}{t:TypeId}(h:W.heap[b]? = some (Zk #[f,a,e,c,d,k,g,l] t (0,0)))(u v:Tv):((W.setCell ⟨b,5,none⟩ u).setCell ⟨b,7,none⟩ v).heap[b]? = some (Zk #[f,a,e,c,d,u,g,v] t (0,0)):=by have i:=As W b 5 _ _ u h;have j:=As _ b 7 _ _ v i;simpa using j
theorem Wo(bb n:Nat)(D:Td)(mv:Tv)(H:List (Dn×Ah))(v:Tb)(xs:List A6)(T:S.CT)(G:Tv)(w:Tw)(h:Ground w bb n D mv)(O:B.Ob w)(t:S.Lp w)(R:U6 D H)(U:La H)(O5:H.length<=40)(u:Bx v=true)(I:v.size<=12)(x:Xh D (Ae H H.length) xs)(P:S.Gy w T G):
 Zc 69 #[Zp (some ⟨bb,0,none⟩),Zt v,G] w (tK w (Ae H H.length) H.length v T xs):=by
 have o:=Aa (fH bb n D mv H v w h R U O5 u I);have m:=Aa (λ(sv:Tv)W(y:Zb w W)(hS:Dl W (Ae H H.length) sv)=>oS bb n D mv (Ae H H.length) sv xs T G W (h.up y) (O.below y) (t.below y) hS x (P.up y));have ab:=Aa (L0 (Ae H H.length).cols T xs x.each);have ac:=x.Iz;have aa:Hid (∀W,Dl W (Ae H H.length)=Dl W (Ae H H.length)):=Aa λ_=>rfl
 unfold tK;unfold qP at m;generalize Ae H H.length=L at *;clear h O t R U x P u;go_enter func69,ntmps69;go_wp2_with fail;refine o.out.mono ?_;rintro e w1⟨g,⟨r,rfl⟩|⟨r,l,a1,n1,c1,x2,a2,n2,c2,rfl,J⟩⟩
 ·have q:=Aa (And.intro r g)
  clear r g;go_wp2_with fail;go_ret3;exact⟨q.out.2,.inl ⟨q.out.1,rfl⟩⟩
 have f:=Aa g;have q:=Aa r;have M:=Aa J;obtain⟨Y,y1,y2,y3,y4,y5,y6,y7,yf⟩:=F2 J.box;clear g r J o;go_wp2_with fail;refine(m.out _ _ f.out M.out.snap).mono ?_;rintro e X⟨d,⟨s,rfl⟩|⟨V,v2,rfl,k⟩⟩
 ·have j:=Aa s
  have i:=Aa d;clear s d;rw[Et j.out];go_wp2_with fail;go_ret3;exact⟨Ap f.out i.out,.inr (.inl ⟨q.out,j.out,by rw[Et j.out];rfl⟩)⟩
 have HZ:=Aa V;have i:=Aa d;have z:=Aa k;have b:=Aa (M.out.up d)
 obtain⟨fa,fc,rfl,_⟩:∃a c,v2=Zs a (Bo L.cols T xs).1.length c/\(Bo L.cols T xs).1.length<=c:=by obtain⟨zs,_,e2,_⟩:=k;exact Au e2
 clear V d k Y y1 y2 y3 y4 y5 y6 y7 yf;obtain⟨Y,y1,y2,y3,y4,y5,y6,y7,yf⟩:=F2 b.out.box;go_wp2_with fail;go_ret3;have N:X.grownBy ((X.setCell ⟨l,5,none⟩ (Zo true)).setCell ⟨l,7,none⟩ (Zi ((Bo L.cols T xs).1.length:Int))) (some l):=Gp (Aq _ _ _ _) (Aq _ _ _ _);exact⟨((Ap f.out i.out).setCell (p:=⟨l,5,none⟩) b.out.low _).setCell (p:=⟨l,7,none⟩) b.out.low _,.inr (.inr ⟨q.out,HZ.out,l,_,a1,n1,c1,x2,a2,n2,c2,rfl,b.out.set N (AKm b.out.box _ _),(z.out.base f.out.size).far b.out.box (by decide) (by decide) N⟩)⟩
theorem Told.pa{w W:Tw}{base m n:Nat}{rs:List Px}(h:Told w m n rs)(l:B.A0 (PA w base) w W):Told W m n rs:=by
 obtain⟨D,d,p,q⟩:=h.ex;refine⟨D,Xe d (l.block m (V9 d) ?_) λv zs j=>⟨?_,j.2⟩,p,q⟩
 ·rintro⟨_,cs,T,e,_⟩
  obtain⟨es,clock,r,_⟩:=d;rw[r] at e;cases e
 refine⟨j.1.1,?_⟩
 rcases j.1.2 with o|⟨g,c,b,s,f,i,k⟩
 ·exact .inl o
 refine .inr ⟨g,c,b,s,f,(l.block g (Ac i) ?_).trans i,k⟩;rintro⟨_,cs,T,e,a⟩;rw[i] at e;injection e with e;injection e with _ e;subst e
 rcases a with a|a <;> exact absurd a (by decide)
theorem dC{base:Nat}{a b c:Tw}(h:B.A0 (PA a base) a b)(k:B.A0 (PA b base) b c):B.A0 (PA a base) a c :=
 h.trans k λi j e=>by
  by_cases hs:PA a base i
  ·exact hs
  obtain⟨d,cs,T,f,g⟩:=e;exact⟨d,cs,T,(h.block i j hs).symm.trans f,g⟩
theorem AGu(l:List Aj)(T:S.CT)(x:A6):(Vm l T x).length<=1:=by
 unfold Vm;split
 ·exact Y9 _
 split <;> exact XA _
theorem rV(l:List Aj)(T:S.CT):∀xs:List A6,(xs.flatMap (Vm l T)).length<=xs.length
 | []=>XA _
 | x :: xs=>by have:=rV l T xs;have:=AGu l T x;rw[XS,XF,XO];omega
theorem AK0(path:Tb)(mask:List Int)(l:List Aj)(T:S.CT)(rs:List (List V))(b:rs.length<=1000):∀z∈Jw path mask l T 0 rs,Lu z.2.1:=λz a=>by
 have:=(Pv path mask l T rs 0).1 z a;exact⟨by omega,by omega⟩
theorem AJ0{D:Td}{l:List Aj}{xs:List A6}(c:∀x∈xs,Gt D x):∀z∈(Bo l .nil xs).1,Lu z.2.1/\z.1.size<=maxLen:=λz a=>by
 rw[H9] at a;obtain⟨x,b,a⟩:=List.mem_flatMap.1 a;have h:=c x b;refine⟨AK0 _ _ _ _ _ ?_ z a,?_⟩
 ·rw[J2]
  have:=(B4.mp h.ok).2.2.1;omega
 rw[N2 z a];have:=h.name;unfold maxLen;omega
theorem mL(base bb n:Nat)(D:Td)(mv:Tv)(pb:Nat)(s:Ah)(v:Int)(a1:To)(n1 c1:Nat)(x2:Int)(a2:To)(n2 c2:Nat)(tx:Tb)(rd:Bool)(aa:To)(ac:Nat)(L:List Gx)(rows:Int)(Bf:Nat)(rv:Tv)(T:S.CT)(xs:List A6)(w:Tw)(h:Ground w bb n D mv)(he:B.Ob w)(b4:S.Lp w)(hP:Dv base w pb s v a1 n1 c1 x2 a2 n2 c2 tx rd aa ac L rows)(cl:base<=w.heap.size)(V:Xh D s xs)(hg:Good Bv Cm s)(hF:jE Bf w rv (Bo s.cols T xs).1)(W:(Bo s.cols T xs).1=(Bo s.cols .nil xs).1.filter (Q9 s.cols T))(hL:L.length<=10):
 Zc 70 #[Zp (some ⟨bb,0,none⟩),Zp (some ⟨pb,0,none⟩),rv] w λe w'=>e=Zr Zn/\(∃f j t,Dv base w' pb s v a1 n1 c1 x2 a2 n2 c2 tx rd f j (L++t) rows/\t.map (·.1)=xs.flatMap (Vm s.cols T))/\B.A0 (PA w base) w w':=by
 have O5:=hg.Iz;have c7:xs.length<=40:=by have:=congrArg List.length V.files;rw[XB] at this;omega
 have b3:(xs.map (·.1.1)).Nodup:=by have:=hg.once;rw[<-V.files,XQ] at this;exact this
 have ct:n2=xs.length:=by obtain⟨b1,d1,b2,d2,Ls,ev,hV⟩:=hP.snap;unfold K4 at ev;simp only[Value.agg.injEq,Array.mk.injEq,List.cons.injEq,Value.int.injEq,Value.slice.injEq] at ev;have h1:=congrArg List.length hV.files;have h2:=congrArg List.length V.files;rw[XB] at h1 h2;omega
 subst ct;have M:=Aa (AJ0 (l:=s.cols) V.each);have av:=Aa (L0 s.cols .nil xs V.each);have aw:=Aa (L0 s.cols T xs V.each)
 have ak:Hid (∀z∈(Bo s.cols T xs).1,Lu z.2.1/\z.1.size<=maxLen):=Aa λz hz=>by rw[W] at hz;exact M.out z (List.mem_filter.1 hz).1
 have ce:Hid (∀x∈xs,aJ (Bo s.cols T xs).1 x.1.1=Ct s.cols T x/\(aJ (Bo s.cols .nil xs).1 x.1.1).length=(E4 s.cols x).length):=Aa λx hx=>by refine⟨?_,by rw[ADn s.cols b3 hx,XB]⟩;rw[W,H9];exact Wm s.cols _ xs b3 x hx
 have J:=Aa (oS bb n D mv s _ xs .nil (Zp none) w h he b4 hP.snap V rfl);unfold qP at J;simp only[dB] at J;have cc:=Aa V.files;have HP:=Aa hP;have HF:=Aa hF;have cb:=Aa (λx(hx:x∈xs)=>And.intro (V.each x hx).name (V.each x hx).mask);obtain⟨y0,y1,y2,y3,y4,y5,y6,y7,yf⟩:=F2 hP.box
 obtain⟨fa,fc,rfl,_⟩:∃a c,rv=Zs a (Bo s.cols T xs).1.length c/\(Bo s.cols T xs).1.length<=c:=by obtain⟨zs,_,e2,_⟩:=hF;exact Au e2
 clear h he b4 V hg hF W hP;unfold K4 at J;go_enter func70,ntmps70;go_wp2_with fail;refine J.out.mono ?_;rintro e w1⟨bw,⟨q,_⟩|⟨_,v1,rfl,bd⟩⟩
 ·exact absurd rfl q
 obtain⟨va,vc,rfl,_⟩:∃a c,v1=Zs a (Bo s.cols .nil xs).1.length c/\(Bo s.cols .nil xs).1.length<=c:=by obtain⟨zs,_,e2,_⟩:=bd;exact Au e2
 have bh:=Aa bw;have bl:=Aa (fE _ _ _ w1 bd.AJP (by have:=av.out.2;omega) (λr hr=>(M.out r hr).2) (λr hr=>(M.out r hr).1));clear bw bd J y0 y1 y2 y3 y4 y5 y6 y7 yf;go_wp2_with fail;refine bl.out.mono ?_;rintro e w2⟨m1,rfl,c5,bu,bx⟩;have aq:=Aa (Ap bh.out bx);have bn:=Aa bu;have bm:=Aa (fE _ _ _ w2 (HF.out.up aq.out) (by have:=aw.out.2;omega) (λr hr=>(ak.out r hr).2) (λr hr=>(ak.out r hr).1));clear bx bu bl;go_wp2_with fail;refine bm.out.mono ?_;rintro e w3⟨m2,rfl,c6,bv,bc⟩;have ar:=Aa (Ap aq.out bc);have al:=Aa (bn.out.up bc);have bo:=Aa bv;have az:=Aa (HP.out.up ar.out);clear bc bv bm bn;obtain⟨y0,y1,y2,y3,y4,y5,y6,y7,yf⟩:=F2 az.out.box;go_wp2_with fail;clear y0 y1 y2 y3 y4 y5 y6 y7 yf;have bk:Hid (B.A0 (PA w base) w w3):=Aa (B.A0.Ba ar.out)
 go_loopw [37] (λvi wr=>∃(k:Nat)(f:To)(j:Nat)(t:List Gx),k<=xs.length/\vi=Zi (k:Int)/\t.length<=k/\Hid (Dv base wr pb s v a1 n1 c1 x2 a2 xs.length c2 tx rd f j (L++t) rows)/\Hid (t.map (·.1)=(xs.take k).flatMap (Vm s.cols T))/\Hid (Told wr m1 (Bo s.cols .nil xs).1.length (Bo s.cols .nil xs).1)/\Hid (Told wr m2 (Bo s.cols T xs).1.length (Bo s.cols T xs).1)/\Hid (B.A0 (PA w base) w wr)) (λvi _=>xs.length-Ev vi)
 case atStart=>exact⟨0,aa,ac,[],Y9 _,rfl,XA _,Aa (by rw[XP];exact az.out),Aa rfl,al,bo,bk⟩
 case round=>
  clear az al bo bk ar aq bh;obtain⟨k,f,j,t,hk,rfl,c0,ah,HM,a5,a6,HO⟩:=hrel
  rcases Yc k xs.length with cs|c4
  ·obtain⟨x,ai⟩:∃x,xs[k]? = some x:=⟨_,Y8 cs⟩
   obtain⟨b1,d1,b2,d2,Ls,ev,hV⟩:=ah.out.snap;unfold K4 at ev;simp only[Value.agg.injEq,Array.mk.injEq,List.cons.injEq,Value.int.injEq,Value.slice.injEq] at ev;obtain⟨-,-,-,⟨e1,e2,e3⟩,-⟩:=ev;subst e1 e3;obtain⟨y,bg⟩:∃y,Ls[k]? = some y:=⟨_,Y8 (by omega)⟩
   have a9:y.1=x.1:=by
    have h1:(xs.map (·.1))[k]? = some x.1:=by simp[ai]
    rw[cc.out,hV.files,XN,bg] at h1;simpa using h1
   have b5:=XE ai;obtain⟨⟨⟨b,m,mask⟩,l0,xr⟩,ex⟩:∃q,q=x:=⟨_,rfl⟩;obtain⟨ye,⟨ma,mn,mc⟩⟩:=y;have bt:ye=(b,m,mask):=by rw[<-ex] at a9;exact a9
   subst bt ex;have ae:=hV.row
   obtain⟨fb,co,c3,e0,e1,cz⟩:∃fb,a2=some ⟨fb,0,none⟩/\fb<wr.heap.size/\wr.cell? ⟨fb,k*3,none⟩=some (Zt b)/\wr.cell? ⟨fb,k*3+1,none⟩=some (Zi m)/\wr.cell? ⟨fb,k*3+2,none⟩=some (Zs ma mn mc):=by
    rcases ae.2 with⟨_,h0⟩|⟨fb,cx,cy,ev,_,hh,_,_,_⟩
    ·omega
    injection ev with ch _ _;subst ch;have hc:=ae.cells (g:=fb) rfl;simp only[E.addr_add] at hc
    have ba:∀(i:Nat)u,(Lv ((b,m,mask),ma,mn,mc))[i]? = some u->wr.cell? ⟨fb,k*3+i,none⟩=some u:=λi u hu=>by have:=hc (k*3+i) u (Hi (k:=3) (enc:=Lv) (λ_=>rfl) bg hu);simpa using this
    exact⟨fb,rfl,E.Ac hh,ba 0 _ rfl,ba 1 _ rfl,ba 2 _ rfl⟩
   subst co;obtain⟨ab,ad⟩:=ce.out _ b5;have cq:(k:Int)<(xs.length:Int):=by omega
   have a4:Hid ((xs.take (k+1)).flatMap (Vm s.cols T)=(xs.take k).flatMap (Vm s.cols T)++Vm s.cols T ((b,m,mask),l0,xr)):=Aa (by rw[S.Cs ai];simp);have bf:b.size<=maxLen:=by have:=(cb.out _ b5).1;unfold maxLen;simp only at this;omega
   have O:=Aa (Mh bf);have o:Hid (Zb wr (wr.alloc (Zk #[Zt b,Zi m,Zs ma mn mc] 65))):=Aa (Zal);have cw:=Aa (heap_alloc_new wr (Zk #[Zt b,Zi m,Zs ma mn mc] 65));obtain⟨Da,bp,cf,bq⟩:=(a5.out.up o.out).ex;obtain⟨Df,br,cg,bs⟩:=(a6.out.up o.out).ex;have bj:=Aa (And.intro bp (bq b));have ag:=Aa (And.intro br (bs b));have cr:(Bo s.cols .nil xs).1.length<maxLen:=by have:=av.out.2;unfold maxLen;omega
   have b0:(Bo s.cols T xs).1.length<maxLen:=by have:=aw.out.2;unfold maxLen;omega
   simp only at ab ad;have a0:=Aa (And.intro ab ad);clear bp cf bq br cg bs hV ae a9 bg ai ab ad e2;go_wp2_with fail;have au:Hid (Vm s.cols T ((b,m,mask),l0,xr)=if Ct s.cols T ((b,m,mask),l0,xr)=[] then [] else if (Ct s.cols T ((b,m,mask),l0,xr)).length=(E4 s.cols ((b,m,mask),l0,xr)).length then [(2,b,0,[],[],0)] else [(3,b,0,Ct s.cols T ((b,m,mask),l0,xr),[],0)]):=Aa rfl;generalize Ct s.cols T ((b,m,mask),l0,xr)=PL at *;generalize (E4 s.cols ((b,m,mask),l0,xr)).length=NP at *;generalize Vm s.cols T ((b,m,mask),l0,xr)=GA at *;refine Ke Wl underlying204 (U5 _) ag.out.1 b0 O.out ?_;intro v5 d am ap b6 _;have cu:d=PL:=(Sd ag.out.2 am ap).trans a0.out.1;subst cu;obtain⟨da,dc,ci,_⟩:=Au ap.1;subst ci;have c8:d.length<=100000:=by have:=aw.out.2;omega
   have a3:=Aa (ah.out.up o.out);have P:=Aa (a5.out.up o.out);have R:=Aa (a6.out.up o.out);have ay:Hid (B.A0 (PA w base) w (wr.alloc (Zk #[Zt b,Zi m,Zs ma mn mc] 65))):=Aa (dC HO.out (B.A0.Ba o.out));have bz:base<=(wr.alloc (Zk #[Zt b,Zi m,Zs ma mn mc] 65)).heap.size:=XC (XC cl HO.out.size) o.out.size;have bi:=Aa bz;clear am b6 bz HO ah a5 a6
   by_cases hq1:d=[]
   ·have N:Hid (GA=[]):=Aa (by rw[au.out,if_pos hq1])
    have cm:((d.length:Nat):Int)=0:=by rw[hq1];rfl
    clear hq1;go_wp2
    go_roundw
    case rel=>refine⟨k+1,f,j,t,by omega,by simp,by omega,a3,Aa ?_,P,R,ay⟩;rw[HM.out,a4.out,N.out,XP]
    case measure=>simp only[Ev];omega
   have cm:¬((d.length:Nat):Int)=0:=λe=>hq1 (List.length_eq_zero_iff.1 (by omega))
   go_wp2_with fail;refine Ke Wl underlying204 (U5 _) bj.out.1 cr O.out ?_;intro v6 af an Y b7 _;have aj:af.length=NP:=by rw[Sd bj.out.2 an Y];exact a0.out.2
   obtain⟨db,dd,cj,_⟩:=Au Y.1;subst cj;have c9:af.length<=100000:=by have:=av.out.2;omega
   clear an b7 Y
   by_cases hq2:d.length=af.length
   ·have N:Hid (GA=[(2,b,0,[],[],0)]):=Aa (by rw[au.out,if_neg hq1,if_pos (by rw[hq2,aj])])
    have cn:((d.length:Nat):Int)=((af.length:Nat):Int):=by omega
    have I:=Aa (N3 base pb s v a1 n1 c1 x2 _ xs.length c2 tx rd f j (L++t) rows _ a3.out bi.out 2 b 0 [] [] 0 none 0 0 none 0 0 ⟨XD _ _ _ _,XD _ _ _ _⟩ ⟨bf,Y9 _,(λx hx=>by cases hx)⟩ (by rw[XF];omega));clear hq1 hq2 aj;go_wp2_with fail;refine I.out.mono ?_;rintro e w6⟨rfl,⟨a7,a8,U⟩,X⟩;have H6:=Aa (And.intro U X);clear U X I;go_wp2
    go_roundw
    case rel=>refine⟨k+1,a7,a8,t++[((2,b,0,[],[],0),(none,0,0),(none,0,0))],by omega,by simp,by simp;omega,Aa (by rw[<-XV];exact H6.out.1),Aa ?_,Aa (P.out.pa H6.out.2),Aa (R.out.pa H6.out.2),Aa (dC ay.out H6.out.2)⟩;rw[XK,HM.out,a4.out,N.out];rfl
    case measure=>simp only[Ev];omega
   have N:Hid (GA=[(3,b,0,d,[],0)]):=Aa (by rw[au.out,if_neg hq1,if_neg (λe=>hq2 (by rw[e,aj]))]);have cn:¬((d.length:Nat):Int)=((af.length:Nat):Int):=by omega
   clear hq1 hq2 aj;go_wp2_with fail;refine Ke Wl underlying204 (U5 _) ag.out.1 b0 O.out ?_;intro v7 G ao p b8 _;have cv:G=d:=(Sd ag.out.2 ao p).trans a0.out.1;subst cv;obtain⟨b9,ca,ck,_⟩:=Au p.1;subst ck;have I:=Aa (N3 base pb s v a1 n1 c1 x2 _ xs.length c2 tx rd f j (L++t) rows _ a3.out bi.out 3 b 0 G [] 0 b9 G.length ca none 0 0 ⟨E.Ai p.1 (Y9 _),XD _ _ _ _⟩ ⟨bf,by show G.length<=600000;omega,(λx hx=>by cases hx)⟩ (by rw[XF];omega));clear ao b8 p;go_wp2_with fail;refine I.out.mono ?_;rintro e w6⟨rfl,⟨a7,a8,U⟩,X⟩;have H6:=Aa (And.intro U X);clear U X I;go_wp2
   go_roundw
   case rel=>refine⟨k+1,a7,a8,t++[((3,b,0,G,[],0),(b9,G.length,ca),(none,0,0))],by omega,by simp,by simp;omega,Aa (by rw[<-XV];exact H6.out.1),Aa ?_,Aa (P.out.pa H6.out.2),Aa (R.out.pa H6.out.2),Aa (dC ay.out H6.out.2)⟩;rw[XK,HM.out,a4.out,N.out];rfl
   case measure=>simp only[Ev];omega
  have cq:¬((k:Int)<(xs.length:Int)):=by omega
  have cp:k=xs.length:=by omega
  subst cp;have ax:=HM.out;rw[Ye] at ax;have cd:=Aa ax;clear ax;go_wp2;go_ret;exact⟨rfl,⟨f,j,t,ah.out,cd.out⟩,HO.out⟩
variable{W w:Tw}{v:Tv}{x:J4}{L c r:List V}{l:List Aj}{s:Ah}{I k m n:Nat}{y:Int}{a:A5}{H:List (Dn×Ah)}{D:Td}{A:List A5}{e:Ending}
def SlJ(I B:Nat)(w:World)(v:Value)(rows:List (List V)):Prop:=∃a:List Value,a.length=rows.length/\w.ownsRow B 51 1 v rows.length a/\∀(j:Nat)x r,a[j]? = some x->rows[j]? = some r->w.ownsRow I 56 3 x r.length (E.A1 r)
theorem AHj(I B:Nat)(w:Tw):SlJ I B w (Zs none 0 0) []:=⟨[],rfl,XD _ _ _ _,λj x r a=>by simp at a⟩
theorem SlJ.o{I B:Nat}{rows:List (List V)}(h:SlJ I B w v rows):Sc B w v rows:=by obtain⟨f,a,b,c⟩:=h;exact⟨f,a,b,λj x r e d=>E.Ai (c j x r e d) (Y9 _)⟩
theorem SlJ.snoc{I B:Nat}{v v':Tv}{rows:List (List V)}{X:List Tv}{x:Tv}(g:X.length=rows.length)(i:w.ownsRow B 51 1 v rows.length X)(l:∀(j:Nat)x r,X[j]? = some x->rows[j]? = some r->w.ownsRow I 56 3 x r.length (E.A1 r))(s:w.ownsRow I 56 3 x r.length (E.A1 r))(o:w.grownBy W v.ownBlock)(p:W.ownsRow B 51 1 v' (rows.length+1) (X++[x])):SlJ I B W v' (rows++[r]):=by
 have c:∀{y:Tv}{n:Nat}{h:List Tv},w.ownsRow I 56 3 y n h->W.ownsRow I 56 3 y n h:=λa=>Az a o λk c e=>a8 i a (by decide) k e c
 refine⟨X++[x],by simp[g],?_,λj y q a b=>?_⟩
 ·simpa using p
 rcases Yc j X.length with f|d
 ·rw[XH f] at a
  rw[XH (by omega)] at b;exact c (l j y q a b)
 rw[XG d] at a;rw[XG (by omega)] at b;rw[g] at a;cases hj:j-rows.length with
 | zero=>rw[hj] at a b;simp at a b;subst a b;exact c s
 | succ m=>rw[hj] at a;simp at a
theorem X7(I B:Nat)(v:Tv)(rs:List Px)(w:Tw)(hF:Fp I B w v rs)(ao:rs.length<=100000):
 Zc 72 #[v] w λe w'=>∃v',e=Zr v'/\SlJ I w.heap.size w' v' (rs.map (·.2.2))/\Zb w w':=by
 obtain⟨zs,e1,e2,e3⟩:=hF;obtain⟨fa,fc,rfl,_⟩:=Au e2;have W:=Aa e1;have X:=Aa e2;have Y:=Aa e3;obtain⟨iC,N,O,P,R⟩:=info_parts eI;have h:=Zy N O P R;clear e1 e2 e3 N O P R;go_enter func72,ntmps72;go_wp2_with fail
 go_loopw [3,8] (λvo vi wr=>∃(k:Nat)(a:To)(c:Nat),k<=rs.length/\vi=Zi (k:Int)/\vo=Zs a k c/\Hid (SlJ I w.heap.size wr (Zs a k c) ((rs.take k).map (·.2.2)))/\Hid (Zb w wr)) (λ_ vi _=>rs.length-Ev vi)
 case atStart=>exact⟨0,none,0,Y9 _,rfl,rfl,Aa (AHj _ _ _),Aa (Y' _ _)⟩
 case round=>
  obtain⟨k,a,c,hk,rfl,rfl,HO,p⟩:=hrel
  rcases Yc k rs.length with aj|an
  ·obtain⟨r,hr⟩:∃r,rs[k]? = some r:=⟨_,Y8 aj⟩
   obtain⟨z,hz⟩:∃z,zs[k]? = some z:=⟨_,Y8 (by have:=W.out;omega)⟩;obtain⟨_,_,o⟩:=Y.out k z r hz hr;obtain⟨zp,zi,zv⟩:=z;obtain⟨T,U,ez,_⟩:=Au o;simp only at ez;subst ez;have f:=E.Ad X.out p.out
   obtain⟨fb,ag,am,f0,f1,f2⟩:∃fb,fa=some ⟨fb,0,none⟩/\fb<wr.heap.size/\wr.cell? ⟨fb,k*3,none⟩=some (Zt zp)/\wr.cell? ⟨fb,k*3+1,none⟩=some (Zi zi)/\wr.cell? ⟨fb,k*3+2,none⟩=some (Zs T r.2.2.length U):=by
    rcases f.2 with⟨_,h0⟩|⟨fb,ak,al,ev,_,hh,_,_,_⟩
    ·omega
    injection ev with af _ _;subst af;have hc:=f.cells (g:=fb) rfl;simp only[E.addr_add] at hc
    have n:∀(i:Nat)u,(Og (zp,zi,Zs T r.2.2.length U))[i]? = some u->wr.cell? ⟨fb,k*3+i,none⟩=some u:=λi u V=>by have:=hc (k*3+i) u (Hi (k:=3) (enc:=Og) (λ_=>rfl) hz V);simpa using this
    exact⟨fb,rfl,E.Ac hh,n 0 _ rfl,n 1 _ rfl,n 2 _ rfl⟩
   subst ag;have ai:(k:Int)<(rs.length:Int):=by omega
   have M:rs.take (k+1)=rs.take k++[r]:=S.Cs hr;have ae:Hid ((rs.take (k+1)).map (·.2.2)=(rs.take k).map (·.2.2)++[r.2.2]):=Aa (by rw[M];simp);have J:((rs.take k).map (·.2.2)).length=k:=by rw[XB,XT];omega
   have HX:=Aa (E.Ad o p.out);obtain⟨vs,o1,o2,o3⟩:=HO.out;have ab:=Aa o1;have m:=Aa o2;have ac:=Aa o3;have t:=Aa J;obtain⟨t0,t1,t2,t3⟩:=C1 wr (Zk #[Zt zp,Zi zi,Zs T r.2.2.length U] 53) (Zk #[Zs T r.2.2.length U] 51);have b:=Aa t3;have aa:=Aa t2;have L:=p.out.size;clear M J o1 o2 o3 o f t0 t1 t2 t3
   go_wp2_with (first
    | (at_builtin;refine wpList_append_own _ rfl _ _ 35 rfl w.heap.size 51 iC (.slice none 0 0) 1 24 underlying35 h.out.1 h.out.2.1 h.out.2.2.1 h.out.2.2.2 rfl (by decide) (.slice a k c) k vs rfl (by have q:=E.Ad m.out b.out;rw[t.out] at q;exact q) ⟨wr.heap.size+1,0,none⟩ 1 1 [.slice T r.2.2.length U] rfl rfl (λj u hj=>XI aa.out j u hj) (by intro u V;simp at V;subst V;rfl) (by unfold maxLen;omega) (by omega) (XC L b.out.size) ?_
       intro v5 w5 d G _;have y:=Aa d;have s:=Aa G;clear d G))
   obtain⟨a',c',rfl,_⟩:=Au y.out;have D:=Ap p.out b.out;refine⟨⟨k+1,a',c',by omega,by simp,rfl,Aa ?_,Aa ?_⟩,by simp only[Ev];omega⟩
   ·rw[ae.out]
    refine SlJ.snoc ab.out (E.Ad m.out b.out) (λj x q hx hq=>E.Ad (ac.out j x q hx hq) b.out) (E.Ad HX.out b.out) s.out ?_;rw[t.out];exact y.out
   exact D.grown s.out D.size (λj hj=>Fu m.out hj)
  have ai:¬((k:Int)<(rs.length:Int)):=by omega
  have ah:k=rs.length:=by omega
  subst ah;have l:=HO.out;rw[Ye] at l;have ad:=Aa l;clear l;go_wp2;go_ret;exact⟨_,rfl,ad.out,p.out⟩
abbrev Vi:=ByteArray×V
def Wu(s:Vi):List Value:=[.string s.1,Zi s.2.1,Zi s.2.2.1,.string s.2.2.2]
structure Tgt(l:List Aj)(A3:List Vi)(ts:List Nat):Prop where
 len:ts.length=A3.length
 find:∀(j:Nat)(t:Nat)(s:Vi),ts[j]? = some t->A3[j]? = some s->Ce l s.1=t/\t<l.length
 once:ts.Nodup
theorem Tgt.nil(l:List Aj):Tgt l [] []:=⟨rfl,(λj t s h=>by simp at h),List.nodup_nil⟩
theorem Tgt.snoc{A3:List Vi}{ts:List Nat}(h:Tgt l A3 ts){s:Vi}{t:Nat}(n:Ce l s.1=t)(p:t<l.length)(o:¬t∈ts):Tgt l (A3++[s]) (ts++[t]):=by
 refine⟨by simp[h.len],λj t' s' c d=>?_,?_⟩
 ·rcases Yc j ts.length with g|f
  ·rw[XH g] at c
   rw[XH (by rw[<-h.len];exact g)] at d;exact h.find j t' s' c d
  rw[XG f] at c;rw[XG (by rw[<-h.len];exact f)] at d;rw[<-h.len] at d;cases hj:j-ts.length with
  | zero=>rw[hj] at c d;simp at c d;subst c d;exact⟨n,p⟩
  | succ m=>rw[hj] at c;simp at c
 rw[YR];exact⟨h.once,by simp,λa k b i e=>by simp at i;subst e i;exact o k⟩
def ints(ts:List Nat):List Int:=ts.map λ(t:Nat)=>(t:Int)
theorem uA(g cp:Nat)(l:List Aj)(sa:To)(sc:Nat)(A3:List Vi)(w:Tw)(hs:I1 w g 0 l)(h8:l.length<=8)(hS:F7 4 Wu w (Zs sa A3.length sc) A3)(ap:A3.length<=100):
 Zc 71 #[Zs (some ⟨g,0,none⟩) l.length cp,Zs sa A3.length sc] w λe w'=>Zb w w'/\((∃a c ts,e=Zr (Zu #[Zs a A3.length c,Zn])/\w'.ownsRow w.heap.size 3 1 (Zs a A3.length c) A3.length ((ints ts).map (.int .i64))/\Tgt l A3 ts)\/(∃a n c T y,e=Zr (Zu #[Zs a n c,Zf T y]))):=by
 have aa:=Aa (λnm W(hW:Zb w W)=>E8 g 0 cp l nm W (hs.below hW) h8);have ae:=Aa hS;obtain⟨i0,hi,O,P,R⟩:=info_parts AGb;have o:=Zy hi O P R;clear hs hS hi O P R;go_enter func71,ntmps71;go_wp2_with fail
 go_loopw [6,12] (λvo vi wr=>∃(k:Nat)(a:To)(c:Nat)(ts:List Nat),k<=A3.length/\vi=Zi (k:Int)/\vo=Zs a k c/\Hid (wr.ownsRow w.heap.size 3 1 (Zs a k c) k ((ints ts).map (.int .i64)))/\Hid (Tgt l (A3.take k) ts)/\Hid (Zb w wr)) (λ_ vi _=>A3.length-Ev vi)
 case atStart=>exact⟨0,none,0,[],Y9 _,rfl,rfl,Aa (XD _ _ _ _),Aa (Tgt.nil l),Aa (Y' _ _)⟩
 case round=>
  obtain⟨k,a,c,ts,hk,rfl,rfl,HO,HT,U⟩:=hrel
  rcases Yc k A3.length with ak|an
  ·obtain⟨x,D⟩:∃x,A3[k]? = some x:=⟨_,Y8 ak⟩
   obtain⟨b,off,cc,ev,_,am,d⟩:=(ae.out.up U.out).cons (by omega);injection ev with e1 _ e3;subst e1 e3;obtain⟨nm,vk,vn,vt⟩:=x;have q0:=d k _ D 0 _ rfl;have q1:=d k _ D 1 _ rfl;have q2:=d k _ D 2 _ rfl;have q3:=d k _ D 3 _ rfl;have aj:(k:Int)<(A3.length:Int):=by omega
   have N:ts.length=k:=by rw[HT.out.len,XT];omega
   have L:=Aa N;have af:Hid (A3.take (k+1)=A3.take k++[(nm,vk,vn,vt)]):=Aa (S.Cs D);have X:Hid (Zb wr (wr.alloc (Zk #[Zt nm,Zi vk,Zi vn,Zt vt] 70))):=Aa (Zal);have p:=Aa (aa.out nm _ (Ap U.out X.out));have m:=Aa (Gz l nm);clear d D N;simp only[X4] at q0;obtain⟨fi,z⟩:∃fi,Ce l nm=fi:=⟨_,rfl⟩;rw[z] at p m;have Y:=Aa z;clear z;go_wp2_with fail;refine p.out.mono ?_;rintro e w1⟨rfl,t⟩;have f:=Aa (Ap U.out (Ap X.out t));have r:=Aa (Bc HO.out (Ap X.out t));clear t p
   rcases m.out with⟨hf,_⟩|⟨j,V,hf,_⟩
   ·subst hf
    clear m;go_wp2_with fail;go_ret2;exact⟨f.out,.inr ⟨_,_,_,_,_,rfl⟩⟩
   subst hf;have ao:¬(j:Int)<0:=by omega
   have I:Hid (Ph w1 (Zs a k c) (ints ts)):=Aa (by have:=Ph.Fz (l:=ints ts) (v:=Zs a k c) (w:=w1) (base:=w.heap.size) (by rw[show (ints ts).length=k by simp[ints,L.out]];exact r.out);exact this)
   have G:=Aa (Nc (Zs a k c) (ints ts) (j:Int) w1 I.out (by simp[ints,L.out];unfold maxLen;omega));clear m;go_wp2_with fail;refine G.out.mono ?_;rintro e w2⟨rfl,rfl⟩;clear G I;cases hany:(ints ts).any λy=>(j:Int)==y with
   | true=>clear hany;go_wp2_with fail;go_ret2;exact⟨f.out,.inr ⟨_,_,_,_,_,rfl⟩⟩
   | false=>
     have ad:Hid (¬j∈ts):=Aa (λhm=>by have:=List.any_eq_false.1 hany (j:Int) (List.mem_map.2 ⟨j,hm,rfl⟩);simp at this)
     clear hany;have i:Hid (Zb w2 (w2.alloc (Zk #[Zi (j:Int)] 3))):=Aa (Zal);have al:=f.out.size;have ac:=Aa V;clear V
     go_wp2_with (first
      | (at_builtin;refine wpList_append_own _ rfl _ _ 28 rfl w.heap.size 3 i0 (Zi 0) 1 8 underlying28 o.out.1 o.out.2.1 o.out.2.2.1 o.out.2.2.2 rfl (by decide) (.slice a k c) k _ rfl (Bc r.out i.out) ⟨w2.heap.size,0,none⟩ 1 1 [Zi (j:Int)] rfl rfl (λj u V=>XI (heap_alloc_new _ _) j u V) (by intro u hu;simp at hu;subst hu;rfl) (by unfold maxLen;omega) (by omega) (XC al i.out.size) ?_
         intro v5 w5 h M _;have J:=Aa h;have ab:=Aa M;clear h M))
     obtain⟨a',c',rfl,_⟩:=Au J.out;have ah:=(Ap f.out i.out).grown ab.out (Ap f.out i.out).size (λq hq=>Fu r.out hq)
     go_roundw
     case rel=>
      refine⟨k+1,a',c',ts++[j],by omega,by simp,rfl,Aa ?_,Aa ?_,Aa ah⟩
      ·simpa[ints] using J.out
      rw[af.out];exact HT.out.snoc Y.out ac.out ad.out
     case measure=>simp only[Ev];omega
  have aj:¬(k:Int)<(A3.length:Int):=by omega
  have ai:k=A3.length:=by omega
  subst ai;have s:=HT.out;rw[Ye] at s;have ag:=Aa s;clear s;go_wp2;go_ret2;exact⟨U.out,.inl ⟨a,c,rfl,ts,HO.out,ag.out⟩⟩
def Ly(ts:List Nat)(a:List V)(t:Nat):Option V:=((ts.zip a).find? λp=>p.1==t).map (·.2)
def tU(f:Nat->Option V)(r:List V):List V:=r.mapIdx λt x=>(f t).getD x
theorem AD5:∀{ts:List Nat}{L:List V}{i t:Nat}{v:V},ts.Nodup->ts[i]? = some t->L[i]? = some v->Ly ts L t=some v
 | [],_,_,_,_,_,h,_=>by simp at h
 | _ :: _,[],_,_,_,_,_,h=>by simp at h
 | a :: ts,b :: L,0,t,v,_,h1,h2=>by simp at h1 h2;subst h1 h2;simp[Ly]
 | a :: ts,b :: L,i+1,t,v,hn,h1,h2=>by
   rw[XX] at hn;simp at h1 h2;have d:=AD5 hn.2 h1 h2;have c:¬a=t:=λe=>hn.1 (e ▸ XE h1)
   unfold Ly at d ⊢;simp[c,d]
theorem bI:∀{ts:List Nat}{L:List V}{t:Nat}{v:V},Ly ts L t=some v->∃i:Nat,ts[i]? = some t/\L[i]? = some v
 | [],_,_,_,h=>by simp[Ly] at h
 | _ :: _,[],_,_,h=>by simp[Ly] at h
 | a :: ts,b :: L,t,v,h=>by
   by_cases e:a=t
   ·subst e
    simp[Ly] at h;exact⟨0,rfl,by simp[h]⟩
   have:Ly ts L t=some v:=by unfold Ly at h ⊢;simpa[e] using h
   obtain⟨i,c,d⟩:=bI this;exact⟨i+1,by simpa using c,by simpa using d⟩
def oI(f:Nat->Option V)(r c:List V):Prop:=∀t,t<r.length->c[t]? = r[t]? \/ ∃v,f t=some v/\c[t]? = some v
def fQ(f:Nat->Option V)(r c:List V):Prop:=∀t,t<r.length->c[t]? = some ((f t).getD (r[t]?.getD zV))
theorem oI.refl(f:Nat->Option V)(r:List V):oI f r r:=λ_ _=>.inl rfl
theorem oI.set{f:Nat->Option V}{r c:List V}(h:oI f r c){t:Nat}{v:V}(a:f t=some v)(d:c.length=r.length):oI f r (c.set t v):=λs b=>by
 by_cases e:t=s
 ·subst e
  exact .inr ⟨v,a,by rw[Yj (by omega)]⟩
 rw[Yp e];exact h s b
theorem fQ.set{f:Nat->Option V}{r c:List V}(h:fQ f r c){t:Nat}{v:V}(a:f t=some v)(d:c.length=r.length):fQ f r (c.set t v):=λs b=>by
 by_cases e:t=s
 ·subst e
  rw[Yj (by omega),a];rfl
 rw[Yp e];exact h s b
theorem fQ.eq{f:Nat->Option V}(h:fQ f r c)(d:c.length=r.length):c=tU f r:=by
 apply List.ext_getElem?;intro t;unfold tU;rw[List.getElem?_mapIdx]
 rcases Yc t r.length with a|b
 ·rw[h t a,Y8 a]
  simp
 rw[Yb (by omega),Yb b];rfl
theorem oI.done{ts:List Nat}(h:oI (Ly ts L) r c)(f:∀(i t:Nat)v,ts[i]? = some t->L[i]? = some v->c[t]? = some v):fQ (Ly ts L) r c:=λt a=>by
 cases e:Ly ts L t with
 | some v=>obtain⟨i,b,d⟩:=bI e;rw[f i t v b d];rfl
 | none=>
   rcases h t a with q|⟨v,q,_⟩
   ·rw[q,Y8 a]
    rfl
   rw[e] at q;cases q
theorem Ku(k n:Int)(a:Tb):∀(l:List V)(t:Nat),t<l.length->(((E.A1 l).set (t*3) (Zi k)).set (t*3+1) (Zi n)).set (t*3+2) (Zt a)=E.A1 (l.set t (k,n,a))
 | [],t,h=>absurd h (Ym _)
 | c :: l,0,_=>rfl
 | c :: l,t+1,h=>by
   have d:=Ku k n a l t (by simpa using h);have e:∀(y:V)(z:List V),E.A1 (y :: z)=[Zi y.1,Zi y.2.1,Zt y.2.2]++E.A1 z:=λ_ _=>rfl
   rw[e,XM,e,<-d];have b:(t+1)*3=t*3+3:=by omega
   rw[b];rfl
def vK(I:Nat)(w:World)(xs:List Value)(rs:List (List V))(f:Nat->Option V)(m k:Nat)(P:List V->Prop):Prop :=
 ∀(j:Nat)x r,xs[j]? = some x->rs[j]? = some r->∃c:List V,w.ownsRow I 56 3 x m (E.A1 c)/\c.length=m/\r.length=m/\oI f r c/\(j<k->fQ f r c)/\(j=k->P c)
def aL(w:World)(g i:Nat)(a b c:Value):World:=((w.setCell ⟨g,i,none⟩ a).setCell ⟨g,i+1,none⟩ b).setCell ⟨g,i+2,none⟩ c
theorem vR(w:Tw)(g i:Nat)(a b c:Tv):w.grownBy (aL w g i a b c) (some g):=Gp (Gp (Aq _ _ _ _) (Aq _ _ _ _)) (Aq _ _ _ _)
theorem AF9{base g m i:Nat}(h:w.ownsRow base 56 3 (Zs (some ⟨g,0,none⟩) m i) m (E.A1 c))(b:c.length=m){t:Nat}(d:t<m)(k n:Int)(a:Tb):(aL w g (t*3) (Zi k) (Zi n) (Zt a)).ownsRow base 56 3 (Zs (some ⟨g,0,none⟩) m i) m (E.A1 (c.set t (k,n,a))):=by rw[<-Ku k n a c t (by omega)];exact(((h.stored _ _).1.stored _ _).1.stored _ _).1
theorem vK.store{xs:List Tv}{rs:List (List V)}{f:Nat->Option V}{P P':List V->Prop}(h:vK I w xs rs f m k P){g n t:Nat}{z:Int}{s:Tb}(W:xs[k]? = some (Zs (some ⟨g,0,none⟩) m n))(U:t<m)(G:f t=some (y,z,s))(O:∀c,c.length=m->P c->P' (c.set t (y,z,s))):vK I (aL w g (t*3) (Zi y) (Zi z) (Zt s)) xs rs f m k P':=λj x r b T=>by
 obtain⟨c,i,l,u,v,D,N⟩:=h j x r b T
 by_cases e:x.ownBlock=some g
 ·obtain⟨a,Y,M,_⟩:=Au i
  subst M
  have L:a=some ⟨g,0,none⟩:=by
   rcases i.2 with⟨q,_⟩|⟨g',X,J,q,_⟩
   ·injection q with p _ _
    subst p;simp[Value.ownBlock] at e
   injection q with p _ _;subst p;simp[Value.ownBlock] at e;rw[e]
  subst L;exact⟨c.set t (y,z,s),AF9 i l U y z s,by rw[XW];exact l,u,v.set G (by omega),λd=>(D d).set G (by omega),λd=>O c l (N d)⟩
 refine⟨c,Az i (vR _ _ _ _ _ _) (λq R o=>?_),l,u,v,D,λd=>?_⟩
 ·injection o with o
  exact e (by rw[R,o])
 subst d;rw[W] at b;injection b with b;subst b;exact absurd rfl e
theorem vK.next{xs:List Tv}{rs:List (List V)}{ts:List Nat}{P':List V->Prop}(h:vK I w xs rs (Ly ts L) m k (λc=>∀(i t:Nat)v,ts[i]? = some t->L[i]? = some v->c[t]? = some v))(n:∀c,P' c):vK I w xs rs (Ly ts L) m (k+1) P':=λj x r hj hr=>by
 obtain⟨c,d,e,f,b,g,l⟩:=h j x r hj hr;refine⟨c,d,e,f,b,λp=>?_,λ_=>n c⟩
 rcases Yc j k with a|o
 ·exact g a
 exact b.done (l (by omega))
theorem vK.imp{xs:List Tv}{rs:List (List V)}{f:Nat->Option V}{P P':List V->Prop}(h:vK I w xs rs f m k P)(l:∀c,P c->P' c):vK I w xs rs f m k P':=λj x r n p=>by
 obtain⟨c,a,b,d,e,g,i⟩:=h j x r n p;exact⟨c,a,b,d,e,g,λo=>l c (i o)⟩
theorem vK.rows{I B:Nat}{xs:List Tv}{rs:List (List V)}{f:Nat->Option V}{P:List V->Prop}(h:vK I w xs rs f m rs.length P)(i:xs.length=rs.length)(k:w.ownsRow B 51 1 v rs.length xs):Sc B w v (rs.map (tU f)):=by
 refine⟨xs,by simp[i],by rw[XB];exact k,λj x r l a=>?_⟩;rw[XN] at a;cases hrj:rs[j]? with
 | none=>rw[hrj] at a;cases a
 | some q=>rw[hrj] at a;simp at a;obtain⟨c,b,d,n,o,g,p⟩:=h j x q l hrj;have e:=(g (Ax hrj)).eq (by omega);rw[<-a,<-e,d];exact E.Ai b (Y9 _)
theorem uI(h:Good Bv Cm s):∀c∈s.cols,Nz (bP c):=λc b=>by
 rcases h.cols with e|e
 ·rw[e] at b;cases b
 have d:=(e.2.2.1 c b).1.2.2.2;simp only[Cm,XJ] at d;have a:=d.1;unfold A9 at a;unfold Nz bP;split at a
 ·rename_i h;exact .inl h
 split at a
 ·rename_i h;exact .inr (.inl h)
 split at a
 ·rename_i h;exact .inr (.inr h)
 cases a
def AIX(D:DataW Unit)(s:Ah)(xs:List A6)(T:S.CT)(a:DataW Unit)(b:Bool)(A:List A5)(rows:Int):Prop :=
 s.cols≠[]/\Ex s.cols T=0/\a=D/\b=true/\A=xs.flatMap (Vm s.cols T)/\rows=(Bo s.cols T xs).1.length
def AIV(s:Ah)(T:S.CT):Prop:=s.cols=[]\/Ex s.cols T≠0
theorem Lo(w0:Tw)(V bb n:Nat)(D:Td)(fs:List Int)(mv I:Tv)(H:List (Dn×Ah))(U:List Tb)(k:Tb)(O:Tv)(T:S.CT)(xs:List A6)(w:Tw)(h:iK w0 w V bb n D fs mv I H U k)(J:C7 D (Ae H H.length) xs)(P:S.Gy w T O):
 Zc 39 #[Zp (some ⟨bb,0,none⟩),Zt k,O] w (Kd w0 w V bb n D mv H k (AIV (Ae H H.length) T) (AIX D (Ae H H.length) xs T)):=by
 have o:=Aa h;have d:=Aa (Wo bb n D mv H k xs T O w h.base.ground (h.et.below h.base.low) (h.Pw.below h.base.low) h.inv.Lm h.inv.past h.O5 h.name h.short J.Lz P)
 have m:=Aa (λ(z:Nat)(p:To)(n1 c1:Nat)(G:Int)(q:To)(n2 r:Nat)(rows:Int)(Y:Tv)W(L:Zb w W)(f:Ex (Ae H H.length).cols T=0)(u:Dv w.heap.size W z (Ae H H.length) (H.length:Int) p n1 c1 G q n2 r k true none 0 [] rows)(s:Fp w.heap.size w.heap.size W Y (Bo (Ae H H.length).cols T xs).1)=>mL w.heap.size bb n D mv z (Ae H H.length) (H.length:Int) p n1 c1 G q n2 r k true none 0 [] rows w.heap.size Y T xs W (h.base.ground.up L) ((h.et.below h.base.low).below L) ((h.Pw.below h.base.low).below L) u L.size J.Lz h.Of s.AJP (all_filter _ T (uI h.Of) P.ok f xs J.Lz.each).1 (Y9 _))
 clear h J P;unfold tK at d;generalize y:Ae H H.length=sn at *;have N:=Aa y;clear y;go_enter func39,ntmps39;go_wp2_with fail;refine d.out.mono ?_;rintro e w1⟨b,⟨f,rfl⟩|⟨f,j,rfl⟩|⟨f,R,z,v1,p,n1,c1,G,q,n2,r,rfl,u,s⟩⟩
 ·have g:=Aa b
  have M:=Aa f;clear f b d;go_wp2_with fail;go_ret2;exact⟨n,D,fs,mv,I,o.out.base.up g.out,by omega,B.A0.Ba g.out,λ_ e=>.inl e,.refl,.inr ⟨.inl M.out,_,_,rfl⟩⟩
 ·have g:=Aa b
  have M:=Aa j;rw[Et j];clear f b j d;go_wp2_with fail;go_ret2;exact⟨n,D,fs,mv,I,o.out.base.up g.out,by omega,B.A0.Ba g.out,λ_ e=>.inl e,.refl,.inr ⟨.inr M.out,_,_,rfl⟩⟩
 have l:=Aa b;have g:=Aa (And.intro f R);have HP:=Aa u;have i:=Aa (m.out z p n1 c1 G q n2 r _ v1 w1 b R u s)
 obtain⟨fa,fc,rfl,_⟩:∃a c,v1=Zs a (Bo sn.cols T xs).1.length c/\(Bo sn.cols T xs).1.length<=c:=by obtain⟨zs,_,e2,_⟩:=s;exact Au e2
 clear b f R u s d m;go_wp2_with fail;refine i.out.mono ?_;rintro e w2⟨rfl,⟨aa,ac,Lq,v,t⟩,x⟩;have H2:=Aa (And.intro v (And.intro t x));clear v t x i;go_wp2_with fail;go_ret2;have X:=(Mv.below (base:=w.heap.size) (bb:=bb) (mv:=mv) l.out).trans (Mv.ACV H2.out.2.2);refine⟨n,D,fs,mv,I,Kv (o.out.base.up l.out) o.out.nf o.out.base.low.size H2.out.2.2,by omega,X.out (XA _),X.link,.refl,.inl ⟨z,Lq,true,_,p,n1,c1,G,q,n2,r,aa,ac,rfl,by rw[N.out];exact H2.out.1,g.out.1,g.out.2,rfl,rfl,H2.out.2.1,rfl⟩⟩
theorem iD(path:Tb)(mask:List Int)(l:List Aj)(T:S.CT):∀(rs:List (List V))(p:Int),∀z∈Jw path mask l T p rs,z.2.2∈rs
 | [],_,z,a=>by cases a
 | r :: rs,p,z,a=>by
   simp only[Jw] at a;split at a
   ·rcases List.mem_cons.1 a with rfl|a
    ·exact Yf ..
    exact Yg _ (iD path mask l T rs _ z a)
   exact Yg _ (iD path mask l T rs _ z a)
theorem ADa{x:A6}{z:Px}(a:z∈E4 l x):z.2.2.length=l.length:=by obtain⟨q,_,e⟩:=List.mem_map.1 (iD _ _ _ _ _ _ z a);rw[<-e,XB]
theorem AC5{s t:Ah}(h:pQ Bx Bv Cm s a t)(d:Fh a)(b:∀c∈s.cols,Ib c):∀c∈t.cols,Ib c:=by
 rcases h with⟨_,_,rfl⟩|⟨_,_,rfl⟩|⟨_,_,rfl⟩|⟨_,_,rfl⟩
 ·exact b
 ·exact b
 ·exact b
 exact d.cols
theorem kL:∀{l:List A5}{s t:Ah},Il Bx Bv Cm s l t->(∀a∈l,Fh a)->(∀c∈s.cols,Ib c)->∀c∈t.cols,Ib c
 | [],_,_,h,_,hs=>by simp only[Il] at h;subst h;exact hs
 | a :: l,s,t,⟨u,h1,h2⟩,hl,hs=>kL h2 (λb d=>hl b (Yg _ d)) (AC5 h1 (hl a (Yf ..)) hs)
theorem gH:∀{s:Ah}{H:List (Dn×Ah)},Xv s H->(∀c∈s.cols,Ib c)->∀k,k<=H.length->∀c∈(Ic s (H.take k)).cols,Ib c
 | _,_,_,hs,0,_=>by simpa[Ic] using hs
 | _,x :: l,h,hs,k+1,hk=>by have:=gH (s:=x.2) (H:=l) h.2.2 (kL h.1.2 h.2.1.lines hs) k (by simpa using hk);simpa[Ic] using this
theorem Mq(h:La H)(b:k<=H.length):∀c∈(Ae H k).cols,Ib c:=gH h (λc a=>by cases a) k b
theorem AFe{c:Aj}{v:V}(h:Lx c v=true):v.2.2.size<=40:=by unfold Lx Cm at h;simp only[XJ] at h;exact Go.Proofs.YtbhhpheailbebaaGreatDoor.gA (k:=v.1) (n:=v.2.1) h.1
theorem AIe{L:List Aj}(d:∀v∈r,Ks v)(f:r.length=L.length)(b:∀c∈l,Ks (bP c)):∀v∈l.map (pick (By L) r),Ks v:=λv e=>by
 obtain⟨c,a,rfl⟩:=List.mem_map.1 e;rw[eV];unfold pick
 by_cases hp:pos L c.1<L.length
 ·rw[if_pos hp,Y8 (by omega)]
  exact d _ (Yh _)
 rw[if_neg hp];exact b c a
theorem No{xs:List A6}(m:C7 D s xs)(t:Good Bv Cm s)(r:∀c∈s.cols,Ib c):∀z∈(Bo s.cols .nil xs).1,∀v∈z.2.2,Ks v/\v.2.2.size<=40:=λz p v i=>by
 rw[H9] at p;obtain⟨x,o,k⟩:=List.mem_flatMap.1 p;have d:=m.Lz.each x o;obtain⟨q,g,e⟩:=List.mem_map.1 (iD _ _ _ _ _ _ z k);have a:=kA (m.link x o) ((B4.mp d.ok).2.2.2 q g) (sM t);have h:=(O7.mp ((B4.mp d.ok).2.2.2 q g)).1;rw[<-e] at i;refine⟨AIe (d.i64 q g) h (λc b=>(r c b).num) v i,?_⟩;obtain⟨j,n,rfl⟩:=List.mem_iff_getElem.mp i;have f:j<s.cols.length:=by simpa using n
 have l:=((O7.mp a).2 j f).1;rw[Y8 n] at l;exact AFe l
def VB(w:World)(base i:Nat):Prop:=base<=i/\∃cs,w.heap[i]? = some (.cells cs 56 (0,0))
theorem AFV{base:Nat}{a b c:Tw}(h:B.A0 (VB a base) a b)(k:B.A0 (VB b base) b c):B.A0 (VB a base) a c :=
 h.trans k λi g e=>by
  by_cases hs:VB a base i
  ·exact hs
  obtain⟨d,cs,f⟩:=e;exact⟨d,cs,(h.block i g hs).symm.trans f⟩
theorem Mf{base b z m:Nat}{T:TypeId}{xs:List Tv}(h:w.ownsRow b T z v m xs)(l:B.A0 (VB w base) w W)(k:T≠56):W.ownsRow b T z v m xs:=by
 refine⟨h.1,?_⟩
 rcases h.2 with j|⟨g,c,a,n,d,f,i⟩
 ·exact .inl j
 refine .inr ⟨g,c,a,n,d,(l.block g (Ac f) ?_).trans f,i⟩;rintro⟨_,cs,e⟩;rw[f] at e;injection e with e;injection e with _ e;exact k e
theorem uH{base:Nat}(d:B.A0 (VB w base) w W){w0:Tw}(b:Below base w0 w)(a:base<=w.heap.size):Below base w0 W:=d.below b a λ_ c=>c.1
theorem AHn{w0 w W:Tw}{k base bb n:Nat}{fs:List Int}{mv v:Tv}(h:Ey w0 w k bb n D fs mv v)(R:k<=base)(O:w0.heap.size<=base)(o:B.A0 (VB w base) w W):Ey w0 W k bb n D fs mv v:=by
 obtain⟨p,c,J⟩:=h.bu
 have r:¬VB w base bb:=by rintro⟨_,cs,b⟩;have q:w.heap[bb]? = _:=p;rw[q] at b;injection b with b;injection b with _ b;exact absurd b (by decide)
 refine⟨⟨p.keep (o.block bb p.lt r),c.keep λm e=>o.block m (c.lt e) ?_,?_⟩,o.below h.low h.low.size (λi hi=>XC O hi.1),h.hb,h.hm,h.er,h.nc,h.tb,h.hf⟩
 ·rintro⟨_,cs,b⟩
  rcases c with⟨I,_⟩|⟨T,z,es,clock,s,_⟩
  ·rw[I] at e;cases e
  rw[z] at e;cases e;rw[s] at b;cases b
 obtain⟨a,j,e,L,M⟩:=J;refine⟨a,j,e,L,λu=>?_⟩;obtain⟨g,off,t,d⟩:=M u;refine⟨g,off,t,λi x P=>?_⟩
 have N:g<k:=by
  cases hfs:fs with
  | nil=>exact absurd hfs u
  | cons y l=>refine h.hf g off l.length j ?_;rw[e,t,hfs];rfl
 have f:=d i x P;have G:=o.block g (Fv f) (λe=>by have:=e.1;omega);simp only[World.cell?,G] at f ⊢;exact f
theorem AH1{base b:Nat}{v:Int}{d:To}{n1 c1:Nat}{f:To}{n2 k:Nat}{t:Tb}{l:Bool}{g:To}{i:Nat}{L:List Gx}{rows:Int}(h:Dv base w n s v d n1 c1 y f n2 k t l g i L rows)(a:B.A0 (VB w b) w W):Dv base W n s v d n1 c1 y f n2 k t l g i L rows:=by
 refine⟨(a.block n (Ac h.box) ?_).trans h.box,?_,Mf h.row a (by decide),λq j=>⟨Mf (h.own q j).1 a (by decide),Mf (h.own q j).2 a (by decide)⟩,h.Vv,h.low⟩
 ·rintro⟨_,cs,e⟩
  rw[h.box] at e;injection e with e;injection e with _ e;exact absurd e (by decide)
 obtain⟨o,r,p,u,m,e,c⟩:=h.snap;exact⟨o,r,p,u,m,e,Mf c.cols a (by decide),c.files,Mf c.row a (by decide),λx z=>Mf (c.Cl x z) a (by decide)⟩
theorem AJc{B0 b:Nat}{rs:List Px}(h:jE B0 w v rs)(e:B.A0 (VB w b) w W):jE B0 W v rs:=by obtain⟨zs,a,c,d⟩:=h;exact⟨zs,a,Mf c e (by decide),d⟩
theorem AIy{B0 base bb n:Nat}{fs:List Int}{mv u f:Tv}{rs:List Px}(h:jE B0 w v rs)(e:Mv base bb mv f w W)(d:B.Bu w bb n D fs mv u):jE B0 W v rs:=by obtain⟨zs,a,b,c⟩:=h;exact⟨zs,a,e.row d b (by decide) (by decide) (by decide),c⟩
theorem ABg{f:Nat->Option V}{v:V}(h:v∈tU f r):v∈r\/∃t,f t=some v:=by
 unfold tU at h;rw[List.mem_mapIdx] at h;obtain⟨i,a,e⟩:=h;cases hf:f i with
 | none=>rw[hf] at e;simp at e;left;rw[<-e];exact Yh _
 | some x=>rw[hf] at e;simp at e;exact .inr ⟨i,by rw[hf,e]⟩
def AIS(D:DataW Unit)(s:Ah)(xs:List A6)(b:ByteArray)(T:S.CT)(A3:List Vi)(a:DataW Unit)(c:Bool)(A:List A5)(rows:Int):Prop :=
 s.cols≠[]/\Ex s.cols T=0/\c=true/\rows=(Bo s.cols T xs).1.length/\∃ts,Tgt s.cols A3 ts /\
  (((Bo s.cols T xs).1=[]/\a=D/\A=[]) \/
   ((Bo s.cols T xs).1≠[]/\∃R,R=(Bo s.cols T xs).1.map (λz=>tU (Ly ts (A3.map (·.2))) z.2.2)/\De s.cols R=true/\a=D.put (B.lit (Eh (Bw b 0))) (Pa s.cols R)/\A=(1,Bw b 0,(R.length:Int),[],[],0) :: xs.flatMap (Vm s.cols T)))
theorem xQ(w0:Tw)(NF bb n:Nat)(D:Td)(fs:List Int)(mv fv:Tv)(H:List (Dn×Ah))(U:List Tb)(tx:Tb)(cv:Tv)(T:S.CT)(xs:List A6)(sa:To)(sc:Nat)(A3:List Vi)(w:Tw)(h:iK w0 w NF bb n D fs mv fv H U tx)(hT:C7 D (Ae H H.length) xs)(hi:S.Gy w T cv)(hS:F7 4 Wu w (Zs sa A3.length sc) A3)(c7:A3.length<=100)(b4:∀s∈A3,s.2.2.2.size<=maxLen/\Lu s.2.2.1):
 Zc 40 #[Zp (some ⟨bb,0,none⟩),Zt tx,cv,Zs sa A3.length sc] w (Kd w0 w NF bb n D mv H tx True (AIS D (Ae H H.length) xs tx T A3)):=by
 have m:=Aa h;have bh:=Aa hT;have dd:=Aa hi;have aa:=Aa (Wo bb n D mv H tx xs T cv w h.base.ground (h.et.below h.base.low) (h.Pw.below h.base.low) h.inv.Lm h.inv.past h.O5 h.name h.short hT.Lz hi);have h8:=M9 h.Of;have bf:=Aa (λg cp W(hW:Zb w W)(hs:I1 W g 0 (Ae H H.length).cols)=>uA g cp (Ae H H.length).cols sa sc A3 W hs h8 (hS.up hW) c7);have cj:=Aa b4;have ci:=Aa hS;have a7:=Aa (L0 (Ae H H.length).cols T xs hT.Lz.each);have di:=hT.Lz.Iz;have av:=Aa (λ(l:Ex (Ae H H.length).cols T=0)=>(all_filter _ T (uI h.Of) hi.ok l xs hT.Lz.each).1);have a6:=Aa h.Of;have cb:=Aa (No hT h.Of (Mq h.inv.past (XA _)));clear h hT hi hS b4;unfold tK at aa;go_enter func40,ntmps40;go_wp2_with fail;refine aa.out.mono ?_;rintro e w1⟨L,⟨l,rfl⟩|⟨l,bz,rfl⟩|⟨l,hz,pb,v1,a1,n1,c1,x2,a2,n2,c2,rfl,hP,hF⟩⟩
 ·have M:=Aa L
  clear l L aa;go_wp2_with fail;go_ret2;exact⟨n,D,fs,mv,fv,m.out.base.up M.out,by omega,B.A0.Ba M.out,λ_ e=>.inl e,.refl,.inr ⟨trivial,_,_,rfl⟩⟩
 ·have M:=Aa L
  rw[Et bz];clear l L bz aa;go_wp2_with fail;go_ret2;exact⟨n,D,fs,mv,fv,m.out.base.up M.out,by omega,B.A0.Ba M.out,λ_ e=>.inl e,.refl,.inr ⟨trivial,_,_,rfl⟩⟩
 have a4:=Aa L;have M:=Aa (And.intro l hz);have HP:=Aa hP;have HF:=Aa hF
 obtain⟨fa,fc,rfl,_⟩:∃a c,v1=Zs a (Bo (Ae H H.length).cols T xs).1.length c/\(Bo (Ae H H.length).cols T xs).1.length<=c:=by obtain⟨zs,_,e2,_⟩:=hF;exact Au e2
 obtain⟨g,ga,am⟩:∃g,a1=some ⟨g,0,none⟩/\n1=(Ae H H.length).cols.length/\I1 w1 g 0 (Ae H H.length).cols:=by
  obtain⟨b1,d1,b2,d2,Ls,ev,hV⟩:=hP.snap;unfold K4 at ev;simp only[Value.agg.injEq,Array.mk.injEq,List.cons.injEq,Value.int.injEq,Value.slice.injEq] at ev;obtain⟨-,⟨e1,e2,e3⟩,-⟩:=ev
  rcases hV.cols.2 with⟨_,h0⟩|⟨g,ak,al,ev,_⟩
  ·exact absurd (List.length_eq_zero_iff.1 h0) l
  injection ev with ac _ dg;subst ac;exact⟨g,e1,e2,I1.Fz hV.cols rfl⟩
 obtain⟨ct,am⟩:=am;subst ga ct;have ab:=Aa (bf.out g c1 w1 L am);obtain⟨y0,y1,y2,y3,y4,y5,y6,y7,yf⟩:=F2 hP.box;clear L l hz hP hF aa bf am;generalize b3:Ae H H.length=d at *;have ax:=Aa b3;clear b3;go_wp2_with fail;refine ab.out.mono ?_;rintro e w2⟨X,⟨ta,tc,ts,rfl,b7,b5⟩|⟨ta,tn,tc,T',y,rfl⟩⟩
 rotate_left
 ·have O:=Aa (Ap a4.out X)
  clear X ab y0 y1 y2 y3 y4 y5 y6 y7 yf;go_wp2_with fail;go_ret2;exact⟨n,D,fs,mv,fv,m.out.base.up O.out,by omega,B.A0.Ba O.out,λ_ e=>.inl e,.refl,.inr ⟨trivial,_,_,rfl⟩⟩
 have O:=Aa (Ap a4.out X);have an:=Aa b7;have f:=Aa b5;have aw:=Aa (HP.out.up X);have au:=Aa (HF.out.up X);clear X b7 b5 ab y0 y1 y2 y3 y4 y5 y6 y7 yf HP HF
 by_cases hem:(Bo d.cols T xs).1.length=0
 ·have ar:Hid ((Bo d.cols T xs).1=[]):=Aa (List.length_eq_zero_iff.1 hem)
  have cy:(((Bo d.cols T xs).1.length:Nat):Int)=0:=by omega
  clear hem;go_wp2_with fail;go_ret2;exact⟨n,D,fs,mv,fv,m.out.base.up O.out,by omega,B.A0.Ba O.out,λ_ e=>.inl e,.refl,.inl ⟨pb,[],true,_,_,_,c1,x2,a2,n2,c2,none,0,rfl,by rw[ax.out];exact aw.out,M.out.1,M.out.2,rfl,rfl,ts,f.out,.inl ⟨ar.out,rfl,rfl⟩⟩⟩
 have ar:Hid ((Bo d.cols T xs).1≠[]):=Aa (λe=>hem (by rw[e];rfl));have cy:¬(((Bo d.cols T xs).1.length:Nat):Int)=0:=by omega
 have bm:=Aa (X7 _ _ _ _ w2 au.out (by have:=a7.out.2;omega));clear hem;go_wp2_with fail;refine bm.out.mono ?_;rintro e w3⟨v3,rfl,cx,af⟩;obtain⟨us,u1,u2,u3⟩:=cx;obtain⟨ra,rc,rfl,_⟩:=Au u2;have Y:=Aa (Ap O.out af);have bj:=Aa u1;have bk:=Aa u2;have cm:=Aa u3;have cf:=Aa (aw.out.up af);have b9:=Aa (au.out.up af);have ck:=Aa (Bc an.out af);clear af u1 u2 u3 bm aw au an
 have aq:Hid (∀r∈(Bo d.cols T xs).1.map (·.2.2),r.length=d.cols.length):=Aa (λr p=>by obtain⟨z,hz,rfl⟩:=List.mem_map.1 p;rw[av.out M.out.2,H9] at hz;obtain⟨x,_,hz⟩:=List.mem_flatMap.1 (List.mem_filter.1 hz).1;exact ADa hz)
 have G:Hid (((Bo d.cols T xs).1.map (·.2.2)).length=(Bo d.cols T xs).1.length):=Aa (XB ..);have df:Hid ((A3.map (·.2)).length=A3.length):=Aa (XB ..);have a9:Hid (vK w.heap.size w3 us ((Bo d.cols T xs).1.map (·.2.2)) (Ly ts (A3.map (·.2))) d.cols.length 0 (λ_=>True)):=Aa λj x r hx p=>⟨r,by rw[<-aq.out r (XE p)];exact cm.out j x r hx p,aq.out r (XE p),aq.out r (XE p),oI.refl _ _,(λh=>absurd h (Ym _)),λ_=>trivial⟩
 have c4:(Bo d.cols T xs).1.length<=100000:=by have:=a7.out.2;omega
 go_wp2_with fail
 go_loopw [53] (λvi wr=>∃k:Nat,k<=(Bo d.cols T xs).1.length/\vi=Zi (k:Int)/\Hid (vK w.heap.size wr us ((Bo d.cols T xs).1.map (·.2.2)) (Ly ts (A3.map (·.2))) d.cols.length k (λ_=>True))/\Hid (B.A0 (VB w3 w.heap.size) w3 wr)) (λvi _=>(Bo d.cols T xs).1.length-Ev vi)
 case atStart=>exact⟨0,Y9 _,rfl,a9,Aa (B.A0.refl _ _)⟩
 case round=>
  clear a9;obtain⟨k,hk,rfl,HR,P⟩:=hrel
  rcases Yc k (Bo d.cols T xs).1.length with bv|dl
  ·obtain⟨u,hu⟩:∃u,us[k]? = some u:=⟨_,Y8 (by have:=bj.out;rw[G.out] at this;omega)⟩
   obtain⟨r,p⟩:∃r,((Bo d.cols T xs).1.map (·.2.2))[k]? = some r:=⟨_,Y8 (by rw[G.out];exact bv)⟩;obtain⟨c0,q1,q2,_⟩:=HR.out k u r hu p;have dk:0<d.cols.length:=List.length_pos_iff.2 M.out.1
   obtain⟨g,ak,eu,bq⟩:∃g ak,u=Zs (some ⟨g,0,none⟩) d.cols.length ak/\w.heap.size<=g:=by
    rcases Di q1 with⟨_,e⟩|⟨g,c,e,hb,_⟩
    ·omega
    exact⟨g,c,e,hb⟩
   subst eu;have N:=Mf bk.out P.out (by decide);rw[G.out] at N
   obtain⟨rb,cu,dp,c6⟩:∃rb,ra=some ⟨rb,0,none⟩/\rb<wr.heap.size/\wr.cell? ⟨rb,k,none⟩=some (Zs (some ⟨g,0,none⟩) d.cols.length ak):=by
    rcases N.2 with⟨_,h0⟩|⟨rb,cp,al,ev,_,hh,_,_,_⟩
    ·omega
    injection ev with ac _ _;subst ac;have l:=N.cells (g:=rb) rfl;simp only[E.addr_add] at l;have:=l k _ hu;exact⟨rb,rfl,E.Ac hh,by simpa using this⟩
   subst cu;have c3:(k:Int)<((Bo d.cols T xs).1.length:Int):=by omega
   have bl:=Aa hu;have cd:=Aa bq;have c8:d.cols.length<=8:=h8;clear N q1 q2 p hu bq;have ba:Hid (vK w.heap.size wr us ((Bo d.cols T xs).1.map (·.2.2)) (Ly ts (A3.map (·.2))) d.cols.length k (λc=>∀(i t:Nat)v,i<0->ts[i]? = some t->(A3.map (·.2))[i]? = some v->c[t]? = some v)):=Aa (HR.out.imp λc _ i t v h=>absurd h (Ym _));go_wp2_with fail
   go_loopw [59] (λvi wi=>∃i:Nat,i<=A3.length/\vi=Zi (i:Int)/\Hid (vK w.heap.size wi us ((Bo d.cols T xs).1.map (·.2.2)) (Ly ts (A3.map (·.2))) d.cols.length k (λc=>∀(j t:Nat)v,j<i->ts[j]? = some t->(A3.map (·.2))[j]? = some v->c[t]? = some v))/\Hid (B.A0 (VB w3 w.heap.size) w3 wi)) (λvi _=>A3.length-Ev vi)
   case atStart=>exact⟨0,Y9 _,rfl,ba,P⟩
   case round=>
    clear ba HR P c6;rename_i wr0;obtain⟨i,dm,rfl,HR,P⟩:=hrel
    rcases Yc i A3.length with ao|c9
    ·obtain⟨x,hx⟩:∃x,A3[i]? = some x:=⟨_,Y8 ao⟩
     obtain⟨t,ht⟩:∃t,ts[i]? = some t:=⟨_,Y8 (by rw[f.out.len];exact ao)⟩;obtain⟨_,b6⟩:=f.out.find i t x ht hx;have ad:=uH P.out Y.out Y.out.size;obtain⟨b,off,cc,ev,_,dj,o⟩:=(ci.out.up ad).cons (by omega);injection ev with e1 _ e3;subst e1 e3;obtain⟨nm,vk,vn,vt⟩:=x;have s1:=o i _ hx 1 _ rfl;have s2:=o i _ hx 2 _ rfl;have s3:=o i _ hx 3 _ rfl;have a0:=Mf ck.out P.out (by decide)
     obtain⟨tb,cw,dq,dr⟩:∃tb,ta=some ⟨tb,0,none⟩/\tb<wr.heap.size/\wr.cell? ⟨tb,i,none⟩=some (Zi (t:Int)):=by
      rcases a0.2 with⟨_,h0⟩|⟨tb,cp,al,ev,_,hh,_,_,_⟩
      ·omega
      injection ev with ac _ _;subst ac;have l:=a0.cells (g:=tb) rfl;simp only[E.addr_add] at l;have:=l i (Zi (t:Int)) (by simp[ints,ht]);exact⟨tb,rfl,E.Ac hh,by simpa using this⟩
     subst cw;obtain⟨r,p⟩:∃r,((Bo d.cols T xs).1.map (·.2.2))[k]? = some r:=⟨_,Y8 (by rw[G.out];exact bv)⟩;obtain⟨c0,q1,q2,_⟩:=HR.out k _ r bl.out p;have cz:(E.A1 c0).length=d.cols.length*3:=by rw[E.K3,q2]
     obtain⟨z0,dt⟩:∃z,wr.cell? ⟨g,t*3,none⟩=some z:=by rw[q1.cellAt (t*3) (by omega)];exact⟨_,Y8 (by omega)⟩
     obtain⟨z1,du⟩:∃z,wr.cell? ⟨g,t*3+1,none⟩=some z:=by rw[q1.cellAt (t*3+1) (by omega)];exact⟨_,Y8 (by omega)⟩
     obtain⟨z2,dv⟩:∃z,wr.cell? ⟨g,t*3+2,none⟩=some z:=by rw[q1.cellAt (t*3+2) (by omega)];exact⟨_,Y8 (by omega)⟩
     have f0:=q1.frozenAt (t*3);have f1:=q1.frozenAt (t*3+1);have f2:=q1.frozenAt (t*3+2)
     have ay:Hid (VB wr w.heap.size g):=Aa (by obtain⟨al,l⟩:=Go.Proofs.YtbhhpheailbebaaGreatDoor.Ho q1 (k:=g) rfl;exact⟨cd.out,al,l⟩)
     have bi:Hid (Ly ts (A3.map (·.2)) t=some (vk,vn,vt)):=Aa (AD5 f.out.once ht (by simp[hx]));have cl:=Aa ht;have bt:(i:Int)<(A3.length:Int):=by omega
     have ds:(t:Int)<(d.cols.length:Int):=by omega
     have dc:(0:Int)<=(t:Int):=by omega
     have db:(0:Int)<=(i:Int):=by omega
     have bg:=Aa b6;clear o a0 hx ht b6 p q1 q2 cz ad;go_wp2;refine⟨⟨i+1,by omega,by simp,Aa (HR.out.store bl.out bg.out bi.out λc l hP j t' v' hj h1 h2=>?_),Aa (AFV P.out ((((B.A0.refl _ _).setCell (λ_=>ay.out) _).setCell (λ_=>ay.out) _).setCell (λ_=>ay.out) _))⟩,by simp only[Ev];omega⟩;have b8:=AD5 f.out.once h1 h2
     by_cases e:t=t'
     ·subst e
      rw[bi.out] at b8;rw[Yj (by rw[l];exact bg.out)];exact b8
     rw[Yp e];refine hP j t' v' ?_ h1 h2
     rcases Yc j i with bw|da
     ·exact bw
     have:j=i:=by omega
     subst this;rw[cl.out] at h1;injection h1 with h1;exact absurd h1 e
    have bt:¬(i:Int)<(A3.length:Int):=by omega
    have br:i=A3.length:=by omega
    have bc:=Aa ((HR.out.imp (P':=λc=>∀(j t:Nat)v,ts[j]? = some t->(A3.map (·.2))[j]? = some v->c[t]? = some v) λc l j t v h1 h2=>l j t v (by rw[br,<-f.out.len];exact Ax h1) h1 h2).next (P':=λ_=>True) λ_=>trivial);clear br;go_wp2
    go_roundw
    case rel=>exact⟨k+1,by omega,by simp,bc,P⟩
    case measure=>simp only[Ev];omega
  have c3:¬(k:Int)<((Bo d.cols T xs).1.length:Int):=by omega
  have bs:k=(Bo d.cols T xs).1.length:=by omega
  have bd:Hid (Sc w2.heap.size wr (Zs ra ((Bo d.cols T xs).1.map (·.2.2)).length rc) (((Bo d.cols T xs).1.map (·.2.2)).map (tU (Ly ts (A3.map (·.2)))))):=Aa (vK.rows (by rw[G.out,<-bs];exact HR.out) bj.out (Mf bk.out P.out (by decide)));have ad:=uH P.out Y.out Y.out.size;have ah:=Aa ad;have a5:=Aa (AHn (m.out.base.up Y.out) m.out.nf m.out.base.low.size P.out);have cg:=Aa (AH1 cf.out P.out);have ca:=Aa (AJc b9.out.AJP P.out);obtain⟨R,ae⟩:∃R,((Bo d.cols T xs).1.map (·.2.2)).map (tU (Ly ts (A3.map (·.2))))=R:=⟨_,rfl⟩;rw[ae,G.out] at bd;have ch:=Aa ae;have J:R.length=(Bo d.cols T xs).1.length:=by rw[<-ae,XB,G.out]
  have bc:=Aa J
  have ag:∀r∈R,∀v∈r,Ks v/\v.2.2.size<=maxLen:=λr p v hv=>by
   rw[<-ae] at p;obtain⟨q,hq,rfl⟩:=List.mem_map.1 p;obtain⟨z,hz,rfl⟩:=List.mem_map.1 hq
   rcases ABg hv with h|⟨t,h⟩
   ·rw[av.out M.out.2] at hz
    have:=cb.out z (List.mem_filter.1 hz).1 v h;exact⟨this.1,by have:=this.2;unfold maxLen;omega⟩
   obtain⟨i,_,h2⟩:=bI h;rw[XN] at h2;cases hs:A3[i]? with
   | none=>rw[hs] at h2;cases h2
   | some x=>rw[hs] at h2;simp at h2;have:=cj.out x (XE hs);rw[h2] at this;exact⟨this.2,this.1⟩
  have aj:=Aa (bK w0 NF w.heap.size bb n D fs mv fv pb d (H.length:Int) _ _ c1 x2 a2 n2 c2 tx true none 0 [] _ _ R wr a5.out m.out.nf m.out.base.low.size (by have:=m.out.Iz;omega) m.out.inv.Lm.1 cg.out ah.out.size a6.out m.out.et bd.out.slr (by rw[J];exact c4) (λr p v hv=>(ag r p v hv).2) (λr p v hv=>(ag r p v hv).1) m.out.short (Y9 _) (m.out.free 0));unfold AIr at aj;clear bs ad ag ae J;go_wp2_with fail;refine aj.out.mono ?_;rintro e w5⟨n5,D5,dh,a3,bn,I,dn,V,⟨rfl,hm,hf,rfl,rfl,co,cr,az⟩|⟨T5,x5,rfl,rfl,c5⟩⟩
  ·have ai:=Aa ((Mv.below (base:=w.heap.size) ah.out).trans V)
   have ap:=Aa I;have de:=Aa az;have ce:=Aa hm;have cn:=Aa (XC ah.out.size V.only.size);have a8:=Aa (mL w.heap.size bb n5 _ a3 pb d (H.length:Int) _ _ c1 x2 a2 n2 c2 tx true co cr _ _ _ _ T xs w5 I.ground (m.out.et.below I.low) (m.out.Pw.below I.low) az cn.out (by rw[<-ax.out] at bh ⊢;exact bh.out.Lz.put (m.out.free 0) _) a6.out (AIy ca.out V a5.out.bu) (av.out M.out.2) (by simp));clear I V hm hf az aj;go_wp2_with fail;refine a8.out.mono ?_;rintro e w6⟨rfl,⟨cq,cs,Lq,bp,bo⟩,b0⟩;have H6:=Aa (And.intro bp (And.intro bo b0));clear bp bo b0 a8;go_wp2_with fail;go_ret2;have bx:=ai.out.trans (Mv.ACV H6.out.2.2);refine⟨n5,_,_,a3,bn,Kv ap.out m.out.nf m.out.base.low.size H6.out.2.2,by omega,bx.out (XA _),bx.link,.put 0 _ .refl (m.out.free 0),.inl ⟨pb,_,true,_,_,_,c1,x2,a2,n2,c2,cq,cs,rfl,by rw[ax.out];exact H6.out.1,M.out.1,M.out.2,rfl,rfl,ts,f.out,.inr ⟨ar.out,R,?_,ce.out,rfl,?_⟩⟩⟩
   ·rw[<-ch.out,XQ];rfl
   rw[XK,H6.out.2.1];rfl
  have ai:=Aa ((Mv.below (base:=w.heap.size) ah.out).trans V);have ap:=Aa I;clear I V c5 aj;go_wp2_with fail;go_ret2;exact⟨n5,_,_,a3,bn,ap.out,by omega,ai.out.out (XA _),ai.out.link,.refl,.inr ⟨trivial,_,_,rfl⟩⟩
def n60(n:Nat):Nat:=(n+59) / 60
def Gg(rows:List (List V))(k:Nat):List (List V):=(rows.drop (60*k)).take 60
def Gd(rows:List (List V)):List (List (List V)):=(List.range (n60 rows.length)).map (Gg rows)
theorem Oz(rows:List (List V)):(Gd rows).length=n60 rows.length:=by simp[Gd]
theorem bU{rows:List (List V)}(h:k<n60 rows.length):1<=(Gg rows k).length/\(Gg rows k).length<=60:=by unfold n60 at h;simp only[Gg,XT,List.length_drop];omega
theorem Xj{rows p:List (List V)}(h:p∈Gd rows):1<=p.length/\p.length<=60/\∀r∈p,r∈rows:=by simp only[Gd,List.mem_map,List.mem_range] at h;obtain⟨k,a,rfl⟩:=h;have:=bU a;exact⟨this.1,this.2,λr b=>XL (Yi b)⟩
structure AJH(A:List A5):Prop where
 Iz:A.length<=100
 ints:∀a∈A,Ints a
 kind:A.length<=12\/∀a∈A,a.1=1\/a.1=2\/a.1=3
theorem AAX(h:Fh a)(f:a.1=1\/a.1=2\/a.1=3):(F3 a).size<=3000:=by
 have j:=h.path;have k:=Dw h.rows;unfold F3
 rcases f with e|e|e
 ·rw[if_pos e]
  simp only[Ea];have:(⟨#[97,100,100,32]⟩:Tb).size=4:=rfl;have:(⟨#[32]⟩:Tb).size=1:=rfl;omega
 ·rw[if_neg (by omega),if_pos e]
  simp only[Ea];have:(⟨#[114,101,109,111,118,101,32]⟩:Tb).size=7:=rfl;omega
 rw[if_neg (by omega),if_neg (by omega),if_pos e];simp only[Ea]
 have d:=Jh (b:=21) (xs:=a.2.2.2.1.map Bm) (sep:=⟨#[44]⟩) (λx g=>by obtain⟨y,i,rfl⟩:=List.mem_map.1 g;exact Dw (h.mask y i))
 have:(⟨#[109,97,115,107,32]⟩:Tb).size=5:=rfl;have:(⟨#[32]⟩:Tb).size=1:=rfl;have c:(⟨#[44]⟩:Tb).size=1:=rfl;have l:=h.Iz;rw[XB,c] at d;omega
theorem X9:∀{l:List A5},(∀a∈l,Fh a/\(a.1=1\/a.1=2\/a.1=3))->(Ed l).length<=l.length*3001
 | [],_=>by simp[Ed]
 | a :: l,h=>by
   have f:=AAX (h a (Yf ..)).1 (h a (Yf ..)).2;have g:=X9 (l:=l) (λb d=>h b (Yg _ d))
   have e:(Ed (a :: l)).length=(F3 a).data.toList.length+1+(Ed l).length:=by simp only[Ed,XS,XF,XO,List.length_nil]
   have c:(F3 a).data.toList.length=(F3 a).size:=by simp
   rw[e,c,XO,YZ];omega
theorem lV{s:Tb}{b:Bool}(d:AJH A)(h:Cv (s,b,A)=true):0<(C6 (s,b,A)).size/\(C6 (s,b,A)).size<=1000000:=by
 have g:∀a∈A,Fh a:=λa c=>by simp only[Cv,XJ,List.all_eq_true] at h;exact Qb (h.2 a c) (d.ints a c)
 rcases d.kind with f|f
 ·exact ACx h g f
 have e:(C6 (s,b,A)).size=(I4 s b).size+(Ed A).length:=by show (Nn (s,b,A)).toArray.size=_;rw[List.size_toArray,Nn,XF,Gm]
 simp only[Cv,XJ] at h;have i:=Ri b (XC (Hh h.1) (by decide));have j:=X9 (l:=A) (λa c=>⟨g a c,f a c⟩);have m:=d.Iz
 have k:0<(I4 s b).size:=by unfold I4;have e9:(⟨#[10]⟩:Tb).size=1:=rfl;rw[Ea,e9];omega
 omega
theorem AG0{w0 w:Tw}{k bb n:Nat}{fs:List Int}{mv:Tv}{C:Dn}{j:Nat}(h:Jy w0 w k bb n D fs mv C H j e W):∃v a,e=Zr (Zu #[v,a])/\Hid (Jy w0 w k bb n D fs mv C H j (Zr (Zu #[v,a])) W):=by
 have b:=h;obtain⟨n',g,c,f,d,_,_,_,_,⟨t,rfl,_⟩|⟨i,x,rfl,_⟩⟩:=h
 ·exact⟨_,_,rfl,Aa b⟩
 exact⟨_,_,rfl,Aa b⟩
def DoP(w0 w:World)(b bb n:Nat)(D:DataW Unit)(fs:List Int)(mv:Value)(C:Dn)(H:List (Dn×Ah))(j:Nat)(e:Ending)(a:World):Prop :=
 (C.2.2=[]/\e=.returned (.tuple #[Zi (j:Int),.nilIface])/\Zb w a)\/(C.2.2≠[]/\∃W,Zb w W/\Jy w0 W b bb n D fs mv C H j e a)
theorem AHB(w0:Tw)(i base bb n:Nat)(D:Td)(fs:List Int)(mv G:Tv)(H:List (Dn×Ah))(j:Nat)(N:Nat)(r:To)(n1 c1:Nat)(z:Int)(s:To)(n2 t:Nat)(g:Tb)(p:Bool)(k:To)(l:Nat)(L:List Gx)(rows:Int)(w:Tw)(h:Ey w0 w i bb n D fs mv G)(x:i<=w.heap.size)(P:n<=90000)(J:U6 D H)(M:La H)(O5:H.length<=40)(O:j<=H.length)(d:Dv base w N (Ae H j) (j:Int) r n1 c1 z s n2 t g p k l L rows)(o:AJH (L.map (·.1)))(y:g.size<=60):
 Zc 24 #[Zp (some ⟨bb,0,none⟩),Zp (some ⟨N,0,none⟩)] w (DoP w0 w i bb n D fs mv (g,p,L.map (·.1)) H j):=by
 have I:Dt w (Zs k L.length l) (L.map (·.1)):=sP (base:=0) (E.Ai d.row (Y9 _)) d.own d.Vv;have c:=Aa (λW(m:Zb w W)=>AHx w0 i bb n D fs mv G g p (L.map (·.1)) k L.length l H j r n1 c1 z s n2 t W (h.up m) (XC x m.size) P J M O5 O (d.snap.up m) (I.below m) o.Iz (lV o) y (λa ha hr=>Qb hr (o.ints a ha)));obtain⟨R,T,U,V,X,Y,y6,y7,yf⟩:=F2 d.box;clear h J M d o I
 by_cases hL:L.length=0
 ·have q:Hid (L=[]):=Aa (List.length_eq_zero_iff.1 hL)
  have u:((L.length:Nat):Int)=0:=by omega
  clear hL c;go_enter func24,ntmps24;go_wp2_with fail;go_ret2;exact .inl ⟨by rw[q.out];rfl,rfl,Y' _ _⟩
 have q:Hid (L.map (·.1)≠[]):=Aa (λe=>hL (by have:=congrArg List.length e;simpa using this));have u:¬((L.length:Nat):Int)=0:=by omega
 have f:Hid (∀args w,(callFunc 42 args).run prog w=.ok (.enter 42 args) w):=Aa (enters_of func42 (by kernel_rfl) rfl);have b:=Aa ((c.out w.drew ((Y' _ _).drew)).mono λe w'=>AG0);unfold K4 at b;clear hL c;go_enter func24,ntmps24;go_wp2_with fail
 go_region_law
  (first
    | (refine Nh (by rfl) 42 (.tmp 23) (.tmp 27) (.tmp 31) 26 42 86 (by rfl) (Zp (some ⟨bb,0,none⟩)) (Zg #[Zi (j:Int),Zs r n1 c1,Zi z,Zs s n2 t]) (Zg #[Zt g,Zo p,Zs k L.length l]) (by rfl) (by rfl) (by rfl) f.out _ b.out ?_
       rintro e w2⟨v,er,rfl,H2⟩;refine⟨_,rfl,?_⟩)
    | fail)
 all_goals
  clear b f R T U V X Y y6 y7 yf;go_wp2;go_ret2;exact .inr ⟨q.out,w.drew,(Y' _ _).drew,H2.out⟩
def Km(a:ByteArray)(l:List Aj):Nat->List (List (List V))->DataW Unit->DataW Unit
 | _,[],D=>D
 | k,p :: ps,D=>Km a l (k+1) ps (D.put (B.lit (Eh (Bw a k))) (Pa l p))
def N5(b:ByteArray)(k:Nat)(a:List (List (List V))):List A5:=(a.zipIdx k).map λq=>(1,Bw b q.2,(q.1.length:Int),[],[],0)
def Tog(s:Ah)(n:Nat):Prop:=(∀e∈s.files,e.2.2=[])/\s.files.length<=n60 n
def AEz(D:DataW Unit)(s:Ah)(xs:List A6)(b:ByteArray)(a:DataW Unit)(c:Bool)(A:List A5)(rows:Int):Prop :=
 s.cols≠[]/\c=true/\rows=(Bo s.cols .nil xs).1.length /\
  ((Tog s (Bo s.cols .nil xs).1.length/\a=D/\A=[]) \/
   (¬Tog s (Bo s.cols .nil xs).1.length/\(∀p∈Gd (Fc s.cols xs),De s.cols p=true)/\a=Km b s.cols 0 (Gd (Fc s.cols xs)) D/\A=(s.files.map λe=>((2,e.1,0,[],[],0):A5))++N5 b 0 (Gd (Fc s.cols xs))))
def Mw:Prop:=∀(w0:World)(b bb n:Nat)(D:DataW Unit)(fs:List Int)(mv c:Value)(H:List (Dn×Ah))(U:List ByteArray)(a:ByteArray)(xs:List A6)(w:World),iK w0 w b bb n D fs mv c H U a->C7 D (Ae H H.length) xs ->
 Zc 41 #[.pointer (some ⟨bb,0,none⟩),.string a] w (Kd w0 w b bb n D mv H a True (AEz D (Ae H H.length) xs a))
def nK:Aj:=(0,⟨#[]⟩,0,false,0,0,⟨#[]⟩)
def V7(D:DataW Unit)(s:Ah)(xs:List A6)(c:ByteArray)(x:J4)(a:DataW Unit)(b:Bool)(A:List A5)(rows:Int):Prop :=
 (x.Qk=0/\AIP D s x.cols a b A rows)\/(x.Qk=1/\AId D s x.change (x.cols.headD nK) x.name x.tw a b A rows)\/(x.Qk=2/\AIO D s c x.rows a b A rows) \/
 (x.Qk=3/\∃T,x.tree T/\AIX D s xs T a b A rows)\/(x.Qk=4/\∃T,x.tree T/\AIS D s xs c T x.A3 a b A rows)\/((x.Qk<0\/4<x.Qk)/\AEz D s xs c a b A rows)
def AB0(s:Ah)(fs:List Int)(x:J4):Prop:=(x.Qk=0->AIU s x.cols)/\(x.Qk=2->AGF s fs x.rows)/\(x.Qk=3->∃T,x.tree T/\AIV s T)
structure AA5(x:J4):Prop where
 cols:∀c∈x.cols,Vp c
 Iz:x.cols.length<=20
 rows:K9 x.rows
 ADp:x.rows.length<=100
 A3:∀s∈x.A3,Ks s.2
theorem mB:∀(k:Nat)(l:List Aj),(∀c∈l,Vp c)->k+l.length<=1000->∀c∈Nl k l,Vp c
 | _,[],_,_,c,a=>by cases a
 | k,d :: l,h,hk,c,a=>by
   simp at hk
   rcases List.mem_cons.1 a with rfl|a
   ·exact⟨⟨by show -9223372036854775808<=(k:Int);omega,by show (k:Int)<=9223372036854775807;omega⟩,(h d (Yf ..)).2⟩
   exact mB (k+1) l (λe b=>h e (Yg _ b)) (by omega) c a
theorem Jg{n:Int}(a : -1000000<=n)(b:n<=1000000):Lu n:=⟨by omega,by omega⟩
theorem AAl{xs:List A6}(d:C7 D s xs)(f:Good Bv Cm s)(T:S.CT):(∀a∈xs.flatMap (Vm s.cols T),Ints a/\(a.1=1\/a.1=2\/a.1=3))/\(xs.flatMap (Vm s.cols T)).length<=40:=by
 refine⟨λa b=>?_,?_⟩
 ·obtain⟨x,g,b⟩:=List.mem_flatMap.1 b
  have e:x.1∈s.files:=by rw[<-d.Lz.files];exact List.mem_map.2 ⟨x,g,rfl⟩
  have j:=(O6 s.cols T x (d.rows x g)).1;have i:=f.rows _ e;unfold Vm at b;split at b
  ·cases b
  split at b
  ·simp at b;subst b
   exact⟨⟨Im,(λy c=>by cases c),(λy c=>by cases c),Im⟩,.inr (.inl rfl)⟩
  simp at b;subst b;refine⟨⟨Im,λy c=>?_,(λy c=>by cases c),Im⟩,.inr (.inr rfl)⟩;have:=j.2 y c;exact Jg (by omega) (by omega)
 have k:=rV s.cols T xs;have h:=congrArg List.length d.Lz.files;rw[XB] at h;have:=f.Iz;omega
theorem AH5{α:Type}{l:List α}{q:α×Nat}(h:q∈l.zipIdx k):q.1∈l:=by have:=YY (f:=Prod.fst) h;rwa[List.zipIdx_map_fst] at this
theorem nH(h:n<=60*m):n60 n<=m:=by unfold n60;omega
theorem aN{xs:List A6}(a:C7 D s xs)(c:Good Bv Cm s)(T:S.CT):(Bo s.cols T xs).1.length<=60*40:=by have d:=(L0 s.cols T xs a.Lz.each).2;have b:=congrArg List.length a.Lz.files;rw[XB] at b;have:=c.Iz;have:60*xs.length<=60*40:=Nat.mul_le_mul_left _ (by omega);omega
theorem AEj{w:Td}{xs:List A6}{t:Tb}{L:Bool}{rows:Int}(o:C7 D s xs)(n:Good Bv Cm s)(p:∀c∈s.cols,Ib c)(N:0<=s.next/\s.next<=1000)(r:AA5 x)(h:V7 D s xs t x w L A rows):AJH A:=by
 have uB:∀c∈s.cols,Vp c:=λc h=>⟨(p c h).id,(p c h).kind,(p c h).num⟩
 rcases h with⟨_,_,_,_,_,rfl,_⟩|⟨_,_,⟨l',v,j,rfl⟩,_⟩|⟨_,_,g,_,_,rfl,_⟩|⟨_,T,_,_,_,_,_,rfl,_⟩|⟨_,T,_,_,_,_,_,ts,_,⟨_,_,rfl⟩|⟨_,R,rfl,g,_,rfl⟩⟩|⟨_,_,_,_,⟨_,_,rfl⟩|⟨_,_,_,rfl⟩⟩
 ·have:=r.Iz
  exact⟨by simp,λa b=>by simp at b;subst b;exact⟨Im,(λy f=>by cases f),mB 1 x.cols r.cols (by omega),Jg (by show (-1000000:Int)<=((x.cols.length+1:Nat):Int);omega) (by show ((x.cols.length+1:Nat):Int)<=1000000;omega)⟩,.inl (by simp)⟩
 ·refine⟨by simp,λa b=>?_,.inl (by simp)⟩
  simp at b;subst b;have i:=rQ j;refine⟨Im,(λy f=>by cases f),λc d=>?_,Jg (by show (-1000000:Int)<=v;omega) (by show v<=1000000;omega)⟩
  rcases j with⟨_,_,rfl,_⟩|⟨_,k,_,_,_,rfl,_⟩|⟨_,k,_,u,_,_,rfl,_⟩
  ·rcases List.mem_append.1 d with d|d
   ·exact uB c d
   rw[List.mem_singleton.1 d]
   have I:Vp (x.cols.headD nK):=by
    cases hxc:x.cols with
    | nil=>exact⟨⟨by decide,by decide⟩,⟨by decide,by decide⟩,⟨by decide,by decide⟩⟩
    | cons y l=>exact r.cols y (by rw[hxc];exact Yf ..)
   exact⟨Jg (by show (-1000000:Int)<=s.next;omega) (by show s.next<=1000000;omega),I.2⟩
  ·rcases List.mem_append.1 d with d|d
   ·exact uB c (Yi d)
   exact uB c (XL d)
  rcases Ys d with d|rfl
  ·exact uB c d
  exact(show Vp (rR s.cols[k]! _) from⟨(uB s.cols[k]! (Jj u)).1,(uB s.cols[k]! (Jj u)).2⟩)
 ·have:=(B4.mp g).2.2.1
  exact⟨by simp,λa b=>by simp at b;subst b;exact⟨Jg (by show (-1000000:Int)<=((x.rows.length:Nat):Int);omega) (by show ((x.rows.length:Nat):Int)<=1000000;omega),(λy f=>by cases f),(λy f=>by cases f),Im⟩,.inl (by simp)⟩
 ·obtain⟨i,z⟩:=AAl o n T
  exact⟨by omega,λa b=>(i a b).1,.inr λa b=>(i a b).2⟩
 ·exact⟨by simp,(λa b=>by cases b),.inl (by simp)⟩
 ·obtain⟨i,z⟩:=AAl o n T
  have G:=(B4.mp g).2.2.1;refine⟨by rw[XO];omega,λa b=>?_,.inr λa b=>?_⟩
  ·rcases List.mem_cons.1 b with rfl|b
   ·exact⟨Jg (Y7 (by decide) (Int.natCast_nonneg _)) (Y7 (Int.ofNat_le.2 G) (by decide)),(λy f=>by cases f),(λy f=>by cases f),Im⟩
   exact(i a b).1
  rcases List.mem_cons.1 b with rfl|b
  ·exact .inl rfl
  exact(i a b).2
 ·exact⟨by simp,(λa b=>by cases b),.inl (by simp)⟩
 have M:n60 (Fc s.cols xs).length<=40:=nH (by unfold Fc;rw[XB];exact aN o n .nil)
 have m:∀a∈(s.files.map λe=>((2,e.1,0,[],[],0):A5))++N5 t 0 (Gd (Fc s.cols xs)),Ints a/\(a.1=1\/a.1=2\/a.1=3):=λa b=>by
  rcases List.mem_append.1 b with b|b
  ·obtain⟨e,_,rfl⟩:=List.mem_map.1 b
   exact⟨⟨Im,(λy f=>by cases f),(λy f=>by cases f),Im⟩,.inr (.inl rfl)⟩
  obtain⟨q,J,rfl⟩:=List.mem_map.1 b;have O:=Xj (AH5 J);exact⟨⟨Jg (by show (-1000000:Int)<=((q.1.length:Nat):Int);omega) (by show ((q.1.length:Nat):Int)<=1000000;omega),(λy f=>by cases f),(λy f=>by cases f),Im⟩,.inl rfl⟩
 refine⟨?_,λa b=>(m a b).1,.inr λa b=>(m a b).2⟩;have:=n.Iz;simp[N5,Oz];omega
theorem uX(b:Tb)(l:List Aj):∀(a:List (List (List V)))(k:Nat)(D:Td),Maps.IsMap D->Maps.IsMap (Km b l k a D)
 | [],_,_,h=>h
 | _ :: a,k,_,h=>uX b l a (k+1) _ (h.put _ _)
theorem lU(b:Tb)(c:Plain b)(l:List Aj):∀(a:List (List (List V)))(k:Nat)(D:Td)(x:A6),(∀j,k<=j->j<=1000000->x.1.1≠Bw b j)->k+a.length<=1000000->Gt D x->Gt (Km b l k a D) x
 | [],_,_,_,_,_,h=>h
 | p :: a,k,D,x,hne,hk,h=>by simp at hk;exact lU b c l a (k+1) _ x (λj d=>hne j (by omega)) (by omega) (h.AFx (λe=>hne k (XA _) (by omega) e.symm) _)
theorem ABh(a:Tb)(d:Plain a)(i:a.size<=12)(l:List Aj):∀(b:List (List (List V)))(k:Nat)(D:Td),Maps.IsMap D->k+b.length<=1000->(∀p∈b,De l p=true/\K9 p)->∀q∈b.zipIdx k,Gt (Km a l k b D) (((Bw a q.2,(q.1.length:Int),[]),l,q.1):A6)
 | [],_,_,_,_,_,q,c=>by cases c
 | p :: b,k,D,hD,hk,h,q,c=>by
   simp at hk;rw[List.zipIdx_cons] at c
   rcases List.mem_cons.1 c with rfl|c
   ·refine lU a d l b (k+1) _ _ (λj m f e=>?_) (by omega) (bD hD (h p (Yf ..)).1 (h p (Yf ..)).2 ?_)
    ·have:=(S5 d d e).2 (by omega) f
     omega
    have:=Vu a k (by omega);show (Bw a k).size<=1000;omega
   exact ABh a d i l b (k+1) _ (hD.put _ _) (by omega) (λy g=>h y (Yg _ g)) q c
theorem AHC(b:Tb)(k:Nat)(a:List (List (List V))):N5 b k a=((a.zipIdx k).map λq=>(Bw b q.2,(q.1.length:Int))).map λe=>((1,e.1,e.2,[],[],0):A5):=by unfold N5;rw[XQ];rfl
theorem mS(path:Tb)(mask:List Int)(l:List Aj)(T:S.CT)(c:List Aj):∀(b:List (List (List V)))(f:Int),∀z∈(Oe path mask l T c f b).1,∃p∈b,∃q∈p,z.2.2=l.map (pick c q)
 | [],_,z,a=>by cases a
 | p :: b,f,z,a=>by
   simp only[Oe] at a;split at a
   ·rcases List.mem_append.1 a with a|a
    ·obtain⟨q,i,e⟩:=List.mem_map.1 (iD _ _ _ _ _ _ z a)
     exact⟨p,Yf ..,q,i,e.symm⟩
    obtain⟨g,d,h⟩:=mS path mask l T c b _ z a;exact⟨g,Yg _ d,h⟩
   obtain⟨g,d,h⟩:=mS path mask l T c b _ z a;exact⟨g,Yg _ d,h⟩
theorem uQ(l:List Aj)(T:S.CT):∀(xs:List A6),∀z∈(Bo l T xs).1,∃x∈xs,∃q∈x.2.2,z.2.2=l.map (pick (By x.2.1) q)
 | [],z,a=>by cases a
 | x :: xs,z,a=>by
   simp only[Bo] at a
   rcases List.mem_append.1 a with a|a
   ·unfold N9 at a
    obtain⟨p,b,q,c,e⟩:=mS _ _ _ _ _ _ _ z a;exact⟨x,Yf ..,q,(Ij b).2.2 q c,e⟩
   obtain⟨y,d,h⟩:=uQ l T xs z a;exact⟨y,Yg _ d,h⟩
theorem ADx{xs:List A6}(g:C7 D s xs)(h:∀c∈s.cols,Ib c){T:S.CT}:∀z∈(Bo s.cols T xs).1,∀v∈z.2.2,Ks v:=λz j v f=>by
 obtain⟨x,i,q,d,e⟩:=uQ s.cols T xs z j;have b:=g.Lz.each x i;rw[e] at f;exact AIe (b.i64 q d) (O7.mp ((B4.mp b.ok).2.2.2 q d)).1 (λc a=>(h c a).num) v f
theorem AI2{D D':Td}{s t:Ah}{xs:List A6}{n:Tb}{rd:Bool}{rows:Int}(V:Maps.IsMap D)(a:C7 D s xs)(b:Good Bv Cm s)(hc:∀c∈s.cols,Ib c)(hp:Plain n)(hz:n.size<=12)(G:∀k,Maps.has D (B.lit (Eh (Bw n k)))=false)(hx:AA5 x)(h:V7 D s xs n x D' rd A rows)(w:Bi s (n,rd,A) t)(hA:A≠[]):∃ys,C7 D' t ys/\t.next<=max (s.next+1) 9:=by
 have P:∀k,k<=1000->(Bw n k).size<=1000:=λk hk=>by have:=Vu n k hk;omega
 have aa:∀k,¬Bw n k∈s.files.map (·.1):=λk O=>by rw[<-a.Lz.files,XQ] at O;obtain⟨y,m,e⟩:=List.mem_map.1 O;have M:=(a.Lz.each y m).has;simp only[Function.comp] at e;rw[e,G k] at M;cases M
 rcases h with⟨_,W,_,rfl,_,rfl,_⟩|⟨_,_,⟨l',nx,N,rfl⟩,rfl,_⟩|⟨_,j,f,rfl,_,rfl,_⟩|⟨_,T,_,j,_,rfl,_,rfl,_⟩|⟨_,T,_,j,_,_,_,ts,ac,⟨_,_,rfl⟩|⟨_,R,hR,f,rfl,rfl⟩⟩|⟨_,j,_,_,⟨_,_,rfl⟩|⟨_,f,rfl,rfl⟩⟩
 ·obtain⟨rfl,g,Y⟩:=Ry w
  have ab:xs=[]:=by have:=a.Lz.files;rw[a.Lz.bare W] at this;simpa using this
  subst ab;have h8:=g.2.1;rw[dK] at h8;refine⟨[],a.cols g.2.1 (λe=>by have:=g.1;rw[e] at this;simp at this) (λy m=>by cases m) Y _,?_⟩;show ((x.cols.length+1:Nat):Int)<=_;omega
 ·obtain⟨rfl,g,Y⟩:=Ry w
  have M:=rQ N;refine⟨xs,a.cols g.2.1 (λe=>by have:=g.1;rw[e] at this;simp at this) (λy m=>AJb N (a.link y m) (a.below y m)) Y _,?_⟩;show nx<=_;omega
 ·have I:=eH w
  subst I;exact⟨_,(a.put (G 0) _).add (bD V f hx.rows (P 0 (by omega))) (We b) (by have:=congrArg List.length a.Lz.files;rw[XB] at this;have:=b.Iz;omega) _,by show s.next<=_;omega⟩
 ·have I:=zU a.Lz.files b.once a.rows w
  subst I;exact⟨_,a.go b T _,by show s.next<=_;omega⟩
 ·exact absurd rfl hA
 ·have I:=AAO a.Lz.files a.rows (aa 0) b.once w
  subst I
  have o:K9 R:=λr g v U=>by
   rw[hR] at g;obtain⟨z,J,rfl⟩:=List.mem_map.1 g
   rcases ABg U with U|⟨u,hu⟩
   ·exact ADx a hc z J v U
   obtain⟨i,_,L⟩:=bI hu;rw[XN] at L;cases hs:x.A3[i]? with
   | none=>rw[hs] at L;cases L
   | some y=>rw[hs] at L;simp at L;rw[<-L];exact hx.A3 y (XE hs)
  have M:=(a.put (G 0) (Pa s.cols R)).go b T 0;refine⟨_,M.add (bD V f o (P 0 (by omega))) (show ∀d∈s.cols,d.1<s.next from We b) ?_ _,by show s.next<=_;omega⟩;have:=congrArg List.length a.Lz.files;rw[XB] at this;have h3:=List.length_filterMap_le (pO s.cols T) xs;have:=b.Iz;omega
 ·exact absurd rfl hA
 rw[AHC] at w;have I:=tW b.once w;subst I;have hl:n60 (Fc s.cols xs).length<=40:=nH (by unfold Fc;rw[XB];exact aN a b .nil)
 have o:∀p∈Gd (Fc s.cols xs),K9 p:=λp l r g v U=>by have O:=(Xj l).2.2 r g;unfold Fc at O;obtain⟨z,J,rfl⟩:=List.mem_map.1 O;exact(No a b hc z J v U).1
 have X:=ABh n hp hz s.cols (Gd (Fc s.cols xs)) 0 D V (by rw[Oz];omega) (λp l=>⟨f p l,o p l⟩);refine⟨((Gd (Fc s.cols xs)).zipIdx 0).map λq=>(((Bw n q.2,(q.1.length:Int),[]),s.cols,q.1):A6),?_,by show s.next<=_;omega⟩
 have:=AHL (D:=Km n s.cols 0 (Gd (Fc s.cols xs)) D) (M9 b) (We b) (s.Eb+1) (((Gd (Fc s.cols xs)).zipIdx 0).map λq=>(((Bw n q.2,(q.1.length:Int),[]),s.cols,q.1):A6)) (λy m=>by obtain⟨q,hq,rfl⟩:=List.mem_map.1 m;exact⟨X q hq,rfl,rfl⟩) (by simp[Oz];omega) j (ADC b)
 rw[XQ] at this ⊢;exact this
theorem iK.up{w0 w W:Tw}{k bb n:Nat}{D:Td}{fs:List Int}{mv v:Tv}{H:List (Dn×Ah)}{U:List Tb}{s:Tb}(h:iK w0 w k bb n D fs mv v H U s)(a:Zb w W):iK w0 W k bb n D fs mv v H U s :=
 ⟨h.base.up a,h.inv,h.et,h.Pw,XC h.nf a.size,h.Iz,h.O5,h.name,h.short,h.plain,h.new⟩
theorem Kd.low{w0 w W r:Tw}{i bb n:Nat}{D:Td}{mv:Tv}{H:List (Dn×Ah)}{s:Tb}{p b:Prop}{Ok c:Td->Bool->List A5->Int->Prop}{e:Ending}(h:Kd w0 W i bb n D mv H s p Ok e r)(g:Zb w W)(N:p->b)(O:∀d j A rows,Ok d j A rows->c d j A rows):Kd w0 w i bb n D mv H s b c e r:=by
 obtain⟨n',d,l,o,m,z,G,I,J,M,f⟩:=h;refine⟨n',d,l,o,m,z,G,(B.A0.Ba g).trans I (λ_ _ e=>e),λk hk=>(J k hk).imp id (λq=>XC g.size q),M,?_⟩
 rcases f with⟨R,L,j,rows,t,n1,c1,T,u,n2,y,v,x,rfl,a,P⟩|f
 ·exact .inl ⟨R,L,j,rows,t,n1,c1,T,u,n2,y,v,x,rfl,⟨a.box,a.snap,E.Ai a.row g.size,a.own,a.Vv,XC g.size a.low⟩,O _ _ _ _ P⟩
 exact .inr ⟨N f.1,f.2⟩
theorem AAG{g:Array Oper}{o:Oper}{a:Act}{K:Act->Tw->Prop}{Q:Exit->Act->Tw->Prop}{E:Prop}(c:o.guard=none)(f:Nat)(x y z q:Operand)(t s r p:TypeId)(l:o.op=.call { callee:=.value (.func f),args:=#[x,y,z,q],argTypes:=#[t,s,r,p] })(u v b d:Tv)(n:a.eval x=u)(D:a.eval y=v)(G:a.eval z=b)(m:a.eval q=d)(j:∀args w,(callFunc f args).run prog w=.ok (.enter f args) w)(R:Ending->Tw->Prop)(k:Zc f #[u,v,b,d] W R)(h:∀e i,R e i->∃v,e=Zr v/\K (a.put o.dst v) i):
 if Region.wanted o (yielded g a.tmps)=true then Oper.wp prog o a W K Q else E :=
 Ih c f #[x,y,z,q] #[t,s,r,p] l #[u,v,b,d] (by simp[n,D,G,m]) j R k h
structure K8(w:World)(x:J4)(ca:Option Addr)(cc:Nat)(ra:Option Addr)(rc:Nat)(pa:Option Addr)(pn pc:Nat)(sa:Option Addr)(sc:Nat):Prop where
 cols:bH w (.slice ca x.cols.length cc) x.cols
 ACl:∀c∈x.cols,c.2.1.size<=maxLen/\c.2.2.2.2.2.2.size<=maxLen
 rows:iJ w (.slice ra x.rows.length rc) x.rows
 ACg:∀r∈x.rows,∀v∈r,v.2.2.size<=maxLen
 A3:F7 4 Wu w (.slice sa x.A3.length sc) x.A3
 AKL:x.A3.length<=100
 wX:∀s∈x.A3,s.2.2.2.size<=maxLen
 cnd:∀W,Zb w W->Zc 10 #[.slice pa pn pc] W λe w'=>∃v T,e=.returned v/\S.Gy w' T v/\x.tree T/\Zb W w'
 tw:x.tw.size<=maxLen
 ints:AA5 x
theorem K8.up{w W:Tw}{x:J4}{b:To}{n:Nat}{c:To}{k:Nat}{pa:To}{i j:Nat}{d:To}{m:Nat}(h:K8 w x b n c k pa i j d m)(a:Zb w W):K8 W x b n c k pa i j d m :=
 ⟨h.cols.below a,h.ACl,h.rows.up a,h.ACg,h.A3.up a,h.AKL,h.wX,λV e=>h.cnd V (Ap a e),h.tw,h.ints⟩
theorem Lc{w0 w W:Tw}{k bb n:Nat}{mv:Tv}{s:Tb}{a:Prop}{Ok:Td->Bool->List A5->Int->Prop}(h:Kd w0 w k bb n D mv H s a Ok e W):∃p b,e=Zr (Zu #[Zp p,b])/\Hid (Kd w0 w k bb n D mv H s a Ok (Zr (Zu #[Zp p,b])) W):=by
 have c:=h;obtain⟨n',i,d,g,f,_,_,_,_,_,⟨r,L,t,rows,j,n1,c1,u,l,n2,q,m,o,rfl,_⟩|⟨_,T,x,rfl⟩⟩:=h
 ·exact⟨_,_,rfl,Aa c⟩
 exact⟨_,_,rfl,Aa c⟩
theorem ACy(w0:Tw)(x bb n:Nat)(D:Td)(fs:List Int)(mv Y:Tv)(H:List (Dn×Ah))(U:List Tb)(m:Tb)(xs:List A6)(cols:List Aj)(rows:List (List V))(A3:List Vi)(a:Int)(nm b:Tb)(tr:S.CT->Prop)(O:To)(y:Nat)(I:To)(J:Nat)(pa:To)(G z:Nat)(L:To)(M:Nat)(w:Tw)(h:iK w0 w x bb n D fs mv Y H U m)(f:K8 w ⟨1,cols,rows,A3,a,nm,b,tr⟩ O y I J pa G z L M):
 Zc 23 #[Zp (some ⟨bb,0,none⟩),Zg #[Zi 1,Zs O cols.length y,Zs I rows.length J,Zs pa G z,Zs L A3.length M,Zi a,Zt nm,Zt b],Zt m] w (Kd w0 w x bb n D mv H m (AB0 (Ae H H.length) fs ⟨1,cols,rows,A3,a,nm,b,tr⟩) (V7 D (Ae H H.length) xs m ⟨1,cols,rows,A3,a,nm,b,tr⟩)):=by
 cases hcl:cols with
 | nil=>subst hcl;obtain⟨t0,t1,t2,l⟩:=C1 w (Zk #[Zi 1,Zs O 0 y,Zs I rows.length J,Zs pa G z,Zs L A3.length M,Zi a,Zt nm,Zt b] 38) (Zk #[Zi 0,Zt ⟨#[]⟩,Zi 0,Zo false,Zi 0,Zi 0,Zt ⟨#[]⟩] 72);have HB:=Aa l;have r:=Aa (kP w0 x bb n D fs mv Y H U m a 0 ⟨#[]⟩ 0 false 0 0 ⟨#[]⟩ nm b _ (h.up l) ⟨Y9 _,Y9 _,f.tw⟩);clear h f t0 t1 t2 l;go_enter func23,ntmps23;go_wp2_with fail;refine(r.out.mono λe w'=>Lc).mono ?_;rintro e w1⟨p1,er,rfl,H1⟩;clear r;go_wp2_with fail;go_ret2;exact H1.out.low HB.out (λ_=>⟨λe=>absurd e (by simp),λe=>absurd e (by simp),λe=>absurd e (by simp)⟩) λ_ _ _ _ q=>.inr (.inl ⟨rfl,q⟩)
 | cons c0 l0=>
   rw[<-hcl];have d:0<cols.length:=by rw[hcl];simp
   have s:cols[0]! = c0:=by rw[hcl];rfl
   have u:cols.headD nK=c0:=by rw[hcl];rfl
   have t:c0∈cols:=by rw[hcl];exact Yf ..
   obtain⟨i,P,k,mu,R,T,X⟩:=c0
   rcases f.cols with⟨_,e0⟩|⟨g,o,c',e,hc,hs⟩
   ·simp only at e0;rw[e0] at d;simp at d
   injection e with e1 _ e2;subst e1 e2;obtain⟨t0,t1,t2,l⟩:=C1 w (Zk #[Zi 1,Zs (some ⟨g,o,none⟩) cols.length y,Zs I rows.length J,Zs pa G z,Zs L A3.length M,Zi a,Zt nm,Zt b] 38) (Zk #[Zi i,Zt P,Zi k,Zo mu,Zi R,Zi T,Zt X] 72);have aa:g<w.heap.size:=hs.1
   have cell:∀(j:Nat)(v:Tv),(Cc (i,P,k,mu,R,T,X))[j]? = some v->w.cell? ⟨g,o+j,none⟩=some v:=λj v hv=>by have:=hs.2 0 d j v (by show (Cc cols[0]!)[j]? = some v;rw[s];exact hv);simpa using this
   have q0:=cell 0 _ rfl;have q1:=cell 1 _ rfl;have q2:=cell 2 _ rfl;have q3:=cell 3 _ rfl;have q4:=cell 4 _ rfl;have q5:=cell 5 _ rfl;have q6:=cell 6 _ rfl;simp only[X4] at q0;have ab:(0:Int)<(cols.length:Int):=by omega
   have p:=Aa l;have N:=Aa u;have c:=f.ACl _ t;have r:=Aa (λW(hW:Zb w W)=>kP w0 x bb n D fs mv Y H U m a i P k mu R T X nm b W (h.up hW) ⟨c.1,c.2,f.tw⟩);clear h f hs hcl s t c cell t0 t1 t2 l u;go_enter func23,ntmps23;go_wp2_with fail;refine((r.out _ p.out).mono λe w'=>Lc).mono ?_;rintro e w1⟨p1,er,rfl,H1⟩;clear r;go_wp2_with fail;go_ret2;exact H1.out.low p.out (λ_=>⟨λe=>absurd e (by simp),λe=>absurd e (by simp),λe=>absurd e (by simp)⟩) λ_ _ _ _ q=>.inr (.inl ⟨rfl,by rw[N.out];exact q⟩)
