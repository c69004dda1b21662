import Derived.Test.YtbhhpheailbebaaGreatDoorP2s
import Derived.Deep.RegionHeld3
import Derived.RangeFuncNested
import Derived.RangeFuncBound
import Derived.Maps.Ext
set_option maxHeartbeats 40000000
set_option maxRecDepth 100000
open Nat renaming le_refl->Y9,le_succ->Y',le_trans->XE,zero_le->XP
open Go.World renaming putObj_heap_other->XA,ownsRow_nil->XB,size_alloc->XH,news_of_block->XM,putObj_heap_same->XV,alloc_heap_new->XZ
open List renaming length_cons->XC,length_append->XF,length_map->XG,map_append->XI,length_nil->XJ,length_take->XK,length_drop->XL,cons_append->XO,setIfInBounds_toArray->XQ,isSuffixOf_iff_suffix->XR,getElem?_eq_getElem->XS,nil_append->XW,append_toArray->X4,drop_succ_cons->X6,take_succ_cons->X',set_cons_succ->Wb,set_cons_zero->WA,size_toArray->WB,push_toArray->WC,drop_zero->WE,take_zero->WG,map_cons->WH
open Go.RowKit.Below renaming refl->XD,heap_setCell->XN,heap_alloc->XT
open Option renaming bind_some->XU
open Array renaming replicate_succ->XX,replicate_zero->XY,length_toList->X2
open Bool renaming and_eq_true->WD
namespace Go.Proofs.YtbhhpheailbebaaGreatDoor
open Tryz RowKit Lib Joins Maps ChangeShapes WideShapes ChangeAt Deep
open Go.Sort (grow)
def Ch(a:A5):Bool :=
 if a.1=1 then rfB a.2.1 a.2.2.1 && Mm ⟨#[]⟩ 0 a.2.2.2.1.length a.2.2.2.2.1.length a.2.2.2.2.2
 else if a.1=2 then Bx a.2.1 && Mm ⟨#[]⟩ a.2.2.1 a.2.2.2.1.length a.2.2.2.2.1.length a.2.2.2.2.2
 else if a.1=3 then (Bx a.2.1 && Dj a.2.2.2.1 60) && Mm ⟨#[]⟩ a.2.2.1 0 a.2.2.2.2.1.length a.2.2.2.2.2
 else if a.1=4 then Be a.2.2.2.2.1 a.2.2.2.2.2 && Mm a.2.1 a.2.2.1 a.2.2.2.1.length 0 0
 else false
theorem Vj{W:Tw}{b:Nat}{v u f a e c:Tv}{t:TypeId}(h:W.heap[b]? = some (Zk #[v,u,f,a,e,c] t (0,0))):
 W.cell? ⟨b,0,none⟩=some v/\W.cell? ⟨b,1,none⟩=some u/\W.cell? ⟨b,2,none⟩=some f/\W.cell? ⟨b,3,none⟩=some a/\W.cell? ⟨b,4,none⟩=some e/\W.cell? ⟨b,5,none⟩=some c/\∀i,W.frozen? ⟨b,i,none⟩=false:=by
 refine⟨?_,?_,?_,?_,?_,?_,λi=>?_⟩ <;> simp[World.cell?,World.frozen?,h]
theorem wO(k:Int)(p:Tb)(r:Int)(m:List Int)(cl:List Aj)(a:Int)(l:To)(g n:Nat)(h:To)(d i:Nat)(w:Tw)(I:Om w (k,p,r,m,cl,a) l g n h d i)(hw:Lw w):
 Zc 118 #[Zg #[Zi k,Zt p,Zi r,Zs l g n,Zs h d i,Zi a]] w λe w'=>e=Zr (Zo (Ch (k,p,r,m,cl,a)))/\Zb w w':=by
 have T:=I.mask.len.1;have R:=I.cols.len;simp only at T R;have N:=Aa T;have M:=Aa R;clear T R;have V:=Aa (λW=>Qw k p r l g n h d i a W I.path);have x:=Aa (λW=>Mn p W I.path);have X:Hid (∀W,Zb w W->Zc 169 #[Zs l g n,Zi 60] W λe w'=>e=Zr (Zo (Dj m 60))/\Zb W w'):=λW G=>gW _ m 60 W (I.mask.below G) (by have:=I.Iz;simp only at this;unfold maxLen;omega)
 have Y:Hid (∀W,Zb w W->Zc 64 #[Zs h d i,Zi a] W λe w'=>e=Zr (Zo (Be cl a))/\Zb W w'):=λW G=>Vs h d i cl a W (I.cols.below G) (hw.below G) I.texts
 have v:=Aa (λp r l g n h d i a W=>AF4 k p r l g n h d i a W);obtain⟨t0,t1,t2,t3⟩:=C1 w (Zk #[Zi k,Zt p,Zi r,Zs l g n,Zs h d i,Zi a] 144) (Zk #[Zi k,Zt p,Zi r,Zs l g n,Zs h d i,Zi a] 144)
 have y:Hid (∀W,Below (w.heap.size+2) ((w.alloc (Zk #[Zi k,Zt p,Zi r,Zs l g n,Zs h d i,Zi a] 144)).alloc (Zk #[Zi k,Zt p,Zi r,Zs l g n,Zs h d i,Zi a] 144)) W->W.heap[w.heap.size]? = some (Zk #[Zi k,Zt p,Zi r,Zs l g n,Zs h d i,Zi a] 144 (0,0))/\W.heap[w.heap.size+1]? = some (Zk #[Zi k,Zt p,Zi r,Zs l g n,Zs h d i,Zi a] 144 (0,0))/\Zb w W/\w.heap.size+2<=W.heap.size):=λW G=>by have hs:=G.size;rw[t0] at hs;exact⟨(G.block _ (by omega)).trans t1,(G.block _ (by omega)).trans t2,t3.trans (G.mono (by omega)),hs⟩
 clear t0 t1 t2 t3 I hw;generalize aa:(w.alloc (Zk #[Zi k,Zt p,Zi r,Zs l g n,Zs h d i,Zi a] 144)).alloc (Zk #[Zi k,Zt p,Zi r,Zs l g n,Zs h d i,Zi a] 144)=wA at y;have t:=(y.o wA (XD _ _)).2.2.2;have s:=Aa aa;clear aa
 by_cases k1:k=1
 ·subst k1
  have c:Hid (Ch (1,p,r,m,cl,a)=(rfB p r && Mm ⟨#[]⟩ 0 g d a)):=by rw[N.o,M.o];rfl
  generalize Ch (1,p,r,m,cl,a)=q at c ⊢;generalize rfB p r=O at V c;cases O
  all_goals
   go_enter func118,ntmps118;go_wp2_with fail;rw[s.o];refine(V.o _).mono ?_;rintro e U⟨rfl,b⟩;obtain⟨u1,u,L,u4⟩:=y.o U (b.mono t);obtain⟨_,y1,y2,y3,y4,y5,f⟩:=Vj u;have y0:=(Vj u).1;have J:=f 1;have ae:=f 2;have o:=Aa L;clear u1 u L f b;go_wp2_with (go_at_call 170;refine(v.o _ _ _ _ _ _ _ _ _ _).mono ?_;rintro e w2⟨rfl,j⟩);go_ret
   first
    | exact⟨Af (by rw[c.o];rfl),(o.o.setCell (p:=⟨w.heap.size+1,_,none⟩) (Y' _) _).setCell (p:=⟨w.heap.size+1,_,none⟩) (Y' _) _⟩
    | exact⟨Af (by rw[c.o];rfl),((o.o.setCell (p:=⟨w.heap.size+1,_,none⟩) (Y' _) _).setCell (p:=⟨w.heap.size+1,_,none⟩) (Y' _) _).trans (j.mono (by simp;omega))⟩
 by_cases k2:k=2
 ·subst k2
  have c:Hid (Ch (2,p,r,m,cl,a)=(Bx p && Mm ⟨#[]⟩ r g d a)):=by rw[N.o,M.o];rfl
  generalize Ch (2,p,r,m,cl,a)=q at c ⊢;generalize Bx p=O at x c;cases O
  all_goals
   go_enter func118,ntmps118;go_wp2_with fail;rw[s.o];refine(x.o _).mono ?_;rintro e U⟨rfl,b⟩;obtain⟨u1,u,L,u4⟩:=y.o U (b.mono t);obtain⟨_,y1,y2,y3,y4,y5,f⟩:=Vj u;have y0:=(Vj u).1;have J:=f 1;have o:=Aa L;clear u1 u L f b;go_wp2_with (go_at_call 170;refine(v.o _ _ _ _ _ _ _ _ _ _).mono ?_;rintro e w2⟨rfl,j⟩);go_ret
   first
    | exact⟨Af (by rw[c.o];rfl),o.o.setCell (p:=⟨w.heap.size+1,_,none⟩) (Y' _) _⟩
    | exact⟨Af (by rw[c.o];rfl),(o.o.setCell (p:=⟨w.heap.size+1,_,none⟩) (Y' _) _).trans (j.mono (by simp;omega))⟩
 by_cases k3:k=3
 ·subst k3
  have c:Hid (Ch (3,p,r,m,cl,a)=((Bx p && Dj m 60) && Mm ⟨#[]⟩ r 0 d a)):=by rw[M.o];rfl
  generalize Ch (3,p,r,m,cl,a)=q at c ⊢;generalize Bx p=O at x c;generalize Dj m 60=b2 at X c;cases O <;> cases b2
  all_goals
   go_enter func118,ntmps118;go_wp2_with fail;rw[s.o];refine(x.o _).mono ?_;rintro e U⟨rfl,b⟩;have D:=y.o U (b.mono t);obtain⟨v0,v1,v2,v3,v4,v5,vf⟩:=Vj D.1;obtain⟨y0,y1,y2,y3,y4,y5,f⟩:=Vj D.2.1;have J:=f 1;have ac:=f 3;have U1:=Aa D;have ad:=Aa (b.mono t);clear D vf v0 v1 v2 v4 v5 f b
   go_wp2_with (first
    | (go_at_call 169;refine(X.o _ U1.o.2.2.1).mono ?_;rintro e w3⟨rfl,ab⟩
       have P:=y.o w3 (ad.o.trans (ab.mono U1.o.2.2.2));clear y0 y1 y2 y3 y4 y5 J ac v3;obtain⟨y0,y1,y2,y3,y4,y5,f⟩:=Vj P.2.1;have J:=f 1;have ac:=f 3;have o:=Aa P;clear P f ab)
    | (go_at_call 170;refine(v.o _ _ _ _ _ _ _ _ _ _).mono ?_;rintro e w2⟨rfl,j⟩))
   go_ret
   first
    | exact⟨Af (by rw[c.o];rfl),(U1.o.2.2.1.setCell (p:=⟨w.heap.size+1,_,none⟩) (Y' _) _).setCell (p:=⟨w.heap.size+1,_,none⟩) (Y' _) _⟩
    | exact⟨Af (by rw[c.o];rfl),(o.o.2.2.1.setCell (p:=⟨w.heap.size+1,_,none⟩) (Y' _) _).setCell (p:=⟨w.heap.size+1,_,none⟩) (Y' _) _⟩
    | exact⟨Af (by rw[c.o];rfl),((o.o.2.2.1.setCell (p:=⟨w.heap.size+1,_,none⟩) (Y' _) _).setCell (p:=⟨w.heap.size+1,_,none⟩) (Y' _) _).trans (j.mono (by have:=o.o.2.2.2;simp;omega))⟩
 by_cases k4:k=4
 ·subst k4
  have c:Hid (Ch (4,p,r,m,cl,a)=(Be cl a && Mm p r g 0 0)):=by rw[N.o];rfl
  generalize Ch (4,p,r,m,cl,a)=q at c ⊢;generalize Be cl a=O at Y c;have z:=(y.o wA (XD _ _)).2.2.1;cases O
  all_goals
   go_enter func118,ntmps118;go_wp2_with fail;rw[s.o];refine(Y.o _ z).mono ?_;rintro e U⟨rfl,b⟩;obtain⟨u1,u,L,u4⟩:=y.o U (b.mono t);obtain⟨_,y1,y2,y3,y4,y5,f⟩:=Vj u;have y0:=(Vj u).1;have af:=f 4;have ag:=f 5;have o:=Aa L;clear u1 u L f b;go_wp2_with (go_at_call 170;refine(v.o _ _ _ _ _ _ _ _ _ _).mono ?_;rintro e w2⟨rfl,j⟩);go_ret
   first
    | exact⟨Af (by rw[c.o];rfl),(o.o.setCell (p:=⟨w.heap.size+1,_,none⟩) (Y' _) _).setCell (p:=⟨w.heap.size+1,_,none⟩) (Y' _) _⟩
    | exact⟨Af (by rw[c.o];rfl),((o.o.setCell (p:=⟨w.heap.size+1,_,none⟩) (Y' _) _).setCell (p:=⟨w.heap.size+1,_,none⟩) (Y' _) _).trans (j.mono (by simp;omega))⟩
 have c:Hid (Ch (k,p,r,m,cl,a)=false):=by simp[Hid,Ch,k1,k2,k3,k4]
 generalize Ch (k,p,r,m,cl,a)=q at c ⊢;have z:=Aa (y.o wA (XD _ _)).2.2.1;rw[<-s.o] at z;go_enter func118,ntmps118;go_wp2;go_ret;exact⟨Af (by rw[c.o]),z.o⟩
def Fe(xs:List ByteArray)(sep:ByteArray):ByteArray:=⟨(Lib.join (xs.map (·.data.toList)) sep.data.toList).toArray⟩
theorem Uz:(prog.info? 9).map (λi=>(i.zero,i.size,i.bytes))=some (some (.string ⟨#[]⟩),1,16):=by kernel_rfl
theorem AAz{b:Nat}:∀{xs:List ByteArray},(∀x∈xs,x.size<=b)->Lib.lens (xs.map (·.data.toList))<=xs.length*b
 | [],_=>by simp[Lib.lens]
 | x :: xs,h=>by
   have d:=h x (Yf ..);have f:=AAz (λy c=>h y (Yg _ c));have e:x.data.toList.length=x.size:=by simp
   have a:Lib.lens ((x :: xs).map (·.data.toList))=x.data.toList.length+Lib.lens (xs.map (·.data.toList)):=by simp[Lib.lens]
   rw[a,e,XC,Y1];omega
theorem Jh{b:Nat}{xs:List ByteArray}{sep:ByteArray}(h:∀x∈xs,x.size<=b):(Fe xs sep).size<=xs.length*(b+sep.size):=by
 have e:(Fe xs sep).size=(Lib.join (xs.map (·.data.toList)) sep.data.toList).length:=by simp[Fe,ByteArray.size]
 rw[e];cases xs with
 | nil=>simp[Lib.join_nil]
 | cons x xs=>
   have a:=AAz h;rw[WH,Lib.join_length];rw[WH] at a;have c:sep.data.toList.length=sep.size:=by simp
   rw[c,XG,XC,Nat.mul_add];rw[XC] at a;have:sep.size*xs.length<=(xs.length+1)*sep.size:=by rw[Y7];exact Yn _ (Y' _)
   omega
theorem dJ(base:Nat)(v:Value)(xs:List ByteArray)(sep:ByteArray)(w:World)(h:w.ownsRow base 9 1 v xs.length (xs.map (.string ·)))(q:xs.length<=1000)(p:(Fe xs sep).size<=100000000):
 Zc 216 #[v,.string sep] w λe o=>e=.returned (.string (Fe xs sep))/\Zb w o:=by
 rcases Di h with⟨a,e0⟩|⟨g,c,a,_,l,b,i⟩
 ·subst a
  have:xs=[]:=List.length_eq_zero_iff.1 e0;subst this;exact(strings_Join_none none 0 sep w).mono λ_ _⟨k,n⟩=>⟨k,n ▸ XD _ _⟩
 subst a;refine strings_Join g 0 c xs sep w (λj x f=>?_) l (by omega) b ?_
 ·have m:j<xs.length:=by
   rcases Yc j xs.length with d|d
   ·exact d
   rw[Yb d] at f;cases f
  rw[Nat.zero_add,h.cellAt j (by omega),List.getElem?_map,f];rfl
 have:(Fe xs sep).size=(Lib.join (xs.map (·.data.toList)) sep.data.toList).length:=by simp[Fe,ByteArray.size]
 omega
theorem rF(v:Value)(l:List Int)(sep:ByteArray)(w:World)(h:Ph w v l)(hl:l.length<=100)(hn:∀x∈l,Lu x)(hs:sep.size<=1)(ht:Jp w):
 Zc 171 #[v,.string sep,.func (.func 81) #[] #[]] w λe s=>e=.returned (.string (Fe (l.map Bm) sep))/\Zb w s:=by
 have ae:∀args w,(callFunc 81 args).run prog w=.ok (.enter 81 args) w:=enters_of func81 (by kernel_rfl) rfl
 have T:Hid (∀(W:World)(i:Value),W.ownsRow w.heap.size 9 1 i l.length ((l.map Bm).map (.string ·))->Zc 216 #[i,.string sep] W λe s=>e=.returned (.string (Fe (l.map Bm) sep))/\Zb W s):=λW i J=>dJ _ i (l.map Bm) sep W (by rw[XG];exact J) (by simp;omega) (by have:=Jh (b:=21) (xs:=l.map Bm) (sep:=sep) (by intro x hx;obtain⟨y,hy,rfl⟩:=List.mem_map.1 hx;exact Dw (hn y hy));rw[XG] at this;have h2:l.length*(21+sep.size)<=100*22:=YU hl (by omega);omega)
 have G:Hid (∀j,j<l.length->∀W,Zb w W->Zc 81 #[.int .i64 l[j]!] W λe s=>e=.returned (.string (Bm l[j]!))/\Zb W s):=λj t W J=>Mx _ W (hn _ (by rw[getElem!_pos l j t];exact Yh t)) (ht.below J)
 have hlen:(∃a c,v=.slice a 0 c)/\l=[]\/∃g o c,v=.slice (some ⟨g,o,none⟩) l.length c/\g<w.heap.size/\∀j,j<l.length->w.cell? ⟨g,o+j,none⟩=some (.int .i64 l[j]!):=by
  rcases h with h|⟨g,o,c,h1,h2,_,h4⟩
  ·exact .inl h
  exact .inr ⟨g,o,c,h1,h2,h4⟩
 obtain⟨iT,L,N,m,n⟩:=info_parts Uz;have f:=Zy L N m n
 have I:Hid (∀k,k<l.length->((l.take (k+1)).map Bm).map (Value.string ·)=((l.take k).map Bm).map (Value.string ·)++[.string (Bm l[k]!)]):=λk hk=>by rw[YO,XS hk,getElem!_pos l k hk,XI,XI];rfl
 have D:Hid (∀(W:World)(i:Value),W.ownsRow w.heap.size 9 1 i l.length (((l.take l.length).map Bm).map (Value.string ·))->W.ownsRow w.heap.size 9 1 i l.length ((l.map Bm).map (.string ·))):=λW i J=>by rwa[Ye] at J
 clear h hn ht L N m n;generalize Fe (l.map Bm) sep=ac at *
 rcases hlen with⟨⟨_,_,rfl⟩,rfl⟩|⟨g,o,c,rfl,hg,hc⟩
 ·have U:Hid (Zc 216 #[.slice none 0 0,.string sep] w λe s=>e=.returned (.string ac)/\Zb w s):=Aa (T.o w (.slice none 0 0) (XB w w.heap.size 9 1))
  clear T G I D;go_enter func171,ntmps171;go_wp2
  go_loopw [7,12] (λi O wr=>i=.slice none 0 0/\O=.int .i64 0/\wr=w) (λ_ _ _=>0)
  case atStart=>exact⟨rfl,rfl,rfl⟩
  case round=>obtain⟨rfl,rfl,rfl⟩:=hrel;go_wp2_with (go_at_call 216;refine U.o.mono ?_;rintro e w1⟨rfl,d⟩);go_ret;exact⟨rfl,d⟩
 have HC:=Aa hc;clear hc;go_enter func171,ntmps171;go_wp2
 go_loopw [7,12] (λi O wr=>∃k:Nat,k<=l.length/\O=.int .i64 k/\Hid (wr.ownsRow w.heap.size 9 1 i k (((l.take k).map Bm).map (.string ·)))/\Hid (Zb w wr)) (λ_ O _=>l.length-(intOf O).toNat)
 case atStart=>exact⟨0,XP _,rfl,Aa (XB _ _ _ _),Aa (XD _ _)⟩
 case round=>
  obtain⟨k,hk,rfl,P,z⟩:=hrel;obtain⟨ta,tc,rfl,_⟩:=Au P.o
  by_cases hlt:k<l.length
  ·have ad:(k:Int)<(l.length:Int):=by omega
   have r:=(z.o.cell (p:=⟨g,o+k,none⟩) hg).trans (HC.o k hlt);have R:=Aa (G.o k hlt);have q:=Aa (I.o k hlt);generalize l[k]! = x at r R q;generalize Bm x=ix at R q
   go_wp2_with (first
    | (go_at_fn 81;refine(R.o _ z.o).mono ?_;rintro e w1⟨rfl,d⟩;have af:=d.size;have ab:=z.o.size)
    | (at_builtin;refine wpList_append_own _ rfl _ _ 126 rfl w.heap.size 9 iT (.string ⟨#[]⟩) 1 16 underlying126 f.o.1 f.o.2.1 f.o.2.2.1 f.o.2.2.2 rfl (by decide) _ _ _ rfl ((Bc P.o d).alloc _) ⟨w1.heap.size,0,none⟩ 1 1 [.string ix] rfl rfl (λj u t=>XM (heap_alloc_new _ _) j u t) (by intro u hu;simp at hu;subst hu;rfl) ?d3 ?d4 ?d5 ?_))
   case d3=>unfold maxLen;omega
   case d4=>omega
   case d5=>simp;omega
   intro v2 w2 M Y _;have X:Zb w w2:=((z.o.trans (d.mono ab)).alloc (by omega) _).grown Y (by simp;omega) (λj t=>(P.o.lt j t).1);obtain⟨va,vc,rfl,_⟩:=Au M;go_wp2;exact⟨⟨k+1,by omega,by go_num,Aa (by rw[q.o];simpa using M),Aa X⟩,by simp[intOf];omega⟩
  have aa:k=l.length:=by omega
  subst aa;have V:=Aa (T.o _ _ (D.o _ _ P.o));go_wp2_with (go_at_call 216;refine V.o.mono ?_;rintro e w1⟨rfl,d⟩);go_ret;exact⟨rfl,Below.Ap z.o d⟩
def Qn:ByteArray:=⟨#[109,117,115,116]⟩
def jI:ByteArray:=⟨#[109,97,121]⟩
def B9(c:Aj):ByteArray:=Fe [Bm c.1,c.2.1,Bm c.2.2.1,Fa c.2.2.2.1 Qn jI,E7 c.2.2.2.2.1 c.2.2.2.2.2.1 c.2.2.2.2.2.2] ⟨#[32]⟩
theorem Ea(a b:Tb):(a++b).size=a.size+b.size:=by simp
theorem pV{k n:Int}{t:Tb}(a:Lu n)(b:t.size<=100):(E7 k n t).size<=102:=by
 unfold E7;split
 ·decide
 split
 ·have:=Dw a;omega
 split
 ·rw[Ea,Ea];have:(⟨#[39]⟩:Tb).size=1:=rfl;omega
 decide
theorem mQ(b:Bool):(Fa b Qn jI).size<=4:=by cases b <;> decide
theorem S6{c:Aj}(d:Lu c.1)(i:c.2.1.size<=100)(f:Lu c.2.2.1)(g:Lu c.2.2.2.2.2.1)(h:c.2.2.2.2.2.2.size<=100):(B9 c).size<=600:=by
 have:=Jh (b:=102) (xs:=[Bm c.1,c.2.1,Bm c.2.2.1,Fa c.2.2.2.1 Qn jI,E7 c.2.2.2.2.1 c.2.2.2.2.2.1 c.2.2.2.2.2.2]) (sep:=⟨#[32]⟩) (by
  intro x a;simp only[List.mem_cons,List.not_mem_nil,or_false] at a
  rcases a with rfl|rfl|rfl|rfl|rfl
  ·have:=Dw d;omega
  ·omega
  ·have:=Dw f;omega
  ·have:=mQ c.2.2.2.1;omega
  exact pV g h)
 have e:(⟨#[32]⟩:Tb).size=1:=rfl;rw[e] at this;simp only[XC,XJ] at this;unfold B9;omega
theorem Rl(i:Int)(nm:ByteArray)(k:Int)(mu:Bool)(h d:Int)(f:ByteArray)(w:World)(P:Lu i)(R:Lu k)(O:Lu d)(z:nm.size<=100)(y:f.size<=100)(T:Jp w):
 Zc 173 #[.agg #[.int .i64 i,.string nm,.int .i64 k,.bool mu,.int .i64 h,.int .i64 d,.string f]] w λe j=>e=.returned (.string (B9 (i,nm,k,mu,h,d,f)))/\Zb w j:=by
 have o:Hid (Zb w (w.alloc (.cells #[.int .i64 i,.string nm,.int .i64 k,.bool mu,.int .i64 h,.int .i64 d,.string f] 72))):=(XD _ _).alloc (Y9 _) _;have q:Hid (∀n,Lu n->∀W,Zb w W->Zc 81 #[.int .i64 n] W λe j=>e=.returned (.string (Bm n))/\Zb W j):=λn hn W m=>Mx n W hn (T.below m)
 have I:Hid (∀W,Zc 117 #[.bool mu,.string ⟨#[109,117,115,116]⟩,.string ⟨#[109,97,121]⟩] W λe j=>e=.returned (.string (Fa mu Qn jI))/\j=W):=λW=>fN mu Qn jI W
 have N:Hid (∀W,Zb w W->Zc 217 #[.agg #[.int .i64 h,.int .i64 d,.string f]] W λe j=>e=.returned (.string (E7 h d f))/\Zb W j):=λW m=>yH h d f W (by omega) O (T.below m)
 have M:Hid (∀(W:World)(g:Nat),W.heap[g]? = some (.cells #[.string (Bm i),.string nm,.string (Bm k),.string (Fa mu Qn jI),.string (E7 h d f)] 9)->Zc 216 #[.slice (some ⟨g,0,none⟩) 5 5,.string ⟨#[32]⟩] W λe j=>e=.returned (.string (B9 (i,nm,k,mu,h,d,f)))/\Zb W j):=λW g hg=>by have ho:W.ownsRow 0 9 1 (.slice (some ⟨g,0,none⟩) 5 5) 5 [.string (Bm i),.string nm,.string (Bm k),.string (Fa mu Qn jI),.string (E7 h d f)]:=⟨rfl,.inr ⟨g,5,_,rfl,XP _,hg,Y9 _,by decide,rfl,rfl⟩⟩;exact dJ 0 _ [Bm i,nm,Bm k,Fa mu Qn jI,E7 h d f] ⟨#[32]⟩ W ho (by simp) (by have:=S6 (c:=(i,nm,k,mu,h,d,f)) P z R O y;unfold B9 at this;simp only at this;omega)
 have u:∀args w,(callFunc 81 args).run prog w=.ok (.enter 81 args) w:=enters_of func81 (by kernel_rfl) rfl;have t:∀args w,(callFunc 117 args).run prog w=.ok (.enter 117 args) w:=enters_of func117 (by kernel_rfl) rfl;have x:∀args w,(callFunc 217 args).run prog w=.ok (.enter 217 args) w:=enters_of func217 (by kernel_rfl) rfl;have v:∀args w,(callFunc 216 args).run prog w=.ok (.enter 216 args) w:=enters_of func216 (by kernel_rfl) rfl;have X:=Aa u;have V:=Aa t;have aa:=Aa x;have Y:=Aa v;have HI:=Aa P;have HK:=Aa R;obtain⟨d0,d1,d2,d3,d4,d5,d6⟩:=ABx w (.int .i64 i) (.string nm) (.int .i64 k) (.bool mu) (.int .i64 h) (.int .i64 d) (.string f);have D:w.heap.size<(w.alloc (.cells #[.int .i64 i,.string nm,.int .i64 k,.bool mu,.int .i64 h,.int .i64 d,.string f] 72)).heap.size:=by simp
 have l:=Aa D;clear u t x v P R O z y T D;generalize B9 (i,nm,k,mu,h,d,f)=ab at *;have J:=Aa (q.o i HI.o);have L:=Aa (q.o k HK.o);clear q HI HK;generalize Bm i=s1 at *;generalize Bm k=s3 at *;generalize Fa mu Qn jI=s4 at *;generalize E7 h d f=s5 at *;go_enter func173,ntmps173;go_wp2_with fail;generalize w.alloc (.cells #[.int .i64 i,.string nm,.int .i64 k,.bool mu,.int .i64 h,.int .i64 d,.string f] 72)=U at *
 have r:Hid (∀W,Zb U W->W.cell? ⟨w.heap.size,0,none⟩=some (.int .i64 i)/\W.cell? ⟨w.heap.size,1,none⟩=some (.string nm)/\W.cell? ⟨w.heap.size,2,none⟩=some (.int .i64 k)/\W.cell? ⟨w.heap.size,3,none⟩=some (.bool mu)/\W.cell? ⟨w.heap.size,4,none⟩=some (.int .i64 h)/\W.cell? ⟨w.heap.size,5,none⟩=some (.int .i64 d)/\W.cell? ⟨w.heap.size,6,none⟩=some (.string f)):=Aa (λW m=>⟨(m.cell (p:=⟨w.heap.size,0,none⟩) l.o).trans d0,(m.cell (p:=⟨w.heap.size,1,none⟩) l.o).trans d1,(m.cell (p:=⟨w.heap.size,2,none⟩) l.o).trans d2,(m.cell (p:=⟨w.heap.size,3,none⟩) l.o).trans d3,(m.cell (p:=⟨w.heap.size,4,none⟩) l.o).trans d4,(m.cell (p:=⟨w.heap.size,5,none⟩) l.o).trans d5,(m.cell (p:=⟨w.heap.size,6,none⟩) l.o).trans d6⟩)
 have a:Hid (Zb U U.drew):=Aa (XD _ _).drew
 go_region_held3 (λj=>j.cell? ⟨w.heap.size,0,none⟩=some (.int .i64 i)/\j.cell? ⟨w.heap.size,1,none⟩=some (.string nm)/\j.cell? ⟨w.heap.size,2,none⟩=some (.int .i64 k)/\j.cell? ⟨w.heap.size,3,none⟩=some (.bool mu)/\j.cell? ⟨w.heap.size,4,none⟩=some (.int .i64 h)/\j.cell? ⟨w.heap.size,5,none⟩=some (.int .i64 d)/\j.cell? ⟨w.heap.size,6,none⟩=some (.string f))
  (first
    | exact r.o _ a.o
    | exact r.o _ (a.o.alloc a.o.size _)
    | exact r.o _ s.o
    | (go_keep;done)
    | fail)
  (first
    | (go_at_call_of 81 (#[.int .i64 i]:Array Value);refine(J.o _ (Below.Ap o.o a.o)).mono ?_;rintro e G⟨rfl,b⟩;replace a:=Aa (Below.Ap a.o b);clear b)
    | (go_at_call_of 81 (#[.int .i64 k]:Array Value);refine(L.o _ (Below.Ap o.o a.o)).mono ?_;rintro e G⟨rfl,b⟩;replace a:=Aa (Below.Ap a.o b);clear b)
    | (go_at_call 117;refine(I.o _).mono ?_;rintro e G⟨rfl,rfl⟩)
    | (go_at_call 217;refine(N.o _ (Below.Ap o.o a.o)).mono ?_;rintro e G⟨rfl,b⟩;replace a:=Aa (Below.Ap a.o b);clear b)
    | (go_at_call 216;refine(M.o _ _ (heap_alloc_new _ _)).mono ?_;rintro e G⟨rfl,b⟩;have s:=Aa (Below.Ap (a.o.alloc a.o.size _) b);clear b)
    | fail)
 all_goals
  go_wp2;go_ret;exact⟨rfl,Below.Ap o.o s.o⟩
structure Ib(c:Aj):Prop where
 id:Lu c.1
 name:c.2.1.size<=100
 kind:Lu c.2.2.1
 num:Lu c.2.2.2.2.2.1
 text:c.2.2.2.2.2.2.size<=100
theorem Ib.size{c:Aj}(h:Ib c):(B9 c).size<=600:=S6 h.id h.name h.kind h.num h.text
theorem wN(c:Aj)(w:Tw)(h:Ib c)(a:Jp w):Zc 173 #[Zg (Cc c).toArray] w λe b=>e=Zr (Zt (B9 c))/\Zb w b :=
 Rl c.1 c.2.1 c.2.2.1 c.2.2.2.1 c.2.2.2.2.1 c.2.2.2.2.2.1 c.2.2.2.2.2.2 w h.id h.kind h.num h.name h.text a
theorem uM(v:Tv)(l:List Aj)(sep:Tb)(w:Tw)(h:bH w v l)(hl:l.length<=100)(hn:∀x∈l,Ib x)(hs:sep.size<=1)(ht:Jp w):
 Zc 172 #[v,Zt sep,.func (.func 173) #[] #[]] w λe m=>e=Zr (Zt (Fe (l.map B9) sep))/\Zb w m:=by
 have ai:∀args w,(callFunc 173 args).run prog w=.ok (.enter 173 args) w:=enters_of func173 (by kernel_rfl) rfl
 have HJ:Hid (∀(W:Tw)(i:Tv),W.ownsRow w.heap.size 9 1 i l.length ((l.map B9).map (Zt ·))->Zc 216 #[i,Zt sep] W λe m=>e=Zr (Zt (Fe (l.map B9) sep))/\Zb W m):=λW i J=>dJ _ i (l.map B9) sep W (by rw[XG];exact J) (by simp;omega) (by have:=Jh (b:=600) (xs:=l.map B9) (sep:=sep) (by intro x N;obtain⟨y,hy,rfl⟩:=List.mem_map.1 N;exact(hn y hy).size);rw[XG] at this;have h2:l.length*(600+sep.size)<=100*601:=YU hl (by omega);omega)
 have D:Hid (∀j,j<l.length->∀W,Zb w W->Zc 173 #[Zg (Cc l[j]!).toArray] W λe m=>e=Zr (Zt (B9 l[j]!))/\Zb W m):=λj s W J=>wN _ W (hn _ (by rw[getElem!_pos l j s];exact Yh s)) (ht.below J)
 have hlen:(∃a c,v=Zs a 0 c)/\l=[]\/∃g o c,v=Zs (some ⟨g,o,none⟩) l.length c/\I1 w g o l:=by
  rcases h with h|⟨g,o,c,h1,_,h4⟩
  ·exact .inl h
  exact .inr ⟨g,o,c,h1,h4⟩
 obtain⟨iT,L,O,n,p⟩:=info_parts Uz;have f:=Zy L O n p
 have I:Hid (∀k,k<l.length->((l.take (k+1)).map B9).map (Value.string ·)=((l.take k).map B9).map (Value.string ·)++[Zt (B9 l[k]!)]):=λk hk=>by rw[YO,XS hk,getElem!_pos l k hk,XI,XI];rfl
 have t:Hid (∀(W:Tw)(i:Tv),W.ownsRow w.heap.size 9 1 i l.length (((l.take l.length).map B9).map (Value.string ·))->W.ownsRow w.heap.size 9 1 i l.length ((l.map B9).map (Zt ·))):=λW i J=>by rwa[Ye] at J
 clear h hn ht L O n p;generalize Fe (l.map B9) sep=ag at *
 rcases hlen with⟨⟨_,_,rfl⟩,rfl⟩|⟨g,o,c,rfl,hc⟩
 ·have aa:Hid (Zc 216 #[Zs none 0 0,Zt sep] w λe m=>e=Zr (Zt ag)/\Zb w m):=Aa (HJ.o w (Zs none 0 0) (XB w w.heap.size 9 1))
  clear HJ D I t;go_enter func172,ntmps172;go_wp2
  go_loopw [7,12] (λi P wr=>i=Zs none 0 0/\P=Zi 0/\wr=w) (λ_ _ _=>0)
  case atStart=>exact⟨rfl,rfl,rfl⟩
  case round=>obtain⟨rfl,rfl,rfl⟩:=hrel;go_wp2_with (go_at_call 216;refine aa.o.mono ?_;rintro e w1⟨rfl,d⟩);go_ret;exact⟨rfl,d⟩
 have HC:=Aa hc;clear hc;go_enter func172,ntmps172;go_wp2
 go_loopw [7,12] (λi P wr=>∃k:Nat,k<=l.length/\P=Zi k/\Hid (wr.ownsRow w.heap.size 9 1 i k (((l.take k).map B9).map (Zt ·)))/\Hid (Zb w wr)) (λ_ P _=>l.length-(intOf P).toNat)
 case atStart=>exact⟨0,XP _,rfl,Aa (XB _ _ _ _),Aa (XD _ _)⟩
 case round=>
  obtain⟨k,hk,rfl,RO,R⟩:=hrel;obtain⟨ta,tc,rfl,_⟩:=Au RO.o
  by_cases hlt:k<l.length
  ·have ah:(k:Int)<(l.length:Int):=by omega
   obtain⟨⟨T,U,V,X,Y,x6,x7⟩,N⟩:∃x,l[k]! = x:=⟨_,rfl⟩;obtain⟨q0,q1,q2,q3,q4,q5,q6⟩:=(HC.o.below R.o).cells hlt N;have z:=Aa (D.o k hlt);have r:=Aa (I.o k hlt);rw[N] at z r;generalize B9 (T,U,V,X,Y,x6,x7)=ix at z r;replace z:Hid (∀W,Zb w W->Zc 173 #[Zg #[Zi T,Zt U,Zi V,Zo X,Zi Y,Zi x6,Zt x7]] W λe m=>e=Zr (Zt ix)/\Zb W m):=z;have q:=Aa (R.o.alloc R.o.size (Zk #[Zi T,Zt U,Zi V,Zo X,Zi Y,Zi x6,Zt x7] 72));have G:=Aa (Bc RO.o ((XD wr.heap.size wr).alloc (Y9 _) (Zk #[Zi T,Zt U,Zi V,Zo X,Zi Y,Zi x6,Zt x7] 72)));clear N
   go_wp2_with (first
    | (go_at_fn 173;refine(z.o _ q.o).mono ?_;rintro e w1⟨rfl,d⟩;have aj:=d.size;have af:=q.o.size)
    | (at_builtin;refine wpList_append_own _ rfl _ _ 126 rfl w.heap.size 9 iT (.string ⟨#[]⟩) 1 16 underlying126 f.o.1 f.o.2.1 f.o.2.2.1 f.o.2.2.2 rfl (by decide) _ _ _ rfl ((Bc G.o d).alloc _) ⟨w1.heap.size,0,none⟩ 1 1 [.string ix] rfl rfl (λj u s=>XM (heap_alloc_new _ _) j u s) (by intro u hu;simp at hu;subst hu;rfl) ?d3 ?d4 ?d5 ?_))
   case d3=>unfold maxLen;omega
   case d4=>omega
   case d5=>simp;omega
   intro v2 w2 M ad _;have ac:Zb w w2:=((q.o.trans (d.mono af)).alloc (by omega) _).grown ad (by simp;omega) (λj s=>(G.o.lt j s).1);obtain⟨va,vc,rfl,_⟩:=Au M;go_wp2;exact⟨⟨k+1,by omega,by go_num,Aa (by rw[r.o];simpa using M),Aa ac⟩,by simp[intOf];omega⟩
  have ae:k=l.length:=by omega
  subst ae;have ab:=Aa (HJ.o _ _ (t.o _ _ RO.o));go_wp2_with (go_at_call 216;refine ab.o.mono ?_;rintro e w1⟨rfl,d⟩);go_ret;exact⟨rfl,Below.Ap R.o d⟩
structure Fh(a:A5):Prop where
 path:a.2.1.size<=100
 rows:Lu a.2.2.1
 mask:∀x∈a.2.2.2.1,Lu x
 Iz:a.2.2.2.1.length<=100
 cols:∀x∈a.2.2.2.2.1,Ib x
 ADp:a.2.2.2.2.1.length<=100
 next:Lu a.2.2.2.2.2
def F3(a:A5):ByteArray :=
 if a.1=1 then ⟨#[97,100,100,32]⟩++a.2.1++⟨#[32]⟩++Bm a.2.2.1
 else if a.1=2 then ⟨#[114,101,109,111,118,101,32]⟩++a.2.1
 else if a.1=3 then ⟨#[109,97,115,107,32]⟩++a.2.1++⟨#[32]⟩++Fe (a.2.2.2.1.map Bm) ⟨#[44]⟩
 else ⟨#[115,99,104,101,109,97,32]⟩++Bm a.2.2.2.2.2++⟨#[32]⟩++Fe (a.2.2.2.2.1.map B9) ⟨#[59]⟩
theorem fV{l:List Int}(c:∀x∈l,Lu x)(a:l.length<=100):(Fe (l.map Bm) ⟨#[44]⟩).size<=2200:=by have:=Jh (b:=21) (xs:=l.map Bm) (sep:=⟨#[44]⟩) (by intro x d;obtain⟨y,hy,rfl⟩:=List.mem_map.1 d;exact Dw (c y hy));rw[XG] at this;have e:(⟨#[44]⟩:Tb).size=1:=rfl;rw[e] at this;have f:l.length*(21+1)<=100*22:=YU a (by omega);omega
theorem fW{l:List Aj}(c:∀x∈l,Ib x)(a:l.length<=100):(Fe (l.map B9) ⟨#[59]⟩).size<=60100:=by have:=Jh (b:=600) (xs:=l.map B9) (sep:=⟨#[59]⟩) (by intro x d;obtain⟨y,hy,rfl⟩:=List.mem_map.1 d;exact(c y hy).size);rw[XG] at this;have e:(⟨#[59]⟩:Tb).size=1:=rfl;rw[e] at this;have f:l.length*(600+1)<=100*601:=YU a (by omega);omega
theorem gB{a:A5}(h:Fh a):(F3 a).size<=61000:=by
 have g:=Dw h.rows;have i:=Dw h.next;have j:=fV h.mask h.Iz;have k:=fW h.cols h.ADp;have l:=h.path;have b:(⟨#[97,100,100,32]⟩:Tb).size=4:=rfl;have c:(⟨#[32]⟩:Tb).size=1:=rfl;have d:(⟨#[114,101,109,111,118,101,32]⟩:Tb).size=7:=rfl;have e:(⟨#[109,97,115,107,32]⟩:Tb).size=5:=rfl;have f:(⟨#[115,99,104,101,109,97,32]⟩:Tb).size=7:=rfl;unfold F3;split
 ·simp only[Ea];omega
 split
 ·simp only[Ea];omega
 split
 ·simp only[Ea];omega
 simp only[Ea];omega
theorem cS{c:Array Oper}{C:Tw->Prop}{Q:Act->Prop}{rest:List Oper}{o:Oper}{a:Act}(d:o.guard=none)(f:Nat)(xs:Array Operand)(ts:Array TypeId)(l:o.op=.call { callee:=.value (.func f),args:=xs,argTypes:=ts })(args:Array Tv)(j:xs.map a.eval=args)(i:∀args w,(callFunc f args).run prog w=.ok (.enter f args) w)(v:Tv)(k:∀w,C w->Zc f args w (λe g=>e=Zr v/\C g))(h:wpQuiet prog c C Q rest (a.put o.dst v)):wpQuiet prog c C Q (o :: rest) a:=by
 refine wpQuiet_step (λK hK=>?_);rw[if_pos (by simp[Region.wanted,d])];refine⟨v,λw m=>?_,hK _ h⟩
 have b:(execOp a.eval o).run prog w=.ok (.enter f args) w:=by simp[execOp,l,resolve,invoke,j,i,Act.eval,Deferred.ofValue]
 unfold Oper.quietAt;rw[b];exact⟨rfl,k w m⟩
theorem AEC(k:Int)(p:ByteArray)(r:Int)(m:List Int)(cl:List Aj)(a:Int)(v:Option Addr)(y x:Nat)(o:Option Addr)(t s:Nat)(w:World)(ha:Om w (k,p,r,m,cl,a) v y x o t s)(j:Fh (k,p,r,m,cl,a))(T:Jp w):
 Zc 119 #[.agg #[.int .i64 k,.string p,.int .i64 r,.slice v y x,.slice o t s,.int .i64 a]] w λe D=>e=.returned (.string (F3 (k,p,r,m,cl,a)))/\Zb w D:=by
 have c:Hid (Zb w (w.alloc (.cells #[.int .i64 k,.string p,.int .i64 r,.slice v y x,.slice o t s,.int .i64 a] 144))):=(XD _ _).alloc (Y9 _) _;have hp:p.size<=100:=j.path;have R:(Bm r).size<=21:=Dw j.rows;have I:(Bm a).size<=21:=Dw j.next;have L:(Fe (m.map Bm) ⟨#[44]⟩).size<=2200:=fV j.mask j.Iz;have J:(Fe (cl.map B9) ⟨#[59]⟩).size<=60100:=fW j.cols j.ADp;have H1:Hid (∀W,Zb w W->Zc 81 #[.int .i64 r] W λe D=>e=.returned (.string (Bm r))/\Zb W D):=λW hW=>Mx r W j.rows (T.below hW)
 have H2:Hid (∀W,Zb w W->Zc 81 #[.int .i64 a] W λe D=>e=.returned (.string (Bm a))/\Zb W D):=λW hW=>Mx a W j.next (T.below hW)
 have H3:Hid (∀W,Zb w W->Zc 171 #[.slice v y x,.string ⟨#[44]⟩,.func (.func 81) #[] #[]] W λe D=>e=.returned (.string (Fe (m.map Bm) ⟨#[44]⟩))/\Zb W D):=λW hW=>rF _ m _ W (ha.mask.below hW) j.Iz j.mask (by decide) (T.below hW)
 have X:Hid (∀W,Zb w W->Zc 172 #[.slice o t s,.string ⟨#[59]⟩,.func (.func 173) #[] #[]] W λe D=>e=.returned (.string (Fe (cl.map B9) ⟨#[59]⟩))/\Zb W D):=λW hW=>uM _ cl _ W (ha.cols.below hW) j.ADp j.cols (by decide) (T.below hW)
 have U:(w.alloc (.cells #[.int .i64 k,.string p,.int .i64 r,.slice v y x,.slice o t s,.int .i64 a] 144)).heap[w.heap.size]? = some (.cells #[.int .i64 k,.string p,.int .i64 r,.slice v y x,.slice o t s,.int .i64 a] 144 (0,0)):=heap_alloc_new w _;have G:=Aa U;have N:Hid (∀args w,(callFunc 171 args).run prog w=.ok (.enter 171 args) w):=enters_of func171 (by kernel_rfl) rfl;have O:Hid (∀args w,(callFunc 172 args).run prog w=.ok (.enter 172 args) w):=enters_of func172 (by kernel_rfl) rfl;clear ha T U j
 by_cases k1:k=1
 ·subst k1
  have n:Hid (F3 (1,p,r,m,cl,a)=⟨#[97,100,100,32]⟩++p++⟨#[32]⟩++Bm r):=rfl;generalize F3 (1,p,r,m,cl,a)=M at n ⊢;generalize Bm r=s1 at *;clear H2 H3 X I L J;go_enter func119,ntmps119;go_wp2_with fail;generalize w.alloc (.cells #[.int .i64 1,.string p,.int .i64 r,.slice v y x,.slice o t s,.int .i64 a] 144)=g at *;obtain⟨_,V,y2,_,_,_,_⟩:=Vj G.o;replace V:=cell_regrown V;replace y2:=cell_regrown y2;have l:Hid (∀d h,Zc 81 #[.int .i64 r] (grow (redrawn g d) h) λe i=>e=.returned (.string s1)/\∃b:Regrown,i=grow (redrawn g b.d) b.os):=λd h=>Calls.regrown_of (H1.o _ (Below.Ap c.o (below_regrown g d h)))
  refine wp_region_quiet_below (by kernel_rfl) (by kernel_rfl) ?_
  repeat (go_big_quiet_step (first
   | (go_at_call_of 81 (#[.int .i64 r]:Array Value);exact l.o _ _)))
  refine wpQuiet_nil ?_;intro _ u;obtain⟨⟨P,z⟩,f⟩:=u;subst f;go_wp2;go_ret;exact⟨L7 n.o.symm,Below.Ap c.o (below_regrown g P z)⟩
 by_cases k2:k=2
 ·subst k2
  have n:Hid (F3 (2,p,r,m,cl,a)=⟨#[114,101,109,111,118,101,32]⟩++p):=rfl;generalize F3 (2,p,r,m,cl,a)=M at n ⊢;clear H1 H2 H3 X I L J;go_enter func119,ntmps119;go_wp2;go_ret;exact⟨L7 n.o.symm,c.o⟩
 by_cases k3:k=3
 ·subst k3
  have n:Hid (F3 (3,p,r,m,cl,a)=⟨#[109,97,115,107,32]⟩++p++⟨#[32]⟩++Fe (m.map Bm) ⟨#[44]⟩):=rfl;generalize F3 (3,p,r,m,cl,a)=M at n ⊢;generalize Fe (m.map Bm) ⟨#[44]⟩=s1 at *;clear H1 H2 X I J R;go_enter func119,ntmps119;go_wp2_with fail;generalize w.alloc (.cells #[.int .i64 3,.string p,.int .i64 r,.slice v y x,.slice o t s,.int .i64 a] 144)=g at *;obtain⟨_,V,_,y3,_,_,_⟩:=Vj G.o;replace V:=cell_regrown V;replace y3:=cell_regrown y3;have l:Hid (∀d h,Zc 171 #[.slice v y x,.string ⟨#[44]⟩,.func (.func 81) #[] #[]] (grow (redrawn g d) h) λe i=>e=.returned (.string s1)/\∃b:Regrown,i=grow (redrawn g b.d) b.os):=λd h=>Calls.regrown_of (H3.o _ (Below.Ap c.o (below_regrown g d h)))
  refine wp_region_quiet_below (by kernel_rfl) (by kernel_rfl) ?_
  repeat (go_big_quiet_step (fail))
  refine cS (by rfl) 171 _ _ rfl #[.slice v y x,.string ⟨#[44]⟩,.func (.func 81) #[] #[]] (by simp[Act.eval]) N.o (.string s1) (λw hw=>by obtain⟨q,rfl⟩:=hw;exact l.o _ _) ?_;simp only[Act.put,XQ,Wb,WA]
  repeat (go_big_quiet_step (fail))
  refine wpQuiet_nil ?_;intro _ u;obtain⟨⟨P,z⟩,f⟩:=u;subst f;go_wp2;go_ret;exact⟨L7 n.o.symm,Below.Ap c.o (below_regrown g P z)⟩
 have n:Hid (F3 (k,p,r,m,cl,a)=⟨#[115,99,104,101,109,97,32]⟩++Bm a++⟨#[32]⟩++Fe (cl.map B9) ⟨#[59]⟩):=by simp[Hid,F3,k1,k2,k3]
 generalize F3 (k,p,r,m,cl,a)=M at n ⊢;generalize Fe (cl.map B9) ⟨#[59]⟩=s1 at *;generalize Bm a=s2 at *;clear H1 H3 L R;go_enter func119,ntmps119;go_wp2_with fail;generalize w.alloc (.cells #[.int .i64 k,.string p,.int .i64 r,.slice v y x,.slice o t s,.int .i64 a] 144)=g at *;obtain⟨_,_,_,_,y4,y5,_⟩:=Vj G.o;replace y4:=cell_regrown y4;replace y5:=cell_regrown y5;have l:Hid (∀d h,Zc 172 #[.slice o t s,.string ⟨#[59]⟩,.func (.func 173) #[] #[]] (grow (redrawn g d) h) λe i=>e=.returned (.string s1)/\∃b:Regrown,i=grow (redrawn g b.d) b.os):=λd h=>Calls.regrown_of (X.o _ (Below.Ap c.o (below_regrown g d h)))
 have Y:Hid (∀d h,Zc 81 #[.int .i64 a] (grow (redrawn g d) h) λe i=>e=.returned (.string s2)/\∃b:Regrown,i=grow (redrawn g b.d) b.os):=λd h=>Calls.regrown_of (H2.o _ (Below.Ap c.o (below_regrown g d h)))
 refine wp_region_quiet_below (by kernel_rfl) (by kernel_rfl) ?_
 repeat (go_big_quiet_step (first
  | (go_at_call_of 81 (#[.int .i64 a]:Array Value);exact Y.o _ _)))
 refine cS (by rfl) 172 _ _ rfl #[.slice o t s,.string ⟨#[59]⟩,.func (.func 173) #[] #[]] (by simp[Act.eval]) O.o (.string s1) (λw hw=>by obtain⟨q,rfl⟩:=hw;exact l.o _ _) ?_;simp only[Act.put,XQ,Wb,WA]
 repeat (go_big_quiet_step (fail))
 refine wpQuiet_nil ?_;intro _ u;obtain⟨⟨P,z⟩,f⟩:=u;subst f;go_wp2;go_ret;exact⟨L7 n.o.symm,Below.Ap c.o (below_regrown g P z)⟩
variable{T e:TypeId}{W w:Tw}{s:Tb}{l:List UInt8}{k n z:Nat}{c:UInt8}{v:Tv}
def Ov:ByteArray:=⟨#[114,101,97,100,115]⟩
def Oy:ByteArray:=⟨#[98,108,105,110,100]⟩
def I4(b:ByteArray)(a:Bool):ByteArray:=⟨#[99,111,109,109,105,116,32]⟩++b++⟨#[32]⟩++Fa a Ov Oy++⟨#[10]⟩
def Ed(l:List A5):List UInt8:=l.flatMap λa=>(F3 a).data.toList++[10]
def Nn(c:Dn):List UInt8:=(I4 c.1 c.2.1).data.toList++Ed c.2.2
def C6(c:Dn):ByteArray:=⟨(Nn c).toArray⟩
def Cv(c:Dn):Bool:=Bx c.1 && c.2.2.all Ch
def Hz(c:Dn):Value:=if Cv c then .tuple #[.string (C6 c),.nilIface] else .tuple #[.string ⟨#[]⟩,.iface 90 (Zi 1)]
theorem uU(l:List A5)(a:A5):Ed (l++[a])=Ed l++((F3 a).data.toList++[10]):=by simp[Ed]
theorem iF{B b:Nat}{p:Tv}{bs:List Tv}(h:Lib.BuilderAt T e B b p bs w)(c:Zb w W):Lib.BuilderAt T e B b p bs W:=by obtain⟨d,v,a,f,g⟩:=h;exact⟨d,v,(c.block b (Ac a)).trans a,Bc f c,g⟩
theorem AJe{B b:Nat}{bs:List Tv}(h:Lib.IsBuilder T e B b bs w)(a:Zb w W):Lib.IsBuilder T e B b bs W:=by
 rcases h with h|h
 ·exact .inl (iF h a)
 exact .inr (iF h a)
theorem AFg{B b:Nat}{bs:List Tv}(h:Lib.IsBuilder T e B b bs w):b<w.heap.size:=by rcases h with h|h <;> exact h.lt
theorem Qz(s:Tb):Lib.strCells s=Lib.byteCells s.data.toList:=rfl
theorem Bg(a b:List UInt8):Lib.byteCells (a++b)=Lib.byteCells a++Lib.byteCells b:=by simp[Lib.byteCells]
theorem Ri(a:Bool)(h:s.size<=100):(I4 s a).size<=114:=by
 have b:(⟨#[99,111,109,109,105,116,32]⟩:Tb).size=7:=rfl;have c:(⟨#[32]⟩:Tb).size=1:=rfl;have d:(⟨#[10]⟩:Tb).size=1:=rfl;have e:(Fa a Ov Oy).size=5:=by cases a <;> rfl
 unfold I4;simp only[Ea];omega
theorem fC{l:List A5}(h:∀a∈l,Fh a):(Ed l).length<=l.length*61001:=by
 induction l with
 | nil=>simp[Ed]
 | cons a l ih=>
   have f:=gB (h a (Yf ..));have g:=ih (λb d=>h b (Yg _ d))
   have e:(Ed (a :: l)).length=(F3 a).data.toList.length+1+(Ed l).length:=by simp only[Ed,List.flatMap_cons,XF,XC,XJ]
   have c:(F3 a).data.toList.length=(F3 a).size:=by simp
   rw[e,c,XC,Y1];omega
theorem pN{Bz:List A5}(m:Bz.length<=600000)(g:k<Bz.length)(d:∀a∈Bz,Ch a=true->Fh a)(h:∀j,j<k->Ch Bz[j]! = true):(Ed (Bz.take k)).length<=36600600000:=by
 have c:=fC (l:=Bz.take k) (λa e=>by
  obtain⟨j,f,rfl⟩:=Yj e;have b:j<k/\j<Bz.length:=by simpa[Nat.lt_min] using f
  rw[List.getElem_take];have c:=h j b.1;rw[getElem!_pos Bz j b.2] at c;exact d _ (Yh b.2) c)
 have i:(Bz.take k).length<=600000:=by rw[XK];omega
 omega
theorem sK{a:Bool}{t:Tb}(b:(I4 s a).size<=114)(c:l.length<=36600600000)(d:t.size<=61000):(Lib.byteCells ((I4 s a).data.toList++l)).length+(t++⟨#[10]⟩).size<=140737488355328:=by
 have e9:(⟨#[10]⟩:Tb).size=1:=rfl;have e10:(I4 s a).data.toList.length=(I4 s a).size:=by simp
 rw[Lib.byteCells_length,XF,Ea,e9,e10];omega
theorem lW(f:Tb)(d:Bool)(Bz:List A5)(aa:To)(an ac:Nat)(w:Tw)(ha:Dt w (Zs aa an ac) Bz)(hn:Bz.length<=600000)(G:f.size<=maxLen)(bb:∀a∈Bz,Ch a=true->Fh a)(hw:Lw w)(ht:Jp w):
 Zc 77 #[Zg #[Zt f,Zo d,Zs aa an ac]] w λe t=>e=Zr (Hz (f,d,Bz))/\Zb w t:=by
 have bn:=ha.len;subst bn;have v:=Aa (λW=>Mn f W G);have HA:=Aa ha;have HW:=Aa hw;have HT:=Aa ht;have aw:=Aa bb;have U:Hid (Zb w (w.alloc (Zk #[Zt f,Zo d,Zs aa Bz.length ac] 86))):=Zal;have ah:=Aa (heap_alloc_new w (Zk #[Zt f,Zo d,Zs aa Bz.length ac] 86));clear ha hw ht bb G;cases hnb:Bx f with
 | false=>
   rw[hnb] at v;have HR:Hid (Hz (f,d,Bz)=Zu #[Zt ⟨#[]⟩,Zf 90 (Zi 1)]):=by simp[Hid,Hz,Cv,hnb]
   generalize Hz (f,d,Bz)=bz at HR ⊢;go_enter func77,ntmps77;go_wp2_with (go_at_call 84;refine(v.o _).mono ?_;rintro e b⟨rfl,n⟩);go_ret2;exact⟨by rw[HR.o];rfl,U.o.trans (n.mono (by simp))⟩
 | true=>
   rw[hnb] at v;have G:=Rk hnb
   have bh:Hid (∀k,k<Bz.length->Ch Bz[k]! = false->Hz (f,d,Bz)=Zu #[Zt ⟨#[]⟩,Zf 90 (Zi 1)]):=λk hk hr=>by
    have:Bz.all Ch=false:=by rw[Y4];exact⟨Bz[k]!,by rw[getElem!_pos Bz k hk];exact Yh hk,by rw[hr];simp⟩
    simp[Hz,Cv,this]
   have a2:Hid ((∀k,k<Bz.length->Ch Bz[k]! = true)->Hz (f,d,Bz)=Zu #[Zt (C6 (f,d,Bz)),Zn]):=λhh=>by
    have:Bz.all Ch=true:=by rw[List.all_eq_true];intro x hx;obtain⟨k,hk,rfl⟩:=Yj hx;have:=hh k hk;rwa[getElem!_pos Bz k hk] at this
    simp[Hz,Cv,this,hnb]
   have ab:Hid (∀W,Zc 117 #[Zo d,Zt ⟨#[114,101,97,100,115]⟩,Zt ⟨#[98,108,105,110,100]⟩] W λe t=>e=Zr (Zt (Fa d Ov Oy))/\t=W):=λW=>fN d Ov Oy W
   have a4:∀args w,(callFunc 117 args).run prog w=.ok (.enter 117 args) w:=enters_of func117 (by kernel_rfl) rfl;have a3:∀args w,(callFunc 116 args).run prog w=.ok (.enter 116 args) w:=enters_of func116 (by kernel_rfl) rfl;have ar:=Aa a4;have aq:=Aa a3;have bp:(Fa d Ov Oy).size=5:=by cases d <;> rfl
   have ad:Hid (I4 f d=⟨#[99,111,109,109,105,116,32]⟩++f++⟨#[32]⟩++Fa d Ov Oy++⟨#[10]⟩):=rfl;have au:=Aa (Ri d (XE G (by decide)));generalize Fa d Ov Oy=ew at ab bp ad;clear a4 a3;go_enter func77,ntmps77;go_wp2_with fail;generalize w.alloc (Zk #[Zt f,Zo d,Zs aa Bz.length ac] 86)=wa at *;refine(v.o _).mono ?_;rintro e b⟨rfl,n⟩;have bf:=Aa (Below.Ap U.o n);have br:w.heap.size<wa.heap.size:=Ac ah.o;have bv:=n.size;have bk:=Aa ((n.block w.heap.size br).trans ah.o);clear n ah U;have V:Hid (Zb b (b.alloc (Zk #[Zp none,Zs none 0 0] 212))):=Zal;have ao:Hid (Lib.IsBuilder 212 5 b.heap.size b.heap.size [] (b.alloc (Zk #[Zp none,Zs none 0 0] 212))):=.inl ⟨Y9 _,_,heap_alloc_new b _,XB _ _ _ _,by simp[Value.ownBlock]⟩;go_wp2_with fail;have bd:b.heap.size<(b.alloc (Zk #[Zp none,Zs none 0 0] 212)).heap.size:=by simp
   have ax:=Aa bd;clear bd;generalize b.alloc (Zk #[Zp none,Zs none 0 0] 212)=w2 at *;have ai:=Aa ((V.o.block w.heap.size (by omega)).trans bk.o);obtain⟨x0,i,m,_⟩:=Db ai.o;have az:Hid (∀s:Tb,s.size<=114->Zc 116 #[Zp (some ⟨b.heap.size,0,none⟩),Zt s] w2.drew λe t=>e=Zr (Zu #[Zi s.size,Zn])/\(Lib.BuilderAt 212 5 b.heap.size b.heap.size (Zp (some ⟨b.heap.size,0,none⟩)) ([]++Lib.strCells s) t/\Below b.heap.size w2.drew t)):=Aa (λs hs=>Od b.heap.size b.heap.size [] s w2.drew ao.o (by simp;omega) (by show b.heap.size<=w2.heap.size;have:=ax.o;omega));have n1:¬9223372036854775807<7+f.size:=by omega
   have n2:¬9223372036854775807<7+f.size+1:=by omega
   have n3:¬9223372036854775807<7+f.size+1+5:=by omega
   have n4:¬9223372036854775807<7+f.size+1+5+1:=by omega
   go_region_law
    (first
      | (refine Nh (by rfl) 117 (.tmp 17) (.const (Zt ⟨#[114,101,97,100,115]⟩)) (.const (Zt ⟨#[98,108,105,110,100]⟩)) 4 9 9 (by rfl) (Zo d) (Zt ⟨#[114,101,97,100,115]⟩) (Zt ⟨#[98,108,105,110,100]⟩) (by rfl) (by rfl) (by rfl) ar.o _ (ab.o _) ?_
         rintro e w4⟨rfl,rfl⟩;refine⟨_,rfl,?_⟩)
      | (refine Gc (by rfl) 116 (.tmp 4) (.tmp 20) 212 9 (by rfl) _ _ rfl rfl aq.o _ (az.o _ (by rw[<-ad.o];exact au.o)) ?_
         rintro e w4⟨rfl,O,a7⟩;have p:=Aa O;have X:Hid (Below b.heap.size w2 w4):=Aa ((XD _ _).drew.trans a7);clear O a7;refine⟨_,rfl,?_⟩)
      | fail)
   all_goals
    have bw:b.heap.size<w4.heap.size:=p.o.lt;have L:Hid (Zb w w4):=Aa (bf.o.trans ((V.o.trans X.o).mono (by omega)));have a0:=Aa ((X.o.block w.heap.size (by omega)).trans ai.o);clear x0 i m;obtain⟨x0,i,m,_⟩:=Db a0.o
    have I:Hid (Lib.IsBuilder 212 5 b.heap.size b.heap.size (Lib.byteCells ((I4 f d).data.toList++Ed (Bz.take 0))) w4):=Aa (.inr (by have:=p.o;rw[<-ad.o,XW,Qz] at this;simpa[Ed] using this))
    clear p az ab n1 n2 n3 n4 X V ao ax ai;go_wp2_with fail
    go_loopw [25] (λvi wr=>∃k:Nat,k<=Bz.length/\vi=Zi k/\Hid (Lib.IsBuilder 212 5 b.heap.size b.heap.size (Lib.byteCells ((I4 f d).data.toList++Ed (Bz.take k))) wr)/\Hid (Zb w wr)/\Hid (∀j,j<k->Ch Bz[j]! = true)) (λvi _=>Bz.length-(intOf vi).toNat)
    case atStart=>exact⟨0,XP _,rfl,I,L,Aa (λj hj=>absurd hj (Ym _))⟩
    case round=>
     clear x0 i m a0 I L;obtain⟨k,hk,rfl,BD,T,RT⟩:=hrel
     by_cases hlt:k<Bz.length
     ·have bt:(k:Int)<(Bz.length:Int):=by omega
      rcases HA.o.below T.o with⟨_,e0⟩|⟨g,o,c,eg,bs,bu,N⟩
      ·rw[e0] at hlt;simp at hlt
      injection eg with bl _ bm;subst bl bm;obtain⟨ma,mn,mc,ca,cn,cc,aj,a5⟩:=N k hlt;have z:Hid (Ch Bz[k]! = true->Fh Bz[k]!):=Aa (aw.o _ (by rw[getElem!_pos Bz k hlt];exact Yh hlt));have D:Hid (Ed (Bz.take (k+1))=Ed (Bz.take k)++((F3 Bz[k]!).data.toList++[10])):=Aa (by rw[Br hlt,uU]);have af:=Aa (bh.o k hlt)
      have ag:Hid (Ch Bz[k]! = true->∀j,j<k+1->Ch Bz[j]! = true):=Aa (λhh j hj=>by
       by_cases e:j=k
       ·rw[e];exact hh
       exact RT.o j (by omega))
      have av:Hid (∀l,Ed (Bz.take k)=l->l.length<=36600600000):=Aa (λl hl=>by rw[<-hl];exact pN hn hlt aw.o RT.o);obtain⟨⟨i,m,q,x4,x5,r⟩,hx⟩:∃x,Bz[k]! = x:=⟨_,rfl⟩;rw[hx] at aj a5 z D af ag;obtain⟨q0,q1,q2,q3,q4,q5⟩:=a5;simp only at q0 q1 q2 q3 q4 q5;have u:Hid (Zb wr (wr.alloc (Zk #[Zi i,Zt m,Zi q,Zs ma mn mc,Zs ca cn cc,Zi r] 144))):=Aa (Zal);have a1:=Aa (heap_alloc_new wr (Zk #[Zi i,Zt m,Zi q,Zs ma mn mc,Zs ca cn cc,Zi r] 144));have al:=Aa aj;have y:Hid (∀W,Zb wr W->Zc 118 #[Zg #[Zi i,Zt m,Zi q,Zs ma mn mc,Zs ca cn cc,Zi r]] W λe t=>e=Zr (Zo (Ch (i,m,q,x4,x5,r)))/\Zb W t):=Aa (λW hW=>wO i m q x4 x5 r ma mn mc ca cn cc W (al.o.below hW) ((HW.o.below T.o).below hW));have ae:Hid (Ch (i,m,q,x4,x5,r)=true->∀W,Zb wr W->Zc 119 #[Zg #[Zi i,Zt m,Zi q,Zs ma mn mc,Zs ca cn cc,Zi r]] W λe t=>e=Zr (Zt (F3 (i,m,q,x4,x5,r)))/\Zb W t):=Aa (λhr W hW=>AEC i m q x4 x5 r ma mn mc ca cn cc W (al.o.below hW) (z.o hr) ((HT.o.below T.o).below hW));clear aj N hx;cases hri:Ch (i,m,q,x4,x5,r) with
      | false=>rw[hri] at y;have HR:=Aa (af.o hri);go_wp2_with (go_at_call 118;refine(y.o _ u.o).mono ?_;rintro e w7⟨rfl,h⟩);go_ret2;exact⟨by rw[HR.o];rfl,Below.Ap T.o (Below.Ap u.o h)⟩
      | true=>
        rw[hri] at y ae;have ba:=gB (z.o hri);have M:=Aa (ae.o rfl);obtain⟨pl,ak⟩:∃pl,Ed (Bz.take k)=pl:=⟨_,rfl⟩;have bc:=av.o pl ak;rw[ak] at BD D;have bi:=Aa (ag.o hri);obtain⟨ls,R⟩:∃ls,F3 (i,m,q,x4,x5,r)=ls:=⟨_,rfl⟩;rw[R] at ba M D;clear R av ak af ag z ae;have bo:=T.o.size;have bj:=Aa (sK au.o bc ba)
        go_wp2_with (first
         | (go_at_call 118;refine(y.o _ u.o).mono ?_;rintro e w7⟨rfl,h⟩
            have am:=Aa (Below.Ap u.o h);have a6:=(h.block wr.heap.size (Ac a1.o)).trans a1.o;obtain⟨y0,y1,y2,y3,y4,y5,_⟩:=Vj a6;clear a6 h)
         | (go_at_call 119;refine(M.o _ am.o).mono ?_;rintro e w8⟨rfl,a8⟩
            have Y:=Aa (Below.Ap am.o a8);have n5:¬9223372036854775807<ls.size+1:=by omega
            have J:=Aa (AJe BD.o Y.o);have bx:=Y.o.size;clear a8)
         | (go_at_call 116;refine(Od b.heap.size b.heap.size _ _ _ J.o bj.o (by have:=AFg J.o;omega)).mono ?_
            rintro e w9⟨rfl,P,a9⟩;have ap:=Aa P;have bg:=Aa a9;clear P a9))
        go_roundw
        case rel=>
         refine⟨k+1,by omega,by go_num,Aa (.inr ?_),Aa ((T.o.trans (Y.o.mono bo)).trans (bg.o.mono (by omega))),bi⟩;have:=ap.o;rw[Qz,<-Bg,List.append_assoc] at this;rw[D.o];have e11:(ls++⟨#[10]⟩).data.toList=ls.data.toList++[10]:=by simp
         rw[e11] at this;exact this
        case measure=>simp[intOf];omega
     have bq:k=Bz.length:=by omega
     subst bq;have HR:=Aa (a2.o RT.o);have ay:=Aa (Builder_String_any b.heap.size b.heap.size _ wr BD.o (by have:=AFg BD.o;omega));rw[Ye] at ay;go_wp2_with (go_at_call 120;refine ay.o.mono ?_;rintro e w7⟨rfl,h⟩);go_ret2;exact⟨by rw[HR.o];rfl,T.o.trans (h.mono (by omega))⟩
theorem AGo(h:indexByte s.data.toList c = -1):bA (Ao c s.data.toList).1=s/\bA (Ao c s.data.toList).2.1=⟨#[]⟩/\(Ao c s.data.toList).2.2=false:=by rw[Np h];exact⟨Ju s,rfl,rfl⟩
theorem AE8{i:Nat}(h:indexByte s.data.toList c=i):bA (Ao c s.data.toList).1=s.extract 0 i/\bA (Ao c s.data.toList).2.1=s.extract (i+1) s.size/\(Ao c s.data.toList).2.2=true/\i<s.size:=by
 obtain⟨e,a⟩:=J0 h;rw[e];refine⟨?_,?_,rfl,by rw[X2] at a;exact a⟩
 ·rw[extract_eq];simp[bA]
 have b:List.take (s.size-(i+1)) (List.drop (i+1) s.data.toList)=List.drop (i+1) s.data.toList :=
  Yd (by rw[XL,<-Lib.size_eq];exact Y9 _)
 rw[extract_eq,b];rfl
theorem AFA(s:Tb)(c:UInt8)(w:Tw)(j:s.size<=maxLen):
 Zc 182 #[Zt s,Zt ⟨#[c]⟩] w λe h=>e=Zr (Zu #[Zt (bA (Ao c s.data.toList).1),Zt (bA (Ao c s.data.toList).2.1),Zo (Ao c s.data.toList).2.2])/\∃n,h=w.drewN n:=by
 unfold maxLen at j
 rcases O3 s.data.toList c with a|⟨i,a⟩
 ·obtain⟨d,f,g⟩:=AGo a
  rw[d,f,g];have b:=Aa (λW=>stringslite_Index_one s c W);rw[a] at b;clear a d f g;go_enter func182,ntmps182;go_wp2_with (go_at_call 224;refine(b.o _).mono ?_;rintro e h⟨rfl,rfl⟩);go_ret3;exact⟨rfl,0,rfl⟩
 obtain⟨d,f,g,o⟩:=AE8 a;rw[d,f,g];have b:=Aa (λW=>stringslite_Index_one s c W);rw[a] at b;clear a d f g;have c1:(0:Int)<=(i:Int):=by omega
 have k:(i:Int)<=(s.size:Int):=by omega
 have l:(0:Int)<=(i:Int)+1:=by omega
 have m:(i:Int)+1<=(s.size:Int):=by omega
 go_enter func182,ntmps182;go_wp2_with (go_at_call 224;refine(b.o _).mono ?_;rintro e h⟨rfl,rfl⟩)
 go_region
 go_wp2;go_ret3;exact⟨rfl,1,rfl⟩
theorem L5(s:Tb)(c:UInt8)(w:Tw)(d:s.size<=maxLen):
 Zc 130 #[Zt s,Zt ⟨#[c]⟩] w λe a=>e=Zr (Zu #[Zt (bA (Ao c s.data.toList).1),Zt (bA (Ao c s.data.toList).2.1),Zo (Ao c s.data.toList).2.2])/\Zb w a:=by
 have b:=Aa (AFA s c w d);generalize bA (Ao c s.data.toList).1=x at *;generalize bA (Ao c s.data.toList).2.1=y at *;generalize (Ao c s.data.toList).2.2=z at *;go_enter func130,ntmps130;go_wp2_with (go_at_call 182;refine b.o.mono ?_;rintro e a⟨rfl,n,rfl⟩);go_ret3;exact⟨rfl,⟨rfl,rfl,rfl,Y9 _,λ_ _=>rfl⟩⟩
def Ik(w:World):Prop:=(∃te a,w.cell? ⟨5,0,none⟩=some (.iface te a))/\∃te a,w.cell? ⟨6,0,none⟩=some (.iface te a)
theorem Fv{b o:Nat}(h:w.cell? ⟨b,o,none⟩=some v):b<w.heap.size:=Lib.lt_of_cell h
theorem Ik.below(h:Ik w)(c:Zb w W):Ik W:=by obtain⟨⟨t1,d,a⟩,t2,e,b⟩:=h;exact⟨⟨t1,d,(c.cell (p:=⟨5,0,none⟩) (Fv a)).trans a⟩,t2,e,(c.cell (p:=⟨6,0,none⟩) (Fv b)).trans b⟩
def Ns(l:List UInt8)(w:World)(e:Ending)(b:World):Prop:=∃(n:Int)(a:Value),e=.returned (.tuple #[Zi n,a])/\Zb w b/\((numOf l=some n/\a=.nilIface)\/(numOf l=none/\∃t x,a=.iface t x))
theorem Ud(s:Tb)(w:Tw)(i:s.size<=100000000)(f:Ik w):Zc 185 #[Zt s] w (Ns s.data.toList w):=by
 obtain⟨⟨t1,j,c⟩,t2,k,d⟩:=f;cases h:atoiAll s.data.toList with
 | ok v=>
   refine(strconv_Atoi_ok s (by omega) v h w).mono ?_;rintro e b⟨rfl,g⟩;refine⟨v,_,rfl,?_,.inl ⟨by simp[numOf,h],rfl⟩⟩
   rcases g with rfl|⟨t,rfl⟩
   ·exact XD _ _
   exact Lib.bytesWorld_below _ _ _
 | «syntax» =>refine(strconv_Atoi_syntax s (by omega) h _ w c (.inr ⟨_,_,rfl⟩)).mono ?_;rintro e b⟨N,rfl,_,_,a⟩;exact⟨_,_,rfl,a,.inr ⟨by simp[numOf,h],_,_,rfl⟩⟩
 | range=>refine(strconv_Atoi_range s (by omega) h _ w d (.inr ⟨_,_,rfl⟩)).mono ?_;rintro e b⟨N,rfl,_,_,a⟩;exact⟨_,_,rfl,a,.inr ⟨by simp[numOf,h],_,_,rfl⟩⟩
theorem Vf(s:Tb)(w:Tw)(i:s.size<=100000000)(f:Ik w):Zc 305 #[Zt s,Zi 10,Zi 64] w (Ns s.data.toList w):=by
 obtain⟨⟨t1,j,c⟩,t2,k,d⟩:=f;cases h:atoiAll s.data.toList with
 | ok v=>
   refine(strconv_ParseInt_10_at64_ok s (by omega) v ((parseIntB_64 _).trans h) w).mono ?_;rintro e b⟨rfl,g⟩;refine⟨v,_,rfl,?_,.inl ⟨by simp[numOf,h],rfl⟩⟩
   rcases g with rfl|⟨t,rfl⟩
   ·exact XD _ _
   exact Lib.bytesWorld_below _ _ _
 | «syntax» =>refine(strconv_ParseInt_10_at64_syntax s (by omega) ((parseIntB_64 _).trans h) _ w c (.inr ⟨_,_,rfl⟩)).mono ?_;rintro e b⟨N,rfl,_,_,a⟩;exact⟨_,_,rfl,a,.inr ⟨by simp[numOf,h],_,_,rfl⟩⟩
 | range=>refine(strconv_ParseInt_10_at64_range s (by omega) ((parseIntB_64 _).trans h) _ w d (.inr ⟨_,_,rfl⟩)).mono ?_;rintro e b⟨N,rfl,_,_,a⟩;exact⟨_,_,rfl,a,.inr ⟨by simp[numOf,h],_,_,rfl⟩⟩
theorem Ky(l:List UInt8):(bA l).toList=l:=by rw[ByteArray.toList_eq];simp[bA]
def ABW(l:List UInt8)(w:World)(e:Ending)(a:World):Prop:=∃(k n:Int)(t b:ByteArray)(ok:Bool),e=.returned (.tuple #[.agg #[Zi k,Zi n,.string t],.string b,.bool ok])/\Zb w a/\((ok=true/\∃r,Ej l=some ((k,n,t),r)/\b=bA r)\/(ok=false/\Ej l=none))
theorem mH{b:Nat}{v u f:Tv}{t:TypeId}(h:W.heap[b]? = some (Zk #[v,u,f] t (0,0))):W.cell? ⟨b,0,none⟩=some v/\W.cell? ⟨b,1,none⟩=some u/\W.cell? ⟨b,2,none⟩=some f:=by obtain⟨a,c,d,_⟩:=Db h;exact⟨a,c,d⟩
theorem Cz:(bA l).size=l.length:=by simp[bA,ByteArray.size]
theorem P1(c:UInt8)(l:List UInt8):(bA (Ao c l).1).size<=l.length:=by rw[Cz];have:=Gv c l;omega
theorem Ve(c:UInt8)(l:List UInt8):(bA (Ao c l).2.1).size<=l.length:=by rw[Cz];have:=Gv c l;omega
theorem Gm(s:Tb):s.data.toList.length=s.size:=by rw[X2];rfl
abbrev aL(W:World)(b:Nat)(a c d:Value):World:=((W.setCell ⟨b,0,none⟩ a).setCell ⟨b,1,none⟩ c).setCell ⟨b,2,none⟩ d
theorem pF(W:Tw)(b:Nat)(c0 c1 e a c d:Tv)(T:TypeId)(h:W.heap[b]? = some (Zk #[c0,c1,e] T (0,0))):
 (aL W b a c d).heap[b]? = some (Zk #[a,c,d] T (0,0)):=As _ b 2 _ T d (As _ b 1 _ T c (As _ b 0 _ T a h))
theorem AKP(W:Tw)(b:Nat)(c0 c1 e a c d:Tv)(T:TypeId)(h:W.heap[b]? = some (Zk #[c0,c1,e] T (0,0))):
 (W.setCell ⟨b,0,none⟩ a).cell? ⟨b,0,none⟩=some a/\((W.setCell ⟨b,0,none⟩ a).setCell ⟨b,1,none⟩ c).cell? ⟨b,1,none⟩=some c/\(((W.setCell ⟨b,0,none⟩ a).setCell ⟨b,1,none⟩ c).setCell ⟨b,2,none⟩ d).cell? ⟨b,2,none⟩=some d :=
 ⟨(Db (As _ b 0 _ T a h)).1,(Db (As _ b 1 _ T c (As _ b 0 _ T a h))).2.1,(Db (pF W b c0 c1 e a c d T h)).2.2.1⟩
theorem Fi(h:Below n w W){b:Nat}(a:n<=b)(c d e:Tv):Below n w (aL W b c d e) :=
 ((h.setCell (p:=⟨b,0,none⟩) a _).setCell (p:=⟨b,1,none⟩) a _).setCell (p:=⟨b,2,none⟩) a _
theorem iR(s:Tb)(w:Tw)(hs:s.size<=1000000)(he:Ik w):Zc 271 #[Zt s] w (ABW s.data.toList w):=by
 have I:=Aa (λW=>strings_CutPrefix s ⟨#[39]⟩ W);cases hp:Lib.hasPrefix s.data.toList [39] with
 | true=>
   have L:Lib.trimPrefix s.data.toList [39]=s.data.toList.drop 1:=by unfold Lib.trimPrefix;rw[hp];rfl
   have b:Hid (Ej s.data.toList=if (Ao 39 (s.data.toList.drop 1)).2.2=true then some ((2,0,bA (Ao 39 (s.data.toList.drop 1)).1),Lib.trimPrefix (Ao 39 (s.data.toList.drop 1)).2.1 [59]) else none):=Aa (by unfold Ej;rw[if_pos hp])
   have g:Hid (∀W,Zc 303 #[Zt s,Zt ⟨#[39]⟩] W λe Y=>e=Zr (Zu #[Zt (bA (s.data.toList.drop 1)),Zo true])/\Y=W):=Aa (λW=>by have:=I.o W;rw[show (⟨#[39]⟩:Tb).data.toList=[39] from rfl,hp,L] at this;exact this)
   have j:=Aa (λW=>L5 (bA (s.data.toList.drop 1)) 39 W (by rw[Cz,XL,Gm];unfold maxLen;omega));rw[B5] at j;have HT:=Aa (λ(x:Tb)W=>strings_TrimPrefix x ⟨#[59]⟩ W);have T:=Aa (λ(l:List UInt8)=>show (⟨(Lib.trimPrefix (bA l).data.toList (⟨#[59]⟩:Tb).data.toList).toArray⟩:Tb)=bA (Lib.trimPrefix l [59]) by rw[B5];rfl);generalize bA (s.data.toList.drop 1)=rs at *;clear I L hp;generalize Ao 39 (s.data.toList.drop 1)=U at *;obtain⟨c1,t,J⟩:=U;simp only at j b;generalize X:bA c1=O at *;generalize f:bA t=x2 at *;have i:=Aa f;clear X f;go_enter func271,ntmps271
   go_wp2_with (first
    | (go_at_call 303;refine(g.o _).mono ?_;rintro e w1⟨rfl,rfl⟩)
    | (go_at_call 130;refine(j.o _).mono ?_;rintro e M⟨rfl,a⟩;have c:=Aa a;have h:=Aa ((a.block w.heap.size (by simp)).trans (heap_alloc_new w _));obtain⟨z0,z1,z2,zf⟩:=Db h.o;have z:=zf 0;have D:=zf 1;have G:=zf 2;clear a zf)
    | (go_at_call 304;refine(HT.o _ _).mono ?_;rintro e N⟨rfl,h3⟩;obtain rfl:=h3.symm))
   obtain⟨p,q,r⟩:=mH (pF M w.heap.size _ _ _ (Zi 2) (Zi 0) (Zt O) _ h.o);refine bodyPost_ret (v:=Zu #[Zg #[Zi 2,Zi 0,Zt O],Zt ⟨(Lib.trimPrefix x2.data.toList [59]).toArray⟩,Zo J]) (by simp[results,results271,go_sem,p,q,r]) rfl ⟨2,0,O,_,J,rfl,Fi (b1c c.o) (Y9 _) _ _ _,?_⟩;rw[b.o];cases J with
   | true=>refine .inl ⟨rfl,_,rfl,?_⟩;rw[<-i.o];exact T.o t
   | false=>exact .inr ⟨rfl,rfl⟩
 | false=>
   have g:Hid (∀W,Zc 303 #[Zt s,Zt ⟨#[39]⟩] W λe Y=>e=Zr (Zu #[Zt s,Zo false])/\Y=W):=Aa (λW=>by
    have:=I.o W;rw[show (⟨#[39]⟩:Tb).data.toList=[39] from rfl,hp] at this;have L:Lib.trimPrefix s.data.toList [39]=s.data.toList:=by unfold Lib.trimPrefix;rw[hp];rfl
    rw[L] at this;exact this)
   have b:Hid (Ej s.data.toList=if (Ao 59 s.data.toList).1=Qm then some ((0,0,bA []),(Ao 59 s.data.toList).2.1) else (numOf (Ao 59 s.data.toList).1).map λn=>((1,n,bA []),(Ao 59 s.data.toList).2.1)):=Aa (by unfold Ej;rw[if_neg (by rw[hp];decide)]);have j:=Aa (λW=>L5 s 59 W (by unfold maxLen;omega));have y:=P1 59 s.data.toList;rw[Gm] at y
   have R:Hid (∀W,Zb w W->Zc 305 #[Zt (bA (Ao 59 s.data.toList).1),Zi 10,Zi 64] W (Ns (Ao 59 s.data.toList).1 W)):=Aa (λW hW=>by have:=Vf (bA (Ao 59 s.data.toList).1) W (by omega) (he.below hW);rw[B5] at this;exact this)
   have d:=Aa (Ky (Ao 59 s.data.toList).1);clear I hp he y;generalize Ao 59 s.data.toList=U at *;obtain⟨c1,t,J⟩:=U;simp only at j b R d;generalize f:bA t=x2 at *;have i:=Aa f;clear f
   by_cases hn:c1=Qm
   ·subst hn
    have ex:bA Qm=⟨#[110,117,108,108]⟩:=rfl;rw[ex] at j;clear ex R d;go_enter func271,ntmps271
    go_wp2_with (first
     | (go_at_call 303;refine(g.o _).mono ?_;rintro e w1⟨rfl,rfl⟩)
     | (go_at_call 130;refine(j.o _).mono ?_;rintro e M⟨rfl,a⟩;have c:=Aa a;have h:=Aa ((a.block w.heap.size (by simp)).trans (heap_alloc_new w _));obtain⟨z0,z1,z2,zf⟩:=Db h.o;have z:=zf 0;have D:=zf 1;have G:=zf 2;clear a zf))
    obtain⟨p,q,r⟩:=mH (pF M w.heap.size _ _ _ (Zi 0) (Zi 0) (Zt ⟨#[]⟩) _ h.o);refine bodyPost_ret (v:=Zu #[Zg #[Zi 0,Zi 0,Zt ⟨#[]⟩],Zt x2,Zo true]) (by simp[results,results271,go_sem,p,q,r]) rfl ⟨0,0,_,_,true,rfl,Fi (b1c c.o) (Y9 _) _ _ _,?_⟩;rw[b.o];exact .inl ⟨rfl,t,by simp[bA],i.o.symm⟩
   have ab:((bA c1).toList==[110,117,108,108])=false:=by rw[d.o];exact beq_eq_false_iff_ne.2 hn
   have aa:¬(bA c1).toList=[110,117,108,108]:=by rw[d.o];exact hn
   have HN:=Aa hn;clear d hn;generalize bA c1=O at *;go_enter func271,ntmps271
   go_wp2_with (first
    | (go_at_call 303;refine(g.o _).mono ?_;rintro e w1⟨rfl,rfl⟩)
    | (go_at_call 130;refine(j.o _).mono ?_;rintro e M⟨rfl,a⟩;have c:=Aa a;have k:=Aa ((a.block w.heap.size (by simp)).trans (heap_alloc_new w _));clear a)
    | (go_at_call 305;refine(R.o _ (b1c c.o)).mono ?_;rintro e N⟨n,er,rfl,m,o⟩;have P:=Aa m;have h:=Aa ((m.block w.heap.size (Ac k.o)).trans k.o);obtain⟨z0,z1,z2,zf⟩:=Db h.o;have z:=zf 0;have D:=zf 1;have G:=zf 2;clear m zf))
   have u:Hid (Zb w N):=Aa (Below.Ap (b1c c.o) P.o)
   rcases o with⟨V,rfl⟩|⟨V,ty,xx,rfl⟩
   ·go_region
    go_wp2;obtain⟨p,q,r⟩:=AKP N w.heap.size _ _ _ (Zi 1) (Zi n) (Zt ⟨#[]⟩) _ h.o;refine bodyPost_ret (v:=Zu #[Zg #[Zi 1,Zi n,Zt ⟨#[]⟩],Zt x2,Zo true]) (by simp[results,results271,go_sem,p,q,r]) rfl ⟨1,n,_,_,true,rfl,(Fi u.o (Y9 _) _ _ _).drew,?_⟩;rw[b.o,if_neg HN.o,V];exact .inl ⟨rfl,t,rfl,i.o.symm⟩
   go_region
   go_wp2;obtain⟨p,q,r⟩:=AKP N w.heap.size _ _ _ (Zi 1) (Zi n) (Zt ⟨#[]⟩) _ h.o;refine bodyPost_ret (v:=Zu #[Zg #[Zi 1,Zi n,Zt ⟨#[]⟩],Zt x2,Zo false]) (by simp[results,results271,go_sem,p,q,r]) rfl ⟨1,n,_,_,false,rfl,(Fi u.o (Y9 _) _ _ _).drew,?_⟩;rw[b.o,if_neg HN.o,V];exact .inr ⟨rfl,rfl⟩
def Fo:Nat->List UInt8->List UInt8
 | 0,l=>l
 | n+1,l=>Aw (Fo n l)
def Cj(n:Nat)(l:List UInt8):ByteArray:=bA (Ao 32 (Fo n l)).1
theorem Ug:∀(n:Nat)(l:List UInt8),(Fo n l).length<=l.length
 | 0,_=>Y9 _
 | n+1,l=>XE (Gi _) (Ug n l)
def ABd(l:List UInt8)(w:World)(e:Ending)(i:World):Prop:=∃(c1:Int)(a:ByteArray)(c:Int)(d:Bool)(f g:Int)(h b:ByteArray)(ok:Bool),e=.returned (.tuple #[.agg #[Zi c1,.string a,Zi c,.bool d,Zi f,Zi g,.string h],.string b,.bool ok])/\Zb w i/\((ok=true/\∃r,D0 l=some ((c1,a,c,d,f,g,h),r)/\b=bA r)\/(ok=false/\D0 l=none))
theorem AG8{r:List UInt8}{i k:Int}{v:AIE}(a:numOf (Ao 32 (Fo 0 l)).1=some i)(b:numOf (Ao 32 (Fo 2 l)).1=some k)(c:Ej (Fo 4 l)=some (v,r)):D0 l=some ((i,Cj 1 l,k,decide ((Ao 32 (Fo 3 l)).1=dS),v),r):=by simp only[Fo] at a b c;unfold D0;rw[a,b,c];rfl
theorem ABA(h:numOf (Ao 32 (Fo 0 l)).1=none):D0 l=none:=by simp only[Fo] at h;unfold D0;rw[h];rfl
theorem ABL(h:numOf (Ao 32 (Fo 2 l)).1=none):D0 l=none:=by simp only[Fo] at h;unfold D0;rw[h];cases numOf (Ao 32 l).1 <;> rfl
theorem ABE(h:Ej (Fo 4 l)=none):D0 l=none:=by
 simp only[Fo] at h;unfold D0;rw[h];cases numOf (Ao 32 l).1 with
 | none=>rfl
 | some a=>cases numOf (Ao 32 (Aw (Aw l))).1 <;> rfl
theorem Jz{b:Nat}{v u f a:Tv}{t:TypeId}(h:W.heap[b]? = some (Zk #[v,u,f,a] t (0,0))):W.cell? ⟨b,0,none⟩=some v/\W.cell? ⟨b,1,none⟩=some u/\W.cell? ⟨b,2,none⟩=some f/\W.cell? ⟨b,3,none⟩=some a/\∀i,W.frozen? ⟨b,i,none⟩=false:=B3 h
theorem F8{b:Nat}{v u f a e c d:Tv}{t:TypeId}(h:W.heap[b]? = some (Zk #[v,u,f,a,e,c,d] t (0,0))):
 W.cell? ⟨b,0,none⟩=some v/\W.cell? ⟨b,1,none⟩=some u/\W.cell? ⟨b,2,none⟩=some f/\W.cell? ⟨b,3,none⟩=some a/\W.cell? ⟨b,4,none⟩=some e/\W.cell? ⟨b,5,none⟩=some c/\W.cell? ⟨b,6,none⟩=some d/\∀i,W.frozen? ⟨b,i,none⟩=false:=by
 refine⟨?_,?_,?_,?_,?_,?_,?_,λi=>?_⟩
 all_goals first|(rw[World.frozen?,h];simp)|(simp[World.cell?,h])
abbrev AKf(W:World)(b:Nat)(a c d e f g h:Value):World:=((((((W.setCell ⟨b,0,none⟩ a).setCell ⟨b,1,none⟩ c).setCell ⟨b,2,none⟩ d).setCell ⟨b,3,none⟩ e).setCell ⟨b,4,none⟩ f).setCell ⟨b,5,none⟩ g).setCell ⟨b,6,none⟩ h
theorem ALC(W:Tw)(b:Nat)(w u n m l j i a c d e f g k:Tv)(T:TypeId)(h:W.heap[b]? = some (Zk #[w,u,n,m,l,j,i] T (0,0))):
 (W.setCell ⟨b,0,none⟩ a).cell? ⟨b,0,none⟩=some a/\((W.setCell ⟨b,0,none⟩ a).setCell ⟨b,1,none⟩ c).cell? ⟨b,1,none⟩=some c/\(((W.setCell ⟨b,0,none⟩ a).setCell ⟨b,1,none⟩ c).setCell ⟨b,2,none⟩ d).cell? ⟨b,2,none⟩=some d/\((((W.setCell ⟨b,0,none⟩ a).setCell ⟨b,1,none⟩ c).setCell ⟨b,2,none⟩ d).setCell ⟨b,3,none⟩ e).cell? ⟨b,3,none⟩=some e/\(((((W.setCell ⟨b,0,none⟩ a).setCell ⟨b,1,none⟩ c).setCell ⟨b,2,none⟩ d).setCell ⟨b,3,none⟩ e).setCell ⟨b,4,none⟩ f).cell? ⟨b,4,none⟩=some f/\((((((W.setCell ⟨b,0,none⟩ a).setCell ⟨b,1,none⟩ c).setCell ⟨b,2,none⟩ d).setCell ⟨b,3,none⟩ e).setCell ⟨b,4,none⟩ f).setCell ⟨b,5,none⟩ g).cell? ⟨b,5,none⟩=some g/\(((((((W.setCell ⟨b,0,none⟩ a).setCell ⟨b,1,none⟩ c).setCell ⟨b,2,none⟩ d).setCell ⟨b,3,none⟩ e).setCell ⟨b,4,none⟩ f).setCell ⟨b,5,none⟩ g).setCell ⟨b,6,none⟩ k).cell? ⟨b,6,none⟩=some k:=by
 have o:(W.setCell ⟨b,0,none⟩ a).heap[b]? = some (Zk #[a,u,n,m,l,j,i] T (0,0)):=by simpa using As W b 0 _ T a h
 have p:((W.setCell ⟨b,0,none⟩ a).setCell ⟨b,1,none⟩ c).heap[b]? = some (Zk #[a,c,n,m,l,j,i] T (0,0)):=by simpa using As (W.setCell ⟨b,0,none⟩ a) b 1 _ T c o
 have q:(((W.setCell ⟨b,0,none⟩ a).setCell ⟨b,1,none⟩ c).setCell ⟨b,2,none⟩ d).heap[b]? = some (Zk #[a,c,d,m,l,j,i] T (0,0)):=by simpa using As ((W.setCell ⟨b,0,none⟩ a).setCell ⟨b,1,none⟩ c) b 2 _ T d p
 have r:((((W.setCell ⟨b,0,none⟩ a).setCell ⟨b,1,none⟩ c).setCell ⟨b,2,none⟩ d).setCell ⟨b,3,none⟩ e).heap[b]? = some (Zk #[a,c,d,e,l,j,i] T (0,0)):=by simpa using As (((W.setCell ⟨b,0,none⟩ a).setCell ⟨b,1,none⟩ c).setCell ⟨b,2,none⟩ d) b 3 _ T e q
 have s:(((((W.setCell ⟨b,0,none⟩ a).setCell ⟨b,1,none⟩ c).setCell ⟨b,2,none⟩ d).setCell ⟨b,3,none⟩ e).setCell ⟨b,4,none⟩ f).heap[b]? = some (Zk #[a,c,d,e,f,j,i] T (0,0)):=by simpa using As ((((W.setCell ⟨b,0,none⟩ a).setCell ⟨b,1,none⟩ c).setCell ⟨b,2,none⟩ d).setCell ⟨b,3,none⟩ e) b 4 _ T f r
 have t:((((((W.setCell ⟨b,0,none⟩ a).setCell ⟨b,1,none⟩ c).setCell ⟨b,2,none⟩ d).setCell ⟨b,3,none⟩ e).setCell ⟨b,4,none⟩ f).setCell ⟨b,5,none⟩ g).heap[b]? = some (Zk #[a,c,d,e,f,g,i] T (0,0)):=by simpa using As (((((W.setCell ⟨b,0,none⟩ a).setCell ⟨b,1,none⟩ c).setCell ⟨b,2,none⟩ d).setCell ⟨b,3,none⟩ e).setCell ⟨b,4,none⟩ f) b 5 _ T g s
 have v:(((((((W.setCell ⟨b,0,none⟩ a).setCell ⟨b,1,none⟩ c).setCell ⟨b,2,none⟩ d).setCell ⟨b,3,none⟩ e).setCell ⟨b,4,none⟩ f).setCell ⟨b,5,none⟩ g).setCell ⟨b,6,none⟩ k).heap[b]? = some (Zk #[a,c,d,e,f,g,k] T (0,0)):=by simpa using As ((((((W.setCell ⟨b,0,none⟩ a).setCell ⟨b,1,none⟩ c).setCell ⟨b,2,none⟩ d).setCell ⟨b,3,none⟩ e).setCell ⟨b,4,none⟩ f).setCell ⟨b,5,none⟩ g) b 6 _ T k t
 exact⟨(F8 o).1,(F8 p).2.1,(F8 q).2.2.1,(F8 r).2.2.2.1,(F8 s).2.2.2.2.1,(F8 t).2.2.2.2.2.1,(F8 v).2.2.2.2.2.2.1⟩
theorem Rs(h:Below n w W){b:Nat}(a:n<=b)(c d e f g i j:Tv):Below n w (AKf W b c d e f g i j) :=
 ((((((h.setCell (p:=⟨b,0,none⟩) a _).setCell (p:=⟨b,1,none⟩) a _).setCell (p:=⟨b,2,none⟩) a _).setCell (p:=⟨b,3,none⟩) a _).setCell (p:=⟨b,4,none⟩) a _).setCell (p:=⟨b,5,none⟩) a _).setCell (p:=⟨b,6,none⟩) a _
theorem ABi(a b:List UInt8):(a==b)=decide (a=b):=by by_cases h:a=b <;> simp[h]
def AIs(k:Nat)(l:List UInt8):Array Value:=match k with
 | 0=>#[.string ⟨#[]⟩,.string ⟨#[]⟩,.string ⟨#[]⟩,.string ⟨#[]⟩]
 | 1=>#[.string (Cj 0 l),.string ⟨#[]⟩,.string ⟨#[]⟩,.string ⟨#[]⟩]
 | 2=>#[.string (Cj 0 l),.string (Cj 1 l),.string ⟨#[]⟩,.string ⟨#[]⟩]
 | 3=>#[.string (Cj 0 l),.string (Cj 1 l),.string (Cj 2 l),.string ⟨#[]⟩]
 | _=>#[.string (Cj 0 l),.string (Cj 1 l),.string (Cj 2 l),.string (Cj 3 l)]
theorem dX(s:ByteArray)(w:World)(hs:s.size<=1000000)(he:Ik w):Zc 229 #[.string s] w (ABd s.data.toList w):=by
 obtain⟨l,hl⟩:∃l,s.data.toList=l:=⟨_,rfl⟩;have ax:l.length<=1000000:=by rw[<-hl,Gm];exact hs
 have es:s=bA (Fo 0 l):=by rw[<-hl];exact(Ju s).symm
 rw[hl]
 have I:Hid (∀n W,Zc 130 #[.string (bA (Fo n l)),.string ⟨#[32]⟩] W λe w'=>∃z,e=.returned (.tuple #[.string (Cj n l),.string (bA (Fo (n+1) l)),.bool z])/\Zb W w'):=Aa (λn W=>by refine(L5 (bA (Fo n l)) 32 W (by rw[Cz];have:=Ug n l;unfold maxLen;omega)).mono ?_;rintro e w'⟨rfl,hb⟩;rw[B5];exact⟨_,rfl,hb⟩)
 have M:Hid (∀n W,Zb w W->Zc 185 #[.string (Cj n l)] W (Ns (Ao 32 (Fo n l)).1 W)):=Aa (λn W O=>by have:=Ud (Cj n l) W (by unfold Cj;have:=P1 32 (Fo n l);have:=Ug n l;omega) (he.below O);unfold Cj at this;rw[B5] at this;exact this)
 have Y:Hid (∀W,Zb w W->Zc 271 #[.string (bA (Fo 4 l))] W (ABW (Fo 4 l) W)):=Aa (λW O=>by have:=iR (bA (Fo 4 l)) W (by rw[Cz];have:=Ug 4 l;omega) (he.below O);rw[B5] at this;exact this)
 have X:Hid ((Cj 3 l).toList=(Ao 32 (Fo 3 l)).1):=Aa (Ky _);subst es;clear he hl hs;obtain⟨z0,z1,z2,z3⟩:=C1 w (.cells #[.int .i64 0,.string ⟨#[]⟩,.int .i64 0,.bool false,.int .i64 0,.int .i64 0,.string ⟨#[]⟩] 72) (.cells #[.string ⟨#[]⟩,.string ⟨#[]⟩,.string ⟨#[]⟩,.string ⟨#[]⟩] 352);have Z0:=Aa z0;have Z1:=Aa z1;have Z2:=Aa z2;have Z3:=Aa z3;clear z0 z1 z2 z3;go_enter func229,ntmps229;go_wp2_with fail
 go_loopw [0,13] (λvs vi wr=>∃k:Nat,k<=4/\vi=.int .i64 k/\vs=.string (bA (Fo k l))/\Hid (wr.heap[w.heap.size+1]? = some (.cells (AIs k l) 352 (0,0)))/\Hid (wr.heap[w.heap.size]? = some (.cells #[.int .i64 0,.string ⟨#[]⟩,.int .i64 0,.bool false,.int .i64 0,.int .i64 0,.string ⟨#[]⟩] 72 (0,0)))/\Hid (Zb w wr)) (λ_ vi _=>4-(intOf vi).toNat)
 case atStart=>exact⟨0,by decide,rfl,rfl,Z2,Z1,Z3⟩
 case round=>
  obtain⟨k,hk,rfl,rfl,a,f,i⟩:=hrel;clear Z0 Z1 Z2 Z3;obtain rfl|rfl|rfl|rfl|rfl:k=0\/k=1\/k=2\/k=3\/k=4:=by omega
  ·obtain⟨p0,y,D,G,h⟩:=Jz a.o
   have q:=h 0;clear h
   go_wp2_with (first
    | (go_at_call 130;refine(I.o 0 _).mono ?_;rintro e r⟨zz,rfl,b⟩;have c:=Aa b;have g:=Aa ((b.block (w.heap.size+1) (Ac a.o)).trans a.o);obtain⟨p0,y,D,G,h⟩:=Jz g.o;have q:=h 0;clear b h))
   have o:=Aa (As r (w.heap.size+1) 0 _ _ (.string (Cj 0 l)) g.o);have d:Hid (Zb w (r.setCell ⟨w.heap.size+1,0,none⟩ (.string (Cj 0 l)))):=Aa ((Below.Ap i.o c.o).setCell (p:=⟨w.heap.size+1,0,none⟩) (Y' _) _);have m:Hid ((r.setCell ⟨w.heap.size+1,0,none⟩ (.string (Cj 0 l))).heap[w.heap.size]? = some (.cells #[.int .i64 0,.string ⟨#[]⟩,.int .i64 0,.bool false,.int .i64 0,.int .i64 0,.string ⟨#[]⟩] 72 (0,0))):=Aa ((XN _ _ _ _ (by simp)).trans ((c.o.block w.heap.size (Ac f.o)).trans f.o))
   go_roundw
   case rel=>exact⟨1,by decide,rfl,rfl,o,m,d⟩
   case measure=>simp[intOf]
  ·obtain⟨p0,y,D,G,h⟩:=Jz a.o
   have q:=h 1;clear h
   go_wp2_with (first
    | (go_at_call 130;refine(I.o 1 _).mono ?_;rintro e r⟨zz,rfl,b⟩;have c:=Aa b;have g:=Aa ((b.block (w.heap.size+1) (Ac a.o)).trans a.o);obtain⟨p0,y,D,G,h⟩:=Jz g.o;have q:=h 1;clear b h))
   have o:=Aa (As r (w.heap.size+1) 1 _ _ (.string (Cj 1 l)) g.o);have d:Hid (Zb w (r.setCell ⟨w.heap.size+1,1,none⟩ (.string (Cj 1 l)))):=Aa ((Below.Ap i.o c.o).setCell (p:=⟨w.heap.size+1,1,none⟩) (Y' _) _);have m:Hid ((r.setCell ⟨w.heap.size+1,1,none⟩ (.string (Cj 1 l))).heap[w.heap.size]? = some (.cells #[.int .i64 0,.string ⟨#[]⟩,.int .i64 0,.bool false,.int .i64 0,.int .i64 0,.string ⟨#[]⟩] 72 (0,0))):=Aa ((XN _ _ _ _ (by simp)).trans ((c.o.block w.heap.size (Ac f.o)).trans f.o))
   go_roundw
   case rel=>exact⟨2,by decide,rfl,rfl,o,m,d⟩
   case measure=>simp[intOf]
  ·obtain⟨p0,y,D,G,h⟩:=Jz a.o
   have q:=h 2;clear h
   go_wp2_with (first
    | (go_at_call 130;refine(I.o 2 _).mono ?_;rintro e r⟨zz,rfl,b⟩;have c:=Aa b;have g:=Aa ((b.block (w.heap.size+1) (Ac a.o)).trans a.o);obtain⟨p0,y,D,G,h⟩:=Jz g.o;have q:=h 2;clear b h))
   have o:=Aa (As r (w.heap.size+1) 2 _ _ (.string (Cj 2 l)) g.o);have d:Hid (Zb w (r.setCell ⟨w.heap.size+1,2,none⟩ (.string (Cj 2 l)))):=Aa ((Below.Ap i.o c.o).setCell (p:=⟨w.heap.size+1,2,none⟩) (Y' _) _);have m:Hid ((r.setCell ⟨w.heap.size+1,2,none⟩ (.string (Cj 2 l))).heap[w.heap.size]? = some (.cells #[.int .i64 0,.string ⟨#[]⟩,.int .i64 0,.bool false,.int .i64 0,.int .i64 0,.string ⟨#[]⟩] 72 (0,0))):=Aa ((XN _ _ _ _ (by simp)).trans ((c.o.block w.heap.size (Ac f.o)).trans f.o))
   go_roundw
   case rel=>exact⟨3,by decide,rfl,rfl,o,m,d⟩
   case measure=>simp[intOf]
  ·obtain⟨p0,y,D,G,h⟩:=Jz a.o
   have q:=h 3;clear h
   go_wp2_with (first
    | (go_at_call 130;refine(I.o 3 _).mono ?_;rintro e r⟨zz,rfl,b⟩;have c:=Aa b;have g:=Aa ((b.block (w.heap.size+1) (Ac a.o)).trans a.o);obtain⟨p0,y,D,G,h⟩:=Jz g.o;have q:=h 3;clear b h))
   have o:=Aa (As r (w.heap.size+1) 3 _ _ (.string (Cj 3 l)) g.o);have d:Hid (Zb w (r.setCell ⟨w.heap.size+1,3,none⟩ (.string (Cj 3 l)))):=Aa ((Below.Ap i.o c.o).setCell (p:=⟨w.heap.size+1,3,none⟩) (Y' _) _);have m:Hid ((r.setCell ⟨w.heap.size+1,3,none⟩ (.string (Cj 3 l))).heap[w.heap.size]? = some (.cells #[.int .i64 0,.string ⟨#[]⟩,.int .i64 0,.bool false,.int .i64 0,.int .i64 0,.string ⟨#[]⟩] 72 (0,0))):=Aa ((XN _ _ _ _ (by simp)).trans ((c.o.block w.heap.size (Ac f.o)).trans f.o))
   go_roundw
   case rel=>exact⟨4,by decide,rfl,rfl,o,m,d⟩
   case measure=>simp[intOf]
  obtain⟨p0,y,D,G,_⟩:=Jz a.o
  have keep:∀W,Zb wr W->W.cell? ⟨w.heap.size+1,0,none⟩=some (.string (Cj 0 l))/\W.cell? ⟨w.heap.size+1,1,none⟩=some (.string (Cj 1 l))/\W.cell? ⟨w.heap.size+1,2,none⟩=some (.string (Cj 2 l))/\W.cell? ⟨w.heap.size+1,3,none⟩=some (.string (Cj 3 l)):=λW O=>by obtain⟨a0,a1,a2,a3,_⟩:=Jz ((O.block (w.heap.size+1) (Ac a.o)).trans a.o);exact⟨a0,a1,a2,a3⟩
  have HK:=Aa keep;have ay:=Ac a.o;clear keep
  go_wp2_with (first
   | (go_at_call_of 185 (#[.string (Cj 0 l)]:Array Value);refine(M.o 0 _ i.o).mono ?_;rintro e w3⟨n1,av,rfl,ac,ag⟩;have d:=Aa ac;have T:=Aa ag;clear ac ag p0 y D G;obtain⟨p0,y,D,G⟩:=HK.o _ d.o)
   | (go_at_call_of 185 (#[.string (Cj 2 l)]:Array Value);refine(M.o 2 _ (Below.Ap i.o d.o)).mono ?_;rintro e w4⟨n2,aw,rfl,ad,ah⟩;have R:=Aa (Below.Ap d.o ad);have U:=Aa ah;clear ad ah)
   | (go_at_call 271;refine(Y.o _ (Below.Ap i.o R.o)).mono ?_;rintro e w5⟨t,u,x,vb,ok,rfl,ae,ai⟩;have j:=Aa (Below.Ap R.o ae);have V:=Aa ai;have a7:=j.o.size;clear ae ai p0 y D G;obtain⟨p0,y,D,G⟩:=HK.o _ (j.o.alloc j.o.size (.cells #[.int .i64 t,.int .i64 u,.string x] 56)))
   | fail)
  have aa:Hid (∀W,Zb wr W->W.heap[w.heap.size]? = some (.cells #[.int .i64 0,.string ⟨#[]⟩,.int .i64 0,.bool false,.int .i64 0,.int .i64 0,.string ⟨#[]⟩] 72 (0,0))):=Aa (λW O=>(O.block w.heap.size (Ac f.o)).trans f.o);have HZ:Hid (Zb wr ((w5.alloc (.cells #[.int .i64 t,.int .i64 u,.string x] 56)).alloc (.cells #[.int .i64 n1,.string (Cj 1 l),.int .i64 n2,.bool ((Cj 3 l).toList==[109,117,115,116]),.int .i64 t,.int .i64 u,.string x] 72))):=Aa ((j.o.alloc j.o.size _).alloc (XE j.o.size (by rw[XH];exact Y' _)) _);have J:=Aa (heap_alloc_new (w5.alloc (.cells #[.int .i64 t,.int .i64 u,.string x] 56)) (.cells #[.int .i64 n1,.string (Cj 1 l),.int .i64 n2,.bool ((Cj 3 l).toList==[109,117,115,116]),.int .i64 t,.int .i64 u,.string x] 72));rw[XH] at J;have az:w5.heap.size+1≠w.heap.size:=by have:=j.o.size;omega
  have ak:((Cj 3 l).toList==[109,117,115,116])=decide ((Ao 32 (Fo 3 l)).1=dS):=by rw[X.o];exact ABi _ _
  generalize (w5.alloc (.cells #[.int .i64 t,.int .i64 u,.string x] 56)).alloc (.cells #[.int .i64 n1,.string (Cj 1 l),.int .i64 n2,.bool ((Cj 3 l).toList==[109,117,115,116]),.int .i64 t,.int .i64 u,.string x] 72)=wz at *;rw[ak] at J;have ab:=Aa (aa.o _ HZ.o);obtain⟨a0,a1,a2,a3,a4,a5,a6,L⟩:=F8 ab.o;obtain⟨b0,b1,b2,b3,b4,b5,b6,_⟩:=F8 J.o;have am:=L 0;have an:=L 1;have ao:=L 2;have ap:=L 3;have aq:=L 4;have ar:=L 5;have au:=L 6;have HY:=Aa (ALC wz w.heap.size _ _ _ _ _ _ _ (.int .i64 n1) (.string (Cj 1 l)) (.int .i64 n2) (.bool (decide ((Ao 32 (Fo 3 l)).1=dS))) (.int .i64 t) (.int .i64 u) (.string x) _ ab.o);have N:=Aa (Below.Ap i.o HZ.o);clear L p0 y D G ak J X M I Y HK aa f a
  rcases V.o with⟨rfl,r3,e3,rfl⟩|⟨rfl,e3⟩ <;> rcases T.o with⟨e1,rfl⟩|⟨e1,t1,q1,rfl⟩ <;> rcases U.o with⟨e2,rfl⟩|⟨e2,t2,q2,rfl⟩
  all_goals
   have E1:=Aa e1;have E2:=Aa e2;have E3:=Aa e3;clear e1 e2 e3 T U V;generalize aj:decide ((Ao 32 (Fo 3 l)).1=dS)=P at *;have al:=Aa aj;clear aj
   go_region
  all_goals
   go_wp2;obtain⟨y0,y1,y2,y3,y4,y5,y6⟩:=HY.o
   first
    | (refine bodyPost_ret (v:=.tuple #[.agg #[.int .i64 n1,.string (Cj 1 l),.int .i64 n2,.bool P,.int .i64 t,.int .i64 u,.string x],.string (bA r3),.bool true]) (by simp[results,results229,go_sem,y0,y1,y2,y3,y4,y5,y6];done) rfl ⟨n1,Cj 1 l,n2,P,t,u,x,_,true,rfl,(Rs N.o (Y9 _) _ _ _ _ _ _ _).drew,.inl ⟨rfl,r3,?_,rfl⟩⟩
       rw[AG8 E1.o E2.o E3.o,al.o])
    | (refine bodyPost_ret (v:=.tuple #[.agg #[.int .i64 n1,.string (Cj 1 l),.int .i64 n2,.bool P,.int .i64 t,.int .i64 u,.string x],.string (bA r3),.bool false]) (by simp[results,results229,go_sem,y0,y1,y2,y3,y4,y5,y6];done) rfl ⟨n1,Cj 1 l,n2,P,t,u,x,_,false,rfl,(Rs N.o (Y9 _) _ _ _ _ _ _ _).drew,.inr ⟨rfl,?_⟩⟩
       first|exact ABE E3.o|exact ABA E1.o|exact ABL E2.o)
    | (refine bodyPost_ret (v:=.tuple #[.agg #[.int .i64 n1,.string (Cj 1 l),.int .i64 n2,.bool P,.int .i64 t,.int .i64 u,.string x],.string vb,.bool false]) (by simp[results,results229,go_sem,y0,y1,y2,y3,y4,y5,y6];done) rfl ⟨n1,Cj 1 l,n2,P,t,u,x,_,false,rfl,(Rs N.o (Y9 _) _ _ _ _ _ _ _).drew,.inr ⟨rfl,?_⟩⟩
       first|exact ABE E3.o|exact ABA E1.o|exact ABL E2.o)
    | fail
def nC:Value->Nat
 | .string s=>s.size
 | _=>0
def sE(l:List UInt8)(w:World)(e:Ending)(b:World):Prop:=∃(a:Option Addr)(n c:Nat)(ok:Bool),e=.returned (.tuple #[.slice a n c,.bool ok])/\Zb w b/\((ok=true/\∃L,Dg l=some L/\n=L.length/\b.ownsRow w.heap.size 72 7 (.slice a n c) L.length (Av L))\/(ok=false/\Dg l=none))
theorem qE(L:List Aj)(c:Aj):Av (L++[c])=Av L++Cc c:=by simp[Av]
theorem AAN{base:Nat}{xs:List Tv}(h:w.ownsRow base T z v n xs):∃a c,v=Zs a n c:=by
 rcases Di h with⟨e,e0⟩|⟨g,c,e,_⟩
 ·exact⟨none,0,by rw[e,e0]⟩
 exact⟨_,c,e⟩
theorem Fu{base:Nat}{xs:List Tv}(h:w.ownsRow base T z v n xs)(a:v.ownBlock=some k):base<=k:=by
 rcases Di h with⟨e,_⟩|⟨g,c,e,b,_⟩
 ·rw[e] at a;cases a
 rw[e] at a;cases a;exact b
theorem aE(s:Tb)(w:Tw)(hs:s.size<=1000000)(he:Ik w):Zc 187 #[Zt s] w (sE s.data.toList w):=by
 obtain⟨l,hl⟩:∃l,s.data.toList=l:=⟨_,rfl⟩;have ag:l.length<=1000000:=by rw[<-hl,Gm];exact hs
 have es:s=bA l:=by rw[<-hl];exact(Ju s).symm
 rw[hl];obtain⟨iC,T,U,V,X⟩:=info_parts Kh;have v:=Zy T U V X
 have ac:Hid (∀(r:List UInt8)W,r.length<=1000000->Zb w W->Zc 229 #[Zt (bA r)] W (ABd r W)):=Aa (λr W hr hW=>by have:=dX (bA r) W (by rw[Cz];exact hr) (he.below hW);rw[B5] at this;exact this)
 subst es;clear he hl hs T U V X;go_enter func187,ntmps187;go_wp2_with fail
 go_loopw [0,4] (λvs vl wr=>∃(r:List UInt8)(L:List Aj)(a:To)(c:Nat),vs=Zt (bA r)/\vl=Zs a L.length c/\Hid (Dg l=(Dg r).map (L++·))/\L.length+r.length<=l.length/\Hid (wr.ownsRow w.heap.size 72 7 (Zs a L.length c) L.length (Av L))/\Hid (Zb w wr)) (λvs _ _=>nC vs)
 case atStart=>exact⟨l,[],none,0,rfl,rfl,Aa (by simp),by simp,Aa (XB ..),Aa (XD _ _)⟩
 case round=>
  obtain⟨r,L,a,c,rfl,rfl,I,hlen,G,d⟩:=hrel;cases r with
  | nil=>have e0:bA ([]:List UInt8)=⟨#[]⟩:=rfl;rw[e0];go_wp2_with fail;go_ret2;refine⟨a,L.length,c,true,rfl,d.o,.inl ⟨rfl,L,?_,rfl,G.o⟩⟩;rw[I.o,Kq];simp
  | cons x r=>
    have ah:((bA (x :: r)).toList==[])=false:=by rw[Ky];rfl
    have ae:¬(bA (x :: r)).toList=[]:=by rw[Ky];simp
    have HC:=Aa (ac.o (x :: r) wr (by simp only[XC] at hlen ⊢;omega) d.o);have HZ:Hid (nC (Zt (bA (x :: r)))=(x :: r).length):=Aa (by simp[nC,Cz]);have P:(x :: r).length<=l.length-L.length:=by omega
    have R:(x :: r)≠[]:=by simp
    generalize x :: r=xr at *;have M:=Aa R;have ab:=Aa P;clear R P;cases hrc:D0 xr with
    | none=>
      have HN:=Aa (Qt M.o hrc)
      have D:Hid (Zc 229 #[Zt (bA xr)] wr λe Y=>∃c1 f g i k m n b,e=Zr (Zu #[Zg #[Zi c1,Zt f,Zi g,Zo i,Zi k,Zi m,Zt n],Zt b,Zo false])/\Zb wr Y):=Aa (HC.o.mono (by
       rintro e Y⟨c1,f,g,i,k,m,n,b,ok,rfl,hb,⟨_,q,h,_⟩|⟨rfl,_⟩⟩
       ·rw[hrc] at h;cases h
       exact⟨c1,f,g,i,k,m,n,b,rfl,hb⟩))
      clear HC hrc
      go_wp2_with (first
       | (go_at_call 229;refine D.o.mono ?_;rintro e w2⟨c1,f,g,i,k,m,n,b,rfl,o⟩))
      go_ret2;refine⟨none,0,0,false,rfl,(Below.Ap d.o o).alloc (Below.Ap d.o o).size _,.inr ⟨rfl,?_⟩⟩;rw[I.o,HN.o];rfl
    | some p=>
      obtain⟨⟨c1,f,g,i,k,m,n⟩,r2⟩:=p;have HN:=Aa (Jv M.o hrc);have ad:=Ru hrc
      have D:Hid (Zc 229 #[Zt (bA xr)] wr λe Y=>e=Zr (Zu #[Zg #[Zi c1,Zt f,Zi g,Zo i,Zi k,Zi m,Zt n],Zt (bA r2),Zo true])/\Zb wr Y):=Aa (HC.o.mono (by
       rintro e Y⟨d1,d2,d3,d4,d5,d6,d7,b,ok,rfl,hb,⟨rfl,q,h,rfl⟩|⟨_,h⟩⟩
       ·rw[hrc] at h;cases h;exact⟨rfl,hb⟩
       rw[hrc] at h;cases h))
      clear HC hrc;have af:=ab.o
      go_wp2_with (first
       | (go_at_call 229;refine D.o.mono ?_;rintro e w2⟨rfl,o⟩;have z:=Aa o;have y:Hid (Zb w2 ((w2.alloc (Zk #[Zi c1,Zt f,Zi g,Zo i,Zi k,Zi m,Zt n] 72)).alloc (Zk #[Zi c1,Zt f,Zi g,Zo i,Zi k,Zi m,Zt n] 72))):=Aa ((Zal).alloc (by rw[XH];exact Y' _) _);clear o)
       | (at_builtin;refine wpList_append_own _ rfl _ _ 34 rfl w.heap.size 72 iC L6 7 72 underlying34 v.o.1 v.o.2.1 v.o.2.2.1 v.o.2.2.2 rfl (by decide) (.slice a L.length c) L.length (Av L) rfl (Bc (Bc G.o z.o) y.o) ⟨w2.heap.size+1,0,none⟩ 1 1 (Cc (c1,f,g,i,k,m,n)) rfl rfl (λj u hj=>XM (by rw[<-XH w2 (.cells #[Zi c1,.string f,Zi g,.bool i,Zi k,Zi m,.string n] 72)];exact heap_alloc_new _ _) j u hj) (by intro u hu;simp[Cc] at hu;rcases hu with rfl|rfl|rfl|rfl|rfl|rfl|rfl <;> rfl) (by unfold maxLen;omega) (by omega) (XE d.o.size (XE z.o.size y.o.size)) ?_
          intro v1 w3 t O _;have J:=Aa t;have aa:=Aa O;clear t O))
      obtain⟨a',c',rfl⟩:=AAN J.o;have N:=Below.Ap (Below.Ap d.o z.o) y.o;refine⟨⟨r2,L++[(c1,f,g,i,k,m,n)],a',c',rfl,by simp,Aa ?_,?_,Aa ?_,Aa (N.grown aa.o N.size (λj hj=>Fu G.o hj))⟩,?_⟩
      ·rw[I.o,HN.o]
       cases Dg r2 <;> simp
      ·simp only[XF,XC,XJ]
       omega
      ·rw[qE]
       simpa using J.o
      simp only[nC,Cz];exact ad
variable{w:Tw}{r:List UInt8}
attribute [local go_sem] Oper.semAt_some
theorem ADX(s:Tb)(w:Tw):
 Zc 131 #[Zt s] w λe a=>e=Zr (.func (.func 183) #[] #[Zp (some ⟨w.heap.size,0,none⟩)])/\a=w.alloc (Zk #[Zt s] 9):=by
 go_enter func131,ntmps131;go_wp2;go_ret;exact⟨rfl,rfl⟩
def mV(B:Nat)(w:World):Nat:=match w.cell? ⟨B,0,none⟩ with
 | some (.string s)=>s.size
 | _=>0
theorem Mt{B:Nat}(h:w.cell? ⟨B,0,none⟩=some (Zt (bA r))):mV B w=r.length:=by unfold mV;rw[h];exact Cz
def iN(B:Nat)(r:List UInt8)(w:World):Prop:=w.heap[B]? = some (.cells #[.string (bA r)] 9 (0,0))
theorem iN.cell{B:Nat}{r:List UInt8}{w:Tw}(h:iN B r w):w.cell? ⟨B,0,none⟩=some (Zt (bA r)):=by have a:w.heap[B]? = _:=h;simp[World.cell?,a]
theorem iN.frozen{B:Nat}{r:List UInt8}{w:Tw}(h:iN B r w):w.frozen? ⟨B,0,none⟩=false:=by have a:w.heap[B]? = _:=h;simp[World.frozen?,a]
theorem iN.put{B:Nat}(h:iN B r w)(q:List UInt8):iN B q (w.setCell ⟨B,0,none⟩ (Zt (bA q))):=As w B 0 _ _ _ h
theorem AGK(a:List UInt8):Lib.trimSuffix (a++[10]) [10]=a:=by unfold Lib.trimSuffix Lib.hasSuffix;rw[if_pos (by rw[XR];exact⟨a,rfl⟩)];simp
theorem ABn{a:List UInt8}(h:(10:UInt8) ∉ a):Lib.trimSuffix a [10]=a:=by
 unfold Lib.trimSuffix Lib.hasSuffix
 rw[if_neg (by rw[XR];rintro⟨t,rfl⟩;exact h (by simp))]
theorem ADN(n:Nat)(_hn:1<=n)(l B:Nat)(j:List UInt8)(hlen:j.length<=1000000)(I:List (List UInt8)->Tw->Prop)(U:Tw->Prop)(P:∀pre W,I pre W->I pre W.drew)(y:∀pre W v,I pre W->I pre (W.setCell ⟨B,0,none⟩ v))(Y:∀pre a s W v,(∃t,Dp j=pre++a :: t)->Lib.trimSuffix s [10]=a->s.length<=1000000->I pre W->iN B v W->YieldAt Fence.wide (n-1) prog l #[Zt (bA s)] W λe u=>
   (e=Zr (Zo true)/\I (pre++[a]) u/\iN B v u)\/(e=Zr (Zo false)/\U u))(W:Tw)(hB:iN B j W)(h0:I [] W):
 CallsIn Fence.wide n prog 183 #[.func (.yield l) #[] #[],Zp (some ⟨B,0,none⟩)] W λe u=>(∃v,e=Zr v)/\(I (Dp j) u\/U u):=by
 refine callsIn_of_wp func183 rfl trivial ?_ rfl;simp only[ntmps183,WB,XC,XJ,Nat.reduceAdd,Nat.reduceSub,XX,XY,WC,X4,XW,XO];gi_wp2
 gi_loopw [3] (λ_ wr=>∃(pre:List (List UInt8))(r:List UInt8),Hid (Dp j=pre++Dp r)/\r.length<=1000000/\Hid (I pre wr)/\Hid (iN B r wr)) (λ_ wr=>mV B wr)
 case atStart=>exact⟨[],j,Aa rfl,hlen,Aa h0,Aa hB⟩
 case round=>
  obtain⟨pre,r,x,hr,M,J⟩:=hrel;have hc:=J.o.cell;have hf:=J.o.frozen
  by_cases he:r=[]
  ·subst he
   have e0:bA ([]:List UInt8)=⟨#[]⟩:=rfl;rw[e0] at hc;gi_wp2
   go_end0
   refine⟨⟨_,rfl⟩,.inl ?_⟩;rw[x.o,Jf,List.append_nil];exact M.o
  have D:0<r.length:=List.length_pos_iff.2 he;have T:(bA r).size=r.length:=Cz;have R:(0:Int)<((bA r).size:Int):=by omega
  have z:=Mt hc;have d:=Aa (λW=>strings_IndexByte (bA r) 10 W);rw[B5,show ((10:Int).toNat.toUInt8)=10 from rfl] at d
  rcases O3 r 10 with o|⟨i,o⟩
  ·have b:=Np o
   rw[o] at d
   have g:(10:UInt8) ∉ r:=by
    rcases Rj 10 r with⟨X,_⟩|⟨_,h⟩
    ·rw[b] at X;cases X
    exact h
   have c:Dp r=r :: Dp []:=by rw[J1 he,b]
   obtain⟨fn,tmps,assign,body,hy,w⟩:=Y pre r r (wr.setCell ⟨B,0,none⟩ (Zt ⟨#[]⟩)) [] ⟨_,by rw[x.o,c]⟩ (ABn g) hr (y _ _ _ M.o) (J.o.put []);have N:=Aa w;have k:Hid (Dp j=(pre++[r])++Dp []):=Aa (by rw[x.o,c];simp);clear o b c w g;gi_wp2_with (refine⟨trivial,?_⟩;gi_at_call 184;refine(callsIn_wide.2 (d.o _)).mono ?_;rintro e w1⟨rfl,rfl⟩);refine N.o.mono ?_;rintro e W3 (⟨rfl,m,f⟩|⟨rfl,q⟩)
   ·gi_wp2
    go_roundw
    case rel=>exact⟨pre++[r],[],k,by simp,Aa m,Aa f⟩
    case measure=>rw[Mt f.cell,z];exact D
   gi_wp2;refine bodyPost_ret (results_none rfl _ _ _) rfl ?_;exact⟨⟨_,rfl⟩,.inr q⟩
  obtain⟨b,p⟩:=J0 o;rw[o] at d;have V:bA (r.take (i+1))=(bA r).extract 0 (i+1):=by rw[extract_eq,B5];simp[bA]
  have L:bA (r.drop (i+1))=(bA r).extract (i+1) (bA r).size:=by rw[extract_eq,B5,Yd (by rw[XL,Cz];exact Y9 _)];rfl
  have G:r.take (i+1)=r.take i++[10]:=by
   rcases Rj 10 r with⟨_,O,_⟩|⟨h,_⟩
   ·rw[b] at O
    simp only at O
    have h3:r[i]? = some 10:=by rw[O,List.getElem?_append_right (by rw[XK];exact Nat.min_le_left _ _),XK,YY (YD p),YV];rfl
    rw[YO,h3];rfl
   rw[b] at h;simp at h
  have c:Dp r=r.take i :: Dp (r.drop (i+1)):=by rw[J1 he,b]
  obtain⟨fn,tmps,assign,body,hy,w⟩:=Y pre (r.take i) (r.take (i+1)) (wr.setCell ⟨B,0,none⟩ (Zt (bA (r.drop (i+1))))).drew (r.drop (i+1)) ⟨_,by rw[x.o,c]⟩ (by rw[G];exact AGK _) (by rw[XK];omega) (P _ _ (y _ _ _ M.o)) (J.o.put (r.drop (i+1)));rw[V,L] at hy;rw[L] at w;have N:=Aa w;have k:Hid (Dp j=(pre++[r.take i])++Dp (r.drop (i+1))):=Aa (by rw[x.o,c];simp);have aa:=Aa L;have ab:=Aa p;have c1:(0:Int)<=(i:Int):=by omega
  have c0:(i:Int)<=1000000:=by omega
  have c3:(0:Int)<=(i:Int)+1:=by omega
  have c4:(i:Int)+1<=((bA r).size:Int):=by omega
  clear o b c w G V L p T;gi_wp2_with (refine⟨trivial,?_⟩;gi_at_call 184;refine(callsIn_wide.2 (d.o _)).mono ?_;rintro e w1⟨rfl,rfl⟩);refine wpIn_wide.2 ?_
  go_region
  all_goals gi_wp2
  refine N.o.mono ?_;rintro e W3 (⟨rfl,m,f⟩|⟨rfl,q⟩)
  ·gi_wp2
   go_roundw
   case rel=>exact⟨pre++[r.take i],r.drop (i+1),k,by rw[XL];omega,Aa m,Aa f⟩
   case measure=>rw[Mt f.cell,z,XL];omega
  gi_wp2;refine bodyPost_ret (results_none rfl _ _ _) rfl ?_;exact⟨⟨_,rfl⟩,.inr q⟩
variable{W w:Tw}{n z:Nat}{v:Tv}
def iM{β:Type}(B a:Nat)(J:β->World->Prop):Prop:=∀b X Y row,J b X->X.grownBy Y row->(∀r,row=some r->r=B\/(a<=r/\∃o:Obj,X.heap[r]? = some o/\o.isCells=false))->J b Y
theorem iM.drew{β:Type}{B n:Nat}{J:β->Tw->Prop}(h:iM B n J){b:β}{W:Tw}(a:J b W):J b W.drew :=
 h b W _ none a ⟨rfl,rfl,rfl,Y9 _,λ_ _ _=>rfl⟩ (λr e=>by cases e)
theorem iM.set{β:Type}{B n:Nat}{J:β->Tw->Prop}(h:iM B n J){b:β}(a:J b W)(v:Tv):J b (W.setCell ⟨B,0,none⟩ v) :=
 h b W _ (some B) a (Aq W B 0 v) (λr e=>by injection e with e;exact .inl e.symm)
theorem iM.alloc{β:Type}{B n:Nat}{J:β->Tw->Prop}(h:iM B n J){b:β}{W:Tw}(a:J b W)(o:Obj):J b (W.alloc o) :=
 h b W _ none a (World.grownBy_alloc W o none) (λr e=>by cases e)
theorem iM.put{β:Type}{B n:Nat}{J:β->Tw->Prop}(h:iM B n J){b:β}(d:J b W){r:Nat}{o:Obj}(f:W.heap[r]? = some o)(c:o.isCells=false)(g:n<=r)(a:Obj):J b (W.putObj r a) :=
 h b W _ (some r) d (grownBy_putObj' W r a) (λq e=>by injection e with e;subst e;exact .inr ⟨g,o,f,c⟩)
def aX{β:Type}(m gf:Nat)(lb:Array Value)(B:Nat)(R:β->Array Value->β->Prop)(i:β)(E:β->Prop)(f:List UInt8->World->Prop)(h:World->Prop):Prop :=
 ∀(l:Nat)(J:β->World->Prop)(c:World->Prop)(W:World),iM B W.heap.size J->iM B W.heap.size (λ(_:Unit)=>c) ->
  (∀b args g d v,R b args g->J b d->f v d->YieldAt Fence.wide (m-1) prog l args d λe a=>(e=.returned (.bool true)/\J g a/\f v a)\/(e=.returned (.bool false)/\c a)) ->
  h W->J i W->CallsIn Fence.wide m prog gf (#[.func (.yield l) #[] #[]]++lb) W λe a=>(∃v,e=.returned v)/\((∃b,E b/\J b a)\/c a)
def AA1{β:Type}(w0:Nat)(b:List UInt8->World->Prop)(v:List UInt8)(I:β->World->Prop)(a:Code->World->Prop)(c:β)(W:World):Exit->Act->World->Prop
 | .normal,_,W'=>KeepsFrom w0 W W'/\I c W'/\b v W'
 | .ret,_,W'=>KeepsFrom w0 W W'/\a .ret W'
 | _,_,_=>False
theorem ADO{β:Type}{g:Operand}{ps:Array Tmp}{assign body:Code}{Q:Exit->Act->Tw->Prop}{a:Act}(h1:1<=n){gf:Nat}{lb:Array Tv}(hg:a.eval g=.func (.func gf) #[] lb)(eg:∀args w,(callFunc gf args).run prog w=.ok (.enter gf args) w){B:Nat}{R:β->Array Tv->β->Prop}{b0:β}{E:β->Prop}{Kp:List UInt8->Tw->Prop}{T0:Tw->Prop}(af:aX (n-1) gf lb B R b0 E Kp T0)(ac:∀v X r o o',Kp v X->X.heap[r]? = some o->o.isCells=false->Kp v (X.putObj r o'))(ae:∀b args L,R b args L->args.size=ps.size)(ap:B≠w.heap.size)(aq:B≠w.heap.size+1)(I:β->Tw->Prop)(Ix:Code->Tw->Prop)(hI:iM B w.heap.size I)(M:∀c,iM B w.heap.size (λ(_:Unit)=>Ix c))(h0:I b0 w)(hT:∀r,T0 ((w.alloc (.deferred (some []))).alloc (.loop r)))(a1:Array Tv->Act)(z:∀(l:Nat)(args:Array Tv)(W:Tw)(K:Act->Tw->Prop),args.size=ps.size->K (a1 args) W ->
   assign.wpIn (Fence.wide.inRound l) (n-1-1) prog (Exit.then K (λ_ _ _=>False)) { tmps:=(ps.zip args).foldl (λt(p,v)=>t.setIfInBounds p v) a.tmps,defers:=[] } W)(N:∀(l:Nat)(b:β)(args:Array Tv)(L:β)(W:Tw)(v:List UInt8),w.heap.size<=l->R b args L->I b W->Kp v W->body.wpIn (Fence.wide.inRound l) (n-1-1) prog (AA1 w.heap.size Kp v I Ix L W) (a1 args) W)(O:∀(D:Nat)(b:β)(W:Tw),w.heap.size<=D->E b->I b W->W.heap[D]? = some (.deferred (some []))->Q .normal { a with defers:={ target:=.collected D,args:=#[] } :: a.defers } W)(aa:∀(D:Nat)(c:Code)(W:Tw),w.heap.size<=D->Ix c W->W.heap[D]? = some (.deferred (some []))->c.wpIn Fence.wide n prog Q { a with defers:={ target:=.collected D,args:=#[] } :: a.defers } W):
 (Code.rangeFunc g ps assign body).wpIn Fence.wide n prog Q a w:=by
 refine wpIn_rangeFunc λfn ak=>?_
 obtain⟨d,f⟩:∃d:LoopState->Option Code->Loop,d=λst pe=>{ state:=st,pending:=pe,fn,tmps:=a.tmps,params:=ps,assign,body,defers:=w.heap.size }:=⟨_,rfl⟩
 obtain⟨u,x⟩:∃u,(w.alloc (.deferred (some []))).alloc (.loop (d .ready none))=u:=⟨_,rfl⟩;have ar:u.heap.size=w.heap.size+2:=by rw[<-x];simp
 have ai:u.heap[w.heap.size+1]? = some (.loop (d .ready none)):=by rw[<-x];have:=XZ (w.alloc (.deferred (some []))) (.loop (d .ready none));rwa[XH] at this
 have ah:u.heap[w.heap.size]? = some (.deferred (some [])):=by rw[<-x];exact(XT _ _ _ (by simp)).trans (XZ w _)
 have ag:I b0 u:=by rw[<-x];exact hI.alloc (hI.alloc h0 _) _
 have aj:T0 u:=by rw[<-x];exact hT _
 have m:∀{X Y:Tw}{row:Option Nat}(k:Nat)(o:Obj),k<w.heap.size+2->w.heap.size<=k->X.heap[k]? = some o->X.grownBy Y row->(∀r,row=some r->r=B\/(u.heap.size<=r/\∃o:Obj,X.heap[r]? = some o/\o.isCells=false))->Y.heap[k]? = some o:=by
  intro X Y row k o hk ad ho i s;refine(i.block k (Ac ho) (λe=>?_)).trans ho
  rcases s k e.symm with h|⟨h,_⟩
  ·omega
  omega
 have lift:∀{X:Tw}{row:Option Nat},(∀r,row=some r->r=B\/(u.heap.size<=r/\∃o:Obj,X.heap[r]? = some o/\o.isCells=false))->∀r,row=some r->r=B\/(w.heap.size<=r/\∃o:Obj,X.heap[r]? = some o/\o.isCells=false) :=
  λs r e=>(s r e).imp id (λ⟨q,o⟩=>⟨by omega,o⟩)
 refine⟨w.heap.size+1,[{ target:=.collected w.heap.size,args:=#[] }],u,{ target:=.fn (.func gf) lb,args:=#[.func (.yield (w.heap.size+1)) #[] #[]] },u,gf,
  #[.func (.yield (w.heap.size+1)) #[] #[]]++lb,u,?_,?_,λ_ _=>trivial,?_,λ_=>h1,?_⟩
 ·rw[<-x,f];exact run_enterLoop_outer _ _ _ _ _
 ·simp only[resolve,hg]
  simp[go_sem]
 ·simp[invoke,go_sem,eg]
 refine(af (w.heap.size+1)
  (λb W=>I b W/\W.heap[w.heap.size+1]? = some (.loop (d .ready none))/\W.heap[w.heap.size]? = some (.deferred (some [])))
  (λW=>∃c,Ix c W/\W.heap[w.heap.size+1]? = some (.loop (d .done (some c)))/\W.heap[w.heap.size]? = some (.deferred (some []))) u
  (λb X Y row hs i s=>⟨hI b X Y row hs.1 i (lift s),m _ _ (by omega) (by omega) hs.2.1 i s,m _ _ (by omega) (by omega) hs.2.2 i s⟩)
  (λb X Y row hs i s=>by obtain⟨c,hc,q1,q2⟩:=hs;exact⟨c,M c () X Y row hc i (lift s),m _ _ (by omega) (by omega) q1 i s,m _ _ (by omega) (by omega) q2 i s⟩)
  ?_ aj ⟨ag,ai,ah⟩).mono ?_
 ·rintro b args L W v hR⟨hi,G,hk⟩hv
  have am:w.heap.size+1<W.heap.size:=Ac G;have hy:=run_yield (P:=prog) (args:=args) G (by rw[f];exact ae b args L hR);rw[f] at hy;refine⟨fn,_,assign,body,hy,roundIn_of_wpIn ak (z _ args W _ (ae b args L hR) ⟨_,run_beginRound G (by rw[f]),?_⟩)⟩;have al:(W.putObj (w.heap.size+1) (.loop { d .ready none with state:=.busy })).heap[w.heap.size+1]? = some (.loop { d .ready none with state:=.busy }):=XV am;have ad:(W.putObj (w.heap.size+1) (.loop { d .ready none with state:=.busy })).heap[w.heap.size]? = some (.deferred (some [])):=(XA (by omega)).trans hk;have an:Kp v (W.putObj (w.heap.size+1) (.loop { d .ready none with state:=.busy })):=ac _ _ _ _ _ hv G rfl;refine wpIn_mono (N _ b args L _ v (by omega) hR (hI.put hi G rfl (by omega) _) an) ?_
  have ab:∀(jump:Option Code)(J:Tw),KeepsFrom w.heap.size (W.putObj (w.heap.size+1) (.loop { d .ready none with state:=.busy })) J ->
   (Instr.endRound (w.heap.size+1) jump).run prog J=.ok (Zo jump.isNone) (J.putObj (w.heap.size+1) (.loop (d (if jump.isNone then .ready else .done) jump))) /\
   J.heap[w.heap.size+1]? = some (.loop { d .ready none with state:=.busy }) /\
   (J.putObj (w.heap.size+1) (.loop (d (if jump.isNone then .ready else .done) jump))).heap[w.heap.size+1]? = some (.loop (d (if jump.isNone then .ready else .done) jump)) /\
   (J.putObj (w.heap.size+1) (.loop (d (if jump.isNone then .ready else .done) jump))).heap[w.heap.size]? = some (.deferred (some [])):=λjump J y=>by
   have j:=y.same _ _ (by omega) al rfl;have:=run_endRound (P:=prog) jump j;rw[f] at this ⊢;exact⟨this,by rw[f] at j;exact j,XV (Ac j),(XA (by omega)).trans (y.same _ _ (Y9 _) ad rfl)⟩
  rintro e a3 J hp;cases e with
  | normal=>obtain⟨y,T,ao⟩:=hp;obtain⟨s,j,V,U⟩:=ab none J y;exact⟨_,_,s,.inl ⟨rfl,⟨hI.put T j rfl (by omega) _,V,U⟩,ac _ _ _ _ _ ao j rfl⟩⟩
  | ret=>obtain⟨y,T⟩:=hp;obtain⟨s,j,V,U⟩:=ab (some .ret) J y;exact⟨_,_,s,.inr ⟨rfl,.ret,(M .ret).put (b:=()) T j rfl (by omega) _,V,U⟩⟩
  | exit id=>exact hp.elim
  | goto t=>exact hp.elim
  | panic ch=>exact hp.elim
  | outgrown=>exact hp.elim
 rintro e W2⟨⟨v,rfl⟩,(⟨b,hE,hi,G,hk⟩|⟨c,hi,G,hk⟩)⟩
 ·exact⟨none,_,by have:=run_endLoop (P:=prog) G (by rw[f];simp);rw[f] at this;exact this,O _ b _ (Y9 _) hE (hI.put hi G rfl (by omega) _) ((XA (by omega)).trans hk)⟩
 exact⟨some c,_,by have:=run_endLoop (P:=prog) G (by rw[f];simp);rw[f] at this;exact this,aa _ c _ (Y9 _) ((M c).put (b:=()) hi G rfl (by omega) _) ((XA (by omega)).trans hk)⟩
theorem iN.kept{B:Nat}{r:List UInt8}{X:Tw}{q:Nat}{o d:Obj}(h:iN B r X)(a:X.heap[q]? = some o)(c:o.isCells=false):iN B r (X.putObj q d):=by refine(XA (λe=>?_)).trans h;subst e;have b:X.heap[B]? = _:=h;rw[b] at a;cases a;cases c
theorem AAH(m B:Nat)(p:1<=m)(d:List UInt8)(hlen:d.length<=1000000):
 aX m 183 #[Zp (some ⟨B,0,none⟩)] B (λ(pre:List (List UInt8))args c=>∃a b t,args=#[Zt (bA b)]/\Dp d=pre++a :: t/\Lib.trimSuffix b [10]=a/\b.length<=1000000/\c=pre++[a]) [] (λpre=>pre=Dp d) (iN B) (iN B d):=by
 intro l J i W g k o n j;refine(ADN m p l B d hlen J i (λpre W h=>g.drew h) (λpre W v h=>g.set h v) (λpre a b W1 v ht hr hl hj f=>by obtain⟨t,ht⟩:=ht;exact o pre _ (pre++[a]) W1 v ⟨a,b,t,rfl,ht,hr,hl,rfl⟩ hj f) W n j).mono ?_;rintro e q⟨f,h|h⟩
 ·exact⟨f,.inl ⟨_,rfl,h⟩⟩
 exact⟨f,.inr h⟩
theorem Iu{b:Nat}{v u f a e c:Tv}{t:TypeId}(h:W.heap[b]? = some (Zk #[v,u,f,a,e,c] t (0,0))):
 W.cell? ⟨b,0,none⟩=some v/\W.cell? ⟨b,1,none⟩=some u/\W.cell? ⟨b,2,none⟩=some f/\W.cell? ⟨b,3,none⟩=some a/\W.cell? ⟨b,4,none⟩=some e/\W.cell? ⟨b,5,none⟩=some c/\∀i,W.frozen? ⟨b,i,none⟩=false:=by
 refine⟨?_,?_,?_,?_,?_,?_,λi=>?_⟩
 all_goals first|(rw[World.frozen?,h];simp)|(simp[World.cell?,h])
abbrev AJS(W:World)(b:Nat)(a c d e f g:Value):World:=(((((W.setCell ⟨b,0,none⟩ a).setCell ⟨b,1,none⟩ c).setCell ⟨b,2,none⟩ d).setCell ⟨b,3,none⟩ e).setCell ⟨b,4,none⟩ f).setCell ⟨b,5,none⟩ g
theorem oA(W:Tw)(b:Nat)(t r l k j g a c d e f i:Tv)(T:TypeId)(h:W.heap[b]? = some (Zk #[t,r,l,k,j,g] T (0,0))):
 (W.setCell ⟨b,0,none⟩ a).cell? ⟨b,0,none⟩=some a/\((W.setCell ⟨b,0,none⟩ a).setCell ⟨b,1,none⟩ c).cell? ⟨b,1,none⟩=some c/\(((W.setCell ⟨b,0,none⟩ a).setCell ⟨b,1,none⟩ c).setCell ⟨b,2,none⟩ d).cell? ⟨b,2,none⟩=some d/\((((W.setCell ⟨b,0,none⟩ a).setCell ⟨b,1,none⟩ c).setCell ⟨b,2,none⟩ d).setCell ⟨b,3,none⟩ e).cell? ⟨b,3,none⟩=some e/\(((((W.setCell ⟨b,0,none⟩ a).setCell ⟨b,1,none⟩ c).setCell ⟨b,2,none⟩ d).setCell ⟨b,3,none⟩ e).setCell ⟨b,4,none⟩ f).cell? ⟨b,4,none⟩=some f/\((((((W.setCell ⟨b,0,none⟩ a).setCell ⟨b,1,none⟩ c).setCell ⟨b,2,none⟩ d).setCell ⟨b,3,none⟩ e).setCell ⟨b,4,none⟩ f).setCell ⟨b,5,none⟩ i).cell? ⟨b,5,none⟩=some i:=by
 have m:(W.setCell ⟨b,0,none⟩ a).heap[b]? = some (Zk #[a,r,l,k,j,g] T (0,0)):=by simpa using As W b 0 _ T a h
 have n:((W.setCell ⟨b,0,none⟩ a).setCell ⟨b,1,none⟩ c).heap[b]? = some (Zk #[a,c,l,k,j,g] T (0,0)):=by simpa using As (W.setCell ⟨b,0,none⟩ a) b 1 _ T c m
 have o:(((W.setCell ⟨b,0,none⟩ a).setCell ⟨b,1,none⟩ c).setCell ⟨b,2,none⟩ d).heap[b]? = some (Zk #[a,c,d,k,j,g] T (0,0)):=by simpa using As ((W.setCell ⟨b,0,none⟩ a).setCell ⟨b,1,none⟩ c) b 2 _ T d n
 have p:((((W.setCell ⟨b,0,none⟩ a).setCell ⟨b,1,none⟩ c).setCell ⟨b,2,none⟩ d).setCell ⟨b,3,none⟩ e).heap[b]? = some (Zk #[a,c,d,e,j,g] T (0,0)):=by simpa using As (((W.setCell ⟨b,0,none⟩ a).setCell ⟨b,1,none⟩ c).setCell ⟨b,2,none⟩ d) b 3 _ T e o
 have q:(((((W.setCell ⟨b,0,none⟩ a).setCell ⟨b,1,none⟩ c).setCell ⟨b,2,none⟩ d).setCell ⟨b,3,none⟩ e).setCell ⟨b,4,none⟩ f).heap[b]? = some (Zk #[a,c,d,e,f,g] T (0,0)):=by simpa using As ((((W.setCell ⟨b,0,none⟩ a).setCell ⟨b,1,none⟩ c).setCell ⟨b,2,none⟩ d).setCell ⟨b,3,none⟩ e) b 4 _ T f p
 have s:((((((W.setCell ⟨b,0,none⟩ a).setCell ⟨b,1,none⟩ c).setCell ⟨b,2,none⟩ d).setCell ⟨b,3,none⟩ e).setCell ⟨b,4,none⟩ f).setCell ⟨b,5,none⟩ i).heap[b]? = some (Zk #[a,c,d,e,f,i] T (0,0)):=by simpa using As (((((W.setCell ⟨b,0,none⟩ a).setCell ⟨b,1,none⟩ c).setCell ⟨b,2,none⟩ d).setCell ⟨b,3,none⟩ e).setCell ⟨b,4,none⟩ f) b 5 _ T i q
 exact⟨(Iu m).1,(Iu n).2.1,(Iu o).2.2.1,(Iu p).2.2.2.1,(Iu q).2.2.2.2.1,(Iu s).2.2.2.2.2.1⟩
theorem yX(W:Tw)(b:Nat)(a c d e f g:Tv):W.grownBy (AJS W b a c d e f g) (some b):=(((((Aq W b 0 a).trans (Aq _ b 1 c)).trans (Aq _ b 2 d)).trans (Aq _ b 3 e)).trans (Aq _ b 4 f)).trans (Aq _ b 5 g)
theorem Gf(h:Below n w W){b:Nat}(a:n<=b)(c d e f g i:Tv):Below n w (AJS W b c d e f g i) :=
 (((((h.setCell (p:=⟨b,0,none⟩) a _).setCell (p:=⟨b,1,none⟩) a _).setCell (p:=⟨b,2,none⟩) a _).setCell (p:=⟨b,3,none⟩) a _).setCell (p:=⟨b,4,none⟩) a _).setCell (p:=⟨b,5,none⟩) a _
theorem ABe{base b:Nat}{t u:TypeId}{xs:List Tv}{cs:Array Tv}(h:w.ownsRow base t z v n xs)(l:w.heap[b]? = some (Zk cs u (0,0)))(a:t≠u)(c d f g i j:Tv):(AJS w b c d f g i j).ownsRow base t z v n xs :=
 Az h (yX w b c d f g i j) (λk m e=>Fq h l a (by rw[m];exact e.symm))
theorem qL{k i:Nat}{t:TypeId}{xs:List Tv}(h:w.ownsRow i t z v n xs)(d:k<=i):w.ownsRow k t z v n xs:=by
 refine⟨h.1,?_⟩
 rcases h.2 with h|⟨g,c,a,f,b,e⟩
 ·exact .inl h
 exact .inr ⟨g,c,a,f,XE d b,e⟩
theorem AFB{b:Nat}{t:TypeId}{xs:List Tv}(h:w.ownsRow b t z v n xs):w.drew.ownsRow b t z v n xs:=Bc h (XD _ _).drew
def AGd(l:List UInt8)(w:World)(e:Ending)(b:World):Prop:=∃(a:Option Addr)(n c:Nat)(ok:Bool),e=.returned (.tuple #[.slice a n c,.bool ok])/\Zb w b/\((ok=true/\∃L:List Int,L1 l=some L/\n=L.length/\b.ownsRow w.heap.size 3 1 (.slice a n c) L.length (L.map (.int .i64)))\/(ok=false/\L1 l=none))
def S0:Prop:=∀(s:ByteArray)(w:World),s.size<=1000000->Ik w->Zc 186 #[.string s] w (AGd s.data.toList w)
def AA3(l:List UInt8)(w:World)(e:Ending)(a:World):Prop:=∃(k:Int)(p:ByteArray)(r:Int)(f:Option Addr)(h g:Nat)(b:Option Addr)(d c:Nat)(i:Int)(ok:Bool),e=.returned (.tuple #[.agg #[Zi k,.string p,Zi r,.slice f h g,.slice b d c,Zi i],.bool ok])/\Zb w a/\((ok=true/\∃(M:List Int)(C:List Aj),Co l=some (k,p,r,M,C,i)/\a.ownsRow w.heap.size 3 1 (.slice f h g) M.length (M.map (.int .i64))/\a.ownsRow w.heap.size 72 7 (.slice b d c) C.length (Av C))\/(ok=false/\Co l=none))
theorem eE(hP:S0)(s:ByteArray)(w:World)(hs:s.size<=1000000)(he:Ik w):Zc 132 #[.string s] w (AA3 s.data.toList w):=by
 obtain⟨l,hl⟩:∃l,s.data.toList=l:=⟨_,rfl⟩;have ar:l.length<=1000000:=by rw[<-hl,Gm];exact hs
 rw[hl];have o:=Aa (λW=>L5 s 32 W (by unfold maxLen;omega));rw[hl] at o;have aq:=Ve 32 l;have an:=P1 32 (Aw l);have ao:=Ve 32 (Aw l);have ap:=Gi l
 have U:Hid (∀W,Zc 130 #[.string (bA (Aw l)),.string ⟨#[32]⟩] W λe w'=>e=.returned (.tuple #[.string (bA (Ao 32 (Aw l)).1),.string (bA (Ao 32 (Aw l)).2.1),.bool (Ao 32 (Aw l)).2.2])/\Zb W w'):=Aa (λW=>by have:=L5 (bA (Aw l)) 32 W (by rw[Cz];unfold maxLen;omega);rw[B5] at this;exact this)
 have T:Hid (∀W,Zb w W->Zc 185 #[.string (bA (Ao 32 (Aw l)).2.1)] W (Ns (Ao 32 (Aw l)).2.1 W)):=Aa (λW hW=>by have:=Ud (bA (Ao 32 (Aw l)).2.1) W (by omega) (he.below hW);rw[B5] at this;exact this)
 have R:Hid (∀W,Zb w W->Zc 185 #[.string (bA (Ao 32 (Aw l)).1)] W (Ns (Ao 32 (Aw l)).1 W)):=Aa (λW hW=>by have:=Ud (bA (Ao 32 (Aw l)).1) W (by omega) (he.below hW);rw[B5] at this;exact this)
 have X:Hid (∀W,Zb w W->Zc 186 #[.string (bA (Ao 32 (Aw l)).2.1)] W (AGd (Ao 32 (Aw l)).2.1 W)):=Aa (λW hW=>by have:=hP (bA (Ao 32 (Aw l)).2.1) W (by omega) (he.below hW);rw[B5] at this;exact this)
 have V:Hid (∀W,Zb w W->Zc 187 #[.string (bA (Ao 32 (Aw l)).2.1)] W (sE (Ao 32 (Aw l)).2.1 W)):=Aa (λW hW=>by have:=aE (bA (Ao 32 (Aw l)).2.1) W (by omega) (he.below hW);rw[B5] at this;exact this)
 have q:Hid (Co l=_):=Aa (by unfold Co;exact rfl)
 change Hid (∀W,Calls _ _ _ W λe w'=>e=.returned (.tuple #[.string (bA (Ao 32 l).1),.string (bA (Aw l)),_])/\_) at o
 have k:=Aa (Ky (Ao 32 l).1);clear he hl hs hP aq an ao ap;generalize (Ao 32 l).2.2=z1 at *;generalize (Ao 32 l).1=Y at *;generalize bA (Aw l)=rs at *;generalize Ao 32 (Aw l)=cc at *;obtain⟨f1,f2,z2⟩:=cc;simp only at U T R X V q
 by_cases hadd:Y=ADF
 ·subst hadd
  have ex:bA ADF=⟨#[97,100,100]⟩:=rfl;rw[ex] at o;have g:Hid (Co l=Option.map (λn=>(1,bA f1,n,[],[],0)) (numOf f2)):=Aa (by rw[q.o,if_pos rfl]);clear ex k R X V q;generalize bA f1=x1 at *;go_enter func132,ntmps132
  go_wp2_with (first
   | (go_at_call_of 130 (#[.string s,.string ⟨#[32]⟩]:Array Value);refine(o.o _).mono ?_;rintro e w2⟨rfl,a⟩;have D:=Aa a;have h:=Aa ((a.block w.heap.size (by simp)).trans (heap_alloc_new w _));clear a)
   | (go_at_call_of 130 (#[.string rs,.string ⟨#[32]⟩]:Array Value);refine(U.o _).mono ?_;rintro e w3⟨rfl,b⟩;have i:=Aa (Below.Ap (b1c D.o) b);have d:=Aa ((b.block w.heap.size (Ac h.o)).trans h.o);clear b;obtain⟨y0,y1,y2,y3,y4,y5,yf⟩:=Iu d.o;have r:=yf 0;have t:=yf 1;have u:=yf 2;have x:=yf 3;have y:=yf 4;have z:=yf 5;clear yf)
   | (go_at_call 185;refine(T.o _ i.o).mono ?_;rintro e w4⟨n,er,rfl,m,f⟩;have j:=Aa (Below.Ap i.o m);have c:=Aa ((m.block w.heap.size (Ac d.o)).trans d.o);have p:=Aa f;clear m f y0 y1 y2 y3 y4 y5 r t u x y z;obtain⟨y0,y1,y2,y3,y4,y5,yf⟩:=Iu c.o;have r:=yf 0;have t:=yf 1;have u:=yf 2;have x:=yf 3;have y:=yf 4;have z:=yf 5;clear yf))
  rcases p.o with⟨G,rfl⟩|⟨G,ty,xx,rfl⟩
  ·have H1:=Aa G
   clear p G
   go_region
   go_wp2;obtain⟨I,J,M,N,O,P⟩:=oA w4 w.heap.size _ _ _ _ _ _ (.int .i64 1) (.string x1) (.int .i64 n) (.slice none 0 0) (.slice none 0 0) (.int .i64 0) _ c.o;refine bodyPost_ret (v:=.tuple #[.agg #[.int .i64 1,.string x1,.int .i64 n,.slice none 0 0,.slice none 0 0,.int .i64 0],.bool true]) (by simp[results,results132,go_sem,I,J,M,N,O,P]) rfl ⟨_,_,_,_,_,_,_,_,_,_,_,rfl,(Gf j.o (Y9 _) _ _ _ _ _ _).drew,?_⟩;exact .inl ⟨rfl,[],[],by rw[g.o,H1.o];rfl,XB ..,XB ..⟩
  have H1:=Aa G;clear p G
  go_region
  go_wp2;obtain⟨I,J,M,N,O,P⟩:=oA w4 w.heap.size _ _ _ _ _ _ (.int .i64 1) (.string x1) (.int .i64 n) (.slice none 0 0) (.slice none 0 0) (.int .i64 0) _ c.o;refine bodyPost_ret (v:=.tuple #[.agg #[.int .i64 1,.string x1,.int .i64 n,.slice none 0 0,.slice none 0 0,.int .i64 0],.bool false]) (by simp[results,results132,go_sem,I,J,M,N,O,P]) rfl ⟨_,_,_,_,_,_,_,_,_,_,_,rfl,(Gf j.o (Y9 _) _ _ _ _ _ _).drew,?_⟩;exact .inr ⟨rfl,by rw[g.o,H1.o];rfl⟩
 by_cases hremove:Y=P4
 ·subst hremove
  have ex:bA P4=⟨#[114,101,109,111,118,101]⟩:=rfl;rw[ex] at o;have g:Hid (Co l=some (2,bA f1,0,[],[],0)):=Aa (by rw[q.o,if_neg (by decide),if_pos rfl]);clear ex k R X V q T hadd;generalize bA f1=x1 at *;go_enter func132,ntmps132
  go_wp2_with (first
   | (go_at_call_of 130 (#[.string s,.string ⟨#[32]⟩]:Array Value);refine(o.o _).mono ?_;rintro e w2⟨rfl,a⟩;have D:=Aa a;have h:=Aa ((a.block w.heap.size (by simp)).trans (heap_alloc_new w _));clear a)
   | (go_at_call_of 130 (#[.string rs,.string ⟨#[32]⟩]:Array Value);refine(U.o _).mono ?_;rintro e w3⟨rfl,b⟩;have i:=Aa (Below.Ap (b1c D.o) b);have d:=Aa ((b.block w.heap.size (Ac h.o)).trans h.o);clear b;obtain⟨y0,y1,y2,y3,y4,y5,yf⟩:=Iu d.o;have r:=yf 0;have t:=yf 1;have u:=yf 2;have x:=yf 3;have y:=yf 4;have z:=yf 5;clear yf)
   | fail)
  have c:=Aa d.o;have j:=Aa i.o;obtain⟨I,J,M,N,O,P⟩:=oA w3 w.heap.size _ _ _ _ _ _ (.int .i64 2) (.string x1) (.int .i64 0) (.slice none 0 0) (.slice none 0 0) (.int .i64 0) _ c.o;refine bodyPost_ret (v:=.tuple #[.agg #[.int .i64 2,.string x1,.int .i64 0,.slice none 0 0,.slice none 0 0,.int .i64 0],.bool true]) (by simp[results,results132,go_sem,I,J,M,N,O,P]) rfl ⟨_,_,_,_,_,_,_,_,_,_,_,rfl,(Gf j.o (Y9 _) _ _ _ _ _ _),?_⟩;exact .inl ⟨rfl,[],[],g.o,XB ..,XB ..⟩
 by_cases hmask:Y=lA
 ·subst hmask
  have ex:bA lA=⟨#[109,97,115,107]⟩:=rfl;rw[ex] at o;have g:Hid (Co l=Option.map (λl=>(3,bA f1,0,l,[],0)) (L1 f2)):=Aa (by rw[q.o,if_neg (by decide),if_neg (by decide),if_pos rfl]);clear ex k R V q T hadd hremove;generalize bA f1=x1 at *;go_enter func132,ntmps132
  go_wp2_with (first
   | (go_at_call_of 130 (#[.string s,.string ⟨#[32]⟩]:Array Value);refine(o.o _).mono ?_;rintro e w2⟨rfl,a⟩;have D:=Aa a;have h:=Aa ((a.block w.heap.size (by simp)).trans (heap_alloc_new w _));clear a)
   | (go_at_call_of 130 (#[.string rs,.string ⟨#[32]⟩]:Array Value);refine(U.o _).mono ?_;rintro e w3⟨rfl,b⟩;have i:=Aa (Below.Ap (b1c D.o) b);have d:=Aa ((b.block w.heap.size (Ac h.o)).trans h.o);clear b;obtain⟨y0,y1,y2,y3,y4,y5,yf⟩:=Iu d.o;have r:=yf 0;have t:=yf 1;have u:=yf 2;have x:=yf 3;have y:=yf 4;have z:=yf 5;clear yf)
   | (go_at_call 186;refine(X.o _ i.o).mono ?_;rintro e w4⟨pa,pn,pc,ok,rfl,m,f⟩;have ab:=Aa m;have j:=Aa (Below.Ap i.o m);have c:=Aa ((m.block w.heap.size (Ac d.o)).trans d.o);have p:=Aa f;clear m f;clear y0 y1 y2 y3 y4 y5 r t u x y z;obtain⟨y0,y1,y2,y3,y4,y5,yf⟩:=Iu c.o;have r:=yf 0;have t:=yf 1;have u:=yf 2;have x:=yf 3;have y:=yf 4;have z:=yf 5;clear yf))
  obtain⟨I,J,M,N,O,P⟩:=oA w4 w.heap.size _ _ _ _ _ _ (.int .i64 3) (.string x1) (.int .i64 0) (.slice pa pn pc) (.slice none 0 0) (.int .i64 0) _ c.o;refine bodyPost_ret (v:=.tuple #[.agg #[.int .i64 3,.string x1,.int .i64 0,.slice pa pn pc,.slice none 0 0,.int .i64 0],.bool ok]) (by simp[results,results132,go_sem,I,J,M,N,O,P]) rfl ⟨_,_,_,_,_,_,_,_,_,_,_,rfl,(Gf j.o (Y9 _) _ _ _ _ _ _),?_⟩
  rcases p.o with⟨rfl,L,G,rfl,h2⟩|⟨rfl,G⟩
  ·refine .inl ⟨rfl,L,[],by rw[g.o,G];rfl,?_,XB ..⟩
   exact ABe (qL h2 i.o.size) c.o (by decide) _ _ _ _ _ _
  exact .inr ⟨rfl,by rw[g.o,G];rfl⟩
 by_cases hschema:Y=P3
 ·subst hschema
  have ex:bA P3=⟨#[115,99,104,101,109,97]⟩:=rfl;rw[ex] at o;have g:Hid (Co l=(numOf f1).bind λn=>Option.map (λl=>(4,bA [],0,[],l,n)) (Dg f2)):=Aa (by rw[q.o,if_neg (by decide),if_neg (by decide),if_neg (by decide),if_pos rfl]);clear ex k q T X hadd hremove hmask;generalize bA f1=x1 at *;generalize bA f2=x2 at *;go_enter func132,ntmps132
  go_wp2_with (first
   | (go_at_call_of 130 (#[.string s,.string ⟨#[32]⟩]:Array Value);refine(o.o _).mono ?_;rintro e w2⟨rfl,a⟩;have D:=Aa a;have h:=Aa ((a.block w.heap.size (by simp)).trans (heap_alloc_new w _));clear a)
   | (go_at_call_of 130 (#[.string rs,.string ⟨#[32]⟩]:Array Value);refine(U.o _).mono ?_;rintro e w3⟨rfl,b⟩;have i:=Aa (Below.Ap (b1c D.o) b);have d:=Aa ((b.block w.heap.size (Ac h.o)).trans h.o);clear b;obtain⟨y0,y1,y2,y3,y4,y5,yf⟩:=Iu d.o;have r:=yf 0;have t:=yf 1;have u:=yf 2;have x:=yf 3;have y:=yf 4;have z:=yf 5;clear yf)
   | (go_at_call 185;refine(R.o _ i.o).mono ?_;rintro e w4⟨n,er,rfl,m,f⟩;have ab:=Aa (Below.Ap i.o m);have ai:=Aa ((m.block w.heap.size (Ac d.o)).trans d.o);have p:=Aa f;clear m f)
   | (go_at_call 187;refine(V.o _ ab.o).mono ?_;rintro e w5⟨pa,pn,pc,ok,rfl,ad,ac⟩;have j:=Aa (Below.Ap ab.o ad);have c:=Aa ((ad.block w.heap.size (Ac ai.o)).trans ai.o);have aa:=Aa ac;clear ad ac;clear y0 y1 y2 y3 y4 y5 r t u x y z;obtain⟨y0,y1,y2,y3,y4,y5,yf⟩:=Iu c.o;have r:=yf 0;have t:=yf 1;have u:=yf 2;have x:=yf 3;have y:=yf 4;have z:=yf 5;clear yf))
  rcases aa.o with⟨rfl,L,G,rfl,h2⟩|⟨rfl,G⟩ <;> rcases p.o with⟨h3,rfl⟩|⟨h3,ty,xx,rfl⟩
  ·have H1:=Aa G
   have H2:=Aa h2;have H3:=Aa h3;clear p aa G h2 h3
   go_region
   go_wp2;obtain⟨I,J,M,N,O,P⟩:=oA w5 w.heap.size _ _ _ _ _ _ (.int .i64 4) (.string ⟨#[]⟩) (.int .i64 0) (.slice none 0 0) (.slice pa L.length pc) (.int .i64 n) _ c.o;refine bodyPost_ret (v:=.tuple #[.agg #[.int .i64 4,.string ⟨#[]⟩,.int .i64 0,.slice none 0 0,.slice pa L.length pc,.int .i64 n],.bool true]) (by simp[results,results132,go_sem,I,J,M,N,O,P]) rfl ⟨_,_,_,_,_,_,_,_,_,_,_,rfl,(Gf j.o (Y9 _) _ _ _ _ _ _).drew,?_⟩;refine .inl ⟨rfl,[],L,by rw[g.o,H3.o,H1.o];rfl,XB ..,?_⟩;exact AFB (ABe (qL H2.o ab.o.size) c.o (by decide) _ _ _ _ _ _)
  ·have H3:=Aa h3
   clear p aa G h2 h3
   go_region
   go_wp2;obtain⟨I,J,M,N,O,P⟩:=oA w5 w.heap.size _ _ _ _ _ _ (.int .i64 4) (.string ⟨#[]⟩) (.int .i64 0) (.slice none 0 0) (.slice pa L.length pc) (.int .i64 n) _ c.o;refine bodyPost_ret (v:=.tuple #[.agg #[.int .i64 4,.string ⟨#[]⟩,.int .i64 0,.slice none 0 0,.slice pa L.length pc,.int .i64 n],.bool false]) (by simp[results,results132,go_sem,I,J,M,N,O,P]) rfl ⟨_,_,_,_,_,_,_,_,_,_,_,rfl,(Gf j.o (Y9 _) _ _ _ _ _ _).drew,?_⟩;exact .inr ⟨rfl,by rw[g.o,H3.o];rfl⟩
  ·have H1:=Aa G
   clear p aa G h3
   go_region
   go_wp2;obtain⟨I,J,M,N,O,P⟩:=oA w5 w.heap.size _ _ _ _ _ _ (.int .i64 4) (.string ⟨#[]⟩) (.int .i64 0) (.slice none 0 0) (.slice pa pn pc) (.int .i64 n) _ c.o;refine bodyPost_ret (v:=.tuple #[.agg #[.int .i64 4,.string ⟨#[]⟩,.int .i64 0,.slice none 0 0,.slice pa pn pc,.int .i64 n],.bool false]) (by simp[results,results132,go_sem,I,J,M,N,O,P]) rfl ⟨_,_,_,_,_,_,_,_,_,_,_,rfl,(Gf j.o (Y9 _) _ _ _ _ _ _).drew,?_⟩;refine .inr ⟨rfl,by rw[g.o,H1.o];cases numOf f1 <;> rfl⟩
  have H1:=Aa G;clear p aa G h3
  go_region
  go_wp2;obtain⟨I,J,M,N,O,P⟩:=oA w5 w.heap.size _ _ _ _ _ _ (.int .i64 4) (.string ⟨#[]⟩) (.int .i64 0) (.slice none 0 0) (.slice pa pn pc) (.int .i64 n) _ c.o;refine bodyPost_ret (v:=.tuple #[.agg #[.int .i64 4,.string ⟨#[]⟩,.int .i64 0,.slice none 0 0,.slice pa pn pc,.int .i64 n],.bool false]) (by simp[results,results132,go_sem,I,J,M,N,O,P]) rfl ⟨_,_,_,_,_,_,_,_,_,_,_,rfl,(Gf j.o (Y9 _) _ _ _ _ _ _).drew,?_⟩;refine .inr ⟨rfl,by rw[g.o,H1.o];cases numOf f1 <;> rfl⟩
 have g:Hid (Co l=none):=Aa (by rw[q.o,if_neg hadd,if_neg hremove,if_neg hmask,if_neg hschema]);have al:((bA Y).toList==[97,100,100])=false:=by rw[k.o];exact beq_eq_false_iff_ne.2 hadd
 have am:¬(bA Y).toList=[97,100,100]:=by rw[k.o];exact hadd
 have ae:((bA Y).toList==[114,101,109,111,118,101])=false:=by rw[k.o];exact beq_eq_false_iff_ne.2 hremove
 have ag:¬(bA Y).toList=[114,101,109,111,118,101]:=by rw[k.o];exact hremove
 have aj:((bA Y).toList==[109,97,115,107])=false:=by rw[k.o];exact beq_eq_false_iff_ne.2 hmask
 have ak:¬(bA Y).toList=[109,97,115,107]:=by rw[k.o];exact hmask
 have af:((bA Y).toList==[115,99,104,101,109,97])=false:=by rw[k.o];exact beq_eq_false_iff_ne.2 hschema
 have ah:¬(bA Y).toList=[115,99,104,101,109,97]:=by rw[k.o];exact hschema
 clear k q T X V R hadd hremove hmask hschema;generalize bA Y=wb at *;generalize bA f1=x1 at *;generalize bA f2=x2 at *;go_enter func132,ntmps132
 go_wp2_with (first
  | (go_at_call_of 130 (#[.string s,.string ⟨#[32]⟩]:Array Value);refine(o.o _).mono ?_;rintro e w2⟨rfl,a⟩;have D:=Aa a;have h:=Aa ((a.block w.heap.size (by simp)).trans (heap_alloc_new w _));clear a)
  | (go_at_call_of 130 (#[.string rs,.string ⟨#[32]⟩]:Array Value);refine(U.o _).mono ?_;rintro e w3⟨rfl,b⟩;have i:=Aa (Below.Ap (b1c D.o) b);have d:=Aa ((b.block w.heap.size (Ac h.o)).trans h.o);clear b;obtain⟨y0,y1,y2,y3,y4,y5,yf⟩:=Iu d.o;have r:=yf 0;have t:=yf 1;have u:=yf 2;have x:=yf 3;have y:=yf 4;have z:=yf 5;clear yf)
  | fail)
 have c:=Aa d.o;have j:=Aa i.o;obtain⟨I,J,M,N,O,P⟩:=oA w3 w.heap.size _ _ _ _ _ _ (.int .i64 0) (.string ⟨#[]⟩) (.int .i64 0) (.slice none 0 0) (.slice none 0 0) (.int .i64 0) _ c.o;refine bodyPost_ret (v:=.tuple #[.agg #[.int .i64 0,.string ⟨#[]⟩,.int .i64 0,.slice none 0 0,.slice none 0 0,.int .i64 0],.bool false]) (by simp[results,results132,go_sem,I,J,M,N,O,P]) rfl ⟨_,_,_,_,_,_,_,_,_,_,_,rfl,(Gf j.o (Y9 _) _ _ _ _ _ _),?_⟩;exact .inr ⟨rfl,g.o⟩
def look(l:List Vc)(p:ByteArray):Option (Int×List Int):=(l.find? λe=>decide (e.1=p)).map (·.2)
section
variable {nb : ByteArray → Bool} {cb : ByteArray → Bool} {fb : Int → Int → Int → ByteArray → Bool}
end
def Q7(s:Ah):Prop:=∀e∈s.files,e.1.size<=16
structure AK9(W:World)(a:A5)(ma:Option Addr)(mn mc:Nat)(ca:Option Addr)(cn cc:Nat):Prop where
 mask:Ph W (.slice ma mn mc) a.2.2.2.1
 cols:bH W (.slice ca cn cc) a.2.2.2.2.1
 path:a.2.1.size<=maxLen
 Iz:a.2.2.2.1.length<=maxLen
 ADp:a.2.2.2.2.1.length<=maxLen
 texts:∀x∈a.2.2.2.2.1,x.2.1.size<=maxLen/\x.2.2.2.2.2.2.size<=maxLen
def AKB(W:World)(v:Value)(l:List A5):Prop:=((∃a c,v=.slice a 0 c)/\l=[])\/∃g o c,v=.slice (some ⟨g,o,none⟩) l.length c/\l.length<=c/\g<W.heap.size/\∀j,j<l.length->∃f i h b e d,AK9 W l[j]! f i h b e d/\M6 W g (o+j*6) l[j]! f i h b e d
variable{W w:Tw}{l:List A5}{c:Dn}
def cl(b:ByteArray):ByteArray:=if b.size<=maxLen then b else ⟨#[]⟩
theorem AEi(b:Tb):(cl b).size<=maxLen:=by
 unfold cl;split
 ·assumption
 decide
theorem AGQ{b:Tb}(h:b.size<=maxLen):cl b=b:=by simp[cl,h]
abbrev sG:=A5×Sv×Sv
def tJ(x:sG):List Value:=[Zi x.1.1,.string (cl x.1.2.1),Zi x.1.2.2.1,sv x.2.1,sv x.2.2,Zi x.1.2.2.2.2.2]
theorem rP(x:sG):(tJ x).length=6:=rfl
theorem Dt.list{g o c:Nat}(h:∀j,j<l.length->∃k p m b f d,Om w l[j]! k p m b f d/\M6 w g (o+j*6) l[j]! k p m b f d):
 ∃zs:List sG,zs.map (·.1)=l/\∀j,j<zs.length->∀i v,(tJ zs[j]!)[i]? = some v->w.cell? ⟨g,o+j*6+i,none⟩=some v:=by
 have _:=c
 have t:∀n,n<=l.length->∃zs:List sG,zs.map (·.1)=l.take n/\∀j,j<zs.length->∀i v,(tJ zs[j]!)[i]? = some v->w.cell? ⟨g,o+j*6+i,none⟩=some v:=by
  intro n
  induction n with
  | zero=>intro _;exact⟨[],rfl,λj s=>absurd s (Ym _)⟩
  | succ n ih=>
    intro N;obtain⟨zs,q,r⟩:=ih (by omega);obtain⟨k,p,m,b,f,d,y,z⟩:=h n (by omega);have hlen:zs.length=n:=by have:=congrArg List.length q;simp at this;omega
    refine⟨zs++[(l[n]!,(k,p,m),(b,f,d))],?_,?_⟩
    ·rw[XI,q,Br (by omega)];rfl
    intro j s i v a;simp only[XF,XC,XJ] at s
    by_cases e:j<zs.length
    ·rw[show (zs++[(l[n]!,(k,p,m),(b,f,d))])[j]! = zs[j]! by simp[List.getElem!_eq_getElem?_getD,List.getElem?_append_left e]] at a
     exact r j e i v a
    have x:j=n:=by omega
    subst x;rw[show (zs++[(l[j]!,(k,p,m),(b,f,d))])[j]! = (l[j]!,(k,p,m),(b,f,d)) by simp[List.getElem!_eq_getElem?_getD,hlen]] at a;obtain⟨G,u,I,J,L,M⟩:=z;rw[<-AGQ y.path] at u;have:i=0\/i=1\/i=2\/i=3\/i=4\/i=5\/6<=i:=by omega
    rcases this with rfl|rfl|rfl|rfl|rfl|rfl|D
    ·cases a;exact G
    ·cases a;exact u
    ·cases a;exact I
    ·cases a;exact J
    ·cases a;exact L
    ·cases a;exact M
    rw[Yb (by rw[rP];exact D)] at a;cases a
 obtain⟨zs,q,r⟩:=t l.length (Y9 _);exact⟨zs,by rw[q,Ye],r⟩
theorem AEB(a:To)(c:Nat)(d:Tv)(w:Tw):Zc 174 #[Zs a 0 c,d] w λe b=>e=Zr (Zo false)/\b=w:=by
 have f:Hid (Zc 218 #[Zs a 0 c,d] w λe b=>e=Zr (Zi (-1))/\b=w):=by
  go_enter func218,ntmps218;go_wp2
  go_loopg [5,8] 0 (λ_ _ g wr=>g=Zi 0/\wr=w)
  case atStart=>exact⟨rfl,rfl⟩
  case round=>obtain⟨rfl,rfl⟩:=hrel;go_wp2;go_ret;exact⟨rfl,rfl⟩
 go_enter func174,ntmps174;go_wp2_with (go_at_call 218;refine f.o.mono ?_;rintro e h⟨rfl,rfl⟩);go_ret;exact⟨rfl,rfl⟩
theorem tB(a:To)(n c:Nat)(l:List A5)(p:A5->Bool)(g:Nat)(lb:Array Tv)(w:Tw)(h:Dt w (Zs a n c) l)(z:l.length<=1000)(k:∀args w,(callFunc g args).run prog w=.ok (.enter g args) w)(s:PredBelow prog g lb (λx:sG=>Zg (tJ x).toArray) (λx=>p x.1) w):
 Zc 174 #[Zs a n c,.func (.func g) #[] lb] w λe u=>e=Zr (Zo (l.any p))/\Zb w u:=by
 rcases h with⟨⟨_,_,e⟩,e0⟩|⟨m,o,v,e,y,d,b⟩
 ·cases e;subst e0
  exact(AEB _ _ _ w).mono λ_ _⟨r,t⟩=>⟨r,t ▸ XD _ _⟩
 cases e;obtain⟨zs,f,q⟩:=Dt.list (c:=c) b;have i:zs.length=l.length:=by have:=congrArg List.length f;simpa using this
 have:=AnyQ.slices_ContainsFunc layAnyA 6 isAgg144 sizeOf144 tJ rP (λx=>p x.1) g lb k m o l.length c zs w s (by omega) (by omega) d q;rw[<-i,Ye] at this;have j:zs.any (λx=>p x.1)=l.any p:=by rw[<-f,List.any_map];rfl
 rw[j,i] at this;exact this
theorem nQ(w:Tw):PredBelow prog 175 #[] (λx:sG=>Zg (tJ x).toArray) (λx=>x.1.1==4) w:=λW x hb=>by
 obtain⟨⟨k,p,r,m,h,g⟩,⟨d,f,e⟩,a,c,b⟩:=x;show Zc 175 #[Zg #[Zi k,Zt (cl p),Zi r,Zs d f e,Zs a c b,Zi g]] W _;generalize cl p=i;go_enter func175,ntmps175;go_wp2
 all_goals (go_ret;exact⟨rfl,hb.alloc hb.size _⟩)
def G8(l:List A5):Bool:=l.any (λa=>a.1==4)
theorem Wy(g:Tb)(f:Bool)(a:To)(n c:Nat)(l:List A5)(w:Tw)(h:Dt w (Zs a n c) l)(p:l.length<=1000):
 Zc 123 #[Zg #[Zt g,Zo f,Zs a n c]] w λe q=>e=Zr (Zo (G8 l))/\Zb w q:=by
 have k:∀args w,(callFunc 175 args).run prog w=.ok (.enter 175 args) w:=enters_of func175 (by kernel_rfl) rfl;have b:Zb w (w.alloc (Zk #[Zt g,Zo f,Zs a n c] 86)):=Zal;have i:=Aa (tB a n c l (λa=>a.1==4) 175 #[] _ (h.below b) p k (nQ (w.alloc (Zk #[Zt g,Zo f,Zs a n c] 86))));have o:=Aa b;clear h b k;generalize m:l.any (λa=>a.1==4)=r at i;have j:Hid (G8 l=r):=m;clear m;generalize G8 l=s at j ⊢;go_enter func123,ntmps123;go_wp2_with (go_at_call 174;refine i.o.mono ?_;rintro e t⟨rfl,d⟩);go_ret;exact⟨Af j.o.symm,Below.Ap o.o d⟩
def lit(b:ByteArray):Lit:=.string b.data.toList
theorem Jr{a b:Tb}(h:lit a=lit b):a=b:=by unfold lit at h;injection h with h;cases a;cases b;simp at h;simp[h]
theorem AEF(b:Tb):WideAt.IsKeyLit (lit b):=by unfold lit;simp[WideAt.IsKeyLit]
theorem Wl:Keyed prog 9:=string_keyed underlying9
theorem Mh{b:Tb}(h:b.size<=maxLen):keyOf prog 9 (.string b)=some (lit b):=WideMaps.keyOf_string_mk underlying9 h
def iH(l:List A5)(p:ByteArray):Nat:=(l.filter λa=>decide (a.2.1=p)).length
theorem AFj(l:List A5)(a:A5)(p:Tb):iH (l++[a]) p=if a.2.1=p then iH l p+1 else iH l p:=by
 simp only[iH,List.filter_append,XF]
 by_cases h:a.2.1=p <;> simp[h]
theorem AJf(l:List A5)(p:Tb):iH l p<=l.length:=YN _ _
theorem AEk{c:Int}(a:0<=c)(b:c<=2000):(Lit.int .i64 c).wf=true:=by simp only[Lit.wf,WD,decide_eq_true_eq];exact⟨Y8 (by decide:IntKind.i64.min<=0) a,Y8 b (by decide)⟩
def Seen(W:World)(b n:Nat)(l:List A5):Prop:=∃D:DataW Unit,W.ownsMap prog 9 (plainElem prog 3) b n D/\∀p,D.atKey (lit p) (.lit (.int .i64 0))=.lit (.int .i64 (iH l p))
def S9(l o:List A5):Bool:=o.any (λa=>decide (0<(iH l a.2.1:Int)))
theorem Seen.below{b n:Nat}(h:Seen w b n l)(f:Zb w W):Seen W b n l:=by obtain⟨D,c,d⟩:=h;obtain⟨es,clock,a,e⟩:=c;exact⟨D,⟨es,clock,(f.block b (Ac a)).trans a,e⟩,d⟩
theorem ADd(b n B:Nat)(l:List A5)(w:Tw)(h:Seen w b n l)(L:B<w.heap.size)(M:w.cell? ⟨B,0,none⟩=some (.map (some b))):
 PredBelow prog 176 #[Zp (some ⟨B,0,none⟩)] (λx:sG=>Zg (tJ x).toArray) (λx=>decide (0<(iH l (cl x.1.2.1):Int))) w:=λW x hb=>by
 obtain⟨⟨k,p,r,m,T,z⟩,⟨u,y,v⟩,o,s,q⟩:=x;show Zc 176 #[Zg #[Zi k,Zt (cl p),Zi r,Zs u y v,Zs o s q,Zi z],Zp (some ⟨B,0,none⟩)] W (λe R=>e=Zr (Zo (decide (0<(iH l (cl p):Int))))/\Zb w R);have P:=AEi p;generalize cl p=g at *;have f:=(hb.cell (p:=⟨B,0,none⟩) L).trans M;have O:B≠W.heap.size:=by have:=hb.size;omega
 have N:(W.alloc (Zk #[Zi k,Zt g,Zi r,Zs u y v,Zs o s q,Zi z] 144)).cell? ⟨B,0,none⟩=some (.map (some b)):=Lib.cell?_alloc_some _ f;obtain⟨D,I,d⟩:=(h.below hb).below ((XD W.heap.size W).alloc (Y9 _) (Zk #[Zi k,Zt g,Zi r,Zs u y v,Zs o s q,Zi z] 144));have i:=Aa (d g);have J:=Aa I;have G:=Aa hb;clear d I h hb f;go_enter func176,ntmps176;go_wp2_with (at_lookup;refine wpList_lookup_own_int _ rfl _ _ 261 rfl 9 3 .i64 Wl underlying261 underlying3 (zeroValue3 _) b n D rfl J.o _ _ rfl (Mh P) ?_;intro c a t;have j:Hid (c=(iH l g:Int)):=Aa (by rw[i.o] at a;injection a with a;injection a with _ a;exact a.symm);clear a t);go_ret;exact⟨Af (by rw[j.o]),G.o.alloc G.o.size _⟩
theorem AF0(a1:To)(n1 c1:Nat)(l:List A5)(V:To)(n2 X:Nat)(o:List A5)(w:Tw)(N:Dt w (Zs a1 n1 c1) l)(r:Dt w (Zs V n2 X) o)(hl:l.length<=1000)(ho:o.length<=1000):
 Zc 124 #[Zs a1 n1 c1,Zs V n2 X] w λe w'=>e=Zr (Zo (S9 l o))/\Below w.heap.size w w':=by
 have Y:∀args w,(callFunc 176 args).run prog w=.ok (.enter 176 args) w:=enters_of func176 (by kernel_rfl) rfl;have al:=N.len;subst al;have H1:=Aa N;have H2:=Aa r
 have I:Hid (∀W,Below w.heap.size w W->Seen W w.heap.size 1000 l->W.cell? ⟨w.heap.size+1,0,none⟩=some (.map (some w.heap.size))->w.heap.size+1<W.heap.size->Zc 174 #[Zs V n2 X,.func (.func 176) #[] #[Zp (some ⟨w.heap.size+1,0,none⟩)]] W λe w'=>e=Zr (Zo (S9 l o))/\Below W.heap.size W w'):=λW hW hS hc hB=>by
  have hp:PredBelow prog 176 #[Zp (some ⟨w.heap.size+1,0,none⟩)] (λx:sG=>Zg (tJ x).toArray) (λx=>(λa:A5=>decide (0<(iH l (cl a.2.1):Int))) x.1) W:=ADd w.heap.size 1000 (w.heap.size+1) l W hS hB hc;have:=tB V n2 X o (λa=>decide (0<(iH l (cl a.2.1):Int))) 176 _ W (r.below hW) ho Y hp
  have e:o.any (λa=>decide (0<(iH l (cl a.2.1):Int)))=S9 l o:=by
   unfold S9;rw[Bool.eq_iff_iff];simp only[List.any_eq_true]
   rcases r with⟨_,e0⟩|⟨gg,oo,c',_,_,_,d⟩
   ·subst e0;simp
   constructor
   ·rintro⟨x,i,u⟩
    obtain⟨j,t,rfl⟩:=Yj i;obtain⟨_,_,_,_,_,_,h5,_⟩:=d j t;have:=h5.path;rw[getElem!_pos o j t] at this;exact⟨_,i,by rw[AGQ this] at u;exact u⟩
   rintro⟨x,i,u⟩;obtain⟨j,t,rfl⟩:=Yj i;obtain⟨_,_,_,_,_,_,h5,_⟩:=d j t;have:=h5.path;rw[getElem!_pos o j t] at this;exact⟨_,i,by rw[AGQ this];exact u⟩
  rw[e] at this;exact this
 clear N r Y;have ak:=@run_makeMap prog;have L:Hid (Seen (w.alloc (.map #[] 0)) w.heap.size 0 []):=⟨.map [],World.ownsMap_made w _ _ _,λp=>rfl⟩;generalize S9 l o=av at I ⊢;go_enter func124,ntmps124;go_wp2_with fail;have z:Hid (Below w.heap.size w ((w.alloc (.map #[] 0)).alloc (Zk #[.map (some w.heap.size)] 261))):=(Zal).alloc (by simp) _;have M:Hid (Seen ((w.alloc (.map #[] 0)).alloc (Zk #[.map (some w.heap.size)] 261)) w.heap.size 0 (l.take 0)):=Aa (L.o.below (Zal));have G:Hid (((w.alloc (.map #[] 0)).alloc (Zk #[.map (some w.heap.size)] 261)).cell? ⟨w.heap.size+1,0,none⟩=some (.map (some w.heap.size))/\w.heap.size+1<((w.alloc (.map #[] 0)).alloc (Zk #[.map (some w.heap.size)] 261)).heap.size):=Aa ⟨by rw[World.cell?_alloc_at _ _ _ _ (by simp)];rfl,by simp⟩;clear ak L;generalize (w.alloc (.map #[] 0)).alloc (Zk #[.map (some w.heap.size)] 261)=wa at *
 go_loopw [11] (λvi wr=>∃k:Nat,k<=l.length/\vi=Zi k/\Hid (Seen wr w.heap.size k (l.take k))/\Hid (wr.cell? ⟨w.heap.size+1,0,none⟩=some (.map (some w.heap.size))/\w.heap.size+1<wr.heap.size)/\Hid (Below w.heap.size w wr)) (λvi _=>l.length-(intOf vi).toNat)
 case atStart=>exact⟨0,XP _,rfl,M,G,z⟩
 case round=>
  clear M G z;obtain⟨k,hk,rfl,SE,v,U⟩:=hrel
  by_cases hlt:k<l.length
  ·have ap:(k:Int)<(l.length:Int):=by omega
   rcases H1.o.below U.o with⟨_,e0⟩|⟨g,o',c,Y,an,aq,d⟩
   ·rw[e0] at hlt;simp at hlt
   injection Y with ad _ ae;subst ad ae;obtain⟨ma,mn,mc,ca,cn,cc,s,O⟩:=d k hlt;have n:Hid (∀p,iH (l.take (k+1)) p=if l[k]!.2.1=p then iH (l.take k) p+1 else iH (l.take k) p):=Aa (λp=>by rw[Br hlt,AFj]);obtain⟨⟨x1,m,x3,x4,x5,x6⟩,i⟩:∃x,l[k]! = x:=⟨_,rfl⟩;rw[i] at s O n;obtain⟨q0,q1,q2,q3,q4,q5⟩:=O;simp only at q0 q1 q2 q3 q4 q5;have hp:m.size<=maxLen:=s.path;obtain⟨D,hD,P⟩:=SE.o.below ((XD wr.heap.size wr).alloc (Y9 _) (Zk #[Zi x1,Zt m,Zi x3,Zs ma mn mc,Zs ca cn cc,Zi x6] 144));have y:=Aa P;have HD:=Aa hD;have ai:=AJf (l.take k) m
   have R:(iH (l.take k) m:Int)<=1000:=by
    have:(l.take k).length<=l.length:=by simp;omega
    omega
   have ag:=Lib.cell?_alloc_some (Zk #[Zi x1,Zt m,Zi x3,Zs ma mn mc,Zs ca cn cc,Zi x6] 144) v.o.1;have aa:Hid (Below wr.heap.size wr (wr.alloc (Zk #[Zi x1,Zt m,Zi x3,Zs ma mn mc,Zs ca cn cc,Zi x6] 144))):=Aa (Zal);have ar:w.heap.size+1≠wr.heap.size:=by have:=v.o.2;omega
   clear P hD s d i ai;generalize T:(iH (l.take k) m:Int)=cv at R;have J:=Aa T;have ao:0<=cv:=by omega
   clear T
   go_wp2_with (first
    | (at_lookup;refine wpList_lookup_own_int _ rfl _ _ 261 rfl 9 3 .i64 Wl underlying261 underlying3 (zeroValue3 _) w.heap.size k D rfl HD.o _ _ rfl (Mh hp) ?_;intro c b am
       have ah:c=cv:=by rw[y.o,J.o] at b;injection b with b;injection b with _ b;exact b.symm
       clear b am;subst ah)
    | (at_mapUpdate;refine wpList_mapUpdate_in _ rfl _ _ _ 261 rfl 9 3 Wl underlying261 _ w.heap.size k D rfl HD.o (by unfold maxLen;omega) _ _ _ rfl rfl (Mh hp) _ [] (plainElem_int underlying3 (AEk (by omega) (by omega))) ?_;intro w8 h f
       have ac:=Aa h;have q:=Aa f.grown;clear h f))
   go_roundw
   case rel=>
    have au:=v.o.2;refine⟨k+1,by omega,by go_num,Aa ⟨_,ac.o,λp=>?_⟩,Aa ⟨(q.o.cell_far ⟨w.heap.size+1,0,none⟩ (by simp;omega) (by simp)).trans ag,by have:=q.o.size;simp at this;omega⟩,Aa ((Below.Ap U.o aa.o).grown q.o (by simp;omega) (λj t=>by cases t;exact Y9 _))⟩
    by_cases e:m=p
    ·subst e
     rw[atKey_put_same HD.o.isMap (AEF _),n.o,if_pos rfl];rw[Int.natCast_add,J.o];rfl
    rw[atKey_put_other (λu=>e (Jr u).symm),n.o,if_neg e];exact y.o p
   case measure=>simp[intOf];omega
  have aj:k=l.length:=by omega
  subst aj
  have ab:=Aa (I.o wr U.o (by obtain⟨D,N,r⟩:=SE.o;rw[Ye] at r;exact⟨D,N.mono hl,r⟩) v.o.1 v.o.2)
  go_wp2_with (go_at_call 174;refine ab.o.mono ?_;rintro e w1⟨rfl,af⟩);go_ret;exact⟨rfl,Below.Ap U.o af⟩
def Nt(c o:Dn):Bool:=G8 o.2.2 || (decide (0<o.2.2.length) && (c.2.1 || G8 c.2.2) || S9 c.2.2 o.2.2)
theorem v8(t1:Tb)(c:Bool)(f:To)(n1 c1:Nat)(l:List A5)(t2:Tb)(j:Bool)(g:To)(n2 h:Nat)(o:List A5)(w:Tw)(M:Dt w (Zs f n1 c1) l)(z:Dt w (Zs g n2 h) o)(N:l.length<=1000)(P:o.length<=1000):
 Zc 79 #[Zg #[Zt t1,Zo c,Zs f n1 c1],Zg #[Zt t2,Zo j,Zs g n2 h]] w λe r=>e=Zr (Zo (Nt (t1,c,l) (t2,j,o)))/\Zb w r:=by
 have O:=z.len;subst O;obtain⟨Y,z1,z2,z3⟩:=C1 w (Zk #[Zt t1,Zo c,Zs f n1 c1] 86) (Zk #[Zt t2,Zo j,Zs g o.length h] 86)
 have I:Hid (∀W,Below (w.heap.size+2) ((w.alloc (Zk #[Zt t1,Zo c,Zs f n1 c1] 86)).alloc (Zk #[Zt t2,Zo j,Zs g o.length h] 86)) W->(W.cell? ⟨w.heap.size,0,none⟩=some (Zt t1)/\W.cell? ⟨w.heap.size,1,none⟩=some (Zo c)/\W.cell? ⟨w.heap.size,2,none⟩=some (Zs f n1 c1))/\W.cell? ⟨w.heap.size+1,2,none⟩=some (Zs g o.length h)/\Zb w W/\w.heap.size+2<=W.heap.size):=λW d=>by have hs:=d.size;rw[Y] at hs;obtain⟨y0,y1,y2,_⟩:=Db ((d.block _ (by omega)).trans z1);obtain⟨_,_,y3,_⟩:=Db ((d.block _ (by omega)).trans z2);exact⟨⟨y0,y1,y2⟩,y3,z3.trans (d.mono (by omega)),hs⟩
 have t:Hid (∀W,Zb w W->Zc 123 #[Zg #[Zt t1,Zo c,Zs f n1 c1]] W λe r=>e=Zr (Zo (G8 l))/\Zb W r):=λW d=>Wy t1 c f n1 c1 l W (M.below d) N
 have m:Hid (∀W,Zb w W->Zc 123 #[Zg #[Zt t2,Zo j,Zs g o.length h]] W λe r=>e=Zr (Zo (G8 o))/\Zb W r):=λW d=>Wy t2 j g _ h o W (z.below d) P
 have n:Hid (∀W,Zb w W->Zc 124 #[Zs f n1 c1,Zs g o.length h] W λe r=>e=Zr (Zo (S9 l o))/\Zb W r):=λW d=>AF0 f n1 c1 l g _ h o W (M.below d) (z.below d) N P
 have i:Hid (Nt (t1,c,l) (t2,j,o)=(G8 o || (decide (0<o.length) && (c || G8 l) || S9 l o))):=rfl;have aa:(o.length:Int)<=1000:=by omega
 clear M z z1 z2 N P;generalize Nt (t1,c,l) (t2,j,o)=x at i ⊢;generalize G8 o=y at m i;generalize G8 l=b2 at t i;generalize S9 l o=b3 at n i;have p:=Aa Y;have u:=Aa z3;clear Y z3
 by_cases h0:0<o.length
 ·have L:(0:Int)<(o.length:Int):=by omega
  have a:Hid (x=(y || ((c || b2) || b3))):=Aa (by rw[i.o];simp[h0]);clear i;cases y <;> cases c <;> cases b2
  all_goals
   go_enter func79,ntmps79;go_wp2_with fail;refine(m.o _ u.o).mono ?_;rintro e R⟨rfl,b⟩;obtain⟨⟨T,U,V⟩,X,k,x5⟩:=I.o R (b.mono (by rw[p.o];omega));have D:=Aa (b.mono (show w.heap.size+2<=_ by rw[p.o];omega));have s:=Aa k;clear b k
   go_wp2_with (first
    | (go_at_call 123;refine(t.o _ s.o).mono ?_;rintro e w2⟨rfl,v⟩
       have G:=Aa (D.o.trans (v.mono x5));clear T U V X;obtain⟨⟨T,U,V⟩,X,k,x6⟩:=I.o w2 G.o;have J:=Aa k;clear v k)
    | (go_at_call 124;refine(n.o _ J.o).mono ?_;rintro e w3⟨rfl,q⟩))
   go_ret
   first
    | exact⟨Af (by rw[a.o];simp),Below.Ap J.o q⟩
    | exact⟨Af (by rw[a.o];simp),J.o⟩
    | exact⟨Af (by rw[a.o];simp),s.o⟩
 have L:¬(0:Int)<(o.length:Int):=by omega
 have a:Hid (x=(y || b3)):=Aa (by rw[i.o];simp[h0]);clear i;cases y
 all_goals
  go_enter func79,ntmps79;go_wp2_with fail;refine(m.o _ u.o).mono ?_;rintro e R⟨rfl,b⟩;obtain⟨⟨T,U,V⟩,X,k,x5⟩:=I.o R (b.mono (by rw[p.o];omega));have s:=Aa k;clear b k;go_wp2_with (go_at_call 124;refine(n.o _ s.o).mono ?_;rintro e w3⟨rfl,q⟩);go_ret
  first
   | exact⟨Af (by rw[a.o];simp),Below.Ap s.o q⟩
   | exact⟨Af (by rw[a.o];simp),s.o⟩
theorem xK{s t:Ah}{a:A5}(h:Xx s a t)(g:Q7 s):Q7 t:=by
 rcases h with⟨_,⟨f,_,_,_,_,_⟩,rfl⟩|⟨_,_,rfl⟩|⟨_,⟨i,_⟩,rfl⟩|⟨_,_,rfl⟩
 ·intro e b
  simp only[oE,List.mem_append,List.mem_singleton] at b
  rcases b with b|rfl
  ·exact g e b
  exact Rk f
 ·intro e b
  exact g e (YE b)
 ·intro e b
  simp only[gJ] at b
  rcases Yt b with b|rfl
  ·exact g e b
  rcases J8 s.files a.2.1 with c|⟨k,d,c,_⟩
  ·omega
  rw[c];show (s.files[k]!).1.size<=16;exact g _ (bB d)
 exact g
theorem cP:∀{l:List A5}{s t:Ah},X1 s l t->Q7 s->Q7 t
 | [],_,_,h,g=>by simp only[X1,Il] at h;subst h;exact g
 | a :: l,s,t,⟨u,h1,h2⟩,g=>cP (l:=l) h2 (xK h1 g)
theorem iX{s t:Ah}(h:Bi s c t)(g:Q7 s):Q7 t:=cP h.2 g
theorem qX{s t u:Ah}(h:Bi s c t)(k:Bi s c u):t=u:=K6 h.2 k.2
theorem sF(W:Tw)(b:Nat)(c0 c1 f g a c d e:Tv)(T:TypeId)(h:W.heap[b]? = some (Zk #[c0,c1,f,g] T (0,0))):
 ((((W.setCell ⟨b,0,none⟩ a).setCell ⟨b,1,none⟩ c).setCell ⟨b,2,none⟩ d).setCell ⟨b,3,none⟩ e).heap[b]? = some (Zk #[a,c,d,e] T (0,0))/\W.grownBy ((((W.setCell ⟨b,0,none⟩ a).setCell ⟨b,1,none⟩ c).setCell ⟨b,2,none⟩ d).setCell ⟨b,3,none⟩ e) (some b) :=
 ⟨As _ b 3 _ T e (As _ b 2 _ T d (As _ b 1 _ T c (As _ b 0 _ T a h))),(((Aq W b 0 a).trans (Aq _ b 1 c)).trans (Aq _ b 2 d)).trans (Aq _ b 3 e)⟩
theorem Dl.up{w W:Tw}{s:Ah}{v:Tv}(h:Dl w s v)(f:Zb w W):Dl W s v:=by obtain⟨a,c1,b,c,L,e,d⟩:=h;exact⟨a,c1,b,c,L,e,d.up f⟩
theorem Dl.put{s:Ah}{v:Tv}{b:Nat}{cs:Array Tv}(h:Dl w s v)(d:w.heap[b]? = some (Zk cs 42 (0,0)))(f:w.grownBy W (some b)):Dl W s v:=by
 obtain⟨i,c1,j,l,L,e,a⟩:=h;refine⟨i,c1,j,l,L,e,?_,a.files,?_,λx g=>?_⟩
 ·exact Az a.cols f (λk c e=>Fq a.cols d (by decide) (by rw[c];exact e.symm))
 ·exact Az a.row f (λk c e=>Fq a.row d (by decide) (by rw[c];exact e.symm))
 exact Az (a.Cl x g) f (λk c e=>Fq (a.Cl x g) d (by decide) (by rw[c];exact e.symm))
theorem AAK(W:Tw):Dl W F6 Wi:=⟨none,0,none,0,[],rfl,xI W⟩
def AKH(s:Ah)(c:Dn)(h:Int)(b:Option Addr)(n1 c1:Nat)(i:Int)(d:Option Addr)(n2 e:Nat)(a:Value)(g:World):Prop :=
 (a=.nilIface/\∃t,Bi s c t/\Dl g t (.agg #[Zi h,.slice b n1 c1,Zi i,.slice d n2 e]))\/(∃f x,a=.iface f x/\∀t,¬Bi s c t)
theorem kJ(s:Ah)(a:Tv)(f:Tb)(p:Bool)(Bz:List A5)(g:To)(j i:Nat)(w:Tw)(h:Dl w s a)(J:Good Bv Cm s)(n:0<=s.Eb)(o:s.Eb<=1000)(I:Dt w (Zs g j i) Bz)(k:Bz.length<=1000)(m:f.size<=maxLen)(M:Lw w):
 Zc 47 #[a,Zg #[Zt f,Zo p,Zs g j i]] w λe q=>∃y b n1 c1 z c n2 d r,e=Zr (Zu #[Zg #[Zi y,Zs b n1 c1,Zi z,Zs c n2 d],r])/\Zb w q/\AKH s (f,p,Bz) y b n1 c1 z c n2 d r q:=by
 refine(ADj s a f p Bz g j i w h J n o I k m M).mono ?_;rintro e q⟨u,⟨t,v,D,rfl,l⟩|⟨N,x,rfl,l⟩⟩
 ·obtain⟨b,c1,c,d,L,rfl,G⟩:=l
  exact⟨_,_,_,_,_,_,_,_,_,rfl,u,.inl ⟨rfl,t,D,b,c1,c,d,L,rfl,G⟩⟩
 exact⟨_,_,_,_,_,_,_,_,_,rfl,u,.inr ⟨N,x,rfl,l⟩⟩
abbrev AKw(W:World)(b:Nat)(a c d e:Value):World:=(((W.setCell ⟨b,0,none⟩ a).setCell ⟨b,1,none⟩ c).setCell ⟨b,2,none⟩ d).setCell ⟨b,3,none⟩ e
theorem Hx{n:Nat}(h:Below n w W){b:Nat}(a:n<=b)(c d e f:Tv):Below n w (AKw W b c d e f) :=
 (((h.setCell (p:=⟨b,0,none⟩) a _).setCell (p:=⟨b,1,none⟩) a _).setCell (p:=⟨b,2,none⟩) a _).setCell (p:=⟨b,3,none⟩) a _
def Vp(c:Aj):Prop:=Lu c.1/\Lu c.2.2.1/\Lu c.2.2.2.2.2.1
structure Ints(a:A5):Prop where
 rows:Lu a.2.2.1
 mask:∀x∈a.2.2.2.1,Lu x
 cols:∀x∈a.2.2.2.2.1,Vp x
 next:Lu a.2.2.2.2.2
theorem zD{n:Int}(h:(Lit.int .i64 n).wf=true):Lu n:=by
 have a:IntKind.i64.min = -9223372036854775808:=by decide
 have b:IntKind.i64.max=9223372036854775807:=by decide
 simp only[Lit.wf,WD,decide_eq_true_eq] at h;rw[a,b] at h;exact h
theorem AIb:prog.cellsOf 3=1:=by kernel_rfl
theorem AKN:prog.cellsOf 2=1:=by kernel_rfl
theorem AJr:prog.cellsOf 4=1:=by kernel_rfl
theorem AEW:prog.cellsOf 9=1:=by kernel_rfl
theorem AJ3:prog.cellsOf 56=3:=by kernel_rfl
theorem AHW:prog.cellsOf 72=7:=by kernel_rfl
theorem Jq{α:Type}{l:List α}{n:Nat}(h:l.length=n+1):∃a t,l=a :: t/\t.length=n:=by
 cases l with
 | nil=>simp at h
 | cons a t=>exact⟨a,t,rfl,by simpa using h⟩
theorem AFh{α:Type}{l:List α}(h:l.length=0):l=[]:=List.length_eq_zero_iff.1 h
section
variable {H : Type} {enc : TypeId × Value → H} {P : Program} {w : World} {base : Nat} {spare : Nat → Bool} {held : Bool} {t : TypeId} {fuel : Nat} {cs : List Value} {x : DataW H × List MemPlace}
theorem nB{a b c d e:Field}(p:P.underlying t=some (.struct #[a,b,c,d,e]))(h:DataW.trod enc P w base spare held fuel t cs=some x):
 ∃(i j k l m:DataW H×List MemPlace)(n:Nat),cs.length=P.cellsOf t/\DataW.trod enc P w base spare held n a.type ((cs.drop a.offset).take (P.cellsOf a.type))=some i/\DataW.trod enc P w base spare held n b.type ((cs.drop b.offset).take (P.cellsOf b.type))=some j/\DataW.trod enc P w base spare held n c.type ((cs.drop c.offset).take (P.cellsOf c.type))=some k/\DataW.trod enc P w base spare held n d.type ((cs.drop d.offset).take (P.cellsOf d.type))=some l/\DataW.trod enc P w base spare held n e.type ((cs.drop e.offset).take (P.cellsOf e.type))=some m:=by
 obtain⟨xs,n,_,_,o,g,f⟩:=DataW.trod_struct p h
 match xs,g with
 | [i,j,k,l,m],_=>exact⟨i,j,k,l,m,n,o,f 0 a rfl,f 1 b rfl,f 2 c rfl,f 3 d rfl,f 4 e rfl⟩
end
section
variable {H : Type} {enc : TypeId × Value → H} {W : World} {sp : Nat → Bool} {held : Bool} {n : Nat} {cs : List Value} {x : DataW H × List MemPlace}
theorem AEc(h:DataW.trod enc prog W 0 sp held n 72 cs=some x):∃c:Aj,cs=Cc c/\(c.2.1.size<=maxLen/\c.2.2.2.2.2.2.size<=maxLen)/\Vp c:=by obtain⟨y0,y1,y2,y3,y4,n1,z,t,u,v,w,y⟩:=nB underlying72 h;rw[AHW] at z;obtain⟨v0,cs1,rfl,a⟩:=Jq (n:=6) z;obtain⟨v1,cs2,rfl,b⟩:=Jq (n:=5) a;obtain⟨v2,cs3,rfl,d⟩:=Jq (n:=4) b;obtain⟨v3,O,rfl,e⟩:=Jq (n:=3) d;obtain⟨v4,P,rfl,f⟩:=Jq (n:=2) e;obtain⟨v5,R,rfl,g⟩:=Jq (n:=1) f;obtain⟨v6,T,rfl,i⟩:=Jq (n:=0) g;obtain rfl:=AFh i;simp only[AIb,AEW,AJr,AJ3,WE,X6,X',WG] at t u v w y;obtain⟨D,e0,_,U⟩:=DataW.trod_int underlying3 t;obtain⟨G,j,_,Y⟩:=DataW.trod_string underlying9 u;obtain⟨I,k,_,V⟩:=DataW.trod_int underlying3 v;obtain⟨J,l,_⟩:=DataW.trod_bool underlying4 w;obtain⟨z0,z1,z2,n2,_,_,q,r,s⟩:=trod_struct3 underlying56 y;simp only[AIb,AEW,AKN,WE,X6,X',WG] at q r s;obtain⟨L,m,_,_⟩:=DataW.trod_int underlying3 q;obtain⟨M,o,_,X⟩:=DataW.trod_int underlying2 r;obtain⟨N,p,_,m7⟩:=DataW.trod_string underlying9 s;simp at e0 j k l m o p;subst e0 j k l m o p;exact⟨(D,G,I,J,L,M,N),rfl,⟨Y,m7⟩,zD U,zD V,zD X⟩
def AKI{α:Type}[Inhabited α](k:Nat)(en:α->List Value)(W:World)(v:Value)(l:List α):Prop :=
 ((∃a c,v=.slice a 0 c)/\l=[])\/∃g o c,v=.slice (some ⟨g,o,none⟩) l.length c/\l.length<=c/\g<W.heap.size/\∀j,j<l.length->∀i u,(en l[j]!)[i]? = some u->W.cell? ⟨g,o+j*k+i,none⟩=some u
theorem p8{v:Tv}{l:List Aj}(h:AKI 7 Cc W v l):bH W v l:=by
 rcases h with h|⟨g,o,c,e,b,d,a⟩
 ·exact .inl h
 exact .inr ⟨g,o,c,e,b,d,a⟩
abbrev Gx:=A5×Sv×Sv
def nU(q:Gx):List Value:=[Zi q.1.1,.string q.1.2.1,Zi q.1.2.2.1,sv q.2.1,sv q.2.2,Zi q.1.2.2.2.2.2]
abbrev AKx:=Dn×Sv
def PK(W:World)(q:AKx):Prop:=AKB W (sv q.2) q.1.2.2/\q.1.2.2.length<=maxLen/\q.1.1.size<=maxLen/\∀a∈q.1.2.2,Ints a
end
variable{W Y w:Tw}{n:Nat}
attribute [local go_sem] Oper.semAt_some
def Mi:Value:=.agg #[Zi 0,.string ⟨#[]⟩,Zi 0,.slice none 0 0,.slice none 0 0,Zi 0]
theorem gO:(prog.info? 144).map (λi=>(i.zero,i.size,i.bytes))=some (some Mi,6,88):=by kernel_rfl
def Ci(L:List Gx):List Value:=L.flatMap nU
theorem Uy:∀{pre:List (List UInt8)}{L:List A5}{a:List UInt8}{x:A5},Cp pre=some L->Co a=some x->Cp (pre++[a])=some (L++[x])
 | [],L,a,x,h,hx=>by simp only[Cp] at h;cases h;simp[Cp,hx]
 | p :: pre,L,a,x,h,hx=>by
   simp only[Cp] at h;cases hp:Co p with
   | none=>rw[hp] at h;cases h
   | some y=>
     rw[hp] at h;simp only[XU] at h;cases hr:Cp pre with
     | none=>rw[hr] at h;cases h
     | some M=>rw[hr] at h;cases h;simp only[XO,Cp,hp,XU,Uy hr hx];rfl
theorem Sz:∀{pre:List (List UInt8)}{a:List UInt8}{t:List (List UInt8)},Co a=none->Cp (pre++a :: t)=none
 | [],a,t,h=>by simp[Cp,h]
 | p :: pre,a,t,h=>by simp only[XO,Cp];rw[Sz h];cases Co p <;> rfl
def pC(base:Nat)(W:World)(q:Gx):Prop:=W.ownsRow base 3 1 (sv q.2.1) q.1.2.2.2.1.length (q.1.2.2.2.1.map (.int .i64))/\W.ownsRow base 72 7 (sv q.2.2) q.1.2.2.2.2.1.length (Av q.1.2.2.2.2.1)
structure RdI(w:World)(bc base:Nat)(tx:ByteArray)(rd:Bool)(pre:List (List UInt8))(W:World)(L:List Gx)(aa:Option Addr)(ac:Nat):Prop where
 box:W.heap[bc]? = some (.cells #[.string tx,.bool rd,.slice aa L.length ac] 86 (0,0))
 Bz:Cp pre=some (L.map (·.1))
 row:W.ownsRow base 144 6 (.slice aa L.length ac) L.length (Ci L)
 own:∀q∈L,pC base W q
 res:W.heap[w.heap.size]? = some (.cells #[.string ⟨#[]⟩,.bool false,.slice none 0 0] 86 (0,0))
 ok:W.heap[w.heap.size+1]? = some (.cells #[.bool false] 4 (0,0))
 low:Zb w W
theorem Le{base:Nat}{t:TypeId}{z:Nat}{v:Tv}{xs:List Tv}{row:Option Nat}{B:Nat}(h:W.ownsRow base t z v n xs)(i:B<base)(f:W.grownBy Y row)(g:∀r,row=some r->r=B\/(∃o:Obj,W.heap[r]? = some o/\o.isCells=false)):Y.ownsRow base t z v n xs :=
 Az h f (λk a e=>by
  rcases g k e with rfl|⟨o,b,d⟩
  ·have:=Fu h a;omega
  obtain⟨cs,c⟩:=Ho h a;rw[c] at b;cases b;cases d)
theorem Ht{b:Nat}{cs:Array Tv}{t:TypeId}{row:Option Nat}{B:Nat}(h:W.heap[b]? = some (Zk cs t (0,0)))(c:b≠B)(f:W.grownBy Y row)(g:∀r,row=some r->r=B\/(∃o:Obj,W.heap[r]? = some o/\o.isCells=false)):Y.heap[b]? = some (Zk cs t (0,0)):=by
 refine(f.block b (Ac h) (λe=>?_)).trans h
 rcases g b e.symm with rfl|⟨o,a,d⟩
 ·exact c rfl
 rw[h] at a;cases a;cases d
theorem RdI.free{n base:Nat}{s:Tb}{l:Bool}{pre:List (List UInt8)}{L:List Gx}{f:To}{k:Nat}{row:Option Nat}{B:Nat}(h:RdI w n base s l pre W L f k)(c:B<base)(d:n≠B)(t:w.heap.size+1<B)(b:W.grownBy Y row)(i:∀r,row=some r->r=B\/(w.heap.size<=r/\∃o:Obj,W.heap[r]? = some o/\o.isCells=false)):RdI w n base s l pre Y L f k:=by
 have a:∀r,row=some r->r=B\/(∃o:Obj,W.heap[r]? = some o/\o.isCells=false):=λr e=>(i r e).imp id And.right
 refine⟨Ht h.box d b a,h.Bz,Le h.row c b a,λq g=>⟨Le (h.own q g).1 c b a,Le (h.own q g).2 c b a⟩,Ht h.res (by omega) b a,Ht h.ok (by omega) b a,h.low.grown b h.low.size (λj p=>?_)⟩
 rcases i j p with rfl|⟨m,_⟩
 ·omega
 exact m
structure RdX(w:World)(t0:List UInt8)(W:World):Prop where
 bad:Cp (Dp t0)=none
 res:W.heap[w.heap.size]? = some (.cells #[.string ⟨#[]⟩,.bool false,.slice none 0 0] 86 (0,0))
 ok:W.heap[w.heap.size+1]? = some (.cells #[.bool false] 4 (0,0))
 low:Zb w W
theorem RdX.free{l:List UInt8}{row:Option Nat}{B:Nat}(h:RdX w l W)(g:w.heap.size+1<B)(b:W.grownBy Y row)(c:∀r,row=some r->r=B\/(w.heap.size<=r/\∃o:Obj,W.heap[r]? = some o/\o.isCells=false)):RdX w l Y:=by
 have a:∀r,row=some r->r=B\/(∃o:Obj,W.heap[r]? = some o/\o.isCells=false):=λr e=>(c r e).imp id And.right
 refine⟨h.bad,Ht h.res (by omega) b a,Ht h.ok (by omega) b a,h.low.grown b h.low.size (λj f=>?_)⟩
 rcases c j f with rfl|⟨d,_⟩
 ·omega
 exact d
theorem Ie(h:Zb W Y):KeepsFrom n W Y:=⟨h.size,λk _ _ a _=>(h.block k (Ac a)).trans a⟩
variable{n z:Nat}{W Y:Tw}{v:Tv}
attribute [local go_sem] Oper.semAt_some
theorem dL{β:Type}{g:Operand}{p:Tmp}{assign body:Code}{Q:Exit->Act->Tw->Prop}{a:Act}{w:Tw}(q:Tmp)(T:1<=n){gf:Nat}{lb:Array Tv}(Y:a.eval g=.func (.func gf) #[] lb)(O:∀args w,(callFunc gf args).run prog w=.ok (.enter gf args) w){B:Nat}{R:β->Array Tv->β->Prop}{M:β}{E:β->Prop}{k:List UInt8->Tw->Prop}{L:Tw->Prop}(s:aX (n-1) gf lb B R M E k L)(J:∀v X r o o',k v X->X.heap[r]? = some o->o.isCells=false->k v (X.putObj r o'))(m:∀b args e,R b args e->args.size=1)(y:B≠w.heap.size)(z:B≠w.heap.size+1)(I:β->Tw->Prop)(x:Code->Tw->Prop)(U:iM B w.heap.size I)(G:∀c,iM B w.heap.size (λ(_:Unit)=>x c))(P:I M w)(V:∀r,L ((w.alloc (.deferred (some []))).alloc (.loop r)))(d:∀(l:Nat)(v:Tv)(W:Tw)(K:Act->Tw->Prop),K { tmps:=(a.tmps.setIfInBounds p v).setIfInBounds q v,defers:=[] } W ->
   assign.wpIn (Fence.wide.inRound l) (n-1-1) prog (Exit.then K (λ_ _ _=>False)) { tmps:=a.tmps.setIfInBounds p v,defers:=[] } W)(f:∀(l:Nat)(b:β)(v:Tv)(e:β)(W:Tw)(t:List UInt8),w.heap.size<=l->R b #[v] e->I b W->k t W->body.wpIn (Fence.wide.inRound l) (n-1-1) prog (AA1 w.heap.size k t I x e W) { tmps:=(a.tmps.setIfInBounds p v).setIfInBounds q v,defers:=[] } W)(i:∀(D:Nat)(b:β)(W:Tw),w.heap.size<=D->E b->I b W->W.heap[D]? = some (.deferred (some []))->Q .normal { a with defers:={ target:=.collected D,args:=#[] } :: a.defers } W)(j:∀(D:Nat)(c:Code)(W:Tw),w.heap.size<=D->x c W->W.heap[D]? = some (.deferred (some []))->c.wpIn Fence.wide n prog Q { a with defers:={ target:=.collected D,args:=#[] } :: a.defers } W):
 (Code.rangeFunc g #[p] assign body).wpIn Fence.wide n prog Q a w:=by
 have one:∀args:Array Tv,args.size=1->∃v,args=#[v]:=λargs h=>by
  rcases args with⟨_|⟨v,_|⟨u,r⟩⟩⟩
  ·cases h
  ·exact⟨v,rfl⟩
  simp at h
 refine ADO T Y O s J m y z I x U G P V (λargs=>{ tmps:=(a.tmps.setIfInBounds p (args.getD 0 undef)).setIfInBounds q (args.getD 0 undef),defers:=[] }) ?_ ?_ i j
 ·intro l args W K hs hK
  obtain⟨v,rfl⟩:=one args hs;have:=d l v W K hK;simpa using this
 intro l b args e W t hl N hi hk;obtain⟨v,rfl⟩:=one args (m b args e N);exact f l b v e W t hl N hi hk
theorem G6{q i:Nat}(h:KeepsFrom n W Y)(d:q<n):KeepsFrom n W (Y.setCell ⟨q,i,none⟩ v) :=
 ⟨XE h.size (Aq Y q i v).size,λk o b c a=>((Aq Y q i v).block k (Ac (h.same k o b c a)) (λe=>by injection e with e;omega)).trans (h.same k o b c a)⟩
theorem Cg{b q i:Nat}{o:Obj}(h:Y.heap[b]? = some o)(a:b≠q):(Y.setCell ⟨q,i,none⟩ v).heap[b]? = some o :=
 ((Aq Y q i v).block b (Ac h) (λe=>by injection e with e;omega)).trans h
theorem Iq{base:Nat}{t:TypeId}{xs:List Tv}{b i:Nat}{u:Tv}(h:W.ownsRow base t z v n xs)(a:b<base):(W.setCell ⟨b,i,none⟩ u).ownsRow base t z v n xs :=
 Le (B:=b) h a (Aq W b i u) (λr e=>by injection e with e;exact .inl e.symm)
theorem Xa:∀{pre:List (List UInt8)}{M:List A5},Cp pre=some M->M.length=pre.length
 | [],M,h=>by simp only[Cp] at h;cases h;rfl
 | p :: pre,M,h=>by
   simp only[Cp] at h;cases hp:Co p with
   | none=>rw[hp] at h;cases h
   | some y=>
     rw[hp] at h;simp only[XU] at h;cases hr:Cp pre with
     | none=>rw[hr] at h;cases h
     | some N=>rw[hr] at h;cases h;simp[Xa hr]
theorem AHN(s p:List UInt8):(Lib.trimSuffix s p).length<=s.length:=by
 unfold Lib.trimSuffix;split
 ·rw[XK];omega
 exact Y9 _
theorem j8{base i:Nat}{t t':TypeId}{j:Nat}{v v':Tv}{n n':Nat}{xs X:List Tv}(h:W.ownsRow base t z v n xs)(d:W.ownsRow i t' j v' n' X)(b:t≠t')(f:W.grownBy Y v'.ownBlock):Y.ownsRow base t z v n xs :=
 Az h f (λk g e=>by obtain⟨c1,c⟩:=Ho h g;obtain⟨l,a⟩:=Ho d e;rw[c] at a;injection a with a;injection a with _ a;exact b a)
theorem j4{X:Tw}{base:Nat}{t:TypeId}{k:Nat}{xs:List Tv}(h:KeepsFrom n W X)(g:X.ownsRow base t z v k xs)(f:X.grownBy Y v.ownBlock):KeepsFrom n W Y :=
 ⟨XE h.size f.size,λj o b c a=>(f.block j (Ac (h.same j o b c a)) (λe=>by obtain⟨i,d⟩:=Ho g e.symm;rw[h.same j o b c a] at d;cases d;cases a)).trans (h.same j o b c a)⟩
theorem I2{b:Nat}{x:Tv}{t:TypeId}(h:W.heap[b]? = some (Zk #[x] t (0,0))):W.cell? ⟨b,0,none⟩=some x/\W.frozen? ⟨b,0,none⟩=false:=by constructor <;> simp[World.cell?,World.frozen?,h]
def dM(l:List UInt8)(w:World)(e:Ending)(b:World):Prop:=∃(g:ByteArray)(f:Bool)(c:Option Addr)(a d:Nat)(ok:Bool),e=.returned (.tuple #[.agg #[.string g,.bool f,.slice c a d],.bool ok])/\Zb w b/\((ok=true/\∃L:List Gx,Js l=some (g,f,L.map (·.1))/\a=L.length/\b.ownsRow 0 144 6 (.slice c a d) L.length (Ci L)/\∀q∈L,pC 0 b q)\/(ok=false/\Js l=none))
theorem Pq(hP:S0)(s:Tb)(w:Tw)(hs:s.size<=1000000)(he:Ik w):Zc 83 #[Zt s] w (dM s.data.toList w):=by
 obtain⟨l,hl⟩:∃l,s.data.toList=l:=⟨_,rfl⟩;have cf:l.length<=1000000:=by rw[<-hl,Gm];exact hs
 rw[hl];have aj:=Aa (λW=>L5 s 10 W (by unfold maxLen;omega));rw[hl] at aj;have bn:=P1 10 l;have bb:=Ve 10 l
 have ap:Hid (∀W,Zc 130 #[Zt (bA (Ao 10 l).1),Zt ⟨#[32]⟩] W λe w'=>e=Zr (Zu #[Zt (bA (Ao 32 (Ao 10 l).1).1),Zt (bA (Aw (Ao 10 l).1)),Zo (Ao 32 (Ao 10 l).1).2.2])/\Below W.heap.size W w'):=Aa (λW=>by have:=L5 (bA (Ao 10 l).1) 32 W (by unfold maxLen;omega);rw[B5] at this;exact this)
 have b3:=Gi (Ao 10 l).1
 have aq:Hid (∀W,Zc 130 #[Zt (bA (Aw (Ao 10 l).1)),Zt ⟨#[32]⟩] W λe w'=>e=Zr (Zu #[Zt (bA (Ao 32 (Aw (Ao 10 l).1)).1),Zt (bA (Ao 32 (Aw (Ao 10 l).1)).2.1),Zo (Ao 32 (Aw (Ao 10 l).1)).2.2])/\Below W.heap.size W w'):=Aa (λW=>by have:=L5 (bA (Aw (Ao 10 l).1)) 32 W (by rw[Cz] at bn ⊢;unfold maxLen;omega);rw[B5] at this;exact this)
 have am:Hid (Js l=(Cp (Dp (Ao 10 l).2.1)).map λx=>(bA (Ao 32 (Aw (Ao 10 l).1)).1,decide ((Ao 32 (Aw (Ao 10 l).1)).2.1=gX),x)):=Aa rfl;have ax:=Aa (Ky (Ao 32 (Aw (Ao 10 l).1)).2.1);rw[Cz] at bb
 have av:Hid (∀(a:List UInt8)W,a.length<=1000000->Below w.heap.size w W->Zc 132 #[Zt (bA a)] W (AA3 a W)):=Aa (λa W ha hW=>by have:=eE hP (bA a) W (by rw[Cz];exact ha) (he.below hW);rw[B5] at this;exact this)
 clear he hl hs hP bn b3;generalize Ao 32 (Aw (Ao 10 l).1)=c3 at *;generalize (Ao 32 (Ao 10 l).1).1=bv at *;generalize (Ao 32 (Ao 10 l).1).2.2=z2 at *;generalize bA (Aw (Ao 10 l).1)=r2 at *;generalize Ao 10 l=c1 at *;obtain⟨hd,t0,z1⟩:=c1;obtain⟨b7,ao,z3⟩:=c3;simp only at aj ap aq am ax bb;generalize bA hd=xh at *;generalize bA bv=cg at *;have b5:t0.length<=1000000:=by omega
 generalize bm:bA t0=rs at *;have aw:=Aa bm;generalize bA b7=tx at *;have bl:((bA ao).toList==[114,101,97,100,115])=decide (ao=gX):=by rw[ax.o];exact ABi _ _
 have ar:=Aa bl;generalize bA ao=xw at *;generalize decide (ao=gX)=rd at *;clear bl ax bm bb;obtain⟨z0,bp,bq,br⟩:=C1 w (Zk #[Zt ⟨#[]⟩,Zo false,Zs none 0 0] 86) (Zk #[Zo false] 4);have Z0:=Aa z0;have Z1:=Aa bp;have Z2:=Aa bq;have Z3:=Aa br;clear z0 bp bq br;refine(callsIn_wide (n:=5)).1 ?_;refine callsIn_of_wp_marks func83 rfl trivial ?_ rfl;simp only[ntmps83,WB,XC,XJ,Nat.reduceAdd,Nat.reduceSub,XX,XY,WC,X4,XW,XO]
 gi_wp2_with (first
  | (refine⟨trivial,?_⟩;gi_at_call_has 130 (Zt s);refine(callsIn_wide.2 (aj.o _)).mono ?_;rintro e w2⟨rfl,ay⟩)
  | (refine⟨trivial,?_⟩;gi_at_call_has 130 (Zt xh);refine(callsIn_wide.2 (ap.o _)).mono ?_;rintro e w3⟨rfl,az⟩)
  | (refine⟨trivial,?_⟩;gi_at_call_has 130 (Zt r2);refine(callsIn_wide.2 (aq.o _)).mono ?_;rintro e g⟨rfl,a0⟩)
  | (refine⟨trivial,?_⟩;gi_at_call 131;refine(callsIn_wide.2 (ADX _ _)).mono ?_;rintro e w5⟨rfl,rfl⟩))
 rename_i K0 hK0;simp only[ar.o];have ah:Below w.heap.size w g:=Below.Ap (Below.Ap (Below.Ap Z3.o ay) az) a0;have ae:=Below.Ap (Below.Ap ay az) a0;have cd:w.heap.size+2<=g.heap.size:=by have:=ae.size;rw[Z0.o] at this;exact this
 have ai:g.heap[w.heap.size]? = some (Zk #[Zt ⟨#[]⟩,Zo false,Zs none 0 0] 86 (0,0)):=(ae.block _ (by rw[Z0.o];omega)).trans Z1.o;have a6:g.heap[w.heap.size+1]? = some (Zk #[Zo false] 4 (0,0)):=(ae.block _ (by rw[Z0.o];omega)).trans Z2.o;clear ae ay az a0 Z0 Z1 Z2 Z3 aj ap aq;obtain⟨y0,y1,y2,y3⟩:=C1 g (Zk #[Zt tx,Zo rd,Zs none 0 0] 86) (Zk #[Zt rs] 9);refine dL 14 (by decide) rfl (λ_ _=>rfl) (AAH 4 (g.heap.size+1) (by decide) t0 b5) (λv X r o o' h ho hc=>iN.kept h ho hc) (λb args b'⟨_,_,_,h,_⟩=>by rw[h];rfl) (by simp) (by simp) (λpre W=>∃L V ac,RdI w g.heap.size (g.heap.size+2) tx rd pre W L V ac) (λc W=>c=.ret/\RdX w t0 W) ?ab ?abx ?h0 ?hT ?hassign ?hbody ?hdone ?hstop
 case ab=>rintro pre X Y row⟨L,V,ac,hI⟩hg hr;exact⟨L,V,ac,hI.free (Nat.lt_succ_self _) (by omega) (by omega) hg (λr e=>(hr r e).imp id (λh=>⟨by have:=h.1;rw[y0] at this;omega,h.2⟩))⟩
 case abx=>rintro c b X Y row⟨hc,hX⟩hg hr;exact⟨hc,hX.free (by omega) hg (λr e=>(hr r e).imp id (λh=>⟨by have:=h.1;rw[y0] at this;omega,h.2⟩))⟩
 case h0=>refine⟨[],none,0,y1,rfl,?_,(λq hq=>by cases hq),(y3.block _ (by omega)).trans ai,(y3.block _ (by omega)).trans a6,Below.Ap ah y3⟩;exact⟨rfl,.inl ⟨rfl,rfl⟩⟩
 case hT=>intro r;unfold iN;rw[XT _ _ _ (by simp),XT _ _ _ (by simp),y2,<-aw.o]
 case hassign=>intro l v W K hK;gi_wp2;exact hK
 case hbody=>
  rintro l pre v ce W t hl⟨a,bo,t',hv,bj,a8,b4,rfl⟩⟨L,V,ac,hI⟩hk;cases hv;clear ai a6 y1 y2 y3 ah
  have HT:Hid (∀W,Zc 133 #[Zt (bA bo),Zt ⟨#[10]⟩] W λe w'=>e=Zr (Zt (bA a))/\w'=W):=Aa (λW=>by have:=strings_TrimSuffix (bA bo) ⟨#[10]⟩ W (by rw[Cz];omega);rw[B5] at this;refine this.mono ?_;rintro e w'⟨rfl,rfl⟩;refine⟨?_,rfl⟩;rw[<-a8];rfl)
  have b2:a.length<=1000000:=by rw[<-a8];exact XE (AHN _ _) b4
  have HR:=Aa (av.o a W b2 hI.low);have d:=Aa hI;have HK:=Aa hk;have HL:=Aa bj;clear hI hk bj a8 av am ar aw;cases hra:Co a with
  | none=>
    have au:Hid (Zc 132 #[Zt (bA a)] W λe w'=>∃(k:Int)(p:Tb)(r:Int)(N:To)(P O:Nat)(G:To)(J I:Nat)(T:Int),e=Zr (Zu #[Zg #[Zi k,Zt p,Zi r,Zs N P O,Zs G J I,Zi T],Zo false])/\Below W.heap.size W w'):=Aa (HR.o.mono (by
     rintro e w'⟨k,p,r,N,P,O,G,J,I,T,ok,rfl,hb,⟨_,M,C,h,_⟩|⟨rfl,_⟩⟩
     ·rw[hra] at h;cases h
     exact⟨k,p,r,N,P,O,G,J,I,T,rfl,hb⟩))
    have HN:Hid (Cp (Dp t0)=none):=Aa (by rw[HL.o];exact Sz hra);clear HR hra HL
    gi_wp2_with (first
     | (refine⟨trivial,?_⟩;gi_at_call 133;refine(callsIn_wide.2 (HT.o _)).mono ?_;rintro e w6⟨rfl,rfl⟩)
     | (refine⟨trivial,?_⟩;gi_at_call 132;refine(callsIn_wide.2 au.o).mono ?_;rintro e w7⟨k,p,r,N,P,O,G,J,I,T,rfl,R⟩
        have ag:Hid (Below w6.heap.size w6 (w7.alloc (Zk #[Zi k,Zt p,Zi r,Zs N P O,Zs G J I,Zi T] 144))):=Aa (R.alloc R.size _);have an:=Aa ((ag.o.block _ (Ac d.o.res)).trans d.o.res);have bc:=Aa ((ag.o.block _ (Ac d.o.ok)).trans d.o.ok);obtain⟨x0,x1,x2,xf⟩:=Db an.o;have xb:=I2 bc.o;clear R))
    rw[y0];refine⟨G6 (G6 (G6 (G6 (Ie ag.o) (by omega)) (by omega)) (by omega)) (by omega),rfl,HN.o,?_,?_,?_⟩
    ·exact Cg (pF _ _ _ _ _ _ _ _ _ an.o) (by omega)
    ·exact As _ _ 0 _ _ _ (Cg (Cg (Cg bc.o (by omega)) (by omega)) (by omega))
    exact(Fi (Below.Ap d.o.low ag.o) (Y9 _) _ _ _).setCell (p:=⟨w.heap.size+1,0,none⟩) (Y' _) _
  | some x=>
    obtain⟨k,p,r,M,C,T⟩:=x
    have au:Hid (Zc 132 #[Zt (bA a)] W λe w'=>∃(N:To)(P O:Nat)(G:To)(J I:Nat),e=Zr (Zu #[Zg #[Zi k,Zt p,Zi r,Zs N P O,Zs G J I,Zi T],Zo true])/\Below W.heap.size W w'/\w'.ownsRow W.heap.size 3 1 (Zs N P O) M.length (M.map (.int .i64))/\w'.ownsRow W.heap.size 72 7 (Zs G J I) C.length (Av C)):=Aa (HR.o.mono (by
     rintro e w'⟨k,p,r,N,P,O,G,J,I,T,ok,rfl,hb,⟨rfl,M,C,h,h1,h2⟩|⟨_,h⟩⟩
     ·rw[hra] at h;cases h;exact⟨N,P,O,G,J,I,rfl,hb,h1,h2⟩
     rw[hra] at h;cases h))
    have HN:=Aa (Uy d.o.Bz hra)
    have hlen:L.length<=1000000:=by have h1:=Xa d.o.Bz;have h2:=eX _ t0 (Y9 _);rw[HL.o] at h2;simp only[XG,XF,XC] at h1 h2;omega
    obtain⟨iA,bi,a2⟩:=Option.map_eq_some_iff.1 gO;simp only[Prod.mk.injEq] at a2;have al:=Aa (And.intro bi a2);clear HR hra HL bi a2
    gi_wp2_with (first
     | (refine⟨trivial,?_⟩;gi_at_call 133;refine(callsIn_wide.2 (HT.o _)).mono ?_;rintro e w6⟨rfl,rfl⟩)
     | (refine⟨trivial,?_⟩;gi_at_call 132;refine(callsIn_wide.2 au.o).mono ?_;rintro e w7⟨N,P,O,G,J,I,rfl,R,bk,bh⟩
        have bt:=Aa bk;have bs:=Aa bh;have f:=Aa R;have ag:Hid (Below w6.heap.size w6 (w7.alloc (Zk #[Zi k,Zt p,Zi r,Zs N P O,Zs G J I,Zi T] 144))):=Aa (R.alloc R.size _);have an:=Aa ((ag.o.block _ (Ac d.o.box)).trans d.o.box);obtain⟨x0,x1,x2,xf⟩:=Db an.o;have y:Hid (Below w7.heap.size w7 ((w7.alloc (Zk #[Zi k,Zt p,Zi r,Zs N P O,Zs G J I,Zi T] 144)).alloc (Zk #[Zi k,Zt p,Zi r,Zs N P O,Zs G J I,Zi T] 144))):=Aa ((Zal).alloc (by rw[XH];exact Y' _) _);have m:=Aa (Bc (Bc d.o.row f.o) y.o);have U:Hid (g.heap.size+2<=w6.heap.size):=Aa (Ac HK.o);clear R bk bh)
     | (gi_at_builtin;refine wpListIn_append_own _ rfl _ _ 84 rfl (g.heap.size+2) 144 iA Mi 6 88 underlying84 al.o.1 al.o.2.1 al.o.2.2.1 al.o.2.2.2 rfl (by decide) (.slice V L.length ac) L.length (Ci L) rfl m.o ⟨w7.heap.size+1,0,none⟩ 1 1 (nU ((k,p,r,M,C,T),(N,P,O),(G,J,I))) rfl rfl (λj u hj=>XM (by rw[<-XH w7 (.cells #[Zi k,.string p,Zi r,.slice N P O,.slice G J I,Zi T] 144)];exact heap_alloc_new _ _) j u hj) (by intro u hu;simp[nU] at hu;rcases hu with rfl|rfl|rfl|rfl|rfl|rfl <;> rfl) (by unfold maxLen;omega) (by omega) (XE U.o (XE f.o.size y.o.size)) ?_
        intro v1 w9 ad a1 _;obtain⟨a',c',rfl⟩:=AAN ad;have bu:=Aa ad;have ak:=Aa a1;have bd:=Aa ((a1.block g.heap.size (Ya (Ac d.o.box) (XE f.o.size y.o.size)) (λe=>by have:=Fu m.o e.symm;omega)).trans ((y.o.block _ (Ya (Ac d.o.box) f.o.size)).trans ((f.o.block _ (Ac d.o.box)).trans d.o.box)));obtain⟨b8,b9,cb,yf⟩:=Db bd.o;clear ad a1))
    clear b8 b9 cb yf x0 x1 x2 xf
    have a9:∀{b:Nat}{cs:Array Tv}{t:TypeId},w6.heap[b]? = some (Zk cs t (0,0))->b<g.heap.size+2->b≠g.heap.size->(w9.setCell ⟨g.heap.size,2,none⟩ (Zs a' (L.length+1) c')).heap[b]? = some (Zk cs t (0,0)):=λh hb a4=>Cg ((ak.o.block _ (Ya (Ac h) (XE f.o.size y.o.size)) (λe=>by have:=Fu m.o e.symm;omega)).trans ((y.o.block _ (Ya (Ac h) f.o.size)).trans ((f.o.block _ (Ac h)).trans h))) a4
    have af:∀{t:TypeId}{z:Nat}{v:Tv}{n:Nat}{xs:List Tv},w7.ownsRow (g.heap.size+2) t z v n xs->t≠144->(w9.setCell ⟨g.heap.size,2,none⟩ (Zs a' (L.length+1) c')).ownsRow (g.heap.size+2) t z v n xs:=λh a4=>Iq (j8 (Bc h y.o) m.o a4 ak.o) (by omega)
    rw[y0];refine⟨G6 (j4 (Ie (Below.Ap f.o y.o)) m.o ak.o) (by omega),⟨L++[((k,p,r,M,C,T),(N,P,O),(G,J,I))],a',c',?_,?_,?_,?_,?_,?_,?_⟩,?_⟩
    ·rw[XF]
     exact As w9 g.heap.size 2 _ _ _ bd.o
    ·rw[HN.o,XI];rfl
    ·rw[XF]
     have:=Iq (b:=g.heap.size) (i:=2) (u:=Zs a' (L.length+1) c') bu.o (by omega);have e:Ci (L++[((k,p,r,M,C,T),(N,P,O),(G,J,I))])=Ci L++nU ((k,p,r,M,C,T),(N,P,O),(G,J,I)):=by simp[Ci]
     rw[e];exact this
    ·intro q hq
     rcases List.mem_append.1 hq with hq|hq
     ·exact⟨af (Bc (d.o.own q hq).1 f.o) (by decide),af (Bc (d.o.own q hq).2 f.o) (by decide)⟩
     obtain rfl:=List.mem_singleton.1 hq;exact⟨af (G1 bt.o U.o) (by decide),af (G1 bs.o U.o) (by decide)⟩
    ·exact a9 d.o.res (by omega) (by omega)
    ·exact a9 d.o.ok (by omega) (by omega)
    ·have h1:=Below.Ap d.o.low (Below.Ap f.o y.o)
     exact(h1.grown ak.o h1.size (λj hj=>by have:=Fu m.o hj;omega)).setCell (p:=⟨g.heap.size,2,none⟩) (by show w.heap.size<=g.heap.size;omega) _
    exact a9 HK.o (by omega) (by omega)
 case hdone=>
  rintro D pre W hD rfl⟨L,V,ac,hI⟩hd;rw[y0] at hD;clear y0 y1 y2 y3 ai a6 av aw ar ah;refine hK0 _ _ ?_;clear hK0;obtain⟨x0,x1,x2,xf⟩:=Db hI.box;obtain⟨r0,r1,b6,rf⟩:=Db hI.res;obtain⟨o0,of⟩:=I2 hI.ok;have d:=Aa hI;have HD:=Aa hd;clear hI hd;gi_wp2;clear x0 x1 x2 xf r0 r1 b6 rf o0 of;have bw:=pF W w.heap.size _ _ _ (Zt tx) (Zo rd) (Zs V L.length ac) _ d.o.res;have bx:(aL W w.heap.size (Zt tx) (Zo rd) (Zs V L.length ac)).heap[w.heap.size+1]? = _:=Cg (Cg (Cg d.o.ok (by omega)) (by omega)) (by omega);have bz:=Cg (q:=w.heap.size+1) (i:=0) (v:=Zo true) bw (by omega);have b0:=As _ (w.heap.size+1) 0 _ _ (Zo true) bx;have bf:((aL W w.heap.size (Zt tx) (Zo rd) (Zs V L.length ac)).setCell ⟨w.heap.size+1,0,none⟩ (Zo true)).heap[D]? = _:=Cg (Cg (Cg (Cg HD.o (by omega)) (by omega)) (by omega)) (by omega);have bg:Below w.heap.size w ((aL W w.heap.size (Zt tx) (Zo rd) (Zs V L.length ac)).setCell ⟨w.heap.size+1,0,none⟩ (Zo true)):=(Fi d.o.low (Y9 _) _ _ _).setCell (p:=⟨w.heap.size+1,0,none⟩) (Y' _) _;have b1:∀{t:TypeId}{z:Nat}{v:Tv}{n:Nat}{xs:List Tv},W.ownsRow (g.heap.size+2) t z v n xs->((aL W w.heap.size (Zt tx) (Zo rd) (Zs V L.length ac)).setCell ⟨w.heap.size+1,0,none⟩ (Zo true)).ownsRow (g.heap.size+2) t z v n xs:=λh=>Iq (Iq (Iq (Iq h (by omega)) (by omega)) (by omega)) (by omega)
  change LeavesInM _ _ _ _ _ _ _ _ ((aL W w.heap.size (Zt tx) (Zo rd) (Zs V L.length ac)).setCell ⟨w.heap.size+1,0,none⟩ (Zo true))
  generalize (aL W w.heap.size (Zt tx) (Zo rd) (Zs V L.length ac)).setCell ⟨w.heap.size+1,0,none⟩ (Zo true)=X at *;refine⟨by simp,.inl ⟨_,_,rfl,run_takeDeferred bf,?_⟩⟩;have a7:(X.putObj D (.deferred none)).heap[w.heap.size]? = _:=(XA (by omega)).trans bz;have a5:(X.putObj D (.deferred none)).heap[w.heap.size+1]? = _:=(XA (by omega)).trans b0;have a3:Below w.heap.size w (X.putObj D (.deferred none)):=bg.grown (grownBy_putObj' X D _) bg.size (λj hj=>by injection hj with hj;omega);have ba:∀{t:TypeId}{z:Nat}{v:Tv}{n:Nat}{xs:List Tv},W.ownsRow (g.heap.size+2) t z v n xs->(X.putObj D (.deferred none)).ownsRow 0 t z v n xs:=λh=>G1 (Le (B:=w.heap.size) (b1 h) (by omega) (grownBy_putObj' X D _) (λr e=>by injection e with e;subst e;exact .inr ⟨_,bf,rfl⟩)) (XP _)
  generalize X.putObj D (.deferred none)=W9 at *;obtain⟨x0,x1,x2,_⟩:=Db a7;obtain⟨xb,_⟩:=I2 a5;refine⟨Zu #[Zg #[Zt tx,Zo rd,Zs V L.length ac],Zo true],?_,tx,rd,V,L.length,ac,true,rfl,a3,.inl ⟨rfl,L,by rw[am.o,d.o.Bz];rfl,rfl,ba d.o.row,λq hq=>⟨ba (d.o.own q hq).1,ba (d.o.own q hq).2⟩⟩⟩;simp[results,f83,go_sem,x0,x1,x2,xb]
 case hstop=>rintro D c W hD⟨rfl,hX⟩hd;gi_wp2;rw[y0] at hD;refine⟨by simp,.inl ⟨_,_,rfl,run_takeDeferred hd,?_⟩⟩;have a7:(W.putObj D (.deferred none)).heap[w.heap.size]? = _:=(XA (by omega)).trans hX.res;have a5:(W.putObj D (.deferred none)).heap[w.heap.size+1]? = _:=(XA (by omega)).trans hX.ok;have a3:Below w.heap.size w (W.putObj D (.deferred none)):=hX.low.grown (grownBy_putObj' W D _) hX.low.size (λj hj=>by injection hj with hj;omega);generalize W.putObj D (.deferred none)=W9 at *;obtain⟨x0,x1,x2,_⟩:=Db a7;obtain⟨xb,_⟩:=I2 a5;refine⟨Zu #[Zg #[Zt ⟨#[]⟩,Zo false,Zs none 0 0],Zo false],?_,⟨#[]⟩,false,none,0,0,false,rfl,a3,.inr ⟨rfl,by rw[am.o,hX.bad];rfl⟩⟩;clear hK0;simp[results,f83,go_sem,x0,x1,x2,xb]
