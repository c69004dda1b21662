import Derived.Test.YtneakjbkbmfleaaGreatDoorP2
import Derived.Deep.RegionHeld3
import Derived.RangeFuncNested
import Derived.RangeFuncBound
import Derived.Maps.Ext
set_option maxHeartbeats 40000000
set_option maxRecDepth 100000
open Go.World renaming putObj_heap_other->Y',ownsRow_nil->XD,size_alloc->XL,news_of_block->XP,putObj_heap_same->XT,alloc_heap_new->XX
open Nat renaming le_refl->XA,le_succ->XB,le_trans->XH,zero_le->X2,zero_add->WI
open List renaming length_cons->XC,length_append->XE,length_map->XG,cons_append->XI,length_nil->XJ,length_drop->XK,map_append->XM,append_toArray->XQ,length_take->XR,nil_append->XU,size_toArray->XV,push_toArray->XW,setIfInBounds_toArray->X4,isSuffixOf_iff_suffix->X6,getElem?_append_right->X',getElem?_append_left->Wb,flatMap_cons->WA,getElem?_eq_getElem->WB,drop_succ_cons->WD,take_succ_cons->WE,set_cons_succ->WG,set_cons_zero->WH,drop_zero->WK,take_zero->WL,map_cons->WM
open Go.RowKit.Below renaming refl->XF,heap_alloc->XY,heap_setCell->XZ
open Array renaming replicate_succ->XN,replicate_zero->XO,length_toList->WC
open Option renaming bind_some->XS
open Bool renaming and_eq_true->WJ
namespace Go.Proofs.YtneakjbkbmfleaaGreatDoor
open Tryz RowKit Lib Joins Maps ChangeShapes WideShapes ChangeAt Deep
open Go.Sort (grow)
def Ch(a:A5):Bool :=
 if a.1=1 then rfB a.2.1 a.2.2.1 && Mm ⟨#[]⟩ 0 a.2.2.2.1.length a.2.2.2.2.1.length a.2.2.2.2.2
 else if a.1=2 then Bx a.2.1 && Mm ⟨#[]⟩ a.2.2.1 a.2.2.2.1.length a.2.2.2.2.1.length a.2.2.2.2.2
 else if a.1=3 then (Bx a.2.1 && Dj a.2.2.2.1 60) && Mm ⟨#[]⟩ a.2.2.1 0 a.2.2.2.2.1.length a.2.2.2.2.2
 else if a.1=4 then Be a.2.2.2.2.1 a.2.2.2.2.2 && Mm a.2.1 a.2.2.1 a.2.2.2.1.length 0 0
 else false
theorem Vj{W:Tw}{b:Nat}{v u f a e c:Tv}{t:TypeId}(h:W.heap[b]? = some (Zk #[v,u,f,a,e,c] t (0,0))):
 W.cell? ⟨b,0,none⟩=some v/\W.cell? ⟨b,1,none⟩=some u/\W.cell? ⟨b,2,none⟩=some f/\W.cell? ⟨b,3,none⟩=some a/\W.cell? ⟨b,4,none⟩=some e/\W.cell? ⟨b,5,none⟩=some c/\∀i,W.frozen? ⟨b,i,none⟩=false:=by
 refine⟨?_,?_,?_,?_,?_,?_,λi=>?_⟩ <;> simp[World.cell?,World.frozen?,h]
theorem wO(k:Int)(p:Tb)(r:Int)(m:List Int)(cl:List Aj)(a:Int)(l:To)(g n:Nat)(h:To)(d i:Nat)(w:Tw)(I:Om w (k,p,r,m,cl,a) l g n h d i)(hw:Lw w):
 Zc 90 #[Zg #[Zi k,Zt p,Zi r,Zs l g n,Zs h d i,Zi a]] w λe w'=>e=Zr (Zo (Ch (k,p,r,m,cl,a)))/\Zb w w':=by
 have T:=I.mask.len.1;have R:=I.cols.len;simp only at T R;have N:=Aa T;have M:=Aa R;clear T R;have V:=Aa (λW=>Qw k p r l g n h d i a W I.path);have x:=Aa (λW=>Mn p W I.path);have X:Hid (∀W,Zb w W->Zc 145 #[Zs l g n,Zi 60] W λe w'=>e=Zr (Zo (Dj m 60))/\Zb W w'):=λW G=>gW _ m 60 W (I.mask.below G) (by have:=I.Iz;simp only at this;unfold maxLen;omega)
 have Y:Hid (∀W,Zb w W->Zc 64 #[Zs h d i,Zi a] W λe w'=>e=Zr (Zo (Be cl a))/\Zb W w'):=λW G=>Vs h d i cl a W (I.cols.below G) (hw.below G) I.texts
 have v:=Aa (λp r l g n h d i a W=>AF4 k p r l g n h d i a W);obtain⟨t0,t1,t2,t3⟩:=C1 w (Zk #[Zi k,Zt p,Zi r,Zs l g n,Zs h d i,Zi a] 129) (Zk #[Zi k,Zt p,Zi r,Zs l g n,Zs h d i,Zi a] 129)
 have y:Hid (∀W,Below (w.heap.size+2) ((w.alloc (Zk #[Zi k,Zt p,Zi r,Zs l g n,Zs h d i,Zi a] 129)).alloc (Zk #[Zi k,Zt p,Zi r,Zs l g n,Zs h d i,Zi a] 129)) W->W.heap[w.heap.size]? = some (Zk #[Zi k,Zt p,Zi r,Zs l g n,Zs h d i,Zi a] 129 (0,0))/\W.heap[w.heap.size+1]? = some (Zk #[Zi k,Zt p,Zi r,Zs l g n,Zs h d i,Zi a] 129 (0,0))/\Zb w W/\w.heap.size+2<=W.heap.size):=λW G=>by have hs:=G.size;rw[t0] at hs;exact⟨(G.block _ (by omega)).trans t1,(G.block _ (by omega)).trans t2,t3.trans (G.mono (by omega)),hs⟩
 clear t0 t1 t2 t3 I hw;generalize aa:(w.alloc (Zk #[Zi k,Zt p,Zi r,Zs l g n,Zs h d i,Zi a] 129)).alloc (Zk #[Zi k,Zt p,Zi r,Zs l g n,Zs h d i,Zi a] 129)=wA at y;have t:=(y.o wA (XF _ _)).2.2.2;have s:=Aa aa;clear aa
 by_cases k1:k=1
 ·subst k1
  have c:Hid (Ch (1,p,r,m,cl,a)=(rfB p r && Mm ⟨#[]⟩ 0 g d a)):=by rw[N.o,M.o];rfl
  generalize Ch (1,p,r,m,cl,a)=q at c ⊢;generalize rfB p r=O at V c;cases O
  all_goals
   go_enter func90,ntmps90;go_wp2_with fail;rw[s.o];refine(V.o _).mono ?_;rintro e U⟨rfl,b⟩;obtain⟨u1,u,L,u4⟩:=y.o U (b.mono t);obtain⟨_,y1,y2,y3,y4,y5,f⟩:=Vj u;have y0:=(Vj u).1;have J:=f 1;have ae:=f 2;have o:=Aa L;clear u1 u L f b;go_wp2_with (go_at_call 146;refine(v.o _ _ _ _ _ _ _ _ _ _).mono ?_;rintro e w2⟨rfl,j⟩);go_ret
   first
    | exact⟨Af (by rw[c.o];rfl),(o.o.setCell (p:=⟨w.heap.size+1,_,none⟩) (XB _) _).setCell (p:=⟨w.heap.size+1,_,none⟩) (XB _) _⟩
    | exact⟨Af (by rw[c.o];rfl),((o.o.setCell (p:=⟨w.heap.size+1,_,none⟩) (XB _) _).setCell (p:=⟨w.heap.size+1,_,none⟩) (XB _) _).trans (j.mono (by simp;omega))⟩
 by_cases k2:k=2
 ·subst k2
  have c:Hid (Ch (2,p,r,m,cl,a)=(Bx p && Mm ⟨#[]⟩ r g d a)):=by rw[N.o,M.o];rfl
  generalize Ch (2,p,r,m,cl,a)=q at c ⊢;generalize Bx p=O at x c;cases O
  all_goals
   go_enter func90,ntmps90;go_wp2_with fail;rw[s.o];refine(x.o _).mono ?_;rintro e U⟨rfl,b⟩;obtain⟨u1,u,L,u4⟩:=y.o U (b.mono t);obtain⟨_,y1,y2,y3,y4,y5,f⟩:=Vj u;have y0:=(Vj u).1;have J:=f 1;have o:=Aa L;clear u1 u L f b;go_wp2_with (go_at_call 146;refine(v.o _ _ _ _ _ _ _ _ _ _).mono ?_;rintro e w2⟨rfl,j⟩);go_ret
   first
    | exact⟨Af (by rw[c.o];rfl),o.o.setCell (p:=⟨w.heap.size+1,_,none⟩) (XB _) _⟩
    | exact⟨Af (by rw[c.o];rfl),(o.o.setCell (p:=⟨w.heap.size+1,_,none⟩) (XB _) _).trans (j.mono (by simp;omega))⟩
 by_cases k3:k=3
 ·subst k3
  have c:Hid (Ch (3,p,r,m,cl,a)=((Bx p && Dj m 60) && Mm ⟨#[]⟩ r 0 d a)):=by rw[M.o];rfl
  generalize Ch (3,p,r,m,cl,a)=q at c ⊢;generalize Bx p=O at x c;generalize Dj m 60=b2 at X c;cases O <;> cases b2
  all_goals
   go_enter func90,ntmps90;go_wp2_with fail;rw[s.o];refine(x.o _).mono ?_;rintro e U⟨rfl,b⟩;have D:=y.o U (b.mono t);obtain⟨v0,v1,v2,v3,v4,v5,vf⟩:=Vj D.1;obtain⟨y0,y1,y2,y3,y4,y5,f⟩:=Vj D.2.1;have J:=f 1;have ac:=f 3;have U1:=Aa D;have ad:=Aa (b.mono t);clear D vf v0 v1 v2 v4 v5 f b
   go_wp2_with (first
    | (go_at_call 145;refine(X.o _ U1.o.2.2.1).mono ?_;rintro e w3⟨rfl,ab⟩
       have P:=y.o w3 (ad.o.trans (ab.mono U1.o.2.2.2));clear y0 y1 y2 y3 y4 y5 J ac v3;obtain⟨y0,y1,y2,y3,y4,y5,f⟩:=Vj P.2.1;have J:=f 1;have ac:=f 3;have o:=Aa P;clear P f ab)
    | (go_at_call 146;refine(v.o _ _ _ _ _ _ _ _ _ _).mono ?_;rintro e w2⟨rfl,j⟩))
   go_ret
   first
    | exact⟨Af (by rw[c.o];rfl),(U1.o.2.2.1.setCell (p:=⟨w.heap.size+1,_,none⟩) (XB _) _).setCell (p:=⟨w.heap.size+1,_,none⟩) (XB _) _⟩
    | exact⟨Af (by rw[c.o];rfl),(o.o.2.2.1.setCell (p:=⟨w.heap.size+1,_,none⟩) (XB _) _).setCell (p:=⟨w.heap.size+1,_,none⟩) (XB _) _⟩
    | exact⟨Af (by rw[c.o];rfl),((o.o.2.2.1.setCell (p:=⟨w.heap.size+1,_,none⟩) (XB _) _).setCell (p:=⟨w.heap.size+1,_,none⟩) (XB _) _).trans (j.mono (by have:=o.o.2.2.2;simp;omega))⟩
 by_cases k4:k=4
 ·subst k4
  have c:Hid (Ch (4,p,r,m,cl,a)=(Be cl a && Mm p r g 0 0)):=by rw[N.o];rfl
  generalize Ch (4,p,r,m,cl,a)=q at c ⊢;generalize Be cl a=O at Y c;have z:=(y.o wA (XF _ _)).2.2.1;cases O
  all_goals
   go_enter func90,ntmps90;go_wp2_with fail;rw[s.o];refine(Y.o _ z).mono ?_;rintro e U⟨rfl,b⟩;obtain⟨u1,u,L,u4⟩:=y.o U (b.mono t);obtain⟨_,y1,y2,y3,y4,y5,f⟩:=Vj u;have y0:=(Vj u).1;have af:=f 4;have ag:=f 5;have o:=Aa L;clear u1 u L f b;go_wp2_with (go_at_call 146;refine(v.o _ _ _ _ _ _ _ _ _ _).mono ?_;rintro e w2⟨rfl,j⟩);go_ret
   first
    | exact⟨Af (by rw[c.o];rfl),(o.o.setCell (p:=⟨w.heap.size+1,_,none⟩) (XB _) _).setCell (p:=⟨w.heap.size+1,_,none⟩) (XB _) _⟩
    | exact⟨Af (by rw[c.o];rfl),((o.o.setCell (p:=⟨w.heap.size+1,_,none⟩) (XB _) _).setCell (p:=⟨w.heap.size+1,_,none⟩) (XB _) _).trans (j.mono (by simp;omega))⟩
 have c:Hid (Ch (k,p,r,m,cl,a)=false):=by simp[Hid,Ch,k1,k2,k3,k4]
 generalize Ch (k,p,r,m,cl,a)=q at c ⊢;have z:=Aa (y.o wA (XF _ _)).2.2.1;rw[<-s.o] at z;go_enter func90,ntmps90;go_wp2;go_ret;exact⟨Af (by rw[c.o]),z.o⟩
def Fe(xs:List ByteArray)(sep:ByteArray):ByteArray:=⟨(Lib.join (xs.map (·.data.toList)) sep.data.toList).toArray⟩
theorem Uz:(prog.info? 9).map (λi=>(i.zero,i.size,i.bytes))=some (some (.string ⟨#[]⟩),1,16):=by kernel_rfl
theorem AAz{b:Nat}:∀{xs:List ByteArray},(∀x∈xs,x.size<=b)->Lib.lens (xs.map (·.data.toList))<=xs.length*b
 | [],_=>by simp[Lib.lens]
 | x :: xs,h=>by
   have d:=h x (Yf ..);have f:=AAz (λy c=>h y (Yg _ c));have e:x.data.toList.length=x.size:=by simp
   have a:Lib.lens ((x :: xs).map (·.data.toList))=x.data.toList.length+Lib.lens (xs.map (·.data.toList)):=by simp[Lib.lens]
   rw[a,e,XC,Y2];omega
theorem Jh{b:Nat}{xs:List ByteArray}{sep:ByteArray}(h:∀x∈xs,x.size<=b):(Fe xs sep).size<=xs.length*(b+sep.size):=by
 have e:(Fe xs sep).size=(Lib.join (xs.map (·.data.toList)) sep.data.toList).length:=by simp[Fe,ByteArray.size]
 rw[e];cases xs with
 | nil=>simp[Lib.join_nil]
 | cons x xs=>
   have a:=AAz h;rw[WM,Lib.join_length];rw[WM] at a;have c:sep.data.toList.length=sep.size:=by simp
   rw[c,XG,XC,Nat.mul_add];rw[XC] at a;have:sep.size*xs.length<=(xs.length+1)*sep.size:=by rw[Yaa];exact Yn _ (XB _)
   omega
theorem dJ(base:Nat)(v:Value)(xs:List ByteArray)(sep:ByteArray)(w:World)(h:w.ownsRow base 9 1 v xs.length (xs.map (.string ·)))(q:xs.length<=1000)(p:(Fe xs sep).size<=100000000):
 Zc 198 #[v,.string sep] w λe o=>e=.returned (.string (Fe xs sep))/\Zb w o:=by
 rcases Di h with⟨a,e0⟩|⟨g,c,a,_,l,b,i⟩
 ·subst a
  have:xs=[]:=Yag.1 e0;subst this;exact(strings_Join_none none 0 sep w).mono λ_ _⟨k,n⟩=>⟨k,n ▸ XF _ _⟩
 subst a;refine strings_Join g 0 c xs sep w (λj x f=>?_) l (by omega) b ?_
 ·have m:j<xs.length:=by
   rcases Yc j xs.length with d|d
   ·exact d
   rw[Yb d] at f;cases f
  rw[WI,h.cellAt j (by omega),List.getElem?_map,f];rfl
 have:(Fe xs sep).size=(Lib.join (xs.map (·.data.toList)) sep.data.toList).length:=by simp[Fe,ByteArray.size]
 omega
theorem rF(v:Value)(l:List Int)(sep:ByteArray)(w:World)(h:Ph w v l)(hl:l.length<=100)(hn:∀x∈l,Lu x)(hs:sep.size<=1)(ht:Jp w):
 Zc 147 #[v,.string sep,.func (.func 74) #[] #[]] w λe s=>e=.returned (.string (Fe (l.map Bm) sep))/\Zb w s:=by
 have ae:∀args w,(callFunc 74 args).run prog w=.ok (.enter 74 args) w:=enters_of func74 (by kernel_rfl) rfl
 have T:Hid (∀(W:World)(i:Value),W.ownsRow w.heap.size 9 1 i l.length ((l.map Bm).map (.string ·))->Zc 198 #[i,.string sep] W λe s=>e=.returned (.string (Fe (l.map Bm) sep))/\Zb W s):=λW i J=>dJ _ i (l.map Bm) sep W (by rw[XG];exact J) (by simp;omega) (by have:=Jh (b:=21) (xs:=l.map Bm) (sep:=sep) (by intro x hx;obtain⟨y,hy,rfl⟩:=List.mem_map.1 hx;exact Dw (hn y hy));rw[XG] at this;have h2:l.length*(21+sep.size)<=100*22:=YU hl (by omega);omega)
 have G:Hid (∀j,j<l.length->∀W,Zb w W->Zc 74 #[.int .i64 l[j]!] W λe s=>e=.returned (.string (Bm l[j]!))/\Zb W s):=λj t W J=>Mx _ W (hn _ (by rw[getElem!_pos l j t];exact Yh t)) (ht.below J)
 have hlen:(∃a c,v=.slice a 0 c)/\l=[]\/∃g o c,v=.slice (some ⟨g,o,none⟩) l.length c/\g<w.heap.size/\∀j,j<l.length->w.cell? ⟨g,o+j,none⟩=some (.int .i64 l[j]!):=by
  rcases h with h|⟨g,o,c,h1,h2,_,h4⟩
  ·exact .inl h
  exact .inr ⟨g,o,c,h1,h2,h4⟩
 obtain⟨iT,L,N,m,n⟩:=info_parts Uz;have f:=Zy L N m n
 have I:Hid (∀k,k<l.length->((l.take (k+1)).map Bm).map (Value.string ·)=((l.take k).map Bm).map (Value.string ·)++[.string (Bm l[k]!)]):=λk hk=>by rw[YO,WB hk,getElem!_pos l k hk,XM,XM];rfl
 have D:Hid (∀(W:World)(i:Value),W.ownsRow w.heap.size 9 1 i l.length (((l.take l.length).map Bm).map (Value.string ·))->W.ownsRow w.heap.size 9 1 i l.length ((l.map Bm).map (.string ·))):=λW i J=>by rwa[Ye] at J
 clear h hn ht L N m n;generalize Fe (l.map Bm) sep=ac at *
 rcases hlen with⟨⟨_,_,rfl⟩,rfl⟩|⟨g,o,c,rfl,hg,hc⟩
 ·have U:Hid (Zc 198 #[.slice none 0 0,.string sep] w λe s=>e=.returned (.string ac)/\Zb w s):=Aa (T.o w (.slice none 0 0) (XD w w.heap.size 9 1))
  clear T G I D;go_enter func147,ntmps147;go_wp2
  go_loopw [7,12] (λi O wr=>i=.slice none 0 0/\O=.int .i64 0/\wr=w) (λ_ _ _=>0)
  case atStart=>exact⟨rfl,rfl,rfl⟩
  case round=>obtain⟨rfl,rfl,rfl⟩:=hrel;go_wp2_with (go_at_call 198;refine U.o.mono ?_;rintro e w1⟨rfl,d⟩);go_ret;exact⟨rfl,d⟩
 have HC:=Aa hc;clear hc;go_enter func147,ntmps147;go_wp2
 go_loopw [7,12] (λi O wr=>∃k:Nat,k<=l.length/\O=.int .i64 k/\Hid (wr.ownsRow w.heap.size 9 1 i k (((l.take k).map Bm).map (.string ·)))/\Hid (Zb w wr)) (λ_ O _=>l.length-(intOf O).toNat)
 case atStart=>exact⟨0,X2 _,rfl,Aa (XD _ _ _ _),Aa (XF _ _)⟩
 case round=>
  obtain⟨k,hk,rfl,P,z⟩:=hrel;obtain⟨ta,tc,rfl,_⟩:=Au P.o
  by_cases hlt:k<l.length
  ·have ad:(k:Int)<(l.length:Int):=by omega
   have r:=(z.o.cell (p:=⟨g,o+k,none⟩) hg).trans (HC.o k hlt);have R:=Aa (G.o k hlt);have q:=Aa (I.o k hlt);generalize l[k]! = x at r R q;generalize Bm x=ix at R q
   go_wp2_with (first
    | (go_at_fn 74;refine(R.o _ z.o).mono ?_;rintro e w1⟨rfl,d⟩;have af:=d.size;have ab:=z.o.size)
    | (at_builtin;refine wpList_append_own _ rfl _ _ 170 rfl w.heap.size 9 iT (.string ⟨#[]⟩) 1 16 underlying170 f.o.1 f.o.2.1 f.o.2.2.1 f.o.2.2.2 rfl (by decide) _ _ _ rfl ((Bc P.o d).alloc _) ⟨w1.heap.size,0,none⟩ 1 1 [.string ix] rfl rfl (λj u t=>XP (Yac _ _) j u t) (by intro u hu;simp at hu;subst hu;rfl) ?d3 ?d4 ?d5 ?_))
   case d3=>unfold maxLen;omega
   case d4=>omega
   case d5=>simp;omega
   intro v2 w2 M Y _;have X:Zb w w2:=((z.o.trans (d.mono ab)).alloc (by omega) _).grown Y (by simp;omega) (λj t=>(P.o.lt j t).1);obtain⟨va,vc,rfl,_⟩:=Au M;go_wp2;exact⟨⟨k+1,by omega,by go_num,Aa (by rw[q.o];simpa using M),Aa X⟩,by simp[intOf];omega⟩
  have aa:k=l.length:=by omega
  subst aa;have V:=Aa (T.o _ _ (D.o _ _ P.o));go_wp2_with (go_at_call 198;refine V.o.mono ?_;rintro e w1⟨rfl,d⟩);go_ret;exact⟨rfl,Below.Ap z.o d⟩
def Qn:ByteArray:=⟨#[109,117,115,116]⟩
def jI:ByteArray:=⟨#[109,97,121]⟩
def B9(c:Aj):ByteArray:=Fe [Bm c.1,c.2.1,Bm c.2.2.1,Fa c.2.2.2.1 Qn jI,E7 c.2.2.2.2.1 c.2.2.2.2.2.1 c.2.2.2.2.2.2] ⟨#[32]⟩
theorem Ea(a b:Tb):(a++b).size=a.size+b.size:=by simp
theorem pV{k n:Int}{t:Tb}(a:Lu n)(b:t.size<=100):(E7 k n t).size<=102:=by
 unfold E7;split
 ·decide
 split
 ·have:=Dw a;omega
 split
 ·rw[Ea,Ea];have:(⟨#[39]⟩:Tb).size=1:=rfl;omega
 decide
theorem mQ(b:Bool):(Fa b Qn jI).size<=4:=by cases b <;> decide
theorem S6{c:Aj}(d:Lu c.1)(i:c.2.1.size<=100)(f:Lu c.2.2.1)(g:Lu c.2.2.2.2.2.1)(h:c.2.2.2.2.2.2.size<=100):(B9 c).size<=600:=by
 have:=Jh (b:=102) (xs:=[Bm c.1,c.2.1,Bm c.2.2.1,Fa c.2.2.2.1 Qn jI,E7 c.2.2.2.2.1 c.2.2.2.2.2.1 c.2.2.2.2.2.2]) (sep:=⟨#[32]⟩) (by
  intro x a;simp only[List.mem_cons,List.not_mem_nil,or_false] at a
  rcases a with rfl|rfl|rfl|rfl|rfl
  ·have:=Dw d;omega
  ·omega
  ·have:=Dw f;omega
  ·have:=mQ c.2.2.2.1;omega
  exact pV g h)
 have e:(⟨#[32]⟩:Tb).size=1:=rfl;rw[e] at this;simp only[XC,XJ] at this;unfold B9;omega
theorem Rl(i:Int)(nm:ByteArray)(k:Int)(mu:Bool)(h d:Int)(f:ByteArray)(w:World)(P:Lu i)(R:Lu k)(O:Lu d)(z:nm.size<=100)(y:f.size<=100)(T:Jp w):
 Zc 149 #[.agg #[.int .i64 i,.string nm,.int .i64 k,.bool mu,.int .i64 h,.int .i64 d,.string f]] w λe j=>e=.returned (.string (B9 (i,nm,k,mu,h,d,f)))/\Zb w j:=by
 have o:Hid (Zb w (w.alloc (.cells #[.int .i64 i,.string nm,.int .i64 k,.bool mu,.int .i64 h,.int .i64 d,.string f] 72))):=(XF _ _).alloc (XA _) _;have q:Hid (∀n,Lu n->∀W,Zb w W->Zc 74 #[.int .i64 n] W λe j=>e=.returned (.string (Bm n))/\Zb W j):=λn hn W m=>Mx n W hn (T.below m)
 have I:Hid (∀W,Zc 89 #[.bool mu,.string ⟨#[109,117,115,116]⟩,.string ⟨#[109,97,121]⟩] W λe j=>e=.returned (.string (Fa mu Qn jI))/\j=W):=λW=>fN mu Qn jI W
 have N:Hid (∀W,Zb w W->Zc 199 #[.agg #[.int .i64 h,.int .i64 d,.string f]] W λe j=>e=.returned (.string (E7 h d f))/\Zb W j):=λW m=>yH h d f W (by omega) O (T.below m)
 have M:Hid (∀(W:World)(g:Nat),W.heap[g]? = some (.cells #[.string (Bm i),.string nm,.string (Bm k),.string (Fa mu Qn jI),.string (E7 h d f)] 9)->Zc 198 #[.slice (some ⟨g,0,none⟩) 5 5,.string ⟨#[32]⟩] W λe j=>e=.returned (.string (B9 (i,nm,k,mu,h,d,f)))/\Zb W j):=λW g hg=>by have ho:W.ownsRow 0 9 1 (.slice (some ⟨g,0,none⟩) 5 5) 5 [.string (Bm i),.string nm,.string (Bm k),.string (Fa mu Qn jI),.string (E7 h d f)]:=⟨rfl,.inr ⟨g,5,_,rfl,X2 _,hg,XA _,by decide,rfl,rfl⟩⟩;exact dJ 0 _ [Bm i,nm,Bm k,Fa mu Qn jI,E7 h d f] ⟨#[32]⟩ W ho (by simp) (by have:=S6 (c:=(i,nm,k,mu,h,d,f)) P z R O y;unfold B9 at this;simp only at this;omega)
 have u:∀args w,(callFunc 74 args).run prog w=.ok (.enter 74 args) w:=enters_of func74 (by kernel_rfl) rfl;have t:∀args w,(callFunc 89 args).run prog w=.ok (.enter 89 args) w:=enters_of func89 (by kernel_rfl) rfl;have x:∀args w,(callFunc 199 args).run prog w=.ok (.enter 199 args) w:=enters_of func199 (by kernel_rfl) rfl;have v:∀args w,(callFunc 198 args).run prog w=.ok (.enter 198 args) w:=enters_of func198 (by kernel_rfl) rfl;have X:=Aa u;have V:=Aa t;have aa:=Aa x;have Y:=Aa v;have HI:=Aa P;have HK:=Aa R;obtain⟨d0,d1,d2,d3,d4,d5,d6⟩:=ABx w (.int .i64 i) (.string nm) (.int .i64 k) (.bool mu) (.int .i64 h) (.int .i64 d) (.string f);have D:w.heap.size<(w.alloc (.cells #[.int .i64 i,.string nm,.int .i64 k,.bool mu,.int .i64 h,.int .i64 d,.string f] 72)).heap.size:=by simp
 have l:=Aa D;clear u t x v P R O z y T D;generalize B9 (i,nm,k,mu,h,d,f)=ab at *;have J:=Aa (q.o i HI.o);have L:=Aa (q.o k HK.o);clear q HI HK;generalize Bm i=s1 at *;generalize Bm k=s3 at *;generalize Fa mu Qn jI=s4 at *;generalize E7 h d f=s5 at *;go_enter func149,ntmps149;go_wp2_with fail;generalize w.alloc (.cells #[.int .i64 i,.string nm,.int .i64 k,.bool mu,.int .i64 h,.int .i64 d,.string f] 72)=U at *
 have r:Hid (∀W,Zb U W->W.cell? ⟨w.heap.size,0,none⟩=some (.int .i64 i)/\W.cell? ⟨w.heap.size,1,none⟩=some (.string nm)/\W.cell? ⟨w.heap.size,2,none⟩=some (.int .i64 k)/\W.cell? ⟨w.heap.size,3,none⟩=some (.bool mu)/\W.cell? ⟨w.heap.size,4,none⟩=some (.int .i64 h)/\W.cell? ⟨w.heap.size,5,none⟩=some (.int .i64 d)/\W.cell? ⟨w.heap.size,6,none⟩=some (.string f)):=Aa (λW m=>⟨(m.cell (p:=⟨w.heap.size,0,none⟩) l.o).trans d0,(m.cell (p:=⟨w.heap.size,1,none⟩) l.o).trans d1,(m.cell (p:=⟨w.heap.size,2,none⟩) l.o).trans d2,(m.cell (p:=⟨w.heap.size,3,none⟩) l.o).trans d3,(m.cell (p:=⟨w.heap.size,4,none⟩) l.o).trans d4,(m.cell (p:=⟨w.heap.size,5,none⟩) l.o).trans d5,(m.cell (p:=⟨w.heap.size,6,none⟩) l.o).trans d6⟩)
 have a:Hid (Zb U U.drew):=Aa (XF _ _).drew
 go_region_held3 (λj=>j.cell? ⟨w.heap.size,0,none⟩=some (.int .i64 i)/\j.cell? ⟨w.heap.size,1,none⟩=some (.string nm)/\j.cell? ⟨w.heap.size,2,none⟩=some (.int .i64 k)/\j.cell? ⟨w.heap.size,3,none⟩=some (.bool mu)/\j.cell? ⟨w.heap.size,4,none⟩=some (.int .i64 h)/\j.cell? ⟨w.heap.size,5,none⟩=some (.int .i64 d)/\j.cell? ⟨w.heap.size,6,none⟩=some (.string f))
  (first
    | exact r.o _ a.o
    | exact r.o _ (a.o.alloc a.o.size _)
    | exact r.o _ s.o
    | (go_keep;done)
    | fail)
  (first
    | (go_at_call_of 74 (#[.int .i64 i]:Array Value);refine(J.o _ (Below.Ap o.o a.o)).mono ?_;rintro e G⟨rfl,b⟩;replace a:=Aa (Below.Ap a.o b);clear b)
    | (go_at_call_of 74 (#[.int .i64 k]:Array Value);refine(L.o _ (Below.Ap o.o a.o)).mono ?_;rintro e G⟨rfl,b⟩;replace a:=Aa (Below.Ap a.o b);clear b)
    | (go_at_call 89;refine(I.o _).mono ?_;rintro e G⟨rfl,rfl⟩)
    | (go_at_call 199;refine(N.o _ (Below.Ap o.o a.o)).mono ?_;rintro e G⟨rfl,b⟩;replace a:=Aa (Below.Ap a.o b);clear b)
    | (go_at_call 198;refine(M.o _ _ (Yac _ _)).mono ?_;rintro e G⟨rfl,b⟩;have s:=Aa (Below.Ap (a.o.alloc a.o.size _) b);clear b)
    | fail)
 all_goals
  go_wp2;go_ret;exact⟨rfl,Below.Ap o.o s.o⟩
structure Ib(c:Aj):Prop where
 id:Lu c.1
 name:c.2.1.size<=100
 kind:Lu c.2.2.1
 num:Lu c.2.2.2.2.2.1
 text:c.2.2.2.2.2.2.size<=100
theorem Ib.size{c:Aj}(h:Ib c):(B9 c).size<=600:=S6 h.id h.name h.kind h.num h.text
theorem wN(c:Aj)(w:Tw)(h:Ib c)(a:Jp w):Zc 149 #[Zg (Cc c).toArray] w λe b=>e=Zr (Zt (B9 c))/\Zb w b :=
 Rl c.1 c.2.1 c.2.2.1 c.2.2.2.1 c.2.2.2.2.1 c.2.2.2.2.2.1 c.2.2.2.2.2.2 w h.id h.kind h.num h.name h.text a
theorem uM(v:Tv)(l:List Aj)(sep:Tb)(w:Tw)(h:bH w v l)(hl:l.length<=100)(hn:∀x∈l,Ib x)(hs:sep.size<=1)(ht:Jp w):
 Zc 148 #[v,Zt sep,.func (.func 149) #[] #[]] w λe m=>e=Zr (Zt (Fe (l.map B9) sep))/\Zb w m:=by
 have ai:∀args w,(callFunc 149 args).run prog w=.ok (.enter 149 args) w:=enters_of func149 (by kernel_rfl) rfl
 have HJ:Hid (∀(W:Tw)(i:Tv),W.ownsRow w.heap.size 9 1 i l.length ((l.map B9).map (Zt ·))->Zc 198 #[i,Zt sep] W λe m=>e=Zr (Zt (Fe (l.map B9) sep))/\Zb W m):=λW i J=>dJ _ i (l.map B9) sep W (by rw[XG];exact J) (by simp;omega) (by have:=Jh (b:=600) (xs:=l.map B9) (sep:=sep) (by intro x N;obtain⟨y,hy,rfl⟩:=List.mem_map.1 N;exact(hn y hy).size);rw[XG] at this;have h2:l.length*(600+sep.size)<=100*601:=YU hl (by omega);omega)
 have D:Hid (∀j,j<l.length->∀W,Zb w W->Zc 149 #[Zg (Cc l[j]!).toArray] W λe m=>e=Zr (Zt (B9 l[j]!))/\Zb W m):=λj s W J=>wN _ W (hn _ (by rw[getElem!_pos l j s];exact Yh s)) (ht.below J)
 have hlen:(∃a c,v=Zs a 0 c)/\l=[]\/∃g o c,v=Zs (some ⟨g,o,none⟩) l.length c/\I1 w g o l:=by
  rcases h with h|⟨g,o,c,h1,_,h4⟩
  ·exact .inl h
  exact .inr ⟨g,o,c,h1,h4⟩
 obtain⟨iT,L,O,n,p⟩:=info_parts Uz;have f:=Zy L O n p
 have I:Hid (∀k,k<l.length->((l.take (k+1)).map B9).map (Value.string ·)=((l.take k).map B9).map (Value.string ·)++[Zt (B9 l[k]!)]):=λk hk=>by rw[YO,WB hk,getElem!_pos l k hk,XM,XM];rfl
 have t:Hid (∀(W:Tw)(i:Tv),W.ownsRow w.heap.size 9 1 i l.length (((l.take l.length).map B9).map (Value.string ·))->W.ownsRow w.heap.size 9 1 i l.length ((l.map B9).map (Zt ·))):=λW i J=>by rwa[Ye] at J
 clear h hn ht L O n p;generalize Fe (l.map B9) sep=ag at *
 rcases hlen with⟨⟨_,_,rfl⟩,rfl⟩|⟨g,o,c,rfl,hc⟩
 ·have aa:Hid (Zc 198 #[Zs none 0 0,Zt sep] w λe m=>e=Zr (Zt ag)/\Zb w m):=Aa (HJ.o w (Zs none 0 0) (XD w w.heap.size 9 1))
  clear HJ D I t;go_enter func148,ntmps148;go_wp2
  go_loopw [7,12] (λi P wr=>i=Zs none 0 0/\P=Zi 0/\wr=w) (λ_ _ _=>0)
  case atStart=>exact⟨rfl,rfl,rfl⟩
  case round=>obtain⟨rfl,rfl,rfl⟩:=hrel;go_wp2_with (go_at_call 198;refine aa.o.mono ?_;rintro e w1⟨rfl,d⟩);go_ret;exact⟨rfl,d⟩
 have HC:=Aa hc;clear hc;go_enter func148,ntmps148;go_wp2
 go_loopw [7,12] (λi P wr=>∃k:Nat,k<=l.length/\P=Zi k/\Hid (wr.ownsRow w.heap.size 9 1 i k (((l.take k).map B9).map (Zt ·)))/\Hid (Zb w wr)) (λ_ P _=>l.length-(intOf P).toNat)
 case atStart=>exact⟨0,X2 _,rfl,Aa (XD _ _ _ _),Aa (XF _ _)⟩
 case round=>
  obtain⟨k,hk,rfl,RO,R⟩:=hrel;obtain⟨ta,tc,rfl,_⟩:=Au RO.o
  by_cases hlt:k<l.length
  ·have ah:(k:Int)<(l.length:Int):=by omega
   obtain⟨⟨T,U,V,X,Y,x6,x7⟩,N⟩:∃x,l[k]! = x:=⟨_,rfl⟩;obtain⟨q0,q1,q2,q3,q4,q5,q6⟩:=(HC.o.below R.o).cells hlt N;have z:=Aa (D.o k hlt);have r:=Aa (I.o k hlt);rw[N] at z r;generalize B9 (T,U,V,X,Y,x6,x7)=ix at z r;replace z:Hid (∀W,Zb w W->Zc 149 #[Zg #[Zi T,Zt U,Zi V,Zo X,Zi Y,Zi x6,Zt x7]] W λe m=>e=Zr (Zt ix)/\Zb W m):=z;have q:=Aa (R.o.alloc R.o.size (Zk #[Zi T,Zt U,Zi V,Zo X,Zi Y,Zi x6,Zt x7] 72));have G:=Aa (Bc RO.o ((XF wr.heap.size wr).alloc (XA _) (Zk #[Zi T,Zt U,Zi V,Zo X,Zi Y,Zi x6,Zt x7] 72)));clear N
   go_wp2_with (first
    | (go_at_fn 149;refine(z.o _ q.o).mono ?_;rintro e w1⟨rfl,d⟩;have aj:=d.size;have af:=q.o.size)
    | (at_builtin;refine wpList_append_own _ rfl _ _ 170 rfl w.heap.size 9 iT (.string ⟨#[]⟩) 1 16 underlying170 f.o.1 f.o.2.1 f.o.2.2.1 f.o.2.2.2 rfl (by decide) _ _ _ rfl ((Bc G.o d).alloc _) ⟨w1.heap.size,0,none⟩ 1 1 [.string ix] rfl rfl (λj u s=>XP (Yac _ _) j u s) (by intro u hu;simp at hu;subst hu;rfl) ?d3 ?d4 ?d5 ?_))
   case d3=>unfold maxLen;omega
   case d4=>omega
   case d5=>simp;omega
   intro v2 w2 M ad _;have ac:Zb w w2:=((q.o.trans (d.mono af)).alloc (by omega) _).grown ad (by simp;omega) (λj s=>(G.o.lt j s).1);obtain⟨va,vc,rfl,_⟩:=Au M;go_wp2;exact⟨⟨k+1,by omega,by go_num,Aa (by rw[r.o];simpa using M),Aa ac⟩,by simp[intOf];omega⟩
  have ae:k=l.length:=by omega
  subst ae;have ab:=Aa (HJ.o _ _ (t.o _ _ RO.o));go_wp2_with (go_at_call 198;refine ab.o.mono ?_;rintro e w1⟨rfl,d⟩);go_ret;exact⟨rfl,Below.Ap R.o d⟩
structure Fh(a:A5):Prop where
 path:a.2.1.size<=100
 rows:Lu a.2.2.1
 mask:∀x∈a.2.2.2.1,Lu x
 Iz:a.2.2.2.1.length<=100
 cols:∀x∈a.2.2.2.2.1,Ib x
 ADp:a.2.2.2.2.1.length<=100
 next:Lu a.2.2.2.2.2
def F3(a:A5):ByteArray :=
 if a.1=1 then ⟨#[97,100,100,32]⟩++a.2.1++⟨#[32]⟩++Bm a.2.2.1
 else if a.1=2 then ⟨#[114,101,109,111,118,101,32]⟩++a.2.1
 else if a.1=3 then ⟨#[109,97,115,107,32]⟩++a.2.1++⟨#[32]⟩++Fe (a.2.2.2.1.map Bm) ⟨#[44]⟩
 else ⟨#[115,99,104,101,109,97,32]⟩++Bm a.2.2.2.2.2++⟨#[32]⟩++Fe (a.2.2.2.2.1.map B9) ⟨#[59]⟩
theorem fV{l:List Int}(c:∀x∈l,Lu x)(a:l.length<=100):(Fe (l.map Bm) ⟨#[44]⟩).size<=2200:=by have:=Jh (b:=21) (xs:=l.map Bm) (sep:=⟨#[44]⟩) (by intro x d;obtain⟨y,hy,rfl⟩:=List.mem_map.1 d;exact Dw (c y hy));rw[XG] at this;have e:(⟨#[44]⟩:Tb).size=1:=rfl;rw[e] at this;have f:l.length*(21+1)<=100*22:=YU a (by omega);omega
theorem fW{l:List Aj}(c:∀x∈l,Ib x)(a:l.length<=100):(Fe (l.map B9) ⟨#[59]⟩).size<=60100:=by have:=Jh (b:=600) (xs:=l.map B9) (sep:=⟨#[59]⟩) (by intro x d;obtain⟨y,hy,rfl⟩:=List.mem_map.1 d;exact(c y hy).size);rw[XG] at this;have e:(⟨#[59]⟩:Tb).size=1:=rfl;rw[e] at this;have f:l.length*(600+1)<=100*601:=YU a (by omega);omega
theorem gB{a:A5}(h:Fh a):(F3 a).size<=61000:=by
 have g:=Dw h.rows;have i:=Dw h.next;have j:=fV h.mask h.Iz;have k:=fW h.cols h.ADp;have l:=h.path;have b:(⟨#[97,100,100,32]⟩:Tb).size=4:=rfl;have c:(⟨#[32]⟩:Tb).size=1:=rfl;have d:(⟨#[114,101,109,111,118,101,32]⟩:Tb).size=7:=rfl;have e:(⟨#[109,97,115,107,32]⟩:Tb).size=5:=rfl;have f:(⟨#[115,99,104,101,109,97,32]⟩:Tb).size=7:=rfl;unfold F3;split
 ·simp only[Ea];omega
 split
 ·simp only[Ea];omega
 split
 ·simp only[Ea];omega
 simp only[Ea];omega
theorem cS{c:Array Oper}{C:Tw->Prop}{Q:Act->Prop}{rest:List Oper}{o:Oper}{a:Act}(d:o.guard=none)(f:Nat)(xs:Array Operand)(ts:Array TypeId)(l:o.op=.call { callee:=.value (.func f),args:=xs,argTypes:=ts })(args:Array Tv)(j:xs.map a.eval=args)(i:∀args w,(callFunc f args).run prog w=.ok (.enter f args) w)(v:Tv)(k:∀w,C w->Zc f args w (λe g=>e=Zr v/\C g))(h:wpQuiet prog c C Q rest (a.put o.dst v)):wpQuiet prog c C Q (o :: rest) a:=by
 refine wpQuiet_step (λK hK=>?_);rw[Yae (by simp[Region.wanted,d])];refine⟨v,λw m=>?_,hK _ h⟩
 have b:(execOp a.eval o).run prog w=.ok (.enter f args) w:=by simp[execOp,l,resolve,invoke,j,i,Act.eval,Deferred.ofValue]
 unfold Oper.quietAt;rw[b];exact⟨rfl,k w m⟩
theorem AEC(k:Int)(p:ByteArray)(r:Int)(m:List Int)(cl:List Aj)(a:Int)(v:Option Addr)(y x:Nat)(o:Option Addr)(t s:Nat)(w:World)(ha:Om w (k,p,r,m,cl,a) v y x o t s)(j:Fh (k,p,r,m,cl,a))(T:Jp w):
 Zc 91 #[.agg #[.int .i64 k,.string p,.int .i64 r,.slice v y x,.slice o t s,.int .i64 a]] w λe D=>e=.returned (.string (F3 (k,p,r,m,cl,a)))/\Zb w D:=by
 have c:Hid (Zb w (w.alloc (.cells #[.int .i64 k,.string p,.int .i64 r,.slice v y x,.slice o t s,.int .i64 a] 129))):=(XF _ _).alloc (XA _) _;have hp:p.size<=100:=j.path;have R:(Bm r).size<=21:=Dw j.rows;have I:(Bm a).size<=21:=Dw j.next;have L:(Fe (m.map Bm) ⟨#[44]⟩).size<=2200:=fV j.mask j.Iz;have J:(Fe (cl.map B9) ⟨#[59]⟩).size<=60100:=fW j.cols j.ADp;have H1:Hid (∀W,Zb w W->Zc 74 #[.int .i64 r] W λe D=>e=.returned (.string (Bm r))/\Zb W D):=λW hW=>Mx r W j.rows (T.below hW)
 have H2:Hid (∀W,Zb w W->Zc 74 #[.int .i64 a] W λe D=>e=.returned (.string (Bm a))/\Zb W D):=λW hW=>Mx a W j.next (T.below hW)
 have H3:Hid (∀W,Zb w W->Zc 147 #[.slice v y x,.string ⟨#[44]⟩,.func (.func 74) #[] #[]] W λe D=>e=.returned (.string (Fe (m.map Bm) ⟨#[44]⟩))/\Zb W D):=λW hW=>rF _ m _ W (ha.mask.below hW) j.Iz j.mask (by decide) (T.below hW)
 have X:Hid (∀W,Zb w W->Zc 148 #[.slice o t s,.string ⟨#[59]⟩,.func (.func 149) #[] #[]] W λe D=>e=.returned (.string (Fe (cl.map B9) ⟨#[59]⟩))/\Zb W D):=λW hW=>uM _ cl _ W (ha.cols.below hW) j.ADp j.cols (by decide) (T.below hW)
 have U:(w.alloc (.cells #[.int .i64 k,.string p,.int .i64 r,.slice v y x,.slice o t s,.int .i64 a] 129)).heap[w.heap.size]? = some (.cells #[.int .i64 k,.string p,.int .i64 r,.slice v y x,.slice o t s,.int .i64 a] 129 (0,0)):=Yac w _;have G:=Aa U;have N:Hid (∀args w,(callFunc 147 args).run prog w=.ok (.enter 147 args) w):=enters_of func147 (by kernel_rfl) rfl;have O:Hid (∀args w,(callFunc 148 args).run prog w=.ok (.enter 148 args) w):=enters_of func148 (by kernel_rfl) rfl;clear ha T U j
 by_cases k1:k=1
 ·subst k1
  have n:Hid (F3 (1,p,r,m,cl,a)=⟨#[97,100,100,32]⟩++p++⟨#[32]⟩++Bm r):=rfl;generalize F3 (1,p,r,m,cl,a)=M at n ⊢;generalize Bm r=s1 at *;clear H2 H3 X I L J;go_enter func91,ntmps91;go_wp2_with fail;generalize w.alloc (.cells #[.int .i64 1,.string p,.int .i64 r,.slice v y x,.slice o t s,.int .i64 a] 129)=g at *;obtain⟨_,V,y2,_,_,_,_⟩:=Vj G.o;replace V:=cell_regrown V;replace y2:=cell_regrown y2;have l:Hid (∀d h,Zc 74 #[.int .i64 r] (grow (redrawn g d) h) λe i=>e=.returned (.string s1)/\∃b:Regrown,i=grow (redrawn g b.d) b.os):=λd h=>Calls.regrown_of (H1.o _ (Below.Ap c.o (below_regrown g d h)))
  refine wp_region_quiet_below (by kernel_rfl) (by kernel_rfl) ?_
  repeat (go_big_quiet_step (first
   | (go_at_call_of 74 (#[.int .i64 r]:Array Value);exact l.o _ _)))
  refine wpQuiet_nil ?_;intro _ u;obtain⟨⟨P,z⟩,f⟩:=u;subst f;go_wp2;go_ret;exact⟨L7 n.o.symm,Below.Ap c.o (below_regrown g P z)⟩
 by_cases k2:k=2
 ·subst k2
  have n:Hid (F3 (2,p,r,m,cl,a)=⟨#[114,101,109,111,118,101,32]⟩++p):=rfl;generalize F3 (2,p,r,m,cl,a)=M at n ⊢;clear H1 H2 H3 X I L J;go_enter func91,ntmps91;go_wp2;go_ret;exact⟨L7 n.o.symm,c.o⟩
 by_cases k3:k=3
 ·subst k3
  have n:Hid (F3 (3,p,r,m,cl,a)=⟨#[109,97,115,107,32]⟩++p++⟨#[32]⟩++Fe (m.map Bm) ⟨#[44]⟩):=rfl;generalize F3 (3,p,r,m,cl,a)=M at n ⊢;generalize Fe (m.map Bm) ⟨#[44]⟩=s1 at *;clear H1 H2 X I J R;go_enter func91,ntmps91;go_wp2_with fail;generalize w.alloc (.cells #[.int .i64 3,.string p,.int .i64 r,.slice v y x,.slice o t s,.int .i64 a] 129)=g at *;obtain⟨_,V,_,y3,_,_,_⟩:=Vj G.o;replace V:=cell_regrown V;replace y3:=cell_regrown y3;have l:Hid (∀d h,Zc 147 #[.slice v y x,.string ⟨#[44]⟩,.func (.func 74) #[] #[]] (grow (redrawn g d) h) λe i=>e=.returned (.string s1)/\∃b:Regrown,i=grow (redrawn g b.d) b.os):=λd h=>Calls.regrown_of (H3.o _ (Below.Ap c.o (below_regrown g d h)))
  refine wp_region_quiet_below (by kernel_rfl) (by kernel_rfl) ?_
  repeat (go_big_quiet_step (fail))
  refine cS (by rfl) 147 _ _ rfl #[.slice v y x,.string ⟨#[44]⟩,.func (.func 74) #[] #[]] (by simp[Act.eval]) N.o (.string s1) (λw hw=>by obtain⟨q,rfl⟩:=hw;exact l.o _ _) ?_;simp only[Act.put,X4,WG,WH]
  repeat (go_big_quiet_step (fail))
  refine wpQuiet_nil ?_;intro _ u;obtain⟨⟨P,z⟩,f⟩:=u;subst f;go_wp2;go_ret;exact⟨L7 n.o.symm,Below.Ap c.o (below_regrown g P z)⟩
 have n:Hid (F3 (k,p,r,m,cl,a)=⟨#[115,99,104,101,109,97,32]⟩++Bm a++⟨#[32]⟩++Fe (cl.map B9) ⟨#[59]⟩):=by simp[Hid,F3,k1,k2,k3]
 generalize F3 (k,p,r,m,cl,a)=M at n ⊢;generalize Fe (cl.map B9) ⟨#[59]⟩=s1 at *;generalize Bm a=s2 at *;clear H1 H3 L R;go_enter func91,ntmps91;go_wp2_with fail;generalize w.alloc (.cells #[.int .i64 k,.string p,.int .i64 r,.slice v y x,.slice o t s,.int .i64 a] 129)=g at *;obtain⟨_,_,_,_,y4,y5,_⟩:=Vj G.o;replace y4:=cell_regrown y4;replace y5:=cell_regrown y5;have l:Hid (∀d h,Zc 148 #[.slice o t s,.string ⟨#[59]⟩,.func (.func 149) #[] #[]] (grow (redrawn g d) h) λe i=>e=.returned (.string s1)/\∃b:Regrown,i=grow (redrawn g b.d) b.os):=λd h=>Calls.regrown_of (X.o _ (Below.Ap c.o (below_regrown g d h)))
 have Y:Hid (∀d h,Zc 74 #[.int .i64 a] (grow (redrawn g d) h) λe i=>e=.returned (.string s2)/\∃b:Regrown,i=grow (redrawn g b.d) b.os):=λd h=>Calls.regrown_of (H2.o _ (Below.Ap c.o (below_regrown g d h)))
 refine wp_region_quiet_below (by kernel_rfl) (by kernel_rfl) ?_
 repeat (go_big_quiet_step (first
  | (go_at_call_of 74 (#[.int .i64 a]:Array Value);exact Y.o _ _)))
 refine cS (by rfl) 148 _ _ rfl #[.slice o t s,.string ⟨#[59]⟩,.func (.func 149) #[] #[]] (by simp[Act.eval]) O.o (.string s1) (λw hw=>by obtain⟨q,rfl⟩:=hw;exact l.o _ _) ?_;simp only[Act.put,X4,WG,WH]
 repeat (go_big_quiet_step (fail))
 refine wpQuiet_nil ?_;intro _ u;obtain⟨⟨P,z⟩,f⟩:=u;subst f;go_wp2;go_ret;exact⟨L7 n.o.symm,Below.Ap c.o (below_regrown g P z)⟩
variable{T e:TypeId}{W w:Tw}{l:List UInt8}{k n z:Nat}{s:Tb}{c:UInt8}{v:Tv}
def Ov:ByteArray:=⟨#[114,101,97,100,115]⟩
def Oy:ByteArray:=⟨#[98,108,105,110,100]⟩
def I4(tx:ByteArray)(a:Bool):ByteArray:=⟨#[99,111,109,109,105,116,32]⟩++tx++⟨#[32]⟩++Fa a Ov Oy++⟨#[10]⟩
def Ed(l:List A5):List UInt8:=l.flatMap λa=>(F3 a).data.toList++[10]
def Nn(c:Dn):List UInt8:=(I4 c.1 c.2.1).data.toList++Ed c.2.2
def C6(c:Dn):ByteArray:=⟨(Nn c).toArray⟩
def Cv(c:Dn):Bool:=Bx c.1 && c.2.2.all Ch
def Hz(c:Dn):Value:=if Cv c then .tuple #[.string (C6 c),.nilIface] else .tuple #[.string ⟨#[]⟩,.iface 83 (Zi 1)]
theorem uU(l:List A5)(a:A5):Ed (l++[a])=Ed l++((F3 a).data.toList++[10]):=by simp[Ed]
theorem iF{B b:Nat}{p:Tv}{bs:List Tv}(h:Lib.BuilderAt T e B b p bs w)(c:Zb w W):Lib.BuilderAt T e B b p bs W:=by obtain⟨d,v,a,f,g⟩:=h;exact⟨d,v,(c.block b (Ac a)).trans a,Bc f c,g⟩
theorem AJe{B b:Nat}{bs:List Tv}(h:Lib.IsBuilder T e B b bs w)(a:Zb w W):Lib.IsBuilder T e B b bs W:=by
 rcases h with h|h
 ·exact .inl (iF h a)
 exact .inr (iF h a)
theorem AFg{B b:Nat}{bs:List Tv}(h:Lib.IsBuilder T e B b bs w):b<w.heap.size:=by rcases h with h|h <;> exact h.lt
theorem Qz(s:Tb):Lib.strCells s=Lib.byteCells s.data.toList:=rfl
theorem Bg(a b:List UInt8):Lib.byteCells (a++b)=Lib.byteCells a++Lib.byteCells b:=by simp[Lib.byteCells]
theorem Ri{tx:Tb}(a:Bool)(h:tx.size<=100):(I4 tx a).size<=114:=by
 have b:(⟨#[99,111,109,109,105,116,32]⟩:Tb).size=7:=rfl;have c:(⟨#[32]⟩:Tb).size=1:=rfl;have d:(⟨#[10]⟩:Tb).size=1:=rfl;have e:(Fa a Ov Oy).size=5:=by cases a <;> rfl
 unfold I4;simp only[Ea];omega
theorem fC{l:List A5}(h:∀a∈l,Fh a):(Ed l).length<=l.length*61001:=by
 induction l with
 | nil=>simp[Ed]
 | cons a l ih=>
   have f:=gB (h a (Yf ..));have g:=ih (λb d=>h b (Yg _ d))
   have e:(Ed (a :: l)).length=(F3 a).data.toList.length+1+(Ed l).length:=by simp only[Ed,WA,XE,XC,XJ]
   have c:(F3 a).data.toList.length=(F3 a).size:=by simp
   rw[e,c,XC,Y2];omega
theorem pN{Bz:List A5}(m:Bz.length<=600000)(g:k<Bz.length)(d:∀a∈Bz,Ch a=true->Fh a)(h:∀j,j<k->Ch Bz[j]! = true):(Ed (Bz.take k)).length<=36600600000:=by
 have c:=fC (l:=Bz.take k) (λa e=>by
  obtain⟨j,f,rfl⟩:=Yj e;have b:j<k/\j<Bz.length:=by simpa[Nat.lt_min] using f
  rw[List.getElem_take];have c:=h j b.1;rw[getElem!_pos Bz j b.2] at c;exact d _ (Yh b.2) c)
 have i:(Bz.take k).length<=600000:=by rw[XR];omega
 omega
theorem sK{tx:Tb}{a:Bool}(b:(I4 tx a).size<=114)(c:l.length<=36600600000)(d:s.size<=61000):(Lib.byteCells ((I4 tx a).data.toList++l)).length+(s++⟨#[10]⟩).size<=140737488355328:=by
 have e9:(⟨#[10]⟩:Tb).size=1:=rfl;have e10:(I4 tx a).data.toList.length=(I4 tx a).size:=by simp
 rw[Lib.byteCells_length,XE,Ea,e9,e10];omega
theorem lW(tx:Tb)(d:Bool)(Bz:List A5)(aa:To)(an ac:Nat)(w:Tw)(ha:Dt w (Zs aa an ac) Bz)(hn:Bz.length<=600000)(D:tx.size<=maxLen)(ba:∀a∈Bz,Ch a=true->Fh a)(hw:Lw w)(ht:Jp w):
 Zc 52 #[Zg #[Zt tx,Zo d,Zs aa an ac]] w λe r=>e=Zr (Hz (tx,d,Bz))/\Zb w r:=by
 have bm:=ha.len;subst bm;have u:=Aa (λW=>Mn tx W D);have HA:=Aa ha;have HW:=Aa hw;have HT:=Aa ht;have av:=Aa ba;have T:Hid (Zb w (w.alloc (Zk #[Zt tx,Zo d,Zs aa Bz.length ac] 63))):=Zal;have ag:=Aa (Yac w (Zk #[Zt tx,Zo d,Zs aa Bz.length ac] 63));clear ha hw ht ba D;cases hnb:Bx tx with
 | false=>
   rw[hnb] at u;have HR:Hid (Hz (tx,d,Bz)=Zu #[Zt ⟨#[]⟩,Zf 83 (Zi 1)]):=by simp[Hid,Hz,Cv,hnb]
   generalize Hz (tx,d,Bz)=bx at HR ⊢;go_enter func52,ntmps52;go_wp2_with (go_at_call 77;refine(u.o _).mono ?_;rintro e b⟨rfl,m⟩);go_ret2;exact⟨by rw[HR.o];rfl,T.o.trans (m.mono (by simp))⟩
 | true=>
   rw[hnb] at u;have D:=Rk hnb
   have bg:Hid (∀k,k<Bz.length->Ch Bz[k]! = false->Hz (tx,d,Bz)=Zu #[Zt ⟨#[]⟩,Zf 83 (Zi 1)]):=λk hk hr=>by
    have:Bz.all Ch=false:=by rw[Y6];exact⟨Bz[k]!,by rw[getElem!_pos Bz k hk];exact Yh hk,by rw[hr];simp⟩
    simp[Hz,Cv,this]
   have a1:Hid ((∀k,k<Bz.length->Ch Bz[k]! = true)->Hz (tx,d,Bz)=Zu #[Zt (C6 (tx,d,Bz)),Zn]):=λhh=>by
    have:Bz.all Ch=true:=by rw[List.all_eq_true];intro x hx;obtain⟨k,hk,rfl⟩:=Yj hx;have:=hh k hk;rwa[getElem!_pos Bz k hk] at this
    simp[Hz,Cv,this,hnb]
   have Y:Hid (∀W,Zc 89 #[Zo d,Zt ⟨#[114,101,97,100,115]⟩,Zt ⟨#[98,108,105,110,100]⟩] W λe r=>e=Zr (Zt (Fa d Ov Oy))/\r=W):=λW=>fN d Ov Oy W
   have a3:∀args w,(callFunc 89 args).run prog w=.ok (.enter 89 args) w:=enters_of func89 (by kernel_rfl) rfl;have a2:∀args w,(callFunc 88 args).run prog w=.ok (.enter 88 args) w:=enters_of func88 (by kernel_rfl) rfl;have aq:=Aa a3;have ap:=Aa a2;have bo:(Fa d Ov Oy).size=5:=by cases d <;> rfl
   have ab:Hid (I4 tx d=⟨#[99,111,109,109,105,116,32]⟩++tx++⟨#[32]⟩++Fa d Ov Oy++⟨#[10]⟩):=rfl;have ar:=Aa (Ri d (XH D (by decide)));generalize Fa d Ov Oy=ew at Y bo ab;clear a3 a2;go_enter func52,ntmps52;go_wp2_with fail;generalize w.alloc (Zk #[Zt tx,Zo d,Zs aa Bz.length ac] 63)=wa at *;refine(u.o _).mono ?_;rintro e b⟨rfl,m⟩;have bd:=Aa (Below.Ap T.o m);have bq:w.heap.size<wa.heap.size:=Ac ag.o;have bu:=m.size;have bj:=Aa ((m.block w.heap.size bq).trans ag.o);clear m ag T;have U:Hid (Zb b (b.alloc (Zk #[Zp none,Zs none 0 0] 181))):=Zal;have am:Hid (Lib.IsBuilder 181 5 b.heap.size b.heap.size [] (b.alloc (Zk #[Zp none,Zs none 0 0] 181))):=.inl ⟨XA _,_,Yac b _,XD _ _ _ _,by simp[Value.ownBlock]⟩;go_wp2_with fail;have bc:b.heap.size<(b.alloc (Zk #[Zp none,Zs none 0 0] 181)).heap.size:=by simp
   have aw:=Aa bc;clear bc;generalize b.alloc (Zk #[Zp none,Zs none 0 0] 181)=w2 at *;have ah:=Aa ((U.o.block w.heap.size (by omega)).trans bj.o);obtain⟨x0,h,i,_⟩:=Db ah.o;have ay:Hid (∀s:Tb,s.size<=114->Zc 88 #[Zp (some ⟨b.heap.size,0,none⟩),Zt s] w2.drew λe r=>e=Zr (Zu #[Zi s.size,Zn])/\(Lib.BuilderAt 181 5 b.heap.size b.heap.size (Zp (some ⟨b.heap.size,0,none⟩)) ([]++Lib.strCells s) r/\Below b.heap.size w2.drew r)):=Aa (λs hs=>Od b.heap.size b.heap.size [] s w2.drew am.o (by simp;omega) (by show b.heap.size<=w2.heap.size;have:=aw.o;omega));have n1:¬9223372036854775807<7+tx.size:=by omega
   have n2:¬9223372036854775807<7+tx.size+1:=by omega
   have n3:¬9223372036854775807<7+tx.size+1+5:=by omega
   have n4:¬9223372036854775807<7+tx.size+1+5+1:=by omega
   go_region_law
    (first
      | (refine Nh (by rfl) 89 (.tmp 17) (.const (Zt ⟨#[114,101,97,100,115]⟩)) (.const (Zt ⟨#[98,108,105,110,100]⟩)) 4 9 9 (by rfl) (Zo d) (Zt ⟨#[114,101,97,100,115]⟩) (Zt ⟨#[98,108,105,110,100]⟩) (by rfl) (by rfl) (by rfl) aq.o _ (Y.o _) ?_
         rintro e w4⟨rfl,rfl⟩;refine⟨_,rfl,?_⟩)
      | (refine Gc (by rfl) 88 (.tmp 4) (.tmp 20) 181 9 (by rfl) _ _ rfl rfl ap.o _ (ay.o _ (by rw[<-ab.o];exact ar.o)) ?_
         rintro e w4⟨rfl,N,a6⟩;have n:=Aa N;have V:Hid (Below b.heap.size w2 w4):=Aa ((XF _ _).drew.trans a6);clear N a6;refine⟨_,rfl,?_⟩)
      | fail)
   all_goals
    have bv:b.heap.size<w4.heap.size:=n.o.lt;have J:Hid (Zb w w4):=Aa (bd.o.trans ((U.o.trans V.o).mono (by omega)));have az:=Aa ((V.o.block w.heap.size (by omega)).trans ah.o);clear x0 h i;obtain⟨x0,h,i,_⟩:=Db az.o
    have G:Hid (Lib.IsBuilder 181 5 b.heap.size b.heap.size (Lib.byteCells ((I4 tx d).data.toList++Ed (Bz.take 0))) w4):=Aa (.inr (by have:=n.o;rw[<-ab.o,XU,Qz] at this;simpa[Ed] using this))
    clear n ay Y n1 n2 n3 n4 V U am aw ah;go_wp2_with fail
    go_loopw [25] (λvi wr=>∃k:Nat,k<=Bz.length/\vi=Zi k/\Hid (Lib.IsBuilder 181 5 b.heap.size b.heap.size (Lib.byteCells ((I4 tx d).data.toList++Ed (Bz.take k))) wr)/\Hid (Zb w wr)/\Hid (∀j,j<k->Ch Bz[j]! = true)) (λvi _=>Bz.length-(intOf vi).toNat)
    case atStart=>exact⟨0,X2 _,rfl,G,J,Aa (λj hj=>absurd hj (Ym _))⟩
    case round=>
     clear x0 h i az G J;obtain⟨k,hk,rfl,BD,R,RT⟩:=hrel
     by_cases hlt:k<Bz.length
     ·have bs:(k:Int)<(Bz.length:Int):=by omega
      rcases HA.o.below R.o with⟨_,e0⟩|⟨g,o,c,eg,br,bt,M⟩
      ·rw[e0] at hlt;simp at hlt
      injection eg with bk _ bl;subst bk bl;obtain⟨ma,mn,mc,ca,cn,cc,ai,a4⟩:=M k hlt;have y:Hid (Ch Bz[k]! = true->Fh Bz[k]!):=Aa (av.o _ (by rw[getElem!_pos Bz k hlt];exact Yh hlt));have z:Hid (Ed (Bz.take (k+1))=Ed (Bz.take k)++((F3 Bz[k]!).data.toList++[10])):=Aa (by rw[Br hlt,uU]);have ae:=Aa (bg.o k hlt)
      have af:Hid (Ch Bz[k]! = true->∀j,j<k+1->Ch Bz[j]! = true):=Aa (λhh j hj=>by
       by_cases e:j=k
       ·rw[e];exact hh
       exact RT.o j (by omega))
      have au:Hid (∀l,Ed (Bz.take k)=l->l.length<=36600600000):=Aa (λl hl=>by rw[<-hl];exact pN hn hlt av.o RT.o);obtain⟨⟨h,i,p,x4,x5,q⟩,hx⟩:∃x,Bz[k]! = x:=⟨_,rfl⟩;rw[hx] at ai a4 y z ae af;obtain⟨q0,q1,q2,q3,q4,q5⟩:=a4;simp only at q0 q1 q2 q3 q4 q5;have t:Hid (Zb wr (wr.alloc (Zk #[Zi h,Zt i,Zi p,Zs ma mn mc,Zs ca cn cc,Zi q] 129))):=Aa (Zal);have a0:=Aa (Yac wr (Zk #[Zi h,Zt i,Zi p,Zs ma mn mc,Zs ca cn cc,Zi q] 129));have ak:=Aa ai;have v:Hid (∀W,Zb wr W->Zc 90 #[Zg #[Zi h,Zt i,Zi p,Zs ma mn mc,Zs ca cn cc,Zi q]] W λe r=>e=Zr (Zo (Ch (h,i,p,x4,x5,q)))/\Zb W r):=Aa (λW hW=>wO h i p x4 x5 q ma mn mc ca cn cc W (ak.o.below hW) ((HW.o.below R.o).below hW));have ad:Hid (Ch (h,i,p,x4,x5,q)=true->∀W,Zb wr W->Zc 91 #[Zg #[Zi h,Zt i,Zi p,Zs ma mn mc,Zs ca cn cc,Zi q]] W λe r=>e=Zr (Zt (F3 (h,i,p,x4,x5,q)))/\Zb W r):=Aa (λhr W hW=>AEC h i p x4 x5 q ma mn mc ca cn cc W (ak.o.below hW) (y.o hr) ((HT.o.below R.o).below hW));clear ai M hx;cases hri:Ch (h,i,p,x4,x5,q) with
      | false=>rw[hri] at v;have HR:=Aa (ae.o hri);go_wp2_with (go_at_call 90;refine(v.o _ t.o).mono ?_;rintro e w7⟨rfl,f⟩);go_ret2;exact⟨by rw[HR.o];rfl,Below.Ap R.o (Below.Ap t.o f)⟩
      | true=>
        rw[hri] at v ad;have a9:=gB (y.o hri);have L:=Aa (ad.o rfl);obtain⟨pl,aj⟩:∃pl,Ed (Bz.take k)=pl:=⟨_,rfl⟩;have bb:=au.o pl aj;rw[aj] at BD z;have bh:=Aa (af.o hri);obtain⟨ls,P⟩:∃ls,F3 (h,i,p,x4,x5,q)=ls:=⟨_,rfl⟩;rw[P] at a9 L z;clear P au aj ae af y ad;have bn:=R.o.size;have bi:=Aa (sK ar.o bb a9)
        go_wp2_with (first
         | (go_at_call 90;refine(v.o _ t.o).mono ?_;rintro e w7⟨rfl,f⟩
            have al:=Aa (Below.Ap t.o f);have a5:=(f.block wr.heap.size (Ac a0.o)).trans a0.o;obtain⟨y0,y1,y2,y3,y4,y5,_⟩:=Vj a5;clear a5 f)
         | (go_at_call 91;refine(L.o _ al.o).mono ?_;rintro e w8⟨rfl,a7⟩
            have X:=Aa (Below.Ap al.o a7);have n5:¬9223372036854775807<ls.size+1:=by omega
            have I:=Aa (AJe BD.o X.o);have bw:=X.o.size;clear a7)
         | (go_at_call 88;refine(Od b.heap.size b.heap.size _ _ _ I.o bi.o (by have:=AFg I.o;omega)).mono ?_
            rintro e w9⟨rfl,O,a8⟩;have ao:=Aa O;have bf:=Aa a8;clear O a8))
        go_roundw
        case rel=>
         refine⟨k+1,by omega,by go_num,Aa (.inr ?_),Aa ((R.o.trans (X.o.mono bn)).trans (bf.o.mono (by omega))),bh⟩;have:=ao.o;rw[Qz,<-Bg,List.append_assoc] at this;rw[z.o];have e11:(ls++⟨#[10]⟩).data.toList=ls.data.toList++[10]:=by simp
         rw[e11] at this;exact this
        case measure=>simp[intOf];omega
     have bp:k=Bz.length:=by omega
     subst bp;have HR:=Aa (a1.o RT.o);have ax:=Aa (Builder_String_any b.heap.size b.heap.size _ wr BD.o (by have:=AFg BD.o;omega));rw[Ye] at ax;go_wp2_with (go_at_call 92;refine ax.o.mono ?_;rintro e w7⟨rfl,f⟩);go_ret2;exact⟨by rw[HR.o];rfl,R.o.trans (f.mono (by omega))⟩
theorem AGo(h:indexByte s.data.toList c = -1):bA (Ao c s.data.toList).1=s/\bA (Ao c s.data.toList).2.1=⟨#[]⟩/\(Ao c s.data.toList).2.2=false:=by rw[Np h];exact⟨Ju s,rfl,rfl⟩
theorem AE8{i:Nat}(h:indexByte s.data.toList c=i):bA (Ao c s.data.toList).1=s.extract 0 i/\bA (Ao c s.data.toList).2.1=s.extract (i+1) s.size/\(Ao c s.data.toList).2.2=true/\i<s.size:=by
 obtain⟨e,a⟩:=J0 h;rw[e];refine⟨?_,?_,rfl,by rw[WC] at a;exact a⟩
 ·rw[extract_eq];simp[bA]
 have b:List.take (s.size-(i+1)) (List.drop (i+1) s.data.toList)=List.drop (i+1) s.data.toList :=
  Yd (by rw[XK,<-Lib.size_eq];exact XA _)
 rw[extract_eq,b];rfl
theorem AFA(s:Tb)(c:UInt8)(w:Tw)(j:s.size<=maxLen):
 Zc 175 #[Zt s,Zt ⟨#[c]⟩] w λe h=>e=Zr (Zu #[Zt (bA (Ao c s.data.toList).1),Zt (bA (Ao c s.data.toList).2.1),Zo (Ao c s.data.toList).2.2])/\∃n,h=w.drewN n:=by
 unfold maxLen at j
 rcases O3 s.data.toList c with a|⟨i,a⟩
 ·obtain⟨d,f,g⟩:=AGo a
  rw[d,f,g];have b:=Aa (λW=>stringslite_Index_one s c W);rw[a] at b;clear a d f g;go_enter func175,ntmps175;go_wp2_with (go_at_call 215;refine(b.o _).mono ?_;rintro e h⟨rfl,rfl⟩);go_ret3;exact⟨rfl,0,rfl⟩
 obtain⟨d,f,g,o⟩:=AE8 a;rw[d,f,g];have b:=Aa (λW=>stringslite_Index_one s c W);rw[a] at b;clear a d f g;have c1:(0:Int)<=(i:Int):=by omega
 have k:(i:Int)<=(s.size:Int):=by omega
 have l:(0:Int)<=(i:Int)+1:=by omega
 have m:(i:Int)+1<=(s.size:Int):=by omega
 go_enter func175,ntmps175;go_wp2_with (go_at_call 215;refine(b.o _).mono ?_;rintro e h⟨rfl,rfl⟩)
 go_region
 go_wp2;go_ret3;exact⟨rfl,1,rfl⟩
theorem L5(s:Tb)(c:UInt8)(w:Tw)(d:s.size<=maxLen):
 Zc 119 #[Zt s,Zt ⟨#[c]⟩] w λe a=>e=Zr (Zu #[Zt (bA (Ao c s.data.toList).1),Zt (bA (Ao c s.data.toList).2.1),Zo (Ao c s.data.toList).2.2])/\Zb w a:=by
 have b:=Aa (AFA s c w d);generalize bA (Ao c s.data.toList).1=x at *;generalize bA (Ao c s.data.toList).2.1=y at *;generalize (Ao c s.data.toList).2.2=z at *;go_enter func119,ntmps119;go_wp2_with (go_at_call 175;refine b.o.mono ?_;rintro e a⟨rfl,n,rfl⟩);go_ret3;exact⟨rfl,⟨rfl,rfl,rfl,XA _,λ_ _=>rfl⟩⟩
def Ik(w:World):Prop:=(∃te a,w.cell? ⟨4,0,none⟩=some (.iface te a))/\∃te a,w.cell? ⟨5,0,none⟩=some (.iface te a)
theorem Fv{b o:Nat}(h:w.cell? ⟨b,o,none⟩=some v):b<w.heap.size:=Lib.lt_of_cell h
theorem Ik.below(h:Ik w)(c:Zb w W):Ik W:=by obtain⟨⟨t1,d,a⟩,t2,e,b⟩:=h;exact⟨⟨t1,d,(c.cell (p:=⟨4,0,none⟩) (Fv a)).trans a⟩,t2,e,(c.cell (p:=⟨5,0,none⟩) (Fv b)).trans b⟩
def Ns(l:List UInt8)(w:World)(e:Ending)(b:World):Prop:=∃(n:Int)(a:Value),e=.returned (.tuple #[Zi n,a])/\Zb w b/\((numOf l=some n/\a=.nilIface)\/(numOf l=none/\∃t x,a=.iface t x))
theorem Ud(s:Tb)(w:Tw)(i:s.size<=100000000)(f:Ik w):Zc 178 #[Zt s] w (Ns s.data.toList w):=by
 obtain⟨⟨t1,j,c⟩,t2,k,d⟩:=f;cases h:atoiAll s.data.toList with
 | ok v=>
   refine(strconv_Atoi_ok s (by omega) v h w).mono ?_;rintro e b⟨rfl,g⟩;refine⟨v,_,rfl,?_,.inl ⟨by simp[numOf,h],rfl⟩⟩
   rcases g with rfl|⟨t,rfl⟩
   ·exact XF _ _
   exact Lib.bytesWorld_below _ _ _
 | «syntax» =>refine(strconv_Atoi_syntax s (by omega) h _ w c (.inr ⟨_,_,rfl⟩)).mono ?_;rintro e b⟨N,rfl,_,_,a⟩;exact⟨_,_,rfl,a,.inr ⟨by simp[numOf,h],_,_,rfl⟩⟩
 | range=>refine(strconv_Atoi_range s (by omega) h _ w d (.inr ⟨_,_,rfl⟩)).mono ?_;rintro e b⟨N,rfl,_,_,a⟩;exact⟨_,_,rfl,a,.inr ⟨by simp[numOf,h],_,_,rfl⟩⟩
theorem Vf(s:Tb)(w:Tw)(i:s.size<=100000000)(f:Ik w):Zc 301 #[Zt s,Zi 10,Zi 64] w (Ns s.data.toList w):=by
 obtain⟨⟨t1,j,c⟩,t2,k,d⟩:=f;cases h:atoiAll s.data.toList with
 | ok v=>
   refine(strconv_ParseInt_10_at64_ok s (by omega) v ((parseIntB_64 _).trans h) w).mono ?_;rintro e b⟨rfl,g⟩;refine⟨v,_,rfl,?_,.inl ⟨by simp[numOf,h],rfl⟩⟩
   rcases g with rfl|⟨t,rfl⟩
   ·exact XF _ _
   exact Lib.bytesWorld_below _ _ _
 | «syntax» =>refine(strconv_ParseInt_10_at64_syntax s (by omega) ((parseIntB_64 _).trans h) _ w c (.inr ⟨_,_,rfl⟩)).mono ?_;rintro e b⟨N,rfl,_,_,a⟩;exact⟨_,_,rfl,a,.inr ⟨by simp[numOf,h],_,_,rfl⟩⟩
 | range=>refine(strconv_ParseInt_10_at64_range s (by omega) ((parseIntB_64 _).trans h) _ w d (.inr ⟨_,_,rfl⟩)).mono ?_;rintro e b⟨N,rfl,_,_,a⟩;exact⟨_,_,rfl,a,.inr ⟨by simp[numOf,h],_,_,rfl⟩⟩
theorem Ky(l:List UInt8):(bA l).toList=l:=by rw[ByteArray.toList_eq];simp[bA]
def ABW(l:List UInt8)(w:World)(e:Ending)(a:World):Prop:=∃(k n:Int)(t b:ByteArray)(ok:Bool),e=.returned (.tuple #[.agg #[Zi k,Zi n,.string t],.string b,.bool ok])/\Zb w a/\((ok=true/\∃r,Ej l=some ((k,n,t),r)/\b=bA r)\/(ok=false/\Ej l=none))
theorem mH{b:Nat}{v u f:Tv}{t:TypeId}(h:W.heap[b]? = some (Zk #[v,u,f] t (0,0))):W.cell? ⟨b,0,none⟩=some v/\W.cell? ⟨b,1,none⟩=some u/\W.cell? ⟨b,2,none⟩=some f:=by obtain⟨a,c,d,_⟩:=Db h;exact⟨a,c,d⟩
theorem Cz:(bA l).size=l.length:=by simp[bA,ByteArray.size]
theorem P1(c:UInt8)(l:List UInt8):(bA (Ao c l).1).size<=l.length:=by rw[Cz];have:=Gv c l;omega
theorem Ve(c:UInt8)(l:List UInt8):(bA (Ao c l).2.1).size<=l.length:=by rw[Cz];have:=Gv c l;omega
theorem Gm(s:Tb):s.data.toList.length=s.size:=by rw[WC];rfl
abbrev aL(W:World)(b:Nat)(a c d:Value):World:=((W.setCell ⟨b,0,none⟩ a).setCell ⟨b,1,none⟩ c).setCell ⟨b,2,none⟩ d
theorem pF(W:Tw)(b:Nat)(c0 c1 e a c d:Tv)(T:TypeId)(h:W.heap[b]? = some (Zk #[c0,c1,e] T (0,0))):
 (aL W b a c d).heap[b]? = some (Zk #[a,c,d] T (0,0)):=As _ b 2 _ T d (As _ b 1 _ T c (As _ b 0 _ T a h))
theorem AKP(W:Tw)(b:Nat)(c0 c1 e a c d:Tv)(T:TypeId)(h:W.heap[b]? = some (Zk #[c0,c1,e] T (0,0))):
 (W.setCell ⟨b,0,none⟩ a).cell? ⟨b,0,none⟩=some a/\((W.setCell ⟨b,0,none⟩ a).setCell ⟨b,1,none⟩ c).cell? ⟨b,1,none⟩=some c/\(((W.setCell ⟨b,0,none⟩ a).setCell ⟨b,1,none⟩ c).setCell ⟨b,2,none⟩ d).cell? ⟨b,2,none⟩=some d :=
 ⟨(Db (As _ b 0 _ T a h)).1,(Db (As _ b 1 _ T c (As _ b 0 _ T a h))).2.1,(Db (pF W b c0 c1 e a c d T h)).2.2.1⟩
theorem Fi(h:Below n w W){b:Nat}(a:n<=b)(c d e:Tv):Below n w (aL W b c d e) :=
 ((h.setCell (p:=⟨b,0,none⟩) a _).setCell (p:=⟨b,1,none⟩) a _).setCell (p:=⟨b,2,none⟩) a _
theorem iR(s:Tb)(w:Tw)(hs:s.size<=1000000)(he:Ik w):Zc 264 #[Zt s] w (ABW s.data.toList w):=by
 have I:=Aa (λW=>strings_CutPrefix s ⟨#[39]⟩ W);cases hp:Lib.hasPrefix s.data.toList [39] with
 | true=>
   have L:Lib.trimPrefix s.data.toList [39]=s.data.toList.drop 1:=by unfold Lib.trimPrefix;rw[hp];rfl
   have b:Hid (Ej s.data.toList=if (Ao 39 (s.data.toList.drop 1)).2.2=true then some ((2,0,bA (Ao 39 (s.data.toList.drop 1)).1),Lib.trimPrefix (Ao 39 (s.data.toList.drop 1)).2.1 [59]) else none):=Aa (by unfold Ej;rw[Yae hp])
   have g:Hid (∀W,Zc 299 #[Zt s,Zt ⟨#[39]⟩] W λe Y=>e=Zr (Zu #[Zt (bA (s.data.toList.drop 1)),Zo true])/\Y=W):=Aa (λW=>by have:=I.o W;rw[show (⟨#[39]⟩:Tb).data.toList=[39] from rfl,hp,L] at this;exact this)
   have j:=Aa (λW=>L5 (bA (s.data.toList.drop 1)) 39 W (by rw[Cz,XK,Gm];unfold maxLen;omega));rw[B5] at j;have HT:=Aa (λ(x:Tb)W=>strings_TrimPrefix x ⟨#[59]⟩ W);have T:=Aa (λ(l:List UInt8)=>show (⟨(Lib.trimPrefix (bA l).data.toList (⟨#[59]⟩:Tb).data.toList).toArray⟩:Tb)=bA (Lib.trimPrefix l [59]) by rw[B5];rfl);generalize bA (s.data.toList.drop 1)=rs at *;clear I L hp;generalize Ao 39 (s.data.toList.drop 1)=U at *;obtain⟨c1,t,J⟩:=U;simp only at j b;generalize X:bA c1=O at *;generalize f:bA t=x2 at *;have i:=Aa f;clear X f;go_enter func264,ntmps264
   go_wp2_with (first
    | (go_at_call 299;refine(g.o _).mono ?_;rintro e w1⟨rfl,rfl⟩)
    | (go_at_call 119;refine(j.o _).mono ?_;rintro e M⟨rfl,a⟩;have c:=Aa a;have h:=Aa ((a.block w.heap.size (by simp)).trans (Yac w _));obtain⟨z0,z1,z2,zf⟩:=Db h.o;have z:=zf 0;have D:=zf 1;have G:=zf 2;clear a zf)
    | (go_at_call 300;refine(HT.o _ _).mono ?_;rintro e N⟨rfl,h3⟩;obtain rfl:=h3.symm))
   obtain⟨p,q,r⟩:=mH (pF M w.heap.size _ _ _ (Zi 2) (Zi 0) (Zt O) _ h.o);refine bodyPost_ret (v:=Zu #[Zg #[Zi 2,Zi 0,Zt O],Zt ⟨(Lib.trimPrefix x2.data.toList [59]).toArray⟩,Zo J]) (by simp[results,results264,go_sem,p,q,r]) rfl ⟨2,0,O,_,J,rfl,Fi (b1c c.o) (XA _) _ _ _,?_⟩;rw[b.o];cases J with
   | true=>refine .inl ⟨rfl,_,rfl,?_⟩;rw[<-i.o];exact T.o t
   | false=>exact .inr ⟨rfl,rfl⟩
 | false=>
   have g:Hid (∀W,Zc 299 #[Zt s,Zt ⟨#[39]⟩] W λe Y=>e=Zr (Zu #[Zt s,Zo false])/\Y=W):=Aa (λW=>by
    have:=I.o W;rw[show (⟨#[39]⟩:Tb).data.toList=[39] from rfl,hp] at this;have L:Lib.trimPrefix s.data.toList [39]=s.data.toList:=by unfold Lib.trimPrefix;rw[hp];rfl
    rw[L] at this;exact this)
   have b:Hid (Ej s.data.toList=if (Ao 59 s.data.toList).1=Qm then some ((0,0,bA []),(Ao 59 s.data.toList).2.1) else (numOf (Ao 59 s.data.toList).1).map λn=>((1,n,bA []),(Ao 59 s.data.toList).2.1)):=Aa (by unfold Ej;rw[Yad (by rw[hp];decide)]);have j:=Aa (λW=>L5 s 59 W (by unfold maxLen;omega));have y:=P1 59 s.data.toList;rw[Gm] at y
   have R:Hid (∀W,Zb w W->Zc 301 #[Zt (bA (Ao 59 s.data.toList).1),Zi 10,Zi 64] W (Ns (Ao 59 s.data.toList).1 W)):=Aa (λW hW=>by have:=Vf (bA (Ao 59 s.data.toList).1) W (by omega) (he.below hW);rw[B5] at this;exact this)
   have d:=Aa (Ky (Ao 59 s.data.toList).1);clear I hp he y;generalize Ao 59 s.data.toList=U at *;obtain⟨c1,t,J⟩:=U;simp only at j b R d;generalize f:bA t=x2 at *;have i:=Aa f;clear f
   by_cases hn:c1=Qm
   ·subst hn
    have ex:bA Qm=⟨#[110,117,108,108]⟩:=rfl;rw[ex] at j;clear ex R d;go_enter func264,ntmps264
    go_wp2_with (first
     | (go_at_call 299;refine(g.o _).mono ?_;rintro e w1⟨rfl,rfl⟩)
     | (go_at_call 119;refine(j.o _).mono ?_;rintro e M⟨rfl,a⟩;have c:=Aa a;have h:=Aa ((a.block w.heap.size (by simp)).trans (Yac w _));obtain⟨z0,z1,z2,zf⟩:=Db h.o;have z:=zf 0;have D:=zf 1;have G:=zf 2;clear a zf))
    obtain⟨p,q,r⟩:=mH (pF M w.heap.size _ _ _ (Zi 0) (Zi 0) (Zt ⟨#[]⟩) _ h.o);refine bodyPost_ret (v:=Zu #[Zg #[Zi 0,Zi 0,Zt ⟨#[]⟩],Zt x2,Zo true]) (by simp[results,results264,go_sem,p,q,r]) rfl ⟨0,0,_,_,true,rfl,Fi (b1c c.o) (XA _) _ _ _,?_⟩;rw[b.o];exact .inl ⟨rfl,t,by simp[bA],i.o.symm⟩
   have ab:((bA c1).toList==[110,117,108,108])=false:=by rw[d.o];exact beq_eq_false_iff_ne.2 hn
   have aa:¬(bA c1).toList=[110,117,108,108]:=by rw[d.o];exact hn
   have HN:=Aa hn;clear d hn;generalize bA c1=O at *;go_enter func264,ntmps264
   go_wp2_with (first
    | (go_at_call 299;refine(g.o _).mono ?_;rintro e w1⟨rfl,rfl⟩)
    | (go_at_call 119;refine(j.o _).mono ?_;rintro e M⟨rfl,a⟩;have c:=Aa a;have k:=Aa ((a.block w.heap.size (by simp)).trans (Yac w _));clear a)
    | (go_at_call 301;refine(R.o _ (b1c c.o)).mono ?_;rintro e N⟨n,er,rfl,m,o⟩;have P:=Aa m;have h:=Aa ((m.block w.heap.size (Ac k.o)).trans k.o);obtain⟨z0,z1,z2,zf⟩:=Db h.o;have z:=zf 0;have D:=zf 1;have G:=zf 2;clear m zf))
   have u:Hid (Zb w N):=Aa (Below.Ap (b1c c.o) P.o)
   rcases o with⟨V,rfl⟩|⟨V,ty,xx,rfl⟩
   ·go_region
    go_wp2;obtain⟨p,q,r⟩:=AKP N w.heap.size _ _ _ (Zi 1) (Zi n) (Zt ⟨#[]⟩) _ h.o;refine bodyPost_ret (v:=Zu #[Zg #[Zi 1,Zi n,Zt ⟨#[]⟩],Zt x2,Zo true]) (by simp[results,results264,go_sem,p,q,r]) rfl ⟨1,n,_,_,true,rfl,(Fi u.o (XA _) _ _ _).drew,?_⟩;rw[b.o,Yad HN.o,V];exact .inl ⟨rfl,t,rfl,i.o.symm⟩
   go_region
   go_wp2;obtain⟨p,q,r⟩:=AKP N w.heap.size _ _ _ (Zi 1) (Zi n) (Zt ⟨#[]⟩) _ h.o;refine bodyPost_ret (v:=Zu #[Zg #[Zi 1,Zi n,Zt ⟨#[]⟩],Zt x2,Zo false]) (by simp[results,results264,go_sem,p,q,r]) rfl ⟨1,n,_,_,false,rfl,(Fi u.o (XA _) _ _ _).drew,?_⟩;rw[b.o,Yad HN.o,V];exact .inr ⟨rfl,rfl⟩
def Fo:Nat->List UInt8->List UInt8
 | 0,l=>l
 | n+1,l=>Aw (Fo n l)
def Cj(n:Nat)(l:List UInt8):ByteArray:=bA (Ao 32 (Fo n l)).1
theorem Ug:∀(n:Nat)(l:List UInt8),(Fo n l).length<=l.length
 | 0,_=>XA _
 | n+1,l=>XH (Gi _) (Ug n l)
def ABd(l:List UInt8)(w:World)(e:Ending)(i:World):Prop:=∃(c1:Int)(a:ByteArray)(c:Int)(d:Bool)(f g:Int)(h b:ByteArray)(ok:Bool),e=.returned (.tuple #[.agg #[Zi c1,.string a,Zi c,.bool d,Zi f,Zi g,.string h],.string b,.bool ok])/\Zb w i/\((ok=true/\∃r,D0 l=some ((c1,a,c,d,f,g,h),r)/\b=bA r)\/(ok=false/\D0 l=none))
theorem AG8{r:List UInt8}{i k:Int}{v:AIE}(a:numOf (Ao 32 (Fo 0 l)).1=some i)(b:numOf (Ao 32 (Fo 2 l)).1=some k)(c:Ej (Fo 4 l)=some (v,r)):D0 l=some ((i,Cj 1 l,k,decide ((Ao 32 (Fo 3 l)).1=dS),v),r):=by simp only[Fo] at a b c;unfold D0;rw[a,b,c];rfl
theorem ABA(h:numOf (Ao 32 (Fo 0 l)).1=none):D0 l=none:=by simp only[Fo] at h;unfold D0;rw[h];rfl
theorem ABL(h:numOf (Ao 32 (Fo 2 l)).1=none):D0 l=none:=by simp only[Fo] at h;unfold D0;rw[h];cases numOf (Ao 32 l).1 <;> rfl
theorem ABE(h:Ej (Fo 4 l)=none):D0 l=none:=by
 simp only[Fo] at h;unfold D0;rw[h];cases numOf (Ao 32 l).1 with
 | none=>rfl
 | some a=>cases numOf (Ao 32 (Aw (Aw l))).1 <;> rfl
theorem Jz{b:Nat}{v u f a:Tv}{t:TypeId}(h:W.heap[b]? = some (Zk #[v,u,f,a] t (0,0))):W.cell? ⟨b,0,none⟩=some v/\W.cell? ⟨b,1,none⟩=some u/\W.cell? ⟨b,2,none⟩=some f/\W.cell? ⟨b,3,none⟩=some a/\∀i,W.frozen? ⟨b,i,none⟩=false:=B3 h
theorem F8{b:Nat}{v u f a e c d:Tv}{t:TypeId}(h:W.heap[b]? = some (Zk #[v,u,f,a,e,c,d] t (0,0))):
 W.cell? ⟨b,0,none⟩=some v/\W.cell? ⟨b,1,none⟩=some u/\W.cell? ⟨b,2,none⟩=some f/\W.cell? ⟨b,3,none⟩=some a/\W.cell? ⟨b,4,none⟩=some e/\W.cell? ⟨b,5,none⟩=some c/\W.cell? ⟨b,6,none⟩=some d/\∀i,W.frozen? ⟨b,i,none⟩=false:=by
 refine⟨?_,?_,?_,?_,?_,?_,?_,λi=>?_⟩
 all_goals first|(rw[World.frozen?,h];simp)|(simp[World.cell?,h])
abbrev AKf(W:World)(b:Nat)(a c d e f g h:Value):World:=((((((W.setCell ⟨b,0,none⟩ a).setCell ⟨b,1,none⟩ c).setCell ⟨b,2,none⟩ d).setCell ⟨b,3,none⟩ e).setCell ⟨b,4,none⟩ f).setCell ⟨b,5,none⟩ g).setCell ⟨b,6,none⟩ h
theorem ALC(W:Tw)(b:Nat)(w u n m l j i a c d e f g k:Tv)(T:TypeId)(h:W.heap[b]? = some (Zk #[w,u,n,m,l,j,i] T (0,0))):
 (W.setCell ⟨b,0,none⟩ a).cell? ⟨b,0,none⟩=some a/\((W.setCell ⟨b,0,none⟩ a).setCell ⟨b,1,none⟩ c).cell? ⟨b,1,none⟩=some c/\(((W.setCell ⟨b,0,none⟩ a).setCell ⟨b,1,none⟩ c).setCell ⟨b,2,none⟩ d).cell? ⟨b,2,none⟩=some d/\((((W.setCell ⟨b,0,none⟩ a).setCell ⟨b,1,none⟩ c).setCell ⟨b,2,none⟩ d).setCell ⟨b,3,none⟩ e).cell? ⟨b,3,none⟩=some e/\(((((W.setCell ⟨b,0,none⟩ a).setCell ⟨b,1,none⟩ c).setCell ⟨b,2,none⟩ d).setCell ⟨b,3,none⟩ e).setCell ⟨b,4,none⟩ f).cell? ⟨b,4,none⟩=some f/\((((((W.setCell ⟨b,0,none⟩ a).setCell ⟨b,1,none⟩ c).setCell ⟨b,2,none⟩ d).setCell ⟨b,3,none⟩ e).setCell ⟨b,4,none⟩ f).setCell ⟨b,5,none⟩ g).cell? ⟨b,5,none⟩=some g/\(((((((W.setCell ⟨b,0,none⟩ a).setCell ⟨b,1,none⟩ c).setCell ⟨b,2,none⟩ d).setCell ⟨b,3,none⟩ e).setCell ⟨b,4,none⟩ f).setCell ⟨b,5,none⟩ g).setCell ⟨b,6,none⟩ k).cell? ⟨b,6,none⟩=some k:=by
 have o:(W.setCell ⟨b,0,none⟩ a).heap[b]? = some (Zk #[a,u,n,m,l,j,i] T (0,0)):=by simpa using As W b 0 _ T a h
 have p:((W.setCell ⟨b,0,none⟩ a).setCell ⟨b,1,none⟩ c).heap[b]? = some (Zk #[a,c,n,m,l,j,i] T (0,0)):=by simpa using As (W.setCell ⟨b,0,none⟩ a) b 1 _ T c o
 have q:(((W.setCell ⟨b,0,none⟩ a).setCell ⟨b,1,none⟩ c).setCell ⟨b,2,none⟩ d).heap[b]? = some (Zk #[a,c,d,m,l,j,i] T (0,0)):=by simpa using As ((W.setCell ⟨b,0,none⟩ a).setCell ⟨b,1,none⟩ c) b 2 _ T d p
 have r:((((W.setCell ⟨b,0,none⟩ a).setCell ⟨b,1,none⟩ c).setCell ⟨b,2,none⟩ d).setCell ⟨b,3,none⟩ e).heap[b]? = some (Zk #[a,c,d,e,l,j,i] T (0,0)):=by simpa using As (((W.setCell ⟨b,0,none⟩ a).setCell ⟨b,1,none⟩ c).setCell ⟨b,2,none⟩ d) b 3 _ T e q
 have s:(((((W.setCell ⟨b,0,none⟩ a).setCell ⟨b,1,none⟩ c).setCell ⟨b,2,none⟩ d).setCell ⟨b,3,none⟩ e).setCell ⟨b,4,none⟩ f).heap[b]? = some (Zk #[a,c,d,e,f,j,i] T (0,0)):=by simpa using As ((((W.setCell ⟨b,0,none⟩ a).setCell ⟨b,1,none⟩ c).setCell ⟨b,2,none⟩ d).setCell ⟨b,3,none⟩ e) b 4 _ T f r
 have t:((((((W.setCell ⟨b,0,none⟩ a).setCell ⟨b,1,none⟩ c).setCell ⟨b,2,none⟩ d).setCell ⟨b,3,none⟩ e).setCell ⟨b,4,none⟩ f).setCell ⟨b,5,none⟩ g).heap[b]? = some (Zk #[a,c,d,e,f,g,i] T (0,0)):=by simpa using As (((((W.setCell ⟨b,0,none⟩ a).setCell ⟨b,1,none⟩ c).setCell ⟨b,2,none⟩ d).setCell ⟨b,3,none⟩ e).setCell ⟨b,4,none⟩ f) b 5 _ T g s
 have v:(((((((W.setCell ⟨b,0,none⟩ a).setCell ⟨b,1,none⟩ c).setCell ⟨b,2,none⟩ d).setCell ⟨b,3,none⟩ e).setCell ⟨b,4,none⟩ f).setCell ⟨b,5,none⟩ g).setCell ⟨b,6,none⟩ k).heap[b]? = some (Zk #[a,c,d,e,f,g,k] T (0,0)):=by simpa using As ((((((W.setCell ⟨b,0,none⟩ a).setCell ⟨b,1,none⟩ c).setCell ⟨b,2,none⟩ d).setCell ⟨b,3,none⟩ e).setCell ⟨b,4,none⟩ f).setCell ⟨b,5,none⟩ g) b 6 _ T k t
 exact⟨(F8 o).1,(F8 p).2.1,(F8 q).2.2.1,(F8 r).2.2.2.1,(F8 s).2.2.2.2.1,(F8 t).2.2.2.2.2.1,(F8 v).2.2.2.2.2.2.1⟩
theorem Rs(h:Below n w W){b:Nat}(a:n<=b)(c d e f g i j:Tv):Below n w (AKf W b c d e f g i j) :=
 ((((((h.setCell (p:=⟨b,0,none⟩) a _).setCell (p:=⟨b,1,none⟩) a _).setCell (p:=⟨b,2,none⟩) a _).setCell (p:=⟨b,3,none⟩) a _).setCell (p:=⟨b,4,none⟩) a _).setCell (p:=⟨b,5,none⟩) a _).setCell (p:=⟨b,6,none⟩) a _
theorem ABi(a b:List UInt8):(a==b)=decide (a=b):=by by_cases h:a=b <;> simp[h]
def AIs(k:Nat)(l:List UInt8):Array Value:=match k with
 | 0=>#[.string ⟨#[]⟩,.string ⟨#[]⟩,.string ⟨#[]⟩,.string ⟨#[]⟩]
 | 1=>#[.string (Cj 0 l),.string ⟨#[]⟩,.string ⟨#[]⟩,.string ⟨#[]⟩]
 | 2=>#[.string (Cj 0 l),.string (Cj 1 l),.string ⟨#[]⟩,.string ⟨#[]⟩]
 | 3=>#[.string (Cj 0 l),.string (Cj 1 l),.string (Cj 2 l),.string ⟨#[]⟩]
 | _=>#[.string (Cj 0 l),.string (Cj 1 l),.string (Cj 2 l),.string (Cj 3 l)]
theorem dX(s:ByteArray)(w:World)(hs:s.size<=1000000)(he:Ik w):Zc 220 #[.string s] w (ABd s.data.toList w):=by
 obtain⟨l,hl⟩:∃l,s.data.toList=l:=⟨_,rfl⟩;have ax:l.length<=1000000:=by rw[<-hl,Gm];exact hs
 have es:s=bA (Fo 0 l):=by rw[<-hl];exact(Ju s).symm
 rw[hl]
 have I:Hid (∀n W,Zc 119 #[.string (bA (Fo n l)),.string ⟨#[32]⟩] W λe w'=>∃z,e=.returned (.tuple #[.string (Cj n l),.string (bA (Fo (n+1) l)),.bool z])/\Zb W w'):=Aa (λn W=>by refine(L5 (bA (Fo n l)) 32 W (by rw[Cz];have:=Ug n l;unfold maxLen;omega)).mono ?_;rintro e w'⟨rfl,hb⟩;rw[B5];exact⟨_,rfl,hb⟩)
 have M:Hid (∀n W,Zb w W->Zc 178 #[.string (Cj n l)] W (Ns (Ao 32 (Fo n l)).1 W)):=Aa (λn W O=>by have:=Ud (Cj n l) W (by unfold Cj;have:=P1 32 (Fo n l);have:=Ug n l;omega) (he.below O);unfold Cj at this;rw[B5] at this;exact this)
 have Y:Hid (∀W,Zb w W->Zc 264 #[.string (bA (Fo 4 l))] W (ABW (Fo 4 l) W)):=Aa (λW O=>by have:=iR (bA (Fo 4 l)) W (by rw[Cz];have:=Ug 4 l;omega) (he.below O);rw[B5] at this;exact this)
 have X:Hid ((Cj 3 l).toList=(Ao 32 (Fo 3 l)).1):=Aa (Ky _);subst es;clear he hl hs;obtain⟨z0,z1,z2,z3⟩:=C1 w (.cells #[.int .i64 0,.string ⟨#[]⟩,.int .i64 0,.bool false,.int .i64 0,.int .i64 0,.string ⟨#[]⟩] 72) (.cells #[.string ⟨#[]⟩,.string ⟨#[]⟩,.string ⟨#[]⟩,.string ⟨#[]⟩] 347);have Z0:=Aa z0;have Z1:=Aa z1;have Z2:=Aa z2;have Z3:=Aa z3;clear z0 z1 z2 z3;go_enter func220,ntmps220;go_wp2_with fail
 go_loopw [0,13] (λvs vi wr=>∃k:Nat,k<=4/\vi=.int .i64 k/\vs=.string (bA (Fo k l))/\Hid (wr.heap[w.heap.size+1]? = some (.cells (AIs k l) 347 (0,0)))/\Hid (wr.heap[w.heap.size]? = some (.cells #[.int .i64 0,.string ⟨#[]⟩,.int .i64 0,.bool false,.int .i64 0,.int .i64 0,.string ⟨#[]⟩] 72 (0,0)))/\Hid (Zb w wr)) (λ_ vi _=>4-(intOf vi).toNat)
 case atStart=>exact⟨0,by decide,rfl,rfl,Z2,Z1,Z3⟩
 case round=>
  obtain⟨k,hk,rfl,rfl,a,f,i⟩:=hrel;clear Z0 Z1 Z2 Z3;obtain rfl|rfl|rfl|rfl|rfl:k=0\/k=1\/k=2\/k=3\/k=4:=by omega
  ·obtain⟨p0,y,D,G,h⟩:=Jz a.o
   have q:=h 0;clear h
   go_wp2_with (first
    | (go_at_call 119;refine(I.o 0 _).mono ?_;rintro e r⟨zz,rfl,b⟩;have c:=Aa b;have g:=Aa ((b.block (w.heap.size+1) (Ac a.o)).trans a.o);obtain⟨p0,y,D,G,h⟩:=Jz g.o;have q:=h 0;clear b h))
   have o:=Aa (As r (w.heap.size+1) 0 _ _ (.string (Cj 0 l)) g.o);have d:Hid (Zb w (r.setCell ⟨w.heap.size+1,0,none⟩ (.string (Cj 0 l)))):=Aa ((Below.Ap i.o c.o).setCell (p:=⟨w.heap.size+1,0,none⟩) (XB _) _);have m:Hid ((r.setCell ⟨w.heap.size+1,0,none⟩ (.string (Cj 0 l))).heap[w.heap.size]? = some (.cells #[.int .i64 0,.string ⟨#[]⟩,.int .i64 0,.bool false,.int .i64 0,.int .i64 0,.string ⟨#[]⟩] 72 (0,0))):=Aa ((XZ _ _ _ _ (by simp)).trans ((c.o.block w.heap.size (Ac f.o)).trans f.o))
   go_roundw
   case rel=>exact⟨1,by decide,rfl,rfl,o,m,d⟩
   case measure=>simp[intOf]
  ·obtain⟨p0,y,D,G,h⟩:=Jz a.o
   have q:=h 1;clear h
   go_wp2_with (first
    | (go_at_call 119;refine(I.o 1 _).mono ?_;rintro e r⟨zz,rfl,b⟩;have c:=Aa b;have g:=Aa ((b.block (w.heap.size+1) (Ac a.o)).trans a.o);obtain⟨p0,y,D,G,h⟩:=Jz g.o;have q:=h 1;clear b h))
   have o:=Aa (As r (w.heap.size+1) 1 _ _ (.string (Cj 1 l)) g.o);have d:Hid (Zb w (r.setCell ⟨w.heap.size+1,1,none⟩ (.string (Cj 1 l)))):=Aa ((Below.Ap i.o c.o).setCell (p:=⟨w.heap.size+1,1,none⟩) (XB _) _);have m:Hid ((r.setCell ⟨w.heap.size+1,1,none⟩ (.string (Cj 1 l))).heap[w.heap.size]? = some (.cells #[.int .i64 0,.string ⟨#[]⟩,.int .i64 0,.bool false,.int .i64 0,.int .i64 0,.string ⟨#[]⟩] 72 (0,0))):=Aa ((XZ _ _ _ _ (by simp)).trans ((c.o.block w.heap.size (Ac f.o)).trans f.o))
   go_roundw
   case rel=>exact⟨2,by decide,rfl,rfl,o,m,d⟩
   case measure=>simp[intOf]
  ·obtain⟨p0,y,D,G,h⟩:=Jz a.o
   have q:=h 2;clear h
   go_wp2_with (first
    | (go_at_call 119;refine(I.o 2 _).mono ?_;rintro e r⟨zz,rfl,b⟩;have c:=Aa b;have g:=Aa ((b.block (w.heap.size+1) (Ac a.o)).trans a.o);obtain⟨p0,y,D,G,h⟩:=Jz g.o;have q:=h 2;clear b h))
   have o:=Aa (As r (w.heap.size+1) 2 _ _ (.string (Cj 2 l)) g.o);have d:Hid (Zb w (r.setCell ⟨w.heap.size+1,2,none⟩ (.string (Cj 2 l)))):=Aa ((Below.Ap i.o c.o).setCell (p:=⟨w.heap.size+1,2,none⟩) (XB _) _);have m:Hid ((r.setCell ⟨w.heap.size+1,2,none⟩ (.string (Cj 2 l))).heap[w.heap.size]? = some (.cells #[.int .i64 0,.string ⟨#[]⟩,.int .i64 0,.bool false,.int .i64 0,.int .i64 0,.string ⟨#[]⟩] 72 (0,0))):=Aa ((XZ _ _ _ _ (by simp)).trans ((c.o.block w.heap.size (Ac f.o)).trans f.o))
   go_roundw
   case rel=>exact⟨3,by decide,rfl,rfl,o,m,d⟩
   case measure=>simp[intOf]
  ·obtain⟨p0,y,D,G,h⟩:=Jz a.o
   have q:=h 3;clear h
   go_wp2_with (first
    | (go_at_call 119;refine(I.o 3 _).mono ?_;rintro e r⟨zz,rfl,b⟩;have c:=Aa b;have g:=Aa ((b.block (w.heap.size+1) (Ac a.o)).trans a.o);obtain⟨p0,y,D,G,h⟩:=Jz g.o;have q:=h 3;clear b h))
   have o:=Aa (As r (w.heap.size+1) 3 _ _ (.string (Cj 3 l)) g.o);have d:Hid (Zb w (r.setCell ⟨w.heap.size+1,3,none⟩ (.string (Cj 3 l)))):=Aa ((Below.Ap i.o c.o).setCell (p:=⟨w.heap.size+1,3,none⟩) (XB _) _);have m:Hid ((r.setCell ⟨w.heap.size+1,3,none⟩ (.string (Cj 3 l))).heap[w.heap.size]? = some (.cells #[.int .i64 0,.string ⟨#[]⟩,.int .i64 0,.bool false,.int .i64 0,.int .i64 0,.string ⟨#[]⟩] 72 (0,0))):=Aa ((XZ _ _ _ _ (by simp)).trans ((c.o.block w.heap.size (Ac f.o)).trans f.o))
   go_roundw
   case rel=>exact⟨4,by decide,rfl,rfl,o,m,d⟩
   case measure=>simp[intOf]
  obtain⟨p0,y,D,G,_⟩:=Jz a.o
  have keep:∀W,Zb wr W->W.cell? ⟨w.heap.size+1,0,none⟩=some (.string (Cj 0 l))/\W.cell? ⟨w.heap.size+1,1,none⟩=some (.string (Cj 1 l))/\W.cell? ⟨w.heap.size+1,2,none⟩=some (.string (Cj 2 l))/\W.cell? ⟨w.heap.size+1,3,none⟩=some (.string (Cj 3 l)):=λW O=>by obtain⟨a0,a1,a2,a3,_⟩:=Jz ((O.block (w.heap.size+1) (Ac a.o)).trans a.o);exact⟨a0,a1,a2,a3⟩
  have HK:=Aa keep;have ay:=Ac a.o;clear keep
  go_wp2_with (first
   | (go_at_call_of 178 (#[.string (Cj 0 l)]:Array Value);refine(M.o 0 _ i.o).mono ?_;rintro e w3⟨n1,av,rfl,ac,ag⟩;have d:=Aa ac;have T:=Aa ag;clear ac ag p0 y D G;obtain⟨p0,y,D,G⟩:=HK.o _ d.o)
   | (go_at_call_of 178 (#[.string (Cj 2 l)]:Array Value);refine(M.o 2 _ (Below.Ap i.o d.o)).mono ?_;rintro e w4⟨n2,aw,rfl,ad,ah⟩;have R:=Aa (Below.Ap d.o ad);have U:=Aa ah;clear ad ah)
   | (go_at_call 264;refine(Y.o _ (Below.Ap i.o R.o)).mono ?_;rintro e w5⟨t,u,x,vb,ok,rfl,ae,ai⟩;have j:=Aa (Below.Ap R.o ae);have V:=Aa ai;have a7:=j.o.size;clear ae ai p0 y D G;obtain⟨p0,y,D,G⟩:=HK.o _ (j.o.alloc j.o.size (.cells #[.int .i64 t,.int .i64 u,.string x] 57)))
   | fail)
  have aa:Hid (∀W,Zb wr W->W.heap[w.heap.size]? = some (.cells #[.int .i64 0,.string ⟨#[]⟩,.int .i64 0,.bool false,.int .i64 0,.int .i64 0,.string ⟨#[]⟩] 72 (0,0))):=Aa (λW O=>(O.block w.heap.size (Ac f.o)).trans f.o);have HZ:Hid (Zb wr ((w5.alloc (.cells #[.int .i64 t,.int .i64 u,.string x] 57)).alloc (.cells #[.int .i64 n1,.string (Cj 1 l),.int .i64 n2,.bool ((Cj 3 l).toList==[109,117,115,116]),.int .i64 t,.int .i64 u,.string x] 72))):=Aa ((j.o.alloc j.o.size _).alloc (XH j.o.size (by rw[XL];exact XB _)) _);have J:=Aa (Yac (w5.alloc (.cells #[.int .i64 t,.int .i64 u,.string x] 57)) (.cells #[.int .i64 n1,.string (Cj 1 l),.int .i64 n2,.bool ((Cj 3 l).toList==[109,117,115,116]),.int .i64 t,.int .i64 u,.string x] 72));rw[XL] at J;have az:w5.heap.size+1≠w.heap.size:=by have:=j.o.size;omega
  have ak:((Cj 3 l).toList==[109,117,115,116])=decide ((Ao 32 (Fo 3 l)).1=dS):=by rw[X.o];exact ABi _ _
  generalize (w5.alloc (.cells #[.int .i64 t,.int .i64 u,.string x] 57)).alloc (.cells #[.int .i64 n1,.string (Cj 1 l),.int .i64 n2,.bool ((Cj 3 l).toList==[109,117,115,116]),.int .i64 t,.int .i64 u,.string x] 72)=wz at *;rw[ak] at J;have ab:=Aa (aa.o _ HZ.o);obtain⟨a0,a1,a2,a3,a4,a5,a6,L⟩:=F8 ab.o;obtain⟨b0,b1,b2,b3,b4,b5,b6,_⟩:=F8 J.o;have am:=L 0;have an:=L 1;have ao:=L 2;have ap:=L 3;have aq:=L 4;have ar:=L 5;have au:=L 6;have HY:=Aa (ALC wz w.heap.size _ _ _ _ _ _ _ (.int .i64 n1) (.string (Cj 1 l)) (.int .i64 n2) (.bool (decide ((Ao 32 (Fo 3 l)).1=dS))) (.int .i64 t) (.int .i64 u) (.string x) _ ab.o);have N:=Aa (Below.Ap i.o HZ.o);clear L p0 y D G ak J X M I Y HK aa f a
  rcases V.o with⟨rfl,r3,e3,rfl⟩|⟨rfl,e3⟩ <;> rcases T.o with⟨e1,rfl⟩|⟨e1,t1,q1,rfl⟩ <;> rcases U.o with⟨e2,rfl⟩|⟨e2,t2,q2,rfl⟩
  all_goals
   have E1:=Aa e1;have E2:=Aa e2;have E3:=Aa e3;clear e1 e2 e3 T U V;generalize aj:decide ((Ao 32 (Fo 3 l)).1=dS)=P at *;have al:=Aa aj;clear aj
   go_region
  all_goals
   go_wp2;obtain⟨y0,y1,y2,y3,y4,y5,y6⟩:=HY.o
   first
    | (refine bodyPost_ret (v:=.tuple #[.agg #[.int .i64 n1,.string (Cj 1 l),.int .i64 n2,.bool P,.int .i64 t,.int .i64 u,.string x],.string (bA r3),.bool true]) (by simp[results,results220,go_sem,y0,y1,y2,y3,y4,y5,y6];done) rfl ⟨n1,Cj 1 l,n2,P,t,u,x,_,true,rfl,(Rs N.o (XA _) _ _ _ _ _ _ _).drew,.inl ⟨rfl,r3,?_,rfl⟩⟩
       rw[AG8 E1.o E2.o E3.o,al.o])
    | (refine bodyPost_ret (v:=.tuple #[.agg #[.int .i64 n1,.string (Cj 1 l),.int .i64 n2,.bool P,.int .i64 t,.int .i64 u,.string x],.string (bA r3),.bool false]) (by simp[results,results220,go_sem,y0,y1,y2,y3,y4,y5,y6];done) rfl ⟨n1,Cj 1 l,n2,P,t,u,x,_,false,rfl,(Rs N.o (XA _) _ _ _ _ _ _ _).drew,.inr ⟨rfl,?_⟩⟩
       first|exact ABE E3.o|exact ABA E1.o|exact ABL E2.o)
    | (refine bodyPost_ret (v:=.tuple #[.agg #[.int .i64 n1,.string (Cj 1 l),.int .i64 n2,.bool P,.int .i64 t,.int .i64 u,.string x],.string vb,.bool false]) (by simp[results,results220,go_sem,y0,y1,y2,y3,y4,y5,y6];done) rfl ⟨n1,Cj 1 l,n2,P,t,u,x,_,false,rfl,(Rs N.o (XA _) _ _ _ _ _ _ _).drew,.inr ⟨rfl,?_⟩⟩
       first|exact ABE E3.o|exact ABA E1.o|exact ABL E2.o)
    | fail
def nC:Value->Nat
 | .string s=>s.size
 | _=>0
def sE(l:List UInt8)(w:World)(e:Ending)(b:World):Prop:=∃(a:Option Addr)(n c:Nat)(ok:Bool),e=.returned (.tuple #[.slice a n c,.bool ok])/\Zb w b/\((ok=true/\∃L,Dg l=some L/\n=L.length/\b.ownsRow w.heap.size 72 7 (.slice a n c) L.length (Av L))\/(ok=false/\Dg l=none))
theorem qE(L:List Aj)(c:Aj):Av (L++[c])=Av L++Cc c:=by simp[Av]
theorem AAN{base:Nat}{xs:List Tv}(h:w.ownsRow base T z v n xs):∃a c,v=Zs a n c:=by
 rcases Di h with⟨e,e0⟩|⟨g,c,e,_⟩
 ·exact⟨none,0,by rw[e,e0]⟩
 exact⟨_,c,e⟩
theorem Fu{base:Nat}{xs:List Tv}(h:w.ownsRow base T z v n xs)(a:v.ownBlock=some k):base<=k:=by
 rcases Di h with⟨e,_⟩|⟨g,c,e,b,_⟩
 ·rw[e] at a;cases a
 rw[e] at a;cases a;exact b
theorem aE(s:Tb)(w:Tw)(hs:s.size<=1000000)(he:Ik w):Zc 180 #[Zt s] w (sE s.data.toList w):=by
 obtain⟨l,hl⟩:∃l,s.data.toList=l:=⟨_,rfl⟩;have ag:l.length<=1000000:=by rw[<-hl,Gm];exact hs
 have es:s=bA l:=by rw[<-hl];exact(Ju s).symm
 rw[hl];obtain⟨iC,T,U,V,X⟩:=info_parts Kh;have v:=Zy T U V X
 have ac:Hid (∀(r:List UInt8)W,r.length<=1000000->Zb w W->Zc 220 #[Zt (bA r)] W (ABd r W)):=Aa (λr W hr hW=>by have:=dX (bA r) W (by rw[Cz];exact hr) (he.below hW);rw[B5] at this;exact this)
 subst es;clear he hl hs T U V X;go_enter func180,ntmps180;go_wp2_with fail
 go_loopw [0,4] (λvs vl wr=>∃(r:List UInt8)(L:List Aj)(a:To)(c:Nat),vs=Zt (bA r)/\vl=Zs a L.length c/\Hid (Dg l=(Dg r).map (L++·))/\L.length+r.length<=l.length/\Hid (wr.ownsRow w.heap.size 72 7 (Zs a L.length c) L.length (Av L))/\Hid (Zb w wr)) (λvs _ _=>nC vs)
 case atStart=>exact⟨l,[],none,0,rfl,rfl,Aa (by simp),by simp,Aa (XD ..),Aa (XF _ _)⟩
 case round=>
  obtain⟨r,L,a,c,rfl,rfl,I,hlen,G,d⟩:=hrel;cases r with
  | nil=>have e0:bA ([]:List UInt8)=⟨#[]⟩:=rfl;rw[e0];go_wp2_with fail;go_ret2;refine⟨a,L.length,c,true,rfl,d.o,.inl ⟨rfl,L,?_,rfl,G.o⟩⟩;rw[I.o,Kq];simp
  | cons x r=>
    have ah:((bA (x :: r)).toList==[])=false:=by rw[Ky];rfl
    have ae:¬(bA (x :: r)).toList=[]:=by rw[Ky];simp
    have HC:=Aa (ac.o (x :: r) wr (by simp only[XC] at hlen ⊢;omega) d.o);have HZ:Hid (nC (Zt (bA (x :: r)))=(x :: r).length):=Aa (by simp[nC,Cz]);have P:(x :: r).length<=l.length-L.length:=by omega
    have R:(x :: r)≠[]:=by simp
    generalize x :: r=xr at *;have M:=Aa R;have ab:=Aa P;clear R P;cases hrc:D0 xr with
    | none=>
      have HN:=Aa (Qt M.o hrc)
      have D:Hid (Zc 220 #[Zt (bA xr)] wr λe Y=>∃c1 f g i k m n b,e=Zr (Zu #[Zg #[Zi c1,Zt f,Zi g,Zo i,Zi k,Zi m,Zt n],Zt b,Zo false])/\Zb wr Y):=Aa (HC.o.mono (by
       rintro e Y⟨c1,f,g,i,k,m,n,b,ok,rfl,hb,⟨_,q,h,_⟩|⟨rfl,_⟩⟩
       ·rw[hrc] at h;cases h
       exact⟨c1,f,g,i,k,m,n,b,rfl,hb⟩))
      clear HC hrc
      go_wp2_with (first
       | (go_at_call 220;refine D.o.mono ?_;rintro e w2⟨c1,f,g,i,k,m,n,b,rfl,o⟩))
      go_ret2;refine⟨none,0,0,false,rfl,(Below.Ap d.o o).alloc (Below.Ap d.o o).size _,.inr ⟨rfl,?_⟩⟩;rw[I.o,HN.o];rfl
    | some p=>
      obtain⟨⟨c1,f,g,i,k,m,n⟩,r2⟩:=p;have HN:=Aa (Jv M.o hrc);have ad:=Ru hrc
      have D:Hid (Zc 220 #[Zt (bA xr)] wr λe Y=>e=Zr (Zu #[Zg #[Zi c1,Zt f,Zi g,Zo i,Zi k,Zi m,Zt n],Zt (bA r2),Zo true])/\Zb wr Y):=Aa (HC.o.mono (by
       rintro e Y⟨d1,d2,d3,d4,d5,d6,d7,b,ok,rfl,hb,⟨rfl,q,h,rfl⟩|⟨_,h⟩⟩
       ·rw[hrc] at h;cases h;exact⟨rfl,hb⟩
       rw[hrc] at h;cases h))
      clear HC hrc;have af:=ab.o
      go_wp2_with (first
       | (go_at_call 220;refine D.o.mono ?_;rintro e w2⟨rfl,o⟩;have z:=Aa o;have y:Hid (Zb w2 ((w2.alloc (Zk #[Zi c1,Zt f,Zi g,Zo i,Zi k,Zi m,Zt n] 72)).alloc (Zk #[Zi c1,Zt f,Zi g,Zo i,Zi k,Zi m,Zt n] 72))):=Aa ((Zal).alloc (by rw[XL];exact XB _) _);clear o)
       | (at_builtin;refine wpList_append_own _ rfl _ _ 34 rfl w.heap.size 72 iC L6 7 72 underlying34 v.o.1 v.o.2.1 v.o.2.2.1 v.o.2.2.2 rfl (by decide) (.slice a L.length c) L.length (Av L) rfl (Bc (Bc G.o z.o) y.o) ⟨w2.heap.size+1,0,none⟩ 1 1 (Cc (c1,f,g,i,k,m,n)) rfl rfl (λj u hj=>XP (by rw[<-XL w2 (.cells #[Zi c1,.string f,Zi g,.bool i,Zi k,Zi m,.string n] 72)];exact Yac _ _) j u hj) (by intro u hu;simp[Cc] at hu;rcases hu with rfl|rfl|rfl|rfl|rfl|rfl|rfl <;> rfl) (by unfold maxLen;omega) (by omega) (XH d.o.size (XH z.o.size y.o.size)) ?_
          intro v1 w3 t O _;have J:=Aa t;have aa:=Aa O;clear t O))
      obtain⟨a',c',rfl⟩:=AAN J.o;have N:=Below.Ap (Below.Ap d.o z.o) y.o;refine⟨⟨r2,L++[(c1,f,g,i,k,m,n)],a',c',rfl,by simp,Aa ?_,?_,Aa ?_,Aa (N.grown aa.o N.size (λj hj=>Fu G.o hj))⟩,?_⟩
      ·rw[I.o,HN.o]
       cases Dg r2 <;> simp
      ·simp only[XE,XC,XJ]
       omega
      ·rw[qE]
       simpa using J.o
      simp only[nC,Cz];exact ad
variable{w:Tw}{r:List UInt8}
attribute [local go_sem] Oper.semAt_some
theorem ADX(s:Tb)(w:Tw):
 Zc 120 #[Zt s] w λe a=>e=Zr (.func (.func 176) #[] #[Zp (some ⟨w.heap.size,0,none⟩)])/\a=w.alloc (Zk #[Zt s] 9):=by
 go_enter func120,ntmps120;go_wp2;go_ret;exact⟨rfl,rfl⟩
def mV(B:Nat)(w:World):Nat:=match w.cell? ⟨B,0,none⟩ with
 | some (.string s)=>s.size
 | _=>0
theorem Mt{B:Nat}(h:w.cell? ⟨B,0,none⟩=some (Zt (bA r))):mV B w=r.length:=by unfold mV;rw[h];exact Cz
def iN(B:Nat)(r:List UInt8)(w:World):Prop:=w.heap[B]? = some (.cells #[.string (bA r)] 9 (0,0))
theorem iN.cell{B:Nat}{r:List UInt8}{w:Tw}(h:iN B r w):w.cell? ⟨B,0,none⟩=some (Zt (bA r)):=by have a:w.heap[B]? = _:=h;simp[World.cell?,a]
theorem iN.frozen{B:Nat}{r:List UInt8}{w:Tw}(h:iN B r w):w.frozen? ⟨B,0,none⟩=false:=by have a:w.heap[B]? = _:=h;simp[World.frozen?,a]
theorem iN.put{B:Nat}(h:iN B r w)(q:List UInt8):iN B q (w.setCell ⟨B,0,none⟩ (Zt (bA q))):=As w B 0 _ _ _ h
theorem AGK(a:List UInt8):Lib.trimSuffix (a++[10]) [10]=a:=by unfold Lib.trimSuffix Lib.hasSuffix;rw[Yae (by rw[X6];exact⟨a,rfl⟩)];simp
theorem ABn{a:List UInt8}(h:(10:UInt8) ∉ a):Lib.trimSuffix a [10]=a:=by
 unfold Lib.trimSuffix Lib.hasSuffix
 rw[Yad (by rw[X6];rintro⟨t,rfl⟩;exact h (by simp))]
theorem ADN(n:Nat)(_hn:1<=n)(l B:Nat)(j:List UInt8)(hlen:j.length<=1000000)(I:List (List UInt8)->Tw->Prop)(U:Tw->Prop)(P:∀pre W,I pre W->I pre W.drew)(y:∀pre W v,I pre W->I pre (W.setCell ⟨B,0,none⟩ v))(Y:∀pre a s W v,(∃t,Dp j=pre++a :: t)->Lib.trimSuffix s [10]=a->s.length<=1000000->I pre W->iN B v W->YieldAt Fence.wide (n-1) prog l #[Zt (bA s)] W λe u=>
   (e=Zr (Zo true)/\I (pre++[a]) u/\iN B v u)\/(e=Zr (Zo false)/\U u))(W:Tw)(hB:iN B j W)(h0:I [] W):
 CallsIn Fence.wide n prog 176 #[.func (.yield l) #[] #[],Zp (some ⟨B,0,none⟩)] W λe u=>(∃v,e=Zr v)/\(I (Dp j) u\/U u):=by
 refine callsIn_of_wp func176 rfl trivial ?_ rfl;simp only[ntmps176,XV,XC,XJ,Nat.reduceAdd,Nat.reduceSub,XN,XO,XW,XQ,XU,XI];gi_wp2
 gi_loopw [3] (λ_ wr=>∃(pre:List (List UInt8))(r:List UInt8),Hid (Dp j=pre++Dp r)/\r.length<=1000000/\Hid (I pre wr)/\Hid (iN B r wr)) (λ_ wr=>mV B wr)
 case atStart=>exact⟨[],j,Aa rfl,hlen,Aa h0,Aa hB⟩
 case round=>
  obtain⟨pre,r,x,hr,M,J⟩:=hrel;have hc:=J.o.cell;have hf:=J.o.frozen
  by_cases he:r=[]
  ·subst he
   have e0:bA ([]:List UInt8)=⟨#[]⟩:=rfl;rw[e0] at hc;gi_wp2
   go_end0
   refine⟨⟨_,rfl⟩,.inl ?_⟩;rw[x.o,Jf,List.append_nil];exact M.o
  have D:0<r.length:=List.length_pos_iff.2 he;have T:(bA r).size=r.length:=Cz;have R:(0:Int)<((bA r).size:Int):=by omega
  have z:=Mt hc;have d:=Aa (λW=>strings_IndexByte (bA r) 10 W);rw[B5,show ((10:Int).toNat.toUInt8)=10 from rfl] at d
  rcases O3 r 10 with o|⟨i,o⟩
  ·have b:=Np o
   rw[o] at d
   have g:(10:UInt8) ∉ r:=by
    rcases Rj 10 r with⟨X,_⟩|⟨_,h⟩
    ·rw[b] at X;cases X
    exact h
   have c:Dp r=r :: Dp []:=by rw[J1 he,b]
   obtain⟨fn,tmps,assign,body,hy,w⟩:=Y pre r r (wr.setCell ⟨B,0,none⟩ (Zt ⟨#[]⟩)) [] ⟨_,by rw[x.o,c]⟩ (ABn g) hr (y _ _ _ M.o) (J.o.put []);have N:=Aa w;have k:Hid (Dp j=(pre++[r])++Dp []):=Aa (by rw[x.o,c];simp);clear o b c w g;gi_wp2_with (refine⟨trivial,?_⟩;gi_at_call 177;refine(callsIn_wide.2 (d.o _)).mono ?_;rintro e w1⟨rfl,rfl⟩);refine N.o.mono ?_;rintro e W3 (⟨rfl,m,f⟩|⟨rfl,q⟩)
   ·gi_wp2
    go_roundw
    case rel=>exact⟨pre++[r],[],k,by simp,Aa m,Aa f⟩
    case measure=>rw[Mt f.cell,z];exact D
   gi_wp2;refine bodyPost_ret (results_none rfl _ _ _) rfl ?_;exact⟨⟨_,rfl⟩,.inr q⟩
  obtain⟨b,p⟩:=J0 o;rw[o] at d;have V:bA (r.take (i+1))=(bA r).extract 0 (i+1):=by rw[extract_eq,B5];simp[bA]
  have L:bA (r.drop (i+1))=(bA r).extract (i+1) (bA r).size:=by rw[extract_eq,B5,Yd (by rw[XK,Cz];exact XA _)];rfl
  have G:r.take (i+1)=r.take i++[10]:=by
   rcases Rj 10 r with⟨_,O,_⟩|⟨h,_⟩
   ·rw[b] at O
    simp only at O
    have h3:r[i]? = some 10:=by rw[O,X' (by rw[XR];exact Nat.min_le_left _ _),XR,YZ (YE p),Y3];rfl
    rw[YO,h3];rfl
   rw[b] at h;simp at h
  have c:Dp r=r.take i :: Dp (r.drop (i+1)):=by rw[J1 he,b]
  obtain⟨fn,tmps,assign,body,hy,w⟩:=Y pre (r.take i) (r.take (i+1)) (wr.setCell ⟨B,0,none⟩ (Zt (bA (r.drop (i+1))))).drew (r.drop (i+1)) ⟨_,by rw[x.o,c]⟩ (by rw[G];exact AGK _) (by rw[XR];omega) (P _ _ (y _ _ _ M.o)) (J.o.put (r.drop (i+1)));rw[V,L] at hy;rw[L] at w;have N:=Aa w;have k:Hid (Dp j=(pre++[r.take i])++Dp (r.drop (i+1))):=Aa (by rw[x.o,c];simp);have aa:=Aa L;have ab:=Aa p;have c1:(0:Int)<=(i:Int):=by omega
  have c0:(i:Int)<=1000000:=by omega
  have c3:(0:Int)<=(i:Int)+1:=by omega
  have c4:(i:Int)+1<=((bA r).size:Int):=by omega
  clear o b c w G V L p T;gi_wp2_with (refine⟨trivial,?_⟩;gi_at_call 177;refine(callsIn_wide.2 (d.o _)).mono ?_;rintro e w1⟨rfl,rfl⟩);refine wpIn_wide.2 ?_
  go_region
  all_goals gi_wp2
  refine N.o.mono ?_;rintro e W3 (⟨rfl,m,f⟩|⟨rfl,q⟩)
  ·gi_wp2
   go_roundw
   case rel=>exact⟨pre++[r.take i],r.drop (i+1),k,by rw[XK];omega,Aa m,Aa f⟩
   case measure=>rw[Mt f.cell,z,XK];omega
  gi_wp2;refine bodyPost_ret (results_none rfl _ _ _) rfl ?_;exact⟨⟨_,rfl⟩,.inr q⟩
variable{W w:Tw}{n z:Nat}{v:Tv}
def iM{β:Type}(B a:Nat)(J:β->World->Prop):Prop:=∀b X Y row,J b X->X.grownBy Y row->(∀r,row=some r->r=B\/(a<=r/\∃o:Obj,X.heap[r]? = some o/\o.isCells=false))->J b Y
theorem iM.drew{β:Type}{B n:Nat}{J:β->Tw->Prop}(h:iM B n J){b:β}{W:Tw}(a:J b W):J b W.drew :=
 h b W _ none a ⟨rfl,rfl,rfl,XA _,λ_ _ _=>rfl⟩ (λr e=>by cases e)
theorem iM.set{β:Type}{B n:Nat}{J:β->Tw->Prop}(h:iM B n J){b:β}(a:J b W)(v:Tv):J b (W.setCell ⟨B,0,none⟩ v) :=
 h b W _ (some B) a (Aq W B 0 v) (λr e=>by injection e with e;exact .inl e.symm)
theorem iM.alloc{β:Type}{B n:Nat}{J:β->Tw->Prop}(h:iM B n J){b:β}{W:Tw}(a:J b W)(o:Obj):J b (W.alloc o) :=
 h b W _ none a (World.grownBy_alloc W o none) (λr e=>by cases e)
theorem iM.put{β:Type}{B n:Nat}{J:β->Tw->Prop}(h:iM B n J){b:β}(d:J b W){r:Nat}{o:Obj}(f:W.heap[r]? = some o)(c:o.isCells=false)(g:n<=r)(a:Obj):J b (W.putObj r a) :=
 h b W _ (some r) d (grownBy_putObj' W r a) (λq e=>by injection e with e;subst e;exact .inr ⟨g,o,f,c⟩)
def aX{β:Type}(m gf:Nat)(lb:Array Value)(B:Nat)(R:β->Array Value->β->Prop)(i:β)(E:β->Prop)(f:List UInt8->World->Prop)(h:World->Prop):Prop :=
 ∀(l:Nat)(J:β->World->Prop)(c:World->Prop)(W:World),iM B W.heap.size J->iM B W.heap.size (λ(_:Unit)=>c) ->
  (∀b args g d v,R b args g->J b d->f v d->YieldAt Fence.wide (m-1) prog l args d λe a=>(e=.returned (.bool true)/\J g a/\f v a)\/(e=.returned (.bool false)/\c a)) ->
  h W->J i W->CallsIn Fence.wide m prog gf (#[.func (.yield l) #[] #[]]++lb) W λe a=>(∃v,e=.returned v)/\((∃b,E b/\J b a)\/c a)
def AA1{β:Type}(w0:Nat)(b:List UInt8->World->Prop)(v:List UInt8)(I:β->World->Prop)(a:Code->World->Prop)(c:β)(W:World):Exit->Act->World->Prop
 | .normal,_,W'=>KeepsFrom w0 W W'/\I c W'/\b v W'
 | .ret,_,W'=>KeepsFrom w0 W W'/\a .ret W'
 | _,_,_=>False
theorem ADO{β:Type}{g:Operand}{ps:Array Tmp}{assign body:Code}{Q:Exit->Act->Tw->Prop}{a:Act}(h1:1<=n){gf:Nat}{lb:Array Tv}(hg:a.eval g=.func (.func gf) #[] lb)(eg:∀args w,(callFunc gf args).run prog w=.ok (.enter gf args) w){B:Nat}{R:β->Array Tv->β->Prop}{b0:β}{E:β->Prop}{Kp:List UInt8->Tw->Prop}{T0:Tw->Prop}(af:aX (n-1) gf lb B R b0 E Kp T0)(ac:∀v X r o o',Kp v X->X.heap[r]? = some o->o.isCells=false->Kp v (X.putObj r o'))(ae:∀b args L,R b args L->args.size=ps.size)(ap:B≠w.heap.size)(aq:B≠w.heap.size+1)(I:β->Tw->Prop)(Ix:Code->Tw->Prop)(hI:iM B w.heap.size I)(M:∀c,iM B w.heap.size (λ(_:Unit)=>Ix c))(h0:I b0 w)(hT:∀r,T0 ((w.alloc (.deferred (some []))).alloc (.loop r)))(a1:Array Tv->Act)(z:∀(l:Nat)(args:Array Tv)(W:Tw)(K:Act->Tw->Prop),args.size=ps.size->K (a1 args) W ->
   assign.wpIn (Fence.wide.inRound l) (n-1-1) prog (Exit.then K (λ_ _ _=>False)) { tmps:=(ps.zip args).foldl (λt(p,v)=>t.setIfInBounds p v) a.tmps,defers:=[] } W)(N:∀(l:Nat)(b:β)(args:Array Tv)(L:β)(W:Tw)(v:List UInt8),w.heap.size<=l->R b args L->I b W->Kp v W->body.wpIn (Fence.wide.inRound l) (n-1-1) prog (AA1 w.heap.size Kp v I Ix L W) (a1 args) W)(O:∀(D:Nat)(b:β)(W:Tw),w.heap.size<=D->E b->I b W->W.heap[D]? = some (.deferred (some []))->Q .normal { a with defers:={ target:=.collected D,args:=#[] } :: a.defers } W)(aa:∀(D:Nat)(c:Code)(W:Tw),w.heap.size<=D->Ix c W->W.heap[D]? = some (.deferred (some []))->c.wpIn Fence.wide n prog Q { a with defers:={ target:=.collected D,args:=#[] } :: a.defers } W):
 (Code.rangeFunc g ps assign body).wpIn Fence.wide n prog Q a w:=by
 refine wpIn_rangeFunc λfn ak=>?_
 obtain⟨d,f⟩:∃d:LoopState->Option Code->Loop,d=λst pe=>{ state:=st,pending:=pe,fn,tmps:=a.tmps,params:=ps,assign,body,defers:=w.heap.size }:=⟨_,rfl⟩
 obtain⟨u,x⟩:∃u,(w.alloc (.deferred (some []))).alloc (.loop (d .ready none))=u:=⟨_,rfl⟩;have ar:u.heap.size=w.heap.size+2:=by rw[<-x];simp
 have ai:u.heap[w.heap.size+1]? = some (.loop (d .ready none)):=by rw[<-x];have:=XX (w.alloc (.deferred (some []))) (.loop (d .ready none));rwa[XL] at this
 have ah:u.heap[w.heap.size]? = some (.deferred (some [])):=by rw[<-x];exact(XY _ _ _ (by simp)).trans (XX w _)
 have ag:I b0 u:=by rw[<-x];exact hI.alloc (hI.alloc h0 _) _
 have aj:T0 u:=by rw[<-x];exact hT _
 have m:∀{X Y:Tw}{row:Option Nat}(k:Nat)(o:Obj),k<w.heap.size+2->w.heap.size<=k->X.heap[k]? = some o->X.grownBy Y row->(∀r,row=some r->r=B\/(u.heap.size<=r/\∃o:Obj,X.heap[r]? = some o/\o.isCells=false))->Y.heap[k]? = some o:=by
  intro X Y row k o hk ad ho i s;refine(i.block k (Ac ho) (λe=>?_)).trans ho
  rcases s k e.symm with h|⟨h,_⟩
  ·omega
  omega
 have lift:∀{X:Tw}{row:Option Nat},(∀r,row=some r->r=B\/(u.heap.size<=r/\∃o:Obj,X.heap[r]? = some o/\o.isCells=false))->∀r,row=some r->r=B\/(w.heap.size<=r/\∃o:Obj,X.heap[r]? = some o/\o.isCells=false) :=
  λs r e=>(s r e).imp id (λ⟨q,o⟩=>⟨by omega,o⟩)
 refine⟨w.heap.size+1,[{ target:=.collected w.heap.size,args:=#[] }],u,{ target:=.fn (.func gf) lb,args:=#[.func (.yield (w.heap.size+1)) #[] #[]] },u,gf,
  #[.func (.yield (w.heap.size+1)) #[] #[]]++lb,u,?_,?_,λ_ _=>trivial,?_,λ_=>h1,?_⟩
 ·rw[<-x,f];exact run_enterLoop_outer _ _ _ _ _
 ·simp only[resolve,hg]
  simp[go_sem]
 ·simp[invoke,go_sem,eg]
 refine(af (w.heap.size+1)
  (λb W=>I b W/\W.heap[w.heap.size+1]? = some (.loop (d .ready none))/\W.heap[w.heap.size]? = some (.deferred (some [])))
  (λW=>∃c,Ix c W/\W.heap[w.heap.size+1]? = some (.loop (d .done (some c)))/\W.heap[w.heap.size]? = some (.deferred (some []))) u
  (λb X Y row hs i s=>⟨hI b X Y row hs.1 i (lift s),m _ _ (by omega) (by omega) hs.2.1 i s,m _ _ (by omega) (by omega) hs.2.2 i s⟩)
  (λb X Y row hs i s=>by obtain⟨c,hc,q1,q2⟩:=hs;exact⟨c,M c () X Y row hc i (lift s),m _ _ (by omega) (by omega) q1 i s,m _ _ (by omega) (by omega) q2 i s⟩)
  ?_ aj ⟨ag,ai,ah⟩).mono ?_
 ·rintro b args L W v hR⟨hi,G,hk⟩hv
  have am:w.heap.size+1<W.heap.size:=Ac G;have hy:=run_yield (P:=prog) (args:=args) G (by rw[f];exact ae b args L hR);rw[f] at hy;refine⟨fn,_,assign,body,hy,roundIn_of_wpIn ak (z _ args W _ (ae b args L hR) ⟨_,run_beginRound G (by rw[f]),?_⟩)⟩;have al:(W.putObj (w.heap.size+1) (.loop { d .ready none with state:=.busy })).heap[w.heap.size+1]? = some (.loop { d .ready none with state:=.busy }):=XT am;have ad:(W.putObj (w.heap.size+1) (.loop { d .ready none with state:=.busy })).heap[w.heap.size]? = some (.deferred (some [])):=(Y' (by omega)).trans hk;have an:Kp v (W.putObj (w.heap.size+1) (.loop { d .ready none with state:=.busy })):=ac _ _ _ _ _ hv G rfl;refine wpIn_mono (N _ b args L _ v (by omega) hR (hI.put hi G rfl (by omega) _) an) ?_
  have ab:∀(jump:Option Code)(J:Tw),KeepsFrom w.heap.size (W.putObj (w.heap.size+1) (.loop { d .ready none with state:=.busy })) J ->
   (Instr.endRound (w.heap.size+1) jump).run prog J=.ok (Zo jump.isNone) (J.putObj (w.heap.size+1) (.loop (d (if jump.isNone then .ready else .done) jump))) /\
   J.heap[w.heap.size+1]? = some (.loop { d .ready none with state:=.busy }) /\
   (J.putObj (w.heap.size+1) (.loop (d (if jump.isNone then .ready else .done) jump))).heap[w.heap.size+1]? = some (.loop (d (if jump.isNone then .ready else .done) jump)) /\
   (J.putObj (w.heap.size+1) (.loop (d (if jump.isNone then .ready else .done) jump))).heap[w.heap.size]? = some (.deferred (some [])):=λjump J y=>by
   have j:=y.same _ _ (by omega) al rfl;have:=run_endRound (P:=prog) jump j;rw[f] at this ⊢;exact⟨this,by rw[f] at j;exact j,XT (Ac j),(Y' (by omega)).trans (y.same _ _ (XA _) ad rfl)⟩
  rintro e a3 J hp;cases e with
  | normal=>obtain⟨y,T,ao⟩:=hp;obtain⟨s,j,V,U⟩:=ab none J y;exact⟨_,_,s,.inl ⟨rfl,⟨hI.put T j rfl (by omega) _,V,U⟩,ac _ _ _ _ _ ao j rfl⟩⟩
  | ret=>obtain⟨y,T⟩:=hp;obtain⟨s,j,V,U⟩:=ab (some .ret) J y;exact⟨_,_,s,.inr ⟨rfl,.ret,(M .ret).put (b:=()) T j rfl (by omega) _,V,U⟩⟩
  | exit id=>exact hp.elim
  | goto t=>exact hp.elim
  | panic ch=>exact hp.elim
  | outgrown=>exact hp.elim
 rintro e W2⟨⟨v,rfl⟩,(⟨b,hE,hi,G,hk⟩|⟨c,hi,G,hk⟩)⟩
 ·exact⟨none,_,by have:=run_endLoop (P:=prog) G (by rw[f];simp);rw[f] at this;exact this,O _ b _ (XA _) hE (hI.put hi G rfl (by omega) _) ((Y' (by omega)).trans hk)⟩
 exact⟨some c,_,by have:=run_endLoop (P:=prog) G (by rw[f];simp);rw[f] at this;exact this,aa _ c _ (XA _) ((M c).put (b:=()) hi G rfl (by omega) _) ((Y' (by omega)).trans hk)⟩
theorem iN.kept{B:Nat}{r:List UInt8}{X:Tw}{q:Nat}{o d:Obj}(h:iN B r X)(a:X.heap[q]? = some o)(c:o.isCells=false):iN B r (X.putObj q d):=by refine(Y' (λe=>?_)).trans h;subst e;have b:X.heap[B]? = _:=h;rw[b] at a;cases a;cases c
theorem AAH(m B:Nat)(p:1<=m)(d:List UInt8)(hlen:d.length<=1000000):
 aX m 176 #[Zp (some ⟨B,0,none⟩)] B (λ(pre:List (List UInt8))args c=>∃a b t,args=#[Zt (bA b)]/\Dp d=pre++a :: t/\Lib.trimSuffix b [10]=a/\b.length<=1000000/\c=pre++[a]) [] (λpre=>pre=Dp d) (iN B) (iN B d):=by
 intro l J i W g k o n j;refine(ADN m p l B d hlen J i (λpre W h=>g.drew h) (λpre W v h=>g.set h v) (λpre a b W1 v ht hr hl hj f=>by obtain⟨t,ht⟩:=ht;exact o pre _ (pre++[a]) W1 v ⟨a,b,t,rfl,ht,hr,hl,rfl⟩ hj f) W n j).mono ?_;rintro e q⟨f,h|h⟩
 ·exact⟨f,.inl ⟨_,rfl,h⟩⟩
 exact⟨f,.inr h⟩
theorem Iu{b:Nat}{v u f a e c:Tv}{t:TypeId}(h:W.heap[b]? = some (Zk #[v,u,f,a,e,c] t (0,0))):
 W.cell? ⟨b,0,none⟩=some v/\W.cell? ⟨b,1,none⟩=some u/\W.cell? ⟨b,2,none⟩=some f/\W.cell? ⟨b,3,none⟩=some a/\W.cell? ⟨b,4,none⟩=some e/\W.cell? ⟨b,5,none⟩=some c/\∀i,W.frozen? ⟨b,i,none⟩=false:=by
 refine⟨?_,?_,?_,?_,?_,?_,λi=>?_⟩
 all_goals first|(rw[World.frozen?,h];simp)|(simp[World.cell?,h])
abbrev AJS(W:World)(b:Nat)(a c d e f g:Value):World:=(((((W.setCell ⟨b,0,none⟩ a).setCell ⟨b,1,none⟩ c).setCell ⟨b,2,none⟩ d).setCell ⟨b,3,none⟩ e).setCell ⟨b,4,none⟩ f).setCell ⟨b,5,none⟩ g
theorem oA(W:Tw)(b:Nat)(t r l k j g a c d e f i:Tv)(T:TypeId)(h:W.heap[b]? = some (Zk #[t,r,l,k,j,g] T (0,0))):
 (W.setCell ⟨b,0,none⟩ a).cell? ⟨b,0,none⟩=some a/\((W.setCell ⟨b,0,none⟩ a).setCell ⟨b,1,none⟩ c).cell? ⟨b,1,none⟩=some c/\(((W.setCell ⟨b,0,none⟩ a).setCell ⟨b,1,none⟩ c).setCell ⟨b,2,none⟩ d).cell? ⟨b,2,none⟩=some d/\((((W.setCell ⟨b,0,none⟩ a).setCell ⟨b,1,none⟩ c).setCell ⟨b,2,none⟩ d).setCell ⟨b,3,none⟩ e).cell? ⟨b,3,none⟩=some e/\(((((W.setCell ⟨b,0,none⟩ a).setCell ⟨b,1,none⟩ c).setCell ⟨b,2,none⟩ d).setCell ⟨b,3,none⟩ e).setCell ⟨b,4,none⟩ f).cell? ⟨b,4,none⟩=some f/\((((((W.setCell ⟨b,0,none⟩ a).setCell ⟨b,1,none⟩ c).setCell ⟨b,2,none⟩ d).setCell ⟨b,3,none⟩ e).setCell ⟨b,4,none⟩ f).setCell ⟨b,5,none⟩ i).cell? ⟨b,5,none⟩=some i:=by
 have m:(W.setCell ⟨b,0,none⟩ a).heap[b]? = some (Zk #[a,r,l,k,j,g] T (0,0)):=by simpa using As W b 0 _ T a h
 have n:((W.setCell ⟨b,0,none⟩ a).setCell ⟨b,1,none⟩ c).heap[b]? = some (Zk #[a,c,l,k,j,g] T (0,0)):=by simpa using As (W.setCell ⟨b,0,none⟩ a) b 1 _ T c m
 have o:(((W.setCell ⟨b,0,none⟩ a).setCell ⟨b,1,none⟩ c).setCell ⟨b,2,none⟩ d).heap[b]? = some (Zk #[a,c,d,k,j,g] T (0,0)):=by simpa using As ((W.setCell ⟨b,0,none⟩ a).setCell ⟨b,1,none⟩ c) b 2 _ T d n
 have p:((((W.setCell ⟨b,0,none⟩ a).setCell ⟨b,1,none⟩ c).setCell ⟨b,2,none⟩ d).setCell ⟨b,3,none⟩ e).heap[b]? = some (Zk #[a,c,d,e,j,g] T (0,0)):=by simpa using As (((W.setCell ⟨b,0,none⟩ a).setCell ⟨b,1,none⟩ c).setCell ⟨b,2,none⟩ d) b 3 _ T e o
 have q:(((((W.setCell ⟨b,0,none⟩ a).setCell ⟨b,1,none⟩ c).setCell ⟨b,2,none⟩ d).setCell ⟨b,3,none⟩ e).setCell ⟨b,4,none⟩ f).heap[b]? = some (Zk #[a,c,d,e,f,g] T (0,0)):=by simpa using As ((((W.setCell ⟨b,0,none⟩ a).setCell ⟨b,1,none⟩ c).setCell ⟨b,2,none⟩ d).setCell ⟨b,3,none⟩ e) b 4 _ T f p
 have s:((((((W.setCell ⟨b,0,none⟩ a).setCell ⟨b,1,none⟩ c).setCell ⟨b,2,none⟩ d).setCell ⟨b,3,none⟩ e).setCell ⟨b,4,none⟩ f).setCell ⟨b,5,none⟩ i).heap[b]? = some (Zk #[a,c,d,e,f,i] T (0,0)):=by simpa using As (((((W.setCell ⟨b,0,none⟩ a).setCell ⟨b,1,none⟩ c).setCell ⟨b,2,none⟩ d).setCell ⟨b,3,none⟩ e).setCell ⟨b,4,none⟩ f) b 5 _ T i q
 exact⟨(Iu m).1,(Iu n).2.1,(Iu o).2.2.1,(Iu p).2.2.2.1,(Iu q).2.2.2.2.1,(Iu s).2.2.2.2.2.1⟩
theorem yX(W:Tw)(b:Nat)(a c d e f g:Tv):W.grownBy (AJS W b a c d e f g) (some b):=(((((Aq W b 0 a).trans (Aq _ b 1 c)).trans (Aq _ b 2 d)).trans (Aq _ b 3 e)).trans (Aq _ b 4 f)).trans (Aq _ b 5 g)
theorem Gf(h:Below n w W){b:Nat}(a:n<=b)(c d e f g i:Tv):Below n w (AJS W b c d e f g i) :=
 (((((h.setCell (p:=⟨b,0,none⟩) a _).setCell (p:=⟨b,1,none⟩) a _).setCell (p:=⟨b,2,none⟩) a _).setCell (p:=⟨b,3,none⟩) a _).setCell (p:=⟨b,4,none⟩) a _).setCell (p:=⟨b,5,none⟩) a _
theorem ABe{base b:Nat}{t u:TypeId}{xs:List Tv}{cs:Array Tv}(h:w.ownsRow base t z v n xs)(l:w.heap[b]? = some (Zk cs u (0,0)))(a:t≠u)(c d f g i j:Tv):(AJS w b c d f g i j).ownsRow base t z v n xs :=
 Az h (yX w b c d f g i j) (λk m e=>Fq h l a (by rw[m];exact e.symm))
theorem qL{k i:Nat}{t:TypeId}{xs:List Tv}(h:w.ownsRow i t z v n xs)(d:k<=i):w.ownsRow k t z v n xs:=by
 refine⟨h.1,?_⟩
 rcases h.2 with h|⟨g,c,a,f,b,e⟩
 ·exact .inl h
 exact .inr ⟨g,c,a,f,XH d b,e⟩
theorem AFB{b:Nat}{t:TypeId}{xs:List Tv}(h:w.ownsRow b t z v n xs):w.drew.ownsRow b t z v n xs:=Bc h (XF _ _).drew
def AGd(l:List UInt8)(w:World)(e:Ending)(b:World):Prop:=∃(a:Option Addr)(n c:Nat)(ok:Bool),e=.returned (.tuple #[.slice a n c,.bool ok])/\Zb w b/\((ok=true/\∃L:List Int,L1 l=some L/\n=L.length/\b.ownsRow w.heap.size 3 1 (.slice a n c) L.length (L.map (.int .i64)))\/(ok=false/\L1 l=none))
def S0:Prop:=∀(s:ByteArray)(w:World),s.size<=1000000->Ik w->Zc 179 #[.string s] w (AGd s.data.toList w)
def AA3(l:List UInt8)(w:World)(e:Ending)(a:World):Prop:=∃(k:Int)(p:ByteArray)(r:Int)(f:Option Addr)(h g:Nat)(b:Option Addr)(d c:Nat)(i:Int)(ok:Bool),e=.returned (.tuple #[.agg #[Zi k,.string p,Zi r,.slice f h g,.slice b d c,Zi i],.bool ok])/\Zb w a/\((ok=true/\∃(M:List Int)(C:List Aj),Co l=some (k,p,r,M,C,i)/\a.ownsRow w.heap.size 3 1 (.slice f h g) M.length (M.map (.int .i64))/\a.ownsRow w.heap.size 72 7 (.slice b d c) C.length (Av C))\/(ok=false/\Co l=none))
theorem eE(hP:S0)(s:ByteArray)(w:World)(hs:s.size<=1000000)(he:Ik w):Zc 121 #[.string s] w (AA3 s.data.toList w):=by
 obtain⟨l,hl⟩:∃l,s.data.toList=l:=⟨_,rfl⟩;have ar:l.length<=1000000:=by rw[<-hl,Gm];exact hs
 rw[hl];have o:=Aa (λW=>L5 s 32 W (by unfold maxLen;omega));rw[hl] at o;have aq:=Ve 32 l;have an:=P1 32 (Aw l);have ao:=Ve 32 (Aw l);have ap:=Gi l
 have U:Hid (∀W,Zc 119 #[.string (bA (Aw l)),.string ⟨#[32]⟩] W λe w'=>e=.returned (.tuple #[.string (bA (Ao 32 (Aw l)).1),.string (bA (Ao 32 (Aw l)).2.1),.bool (Ao 32 (Aw l)).2.2])/\Zb W w'):=Aa (λW=>by have:=L5 (bA (Aw l)) 32 W (by rw[Cz];unfold maxLen;omega);rw[B5] at this;exact this)
 have T:Hid (∀W,Zb w W->Zc 178 #[.string (bA (Ao 32 (Aw l)).2.1)] W (Ns (Ao 32 (Aw l)).2.1 W)):=Aa (λW hW=>by have:=Ud (bA (Ao 32 (Aw l)).2.1) W (by omega) (he.below hW);rw[B5] at this;exact this)
 have R:Hid (∀W,Zb w W->Zc 178 #[.string (bA (Ao 32 (Aw l)).1)] W (Ns (Ao 32 (Aw l)).1 W)):=Aa (λW hW=>by have:=Ud (bA (Ao 32 (Aw l)).1) W (by omega) (he.below hW);rw[B5] at this;exact this)
 have X:Hid (∀W,Zb w W->Zc 179 #[.string (bA (Ao 32 (Aw l)).2.1)] W (AGd (Ao 32 (Aw l)).2.1 W)):=Aa (λW hW=>by have:=hP (bA (Ao 32 (Aw l)).2.1) W (by omega) (he.below hW);rw[B5] at this;exact this)
 have V:Hid (∀W,Zb w W->Zc 180 #[.string (bA (Ao 32 (Aw l)).2.1)] W (sE (Ao 32 (Aw l)).2.1 W)):=Aa (λW hW=>by have:=aE (bA (Ao 32 (Aw l)).2.1) W (by omega) (he.below hW);rw[B5] at this;exact this)
 have q:Hid (Co l=_):=Aa (by unfold Co;exact rfl)
 change Hid (∀W,Calls _ _ _ W λe w'=>e=.returned (.tuple #[.string (bA (Ao 32 l).1),.string (bA (Aw l)),_])/\_) at o
 have k:=Aa (Ky (Ao 32 l).1);clear he hl hs hP aq an ao ap;generalize (Ao 32 l).2.2=z1 at *;generalize (Ao 32 l).1=Y at *;generalize bA (Aw l)=rs at *;generalize Ao 32 (Aw l)=cc at *;obtain⟨f1,f2,z2⟩:=cc;simp only at U T R X V q
 by_cases hadd:Y=ADF
 ·subst hadd
  have ex:bA ADF=⟨#[97,100,100]⟩:=rfl;rw[ex] at o;have g:Hid (Co l=Option.map (λn=>(1,bA f1,n,[],[],0)) (numOf f2)):=Aa (by rw[q.o,Yae rfl]);clear ex k R X V q;generalize bA f1=x1 at *;go_enter func121,ntmps121
  go_wp2_with (first
   | (go_at_call_of 119 (#[.string s,.string ⟨#[32]⟩]:Array Value);refine(o.o _).mono ?_;rintro e w2⟨rfl,a⟩;have D:=Aa a;have h:=Aa ((a.block w.heap.size (by simp)).trans (Yac w _));clear a)
   | (go_at_call_of 119 (#[.string rs,.string ⟨#[32]⟩]:Array Value);refine(U.o _).mono ?_;rintro e w3⟨rfl,b⟩;have i:=Aa (Below.Ap (b1c D.o) b);have d:=Aa ((b.block w.heap.size (Ac h.o)).trans h.o);clear b;obtain⟨y0,y1,y2,y3,y4,y5,yf⟩:=Iu d.o;have r:=yf 0;have t:=yf 1;have u:=yf 2;have x:=yf 3;have y:=yf 4;have z:=yf 5;clear yf)
   | (go_at_call 178;refine(T.o _ i.o).mono ?_;rintro e w4⟨n,er,rfl,m,f⟩;have j:=Aa (Below.Ap i.o m);have c:=Aa ((m.block w.heap.size (Ac d.o)).trans d.o);have p:=Aa f;clear m f y0 y1 y2 y3 y4 y5 r t u x y z;obtain⟨y0,y1,y2,y3,y4,y5,yf⟩:=Iu c.o;have r:=yf 0;have t:=yf 1;have u:=yf 2;have x:=yf 3;have y:=yf 4;have z:=yf 5;clear yf))
  rcases p.o with⟨G,rfl⟩|⟨G,ty,xx,rfl⟩
  ·have H1:=Aa G
   clear p G
   go_region
   go_wp2;obtain⟨I,J,M,N,O,P⟩:=oA w4 w.heap.size _ _ _ _ _ _ (.int .i64 1) (.string x1) (.int .i64 n) (.slice none 0 0) (.slice none 0 0) (.int .i64 0) _ c.o;refine bodyPost_ret (v:=.tuple #[.agg #[.int .i64 1,.string x1,.int .i64 n,.slice none 0 0,.slice none 0 0,.int .i64 0],.bool true]) (by simp[results,results121,go_sem,I,J,M,N,O,P]) rfl ⟨_,_,_,_,_,_,_,_,_,_,_,rfl,(Gf j.o (XA _) _ _ _ _ _ _).drew,?_⟩;exact .inl ⟨rfl,[],[],by rw[g.o,H1.o];rfl,XD ..,XD ..⟩
  have H1:=Aa G;clear p G
  go_region
  go_wp2;obtain⟨I,J,M,N,O,P⟩:=oA w4 w.heap.size _ _ _ _ _ _ (.int .i64 1) (.string x1) (.int .i64 n) (.slice none 0 0) (.slice none 0 0) (.int .i64 0) _ c.o;refine bodyPost_ret (v:=.tuple #[.agg #[.int .i64 1,.string x1,.int .i64 n,.slice none 0 0,.slice none 0 0,.int .i64 0],.bool false]) (by simp[results,results121,go_sem,I,J,M,N,O,P]) rfl ⟨_,_,_,_,_,_,_,_,_,_,_,rfl,(Gf j.o (XA _) _ _ _ _ _ _).drew,?_⟩;exact .inr ⟨rfl,by rw[g.o,H1.o];rfl⟩
 by_cases hremove:Y=P4
 ·subst hremove
  have ex:bA P4=⟨#[114,101,109,111,118,101]⟩:=rfl;rw[ex] at o;have g:Hid (Co l=some (2,bA f1,0,[],[],0)):=Aa (by rw[q.o,Yad (by decide),Yae rfl]);clear ex k R X V q T hadd;generalize bA f1=x1 at *;go_enter func121,ntmps121
  go_wp2_with (first
   | (go_at_call_of 119 (#[.string s,.string ⟨#[32]⟩]:Array Value);refine(o.o _).mono ?_;rintro e w2⟨rfl,a⟩;have D:=Aa a;have h:=Aa ((a.block w.heap.size (by simp)).trans (Yac w _));clear a)
   | (go_at_call_of 119 (#[.string rs,.string ⟨#[32]⟩]:Array Value);refine(U.o _).mono ?_;rintro e w3⟨rfl,b⟩;have i:=Aa (Below.Ap (b1c D.o) b);have d:=Aa ((b.block w.heap.size (Ac h.o)).trans h.o);clear b;obtain⟨y0,y1,y2,y3,y4,y5,yf⟩:=Iu d.o;have r:=yf 0;have t:=yf 1;have u:=yf 2;have x:=yf 3;have y:=yf 4;have z:=yf 5;clear yf)
   | fail)
  have c:=Aa d.o;have j:=Aa i.o;obtain⟨I,J,M,N,O,P⟩:=oA w3 w.heap.size _ _ _ _ _ _ (.int .i64 2) (.string x1) (.int .i64 0) (.slice none 0 0) (.slice none 0 0) (.int .i64 0) _ c.o;refine bodyPost_ret (v:=.tuple #[.agg #[.int .i64 2,.string x1,.int .i64 0,.slice none 0 0,.slice none 0 0,.int .i64 0],.bool true]) (by simp[results,results121,go_sem,I,J,M,N,O,P]) rfl ⟨_,_,_,_,_,_,_,_,_,_,_,rfl,(Gf j.o (XA _) _ _ _ _ _ _),?_⟩;exact .inl ⟨rfl,[],[],g.o,XD ..,XD ..⟩
 by_cases hmask:Y=lA
 ·subst hmask
  have ex:bA lA=⟨#[109,97,115,107]⟩:=rfl;rw[ex] at o;have g:Hid (Co l=Option.map (λl=>(3,bA f1,0,l,[],0)) (L1 f2)):=Aa (by rw[q.o,Yad (by decide),Yad (by decide),Yae rfl]);clear ex k R V q T hadd hremove;generalize bA f1=x1 at *;go_enter func121,ntmps121
  go_wp2_with (first
   | (go_at_call_of 119 (#[.string s,.string ⟨#[32]⟩]:Array Value);refine(o.o _).mono ?_;rintro e w2⟨rfl,a⟩;have D:=Aa a;have h:=Aa ((a.block w.heap.size (by simp)).trans (Yac w _));clear a)
   | (go_at_call_of 119 (#[.string rs,.string ⟨#[32]⟩]:Array Value);refine(U.o _).mono ?_;rintro e w3⟨rfl,b⟩;have i:=Aa (Below.Ap (b1c D.o) b);have d:=Aa ((b.block w.heap.size (Ac h.o)).trans h.o);clear b;obtain⟨y0,y1,y2,y3,y4,y5,yf⟩:=Iu d.o;have r:=yf 0;have t:=yf 1;have u:=yf 2;have x:=yf 3;have y:=yf 4;have z:=yf 5;clear yf)
   | (go_at_call 179;refine(X.o _ i.o).mono ?_;rintro e w4⟨pa,pn,pc,ok,rfl,m,f⟩;have ab:=Aa m;have j:=Aa (Below.Ap i.o m);have c:=Aa ((m.block w.heap.size (Ac d.o)).trans d.o);have p:=Aa f;clear m f;clear y0 y1 y2 y3 y4 y5 r t u x y z;obtain⟨y0,y1,y2,y3,y4,y5,yf⟩:=Iu c.o;have r:=yf 0;have t:=yf 1;have u:=yf 2;have x:=yf 3;have y:=yf 4;have z:=yf 5;clear yf))
  obtain⟨I,J,M,N,O,P⟩:=oA w4 w.heap.size _ _ _ _ _ _ (.int .i64 3) (.string x1) (.int .i64 0) (.slice pa pn pc) (.slice none 0 0) (.int .i64 0) _ c.o;refine bodyPost_ret (v:=.tuple #[.agg #[.int .i64 3,.string x1,.int .i64 0,.slice pa pn pc,.slice none 0 0,.int .i64 0],.bool ok]) (by simp[results,results121,go_sem,I,J,M,N,O,P]) rfl ⟨_,_,_,_,_,_,_,_,_,_,_,rfl,(Gf j.o (XA _) _ _ _ _ _ _),?_⟩
  rcases p.o with⟨rfl,L,G,rfl,h2⟩|⟨rfl,G⟩
  ·refine .inl ⟨rfl,L,[],by rw[g.o,G];rfl,?_,XD ..⟩
   exact ABe (qL h2 i.o.size) c.o (by decide) _ _ _ _ _ _
  exact .inr ⟨rfl,by rw[g.o,G];rfl⟩
 by_cases hschema:Y=P3
 ·subst hschema
  have ex:bA P3=⟨#[115,99,104,101,109,97]⟩:=rfl;rw[ex] at o;have g:Hid (Co l=(numOf f1).bind λn=>Option.map (λl=>(4,bA [],0,[],l,n)) (Dg f2)):=Aa (by rw[q.o,Yad (by decide),Yad (by decide),Yad (by decide),Yae rfl]);clear ex k q T X hadd hremove hmask;generalize bA f1=x1 at *;generalize bA f2=x2 at *;go_enter func121,ntmps121
  go_wp2_with (first
   | (go_at_call_of 119 (#[.string s,.string ⟨#[32]⟩]:Array Value);refine(o.o _).mono ?_;rintro e w2⟨rfl,a⟩;have D:=Aa a;have h:=Aa ((a.block w.heap.size (by simp)).trans (Yac w _));clear a)
   | (go_at_call_of 119 (#[.string rs,.string ⟨#[32]⟩]:Array Value);refine(U.o _).mono ?_;rintro e w3⟨rfl,b⟩;have i:=Aa (Below.Ap (b1c D.o) b);have d:=Aa ((b.block w.heap.size (Ac h.o)).trans h.o);clear b;obtain⟨y0,y1,y2,y3,y4,y5,yf⟩:=Iu d.o;have r:=yf 0;have t:=yf 1;have u:=yf 2;have x:=yf 3;have y:=yf 4;have z:=yf 5;clear yf)
   | (go_at_call 178;refine(R.o _ i.o).mono ?_;rintro e w4⟨n,er,rfl,m,f⟩;have ab:=Aa (Below.Ap i.o m);have ai:=Aa ((m.block w.heap.size (Ac d.o)).trans d.o);have p:=Aa f;clear m f)
   | (go_at_call 180;refine(V.o _ ab.o).mono ?_;rintro e w5⟨pa,pn,pc,ok,rfl,ad,ac⟩;have j:=Aa (Below.Ap ab.o ad);have c:=Aa ((ad.block w.heap.size (Ac ai.o)).trans ai.o);have aa:=Aa ac;clear ad ac;clear y0 y1 y2 y3 y4 y5 r t u x y z;obtain⟨y0,y1,y2,y3,y4,y5,yf⟩:=Iu c.o;have r:=yf 0;have t:=yf 1;have u:=yf 2;have x:=yf 3;have y:=yf 4;have z:=yf 5;clear yf))
  rcases aa.o with⟨rfl,L,G,rfl,h2⟩|⟨rfl,G⟩ <;> rcases p.o with⟨h3,rfl⟩|⟨h3,ty,xx,rfl⟩
  ·have H1:=Aa G
   have H2:=Aa h2;have H3:=Aa h3;clear p aa G h2 h3
   go_region
   go_wp2;obtain⟨I,J,M,N,O,P⟩:=oA w5 w.heap.size _ _ _ _ _ _ (.int .i64 4) (.string ⟨#[]⟩) (.int .i64 0) (.slice none 0 0) (.slice pa L.length pc) (.int .i64 n) _ c.o;refine bodyPost_ret (v:=.tuple #[.agg #[.int .i64 4,.string ⟨#[]⟩,.int .i64 0,.slice none 0 0,.slice pa L.length pc,.int .i64 n],.bool true]) (by simp[results,results121,go_sem,I,J,M,N,O,P]) rfl ⟨_,_,_,_,_,_,_,_,_,_,_,rfl,(Gf j.o (XA _) _ _ _ _ _ _).drew,?_⟩;refine .inl ⟨rfl,[],L,by rw[g.o,H3.o,H1.o];rfl,XD ..,?_⟩;exact AFB (ABe (qL H2.o ab.o.size) c.o (by decide) _ _ _ _ _ _)
  ·have H3:=Aa h3
   clear p aa G h2 h3
   go_region
   go_wp2;obtain⟨I,J,M,N,O,P⟩:=oA w5 w.heap.size _ _ _ _ _ _ (.int .i64 4) (.string ⟨#[]⟩) (.int .i64 0) (.slice none 0 0) (.slice pa L.length pc) (.int .i64 n) _ c.o;refine bodyPost_ret (v:=.tuple #[.agg #[.int .i64 4,.string ⟨#[]⟩,.int .i64 0,.slice none 0 0,.slice pa L.length pc,.int .i64 n],.bool false]) (by simp[results,results121,go_sem,I,J,M,N,O,P]) rfl ⟨_,_,_,_,_,_,_,_,_,_,_,rfl,(Gf j.o (XA _) _ _ _ _ _ _).drew,?_⟩;exact .inr ⟨rfl,by rw[g.o,H3.o];rfl⟩
  ·have H1:=Aa G
   clear p aa G h3
   go_region
   go_wp2;obtain⟨I,J,M,N,O,P⟩:=oA w5 w.heap.size _ _ _ _ _ _ (.int .i64 4) (.string ⟨#[]⟩) (.int .i64 0) (.slice none 0 0) (.slice pa pn pc) (.int .i64 n) _ c.o;refine bodyPost_ret (v:=.tuple #[.agg #[.int .i64 4,.string ⟨#[]⟩,.int .i64 0,.slice none 0 0,.slice pa pn pc,.int .i64 n],.bool false]) (by simp[results,results121,go_sem,I,J,M,N,O,P]) rfl ⟨_,_,_,_,_,_,_,_,_,_,_,rfl,(Gf j.o (XA _) _ _ _ _ _ _).drew,?_⟩;refine .inr ⟨rfl,by rw[g.o,H1.o];cases numOf f1 <;> rfl⟩
  have H1:=Aa G;clear p aa G h3
  go_region
  go_wp2;obtain⟨I,J,M,N,O,P⟩:=oA w5 w.heap.size _ _ _ _ _ _ (.int .i64 4) (.string ⟨#[]⟩) (.int .i64 0) (.slice none 0 0) (.slice pa pn pc) (.int .i64 n) _ c.o;refine bodyPost_ret (v:=.tuple #[.agg #[.int .i64 4,.string ⟨#[]⟩,.int .i64 0,.slice none 0 0,.slice pa pn pc,.int .i64 n],.bool false]) (by simp[results,results121,go_sem,I,J,M,N,O,P]) rfl ⟨_,_,_,_,_,_,_,_,_,_,_,rfl,(Gf j.o (XA _) _ _ _ _ _ _).drew,?_⟩;refine .inr ⟨rfl,by rw[g.o,H1.o];cases numOf f1 <;> rfl⟩
 have g:Hid (Co l=none):=Aa (by rw[q.o,Yad hadd,Yad hremove,Yad hmask,Yad hschema]);have al:((bA Y).toList==[97,100,100])=false:=by rw[k.o];exact beq_eq_false_iff_ne.2 hadd
 have am:¬(bA Y).toList=[97,100,100]:=by rw[k.o];exact hadd
 have ae:((bA Y).toList==[114,101,109,111,118,101])=false:=by rw[k.o];exact beq_eq_false_iff_ne.2 hremove
 have ag:¬(bA Y).toList=[114,101,109,111,118,101]:=by rw[k.o];exact hremove
 have aj:((bA Y).toList==[109,97,115,107])=false:=by rw[k.o];exact beq_eq_false_iff_ne.2 hmask
 have ak:¬(bA Y).toList=[109,97,115,107]:=by rw[k.o];exact hmask
 have af:((bA Y).toList==[115,99,104,101,109,97])=false:=by rw[k.o];exact beq_eq_false_iff_ne.2 hschema
 have ah:¬(bA Y).toList=[115,99,104,101,109,97]:=by rw[k.o];exact hschema
 clear k q T X V R hadd hremove hmask hschema;generalize bA Y=wb at *;generalize bA f1=x1 at *;generalize bA f2=x2 at *;go_enter func121,ntmps121
 go_wp2_with (first
  | (go_at_call_of 119 (#[.string s,.string ⟨#[32]⟩]:Array Value);refine(o.o _).mono ?_;rintro e w2⟨rfl,a⟩;have D:=Aa a;have h:=Aa ((a.block w.heap.size (by simp)).trans (Yac w _));clear a)
  | (go_at_call_of 119 (#[.string rs,.string ⟨#[32]⟩]:Array Value);refine(U.o _).mono ?_;rintro e w3⟨rfl,b⟩;have i:=Aa (Below.Ap (b1c D.o) b);have d:=Aa ((b.block w.heap.size (Ac h.o)).trans h.o);clear b;obtain⟨y0,y1,y2,y3,y4,y5,yf⟩:=Iu d.o;have r:=yf 0;have t:=yf 1;have u:=yf 2;have x:=yf 3;have y:=yf 4;have z:=yf 5;clear yf)
  | fail)
 have c:=Aa d.o;have j:=Aa i.o;obtain⟨I,J,M,N,O,P⟩:=oA w3 w.heap.size _ _ _ _ _ _ (.int .i64 0) (.string ⟨#[]⟩) (.int .i64 0) (.slice none 0 0) (.slice none 0 0) (.int .i64 0) _ c.o;refine bodyPost_ret (v:=.tuple #[.agg #[.int .i64 0,.string ⟨#[]⟩,.int .i64 0,.slice none 0 0,.slice none 0 0,.int .i64 0],.bool false]) (by simp[results,results121,go_sem,I,J,M,N,O,P]) rfl ⟨_,_,_,_,_,_,_,_,_,_,_,rfl,(Gf j.o (XA _) _ _ _ _ _ _),?_⟩;exact .inr ⟨rfl,g.o⟩
def look(l:List Vc)(p:ByteArray):Option (Int×List Int):=(l.find? λe=>decide (e.1=p)).map (·.2)
section
variable {nb : ByteArray → Bool} {cb : ByteArray → Bool} {fb : Int → Int → Int → ByteArray → Bool}
end
def Q7(s:Ah):Prop:=∀e∈s.files,e.1.size<=16
structure AK9(W:World)(a:A5)(ma:Option Addr)(mn mc:Nat)(ca:Option Addr)(cn cc:Nat):Prop where
 mask:Ph W (.slice ma mn mc) a.2.2.2.1
 cols:bH W (.slice ca cn cc) a.2.2.2.2.1
 path:a.2.1.size<=maxLen
 Iz:a.2.2.2.1.length<=maxLen
 ADp:a.2.2.2.2.1.length<=maxLen
 texts:∀x∈a.2.2.2.2.1,x.2.1.size<=maxLen/\x.2.2.2.2.2.2.size<=maxLen
def AKB(W:World)(v:Value)(l:List A5):Prop:=((∃a c,v=.slice a 0 c)/\l=[])\/∃g o c,v=.slice (some ⟨g,o,none⟩) l.length c/\l.length<=c/\g<W.heap.size/\∀j,j<l.length->∃f i h b e d,AK9 W l[j]! f i h b e d/\M6 W g (o+j*6) l[j]! f i h b e d
variable{W w:Tw}{l:List A5}{c:Dn}
def cl(b:ByteArray):ByteArray:=if b.size<=maxLen then b else ⟨#[]⟩
theorem AEi(b:Tb):(cl b).size<=maxLen:=by
 unfold cl;split
 ·assumption
 decide
theorem AGQ{b:Tb}(h:b.size<=maxLen):cl b=b:=by simp[cl,h]
abbrev sG:=A5×Sv×Sv
def tJ(x:sG):List Value:=[Zi x.1.1,.string (cl x.1.2.1),Zi x.1.2.2.1,sv x.2.1,sv x.2.2,Zi x.1.2.2.2.2.2]
theorem rP(x:sG):(tJ x).length=6:=rfl
theorem Dt.list{g o c:Nat}(h:∀j,j<l.length->∃k p m b f d,Om w l[j]! k p m b f d/\M6 w g (o+j*6) l[j]! k p m b f d):
 ∃zs:List sG,zs.map (·.1)=l/\∀j,j<zs.length->∀i v,(tJ zs[j]!)[i]? = some v->w.cell? ⟨g,o+j*6+i,none⟩=some v:=by
 have _:=c
 have t:∀n,n<=l.length->∃zs:List sG,zs.map (·.1)=l.take n/\∀j,j<zs.length->∀i v,(tJ zs[j]!)[i]? = some v->w.cell? ⟨g,o+j*6+i,none⟩=some v:=by
  intro n
  induction n with
  | zero=>intro _;exact⟨[],rfl,λj s=>absurd s (Ym _)⟩
  | succ n ih=>
    intro N;obtain⟨zs,q,r⟩:=ih (by omega);obtain⟨k,p,m,b,f,d,y,z⟩:=h n (by omega);have hlen:zs.length=n:=by have:=congrArg List.length q;simp at this;omega
    refine⟨zs++[(l[n]!,(k,p,m),(b,f,d))],?_,?_⟩
    ·rw[XM,q,Br (by omega)];rfl
    intro j s i v a;simp only[XE,XC,XJ] at s
    by_cases e:j<zs.length
    ·rw[show (zs++[(l[n]!,(k,p,m),(b,f,d))])[j]! = zs[j]! by simp[List.getElem!_eq_getElem?_getD,Wb e]] at a
     exact r j e i v a
    have x:j=n:=by omega
    subst x;rw[show (zs++[(l[j]!,(k,p,m),(b,f,d))])[j]! = (l[j]!,(k,p,m),(b,f,d)) by simp[List.getElem!_eq_getElem?_getD,hlen]] at a;obtain⟨G,u,I,J,L,M⟩:=z;rw[<-AGQ y.path] at u;have:i=0\/i=1\/i=2\/i=3\/i=4\/i=5\/6<=i:=by omega
    rcases this with rfl|rfl|rfl|rfl|rfl|rfl|D
    ·cases a;exact G
    ·cases a;exact u
    ·cases a;exact I
    ·cases a;exact J
    ·cases a;exact L
    ·cases a;exact M
    rw[Yb (by rw[rP];exact D)] at a;cases a
 obtain⟨zs,q,r⟩:=t l.length (XA _);exact⟨zs,by rw[q,Ye],r⟩
theorem AEB(a:To)(c:Nat)(d:Tv)(w:Tw):Zc 150 #[Zs a 0 c,d] w λe b=>e=Zr (Zo false)/\b=w:=by
 have f:Hid (Zc 200 #[Zs a 0 c,d] w λe b=>e=Zr (Zi (-1))/\b=w):=by
  go_enter func200,ntmps200;go_wp2
  go_loopg [5,8] 0 (λ_ _ g wr=>g=Zi 0/\wr=w)
  case atStart=>exact⟨rfl,rfl⟩
  case round=>obtain⟨rfl,rfl⟩:=hrel;go_wp2;go_ret;exact⟨rfl,rfl⟩
 go_enter func150,ntmps150;go_wp2_with (go_at_call 200;refine f.o.mono ?_;rintro e h⟨rfl,rfl⟩);go_ret;exact⟨rfl,rfl⟩
theorem tB(a:To)(n c:Nat)(l:List A5)(p:A5->Bool)(g:Nat)(lb:Array Tv)(w:Tw)(h:Dt w (Zs a n c) l)(z:l.length<=1000)(k:∀args w,(callFunc g args).run prog w=.ok (.enter g args) w)(s:PredBelow prog g lb (λx:sG=>Zg (tJ x).toArray) (λx=>p x.1) w):
 Zc 150 #[Zs a n c,.func (.func g) #[] lb] w λe u=>e=Zr (Zo (l.any p))/\Zb w u:=by
 rcases h with⟨⟨_,_,e⟩,e0⟩|⟨m,o,v,e,y,d,b⟩
 ·cases e;subst e0
  exact(AEB _ _ _ w).mono λ_ _⟨r,t⟩=>⟨r,t ▸ XF _ _⟩
 cases e;obtain⟨zs,f,q⟩:=Dt.list (c:=c) b;have i:zs.length=l.length:=by have:=congrArg List.length f;simpa using this
 have:=AnyQ.slices_ContainsFunc layAnyA 6 isAgg129 sizeOf129 tJ rP (λx=>p x.1) g lb k m o l.length c zs w s (by omega) (by omega) d q;rw[<-i,Ye] at this;have j:zs.any (λx=>p x.1)=l.any p:=by rw[<-f,List.any_map];rfl
 rw[j,i] at this;exact this
theorem nQ(w:Tw):PredBelow prog 151 #[] (λx:sG=>Zg (tJ x).toArray) (λx=>x.1.1==4) w:=λW x hb=>by
 obtain⟨⟨k,p,r,m,h,g⟩,⟨d,f,e⟩,a,c,b⟩:=x;show Zc 151 #[Zg #[Zi k,Zt (cl p),Zi r,Zs d f e,Zs a c b,Zi g]] W _;generalize cl p=i;go_enter func151,ntmps151;go_wp2
 all_goals (go_ret;exact⟨rfl,hb.alloc hb.size _⟩)
def G8(l:List A5):Bool:=l.any (λa=>a.1==4)
theorem Wy(tx:Tb)(f:Bool)(a:To)(n c:Nat)(l:List A5)(w:Tw)(h:Dt w (Zs a n c) l)(o:l.length<=1000):
 Zc 95 #[Zg #[Zt tx,Zo f,Zs a n c]] w λe p=>e=Zr (Zo (G8 l))/\Zb w p:=by
 have j:∀args w,(callFunc 151 args).run prog w=.ok (.enter 151 args) w:=enters_of func151 (by kernel_rfl) rfl;have b:Zb w (w.alloc (Zk #[Zt tx,Zo f,Zs a n c] 63)):=Zal;have g:=Aa (tB a n c l (λa=>a.1==4) 151 #[] _ (h.below b) o j (nQ (w.alloc (Zk #[Zt tx,Zo f,Zs a n c] 63))));have m:=Aa b;clear h b j;generalize k:l.any (λa=>a.1==4)=r at g;have i:Hid (G8 l=r):=k;clear k;generalize G8 l=q at i ⊢;go_enter func95,ntmps95;go_wp2_with (go_at_call 150;refine g.o.mono ?_;rintro e s⟨rfl,d⟩);go_ret;exact⟨Af i.o.symm,Below.Ap m.o d⟩
def lit(b:ByteArray):Lit:=.string b.data.toList
theorem Jr{a b:Tb}(h:lit a=lit b):a=b:=by unfold lit at h;injection h with h;cases a;cases b;simp at h;simp[h]
theorem AEF(b:Tb):WideAt.IsKeyLit (lit b):=by unfold lit;simp[WideAt.IsKeyLit]
theorem Wl:Keyed prog 9:=string_keyed underlying9
theorem Mh{b:Tb}(h:b.size<=maxLen):keyOf prog 9 (.string b)=some (lit b):=WideMaps.keyOf_string_mk underlying9 h
def iH(l:List A5)(p:ByteArray):Nat:=(l.filter λa=>decide (a.2.1=p)).length
theorem AFj(l:List A5)(a:A5)(p:Tb):iH (l++[a]) p=if a.2.1=p then iH l p+1 else iH l p:=by
 simp only[iH,List.filter_append,XE]
 by_cases h:a.2.1=p <;> simp[h]
theorem AJf(l:List A5)(p:Tb):iH l p<=l.length:=YN _ _
theorem AEk{c:Int}(a:0<=c)(b:c<=2000):(Lit.int .i64 c).wf=true:=by simp only[Lit.wf,WJ,decide_eq_true_eq];exact⟨Yab (by decide:IntKind.i64.min<=0) a,Yab b (by decide)⟩
def Seen(W:World)(b n:Nat)(l:List A5):Prop:=∃D:DataW Unit,W.ownsMap prog 9 (plainElem prog 3) b n D/\∀p,D.atKey (lit p) (.lit (.int .i64 0))=.lit (.int .i64 (iH l p))
def S9(l o:List A5):Bool:=o.any (λa=>decide (0<(iH l a.2.1:Int)))
theorem Seen.below{b n:Nat}(h:Seen w b n l)(f:Zb w W):Seen W b n l:=by obtain⟨D,c,d⟩:=h;obtain⟨es,clock,a,e⟩:=c;exact⟨D,⟨es,clock,(f.block b (Ac a)).trans a,e⟩,d⟩
theorem ADd(b n B:Nat)(l:List A5)(w:Tw)(h:Seen w b n l)(L:B<w.heap.size)(M:w.cell? ⟨B,0,none⟩=some (.map (some b))):
 PredBelow prog 152 #[Zp (some ⟨B,0,none⟩)] (λx:sG=>Zg (tJ x).toArray) (λx=>decide (0<(iH l (cl x.1.2.1):Int))) w:=λW x hb=>by
 obtain⟨⟨k,p,r,m,T,z⟩,⟨u,y,v⟩,o,s,q⟩:=x;show Zc 152 #[Zg #[Zi k,Zt (cl p),Zi r,Zs u y v,Zs o s q,Zi z],Zp (some ⟨B,0,none⟩)] W (λe R=>e=Zr (Zo (decide (0<(iH l (cl p):Int))))/\Zb w R);have P:=AEi p;generalize cl p=g at *;have f:=(hb.cell (p:=⟨B,0,none⟩) L).trans M;have O:B≠W.heap.size:=by have:=hb.size;omega
 have N:(W.alloc (Zk #[Zi k,Zt g,Zi r,Zs u y v,Zs o s q,Zi z] 129)).cell? ⟨B,0,none⟩=some (.map (some b)):=Lib.cell?_alloc_some _ f;obtain⟨D,I,d⟩:=(h.below hb).below ((XF W.heap.size W).alloc (XA _) (Zk #[Zi k,Zt g,Zi r,Zs u y v,Zs o s q,Zi z] 129));have i:=Aa (d g);have J:=Aa I;have G:=Aa hb;clear d I h hb f;go_enter func152,ntmps152;go_wp2_with (at_lookup;refine wpList_lookup_own_int _ rfl _ _ 242 rfl 9 3 .i64 Wl underlying242 underlying3 (zeroValue3 _) b n D rfl J.o _ _ rfl (Mh P) ?_;intro c a t;have j:Hid (c=(iH l g:Int)):=Aa (by rw[i.o] at a;injection a with a;injection a with _ a;exact a.symm);clear a t);go_ret;exact⟨Af (by rw[j.o]),G.o.alloc G.o.size _⟩
theorem AF0(a1:To)(n1 c1:Nat)(l:List A5)(V:To)(n2 X:Nat)(o:List A5)(w:Tw)(N:Dt w (Zs a1 n1 c1) l)(r:Dt w (Zs V n2 X) o)(hl:l.length<=1000)(ho:o.length<=1000):
 Zc 96 #[Zs a1 n1 c1,Zs V n2 X] w λe w'=>e=Zr (Zo (S9 l o))/\Below w.heap.size w w':=by
 have Y:∀args w,(callFunc 152 args).run prog w=.ok (.enter 152 args) w:=enters_of func152 (by kernel_rfl) rfl;have al:=N.len;subst al;have H1:=Aa N;have H2:=Aa r
 have I:Hid (∀W,Below w.heap.size w W->Seen W w.heap.size 1000 l->W.cell? ⟨w.heap.size+1,0,none⟩=some (.map (some w.heap.size))->w.heap.size+1<W.heap.size->Zc 150 #[Zs V n2 X,.func (.func 152) #[] #[Zp (some ⟨w.heap.size+1,0,none⟩)]] W λe w'=>e=Zr (Zo (S9 l o))/\Below W.heap.size W w'):=λW hW hS hc hB=>by
  have hp:PredBelow prog 152 #[Zp (some ⟨w.heap.size+1,0,none⟩)] (λx:sG=>Zg (tJ x).toArray) (λx=>(λa:A5=>decide (0<(iH l (cl a.2.1):Int))) x.1) W:=ADd w.heap.size 1000 (w.heap.size+1) l W hS hB hc;have:=tB V n2 X o (λa=>decide (0<(iH l (cl a.2.1):Int))) 152 _ W (r.below hW) ho Y hp
  have e:o.any (λa=>decide (0<(iH l (cl a.2.1):Int)))=S9 l o:=by
   unfold S9;rw[Bool.eq_iff_iff];simp only[List.any_eq_true]
   rcases r with⟨_,e0⟩|⟨gg,oo,c',_,_,_,d⟩
   ·subst e0;simp
   constructor
   ·rintro⟨x,i,u⟩
    obtain⟨j,t,rfl⟩:=Yj i;obtain⟨_,_,_,_,_,_,h5,_⟩:=d j t;have:=h5.path;rw[getElem!_pos o j t] at this;exact⟨_,i,by rw[AGQ this] at u;exact u⟩
   rintro⟨x,i,u⟩;obtain⟨j,t,rfl⟩:=Yj i;obtain⟨_,_,_,_,_,_,h5,_⟩:=d j t;have:=h5.path;rw[getElem!_pos o j t] at this;exact⟨_,i,by rw[AGQ this];exact u⟩
  rw[e] at this;exact this
 clear N r Y;have ak:=@run_makeMap prog;have L:Hid (Seen (w.alloc (.map #[] 0)) w.heap.size 0 []):=⟨.map [],World.ownsMap_made w _ _ _,λp=>rfl⟩;generalize S9 l o=av at I ⊢;go_enter func96,ntmps96;go_wp2_with fail;have z:Hid (Below w.heap.size w ((w.alloc (.map #[] 0)).alloc (Zk #[.map (some w.heap.size)] 242))):=(Zal).alloc (by simp) _;have M:Hid (Seen ((w.alloc (.map #[] 0)).alloc (Zk #[.map (some w.heap.size)] 242)) w.heap.size 0 (l.take 0)):=Aa (L.o.below (Zal));have G:Hid (((w.alloc (.map #[] 0)).alloc (Zk #[.map (some w.heap.size)] 242)).cell? ⟨w.heap.size+1,0,none⟩=some (.map (some w.heap.size))/\w.heap.size+1<((w.alloc (.map #[] 0)).alloc (Zk #[.map (some w.heap.size)] 242)).heap.size):=Aa ⟨by rw[World.cell?_alloc_at _ _ _ _ (by simp)];rfl,by simp⟩;clear ak L;generalize (w.alloc (.map #[] 0)).alloc (Zk #[.map (some w.heap.size)] 242)=wa at *
 go_loopw [11] (λvi wr=>∃k:Nat,k<=l.length/\vi=Zi k/\Hid (Seen wr w.heap.size k (l.take k))/\Hid (wr.cell? ⟨w.heap.size+1,0,none⟩=some (.map (some w.heap.size))/\w.heap.size+1<wr.heap.size)/\Hid (Below w.heap.size w wr)) (λvi _=>l.length-(intOf vi).toNat)
 case atStart=>exact⟨0,X2 _,rfl,M,G,z⟩
 case round=>
  clear M G z;obtain⟨k,hk,rfl,SE,v,U⟩:=hrel
  by_cases hlt:k<l.length
  ·have ap:(k:Int)<(l.length:Int):=by omega
   rcases H1.o.below U.o with⟨_,e0⟩|⟨g,o',c,Y,an,aq,d⟩
   ·rw[e0] at hlt;simp at hlt
   injection Y with ad _ ae;subst ad ae;obtain⟨ma,mn,mc,ca,cn,cc,s,O⟩:=d k hlt;have n:Hid (∀p,iH (l.take (k+1)) p=if l[k]!.2.1=p then iH (l.take k) p+1 else iH (l.take k) p):=Aa (λp=>by rw[Br hlt,AFj]);obtain⟨⟨x1,m,x3,x4,x5,x6⟩,i⟩:∃x,l[k]! = x:=⟨_,rfl⟩;rw[i] at s O n;obtain⟨q0,q1,q2,q3,q4,q5⟩:=O;simp only at q0 q1 q2 q3 q4 q5;have hp:m.size<=maxLen:=s.path;obtain⟨D,hD,P⟩:=SE.o.below ((XF wr.heap.size wr).alloc (XA _) (Zk #[Zi x1,Zt m,Zi x3,Zs ma mn mc,Zs ca cn cc,Zi x6] 129));have y:=Aa P;have HD:=Aa hD;have ai:=AJf (l.take k) m
   have R:(iH (l.take k) m:Int)<=1000:=by
    have:(l.take k).length<=l.length:=by simp;omega
    omega
   have ag:=Lib.cell?_alloc_some (Zk #[Zi x1,Zt m,Zi x3,Zs ma mn mc,Zs ca cn cc,Zi x6] 129) v.o.1;have aa:Hid (Below wr.heap.size wr (wr.alloc (Zk #[Zi x1,Zt m,Zi x3,Zs ma mn mc,Zs ca cn cc,Zi x6] 129))):=Aa (Zal);have ar:w.heap.size+1≠wr.heap.size:=by have:=v.o.2;omega
   clear P hD s d i ai;generalize T:(iH (l.take k) m:Int)=cv at R;have J:=Aa T;have ao:0<=cv:=by omega
   clear T
   go_wp2_with (first
    | (at_lookup;refine wpList_lookup_own_int _ rfl _ _ 242 rfl 9 3 .i64 Wl underlying242 underlying3 (zeroValue3 _) w.heap.size k D rfl HD.o _ _ rfl (Mh hp) ?_;intro c b am
       have ah:c=cv:=by rw[y.o,J.o] at b;injection b with b;injection b with _ b;exact b.symm
       clear b am;subst ah)
    | (at_mapUpdate;refine wpList_mapUpdate_in _ rfl _ _ _ 242 rfl 9 3 Wl underlying242 _ w.heap.size k D rfl HD.o (by unfold maxLen;omega) _ _ _ rfl rfl (Mh hp) _ [] (plainElem_int underlying3 (AEk (by omega) (by omega))) ?_;intro w8 h f
       have ac:=Aa h;have q:=Aa f.grown;clear h f))
   go_roundw
   case rel=>
    have au:=v.o.2;refine⟨k+1,by omega,by go_num,Aa ⟨_,ac.o,λp=>?_⟩,Aa ⟨(q.o.cell_far ⟨w.heap.size+1,0,none⟩ (by simp;omega) (by simp)).trans ag,by have:=q.o.size;simp at this;omega⟩,Aa ((Below.Ap U.o aa.o).grown q.o (by simp;omega) (λj t=>by cases t;exact XA _))⟩
    by_cases e:m=p
    ·subst e
     rw[atKey_put_same HD.o.isMap (AEF _),n.o,Yae rfl];rw[Int.natCast_add,J.o];rfl
    rw[atKey_put_other (λu=>e (Jr u).symm),n.o,Yad e];exact y.o p
   case measure=>simp[intOf];omega
  have aj:k=l.length:=by omega
  subst aj
  have ab:=Aa (I.o wr U.o (by obtain⟨D,N,r⟩:=SE.o;rw[Ye] at r;exact⟨D,N.mono hl,r⟩) v.o.1 v.o.2)
  go_wp2_with (go_at_call 150;refine ab.o.mono ?_;rintro e w1⟨rfl,af⟩);go_ret;exact⟨rfl,Below.Ap U.o af⟩
def Nt(c o:Dn):Bool:=G8 o.2.2 || (decide (0<o.2.2.length) && (c.2.1 || G8 c.2.2) || S9 c.2.2 o.2.2)
theorem v8(t1:Tb)(c:Bool)(f:To)(n1 c1:Nat)(l:List A5)(t2:Tb)(j:Bool)(g:To)(n2 h:Nat)(o:List A5)(w:Tw)(M:Dt w (Zs f n1 c1) l)(z:Dt w (Zs g n2 h) o)(N:l.length<=1000)(P:o.length<=1000):
 Zc 54 #[Zg #[Zt t1,Zo c,Zs f n1 c1],Zg #[Zt t2,Zo j,Zs g n2 h]] w λe r=>e=Zr (Zo (Nt (t1,c,l) (t2,j,o)))/\Zb w r:=by
 have O:=z.len;subst O;obtain⟨Y,z1,z2,z3⟩:=C1 w (Zk #[Zt t1,Zo c,Zs f n1 c1] 63) (Zk #[Zt t2,Zo j,Zs g o.length h] 63)
 have I:Hid (∀W,Below (w.heap.size+2) ((w.alloc (Zk #[Zt t1,Zo c,Zs f n1 c1] 63)).alloc (Zk #[Zt t2,Zo j,Zs g o.length h] 63)) W->(W.cell? ⟨w.heap.size,0,none⟩=some (Zt t1)/\W.cell? ⟨w.heap.size,1,none⟩=some (Zo c)/\W.cell? ⟨w.heap.size,2,none⟩=some (Zs f n1 c1))/\W.cell? ⟨w.heap.size+1,2,none⟩=some (Zs g o.length h)/\Zb w W/\w.heap.size+2<=W.heap.size):=λW d=>by have hs:=d.size;rw[Y] at hs;obtain⟨y0,y1,y2,_⟩:=Db ((d.block _ (by omega)).trans z1);obtain⟨_,_,y3,_⟩:=Db ((d.block _ (by omega)).trans z2);exact⟨⟨y0,y1,y2⟩,y3,z3.trans (d.mono (by omega)),hs⟩
 have t:Hid (∀W,Zb w W->Zc 95 #[Zg #[Zt t1,Zo c,Zs f n1 c1]] W λe r=>e=Zr (Zo (G8 l))/\Zb W r):=λW d=>Wy t1 c f n1 c1 l W (M.below d) N
 have m:Hid (∀W,Zb w W->Zc 95 #[Zg #[Zt t2,Zo j,Zs g o.length h]] W λe r=>e=Zr (Zo (G8 o))/\Zb W r):=λW d=>Wy t2 j g _ h o W (z.below d) P
 have n:Hid (∀W,Zb w W->Zc 96 #[Zs f n1 c1,Zs g o.length h] W λe r=>e=Zr (Zo (S9 l o))/\Zb W r):=λW d=>AF0 f n1 c1 l g _ h o W (M.below d) (z.below d) N P
 have i:Hid (Nt (t1,c,l) (t2,j,o)=(G8 o || (decide (0<o.length) && (c || G8 l) || S9 l o))):=rfl;have aa:(o.length:Int)<=1000:=by omega
 clear M z z1 z2 N P;generalize Nt (t1,c,l) (t2,j,o)=x at i ⊢;generalize G8 o=y at m i;generalize G8 l=b2 at t i;generalize S9 l o=b3 at n i;have p:=Aa Y;have u:=Aa z3;clear Y z3
 by_cases h0:0<o.length
 ·have L:(0:Int)<(o.length:Int):=by omega
  have a:Hid (x=(y || ((c || b2) || b3))):=Aa (by rw[i.o];simp[h0]);clear i;cases y <;> cases c <;> cases b2
  all_goals
   go_enter func54,ntmps54;go_wp2_with fail;refine(m.o _ u.o).mono ?_;rintro e R⟨rfl,b⟩;obtain⟨⟨T,U,V⟩,X,k,x5⟩:=I.o R (b.mono (by rw[p.o];omega));have D:=Aa (b.mono (show w.heap.size+2<=_ by rw[p.o];omega));have s:=Aa k;clear b k
   go_wp2_with (first
    | (go_at_call 95;refine(t.o _ s.o).mono ?_;rintro e w2⟨rfl,v⟩
       have G:=Aa (D.o.trans (v.mono x5));clear T U V X;obtain⟨⟨T,U,V⟩,X,k,x6⟩:=I.o w2 G.o;have J:=Aa k;clear v k)
    | (go_at_call 96;refine(n.o _ J.o).mono ?_;rintro e w3⟨rfl,q⟩))
   go_ret
   first
    | exact⟨Af (by rw[a.o];simp),Below.Ap J.o q⟩
    | exact⟨Af (by rw[a.o];simp),J.o⟩
    | exact⟨Af (by rw[a.o];simp),s.o⟩
 have L:¬(0:Int)<(o.length:Int):=by omega
 have a:Hid (x=(y || b3)):=Aa (by rw[i.o];simp[h0]);clear i;cases y
 all_goals
  go_enter func54,ntmps54;go_wp2_with fail;refine(m.o _ u.o).mono ?_;rintro e R⟨rfl,b⟩;obtain⟨⟨T,U,V⟩,X,k,x5⟩:=I.o R (b.mono (by rw[p.o];omega));have s:=Aa k;clear b k;go_wp2_with (go_at_call 96;refine(n.o _ s.o).mono ?_;rintro e w3⟨rfl,q⟩);go_ret
  first
   | exact⟨Af (by rw[a.o];simp),Below.Ap s.o q⟩
   | exact⟨Af (by rw[a.o];simp),s.o⟩
theorem xK{s t:Ah}{a:A5}(h:Xx s a t)(g:Q7 s):Q7 t:=by
 rcases h with⟨_,⟨f,_,_,_,_,_⟩,rfl⟩|⟨_,_,rfl⟩|⟨_,⟨i,_⟩,rfl⟩|⟨_,_,rfl⟩
 ·intro e b
  simp only[oE,List.mem_append,List.mem_singleton] at b
  rcases b with b|rfl
  ·exact g e b
  exact Rk f
 ·intro e b
  exact g e (Yy b)
 ·intro e b
  simp only[gJ] at b
  rcases Yr b with b|rfl
  ·exact g e b
  rcases J8 s.files a.2.1 with c|⟨k,d,c,_⟩
  ·omega
  rw[c];show (s.files[k]!).1.size<=16;exact g _ (bB d)
 exact g
theorem cP:∀{l:List A5}{s t:Ah},X1 s l t->Q7 s->Q7 t
 | [],_,_,h,g=>by simp only[X1,Il] at h;subst h;exact g
 | a :: l,s,t,⟨u,h1,h2⟩,g=>cP (l:=l) h2 (xK h1 g)
theorem iX{s t:Ah}(h:Bi s c t)(g:Q7 s):Q7 t:=cP h.2 g
theorem qX{s t u:Ah}(h:Bi s c t)(k:Bi s c u):t=u:=K6 h.2 k.2
theorem sF(W:Tw)(b:Nat)(c0 c1 f g a c d e:Tv)(T:TypeId)(h:W.heap[b]? = some (Zk #[c0,c1,f,g] T (0,0))):
 ((((W.setCell ⟨b,0,none⟩ a).setCell ⟨b,1,none⟩ c).setCell ⟨b,2,none⟩ d).setCell ⟨b,3,none⟩ e).heap[b]? = some (Zk #[a,c,d,e] T (0,0))/\W.grownBy ((((W.setCell ⟨b,0,none⟩ a).setCell ⟨b,1,none⟩ c).setCell ⟨b,2,none⟩ d).setCell ⟨b,3,none⟩ e) (some b) :=
 ⟨As _ b 3 _ T e (As _ b 2 _ T d (As _ b 1 _ T c (As _ b 0 _ T a h))),(((Aq W b 0 a).trans (Aq _ b 1 c)).trans (Aq _ b 2 d)).trans (Aq _ b 3 e)⟩
theorem Dl.up{w W:Tw}{s:Ah}{v:Tv}(h:Dl w s v)(f:Zb w W):Dl W s v:=by obtain⟨a,c1,b,c,L,e,d⟩:=h;exact⟨a,c1,b,c,L,e,d.up f⟩
theorem Dl.put{s:Ah}{v:Tv}{b:Nat}{cs:Array Tv}(h:Dl w s v)(d:w.heap[b]? = some (Zk cs 42 (0,0)))(f:w.grownBy W (some b)):Dl W s v:=by
 obtain⟨i,c1,j,l,L,e,a⟩:=h;refine⟨i,c1,j,l,L,e,?_,a.files,?_,λx g=>?_⟩
 ·exact Az a.cols f (λk c e=>Fq a.cols d (by decide) (by rw[c];exact e.symm))
 ·exact Az a.row f (λk c e=>Fq a.row d (by decide) (by rw[c];exact e.symm))
 exact Az (a.Cl x g) f (λk c e=>Fq (a.Cl x g) d (by decide) (by rw[c];exact e.symm))
theorem AAK(W:Tw):Dl W F6 Wi:=⟨none,0,none,0,[],rfl,xI W⟩
def AKH(s:Ah)(c:Dn)(h:Int)(b:Option Addr)(n1 c1:Nat)(i:Int)(d:Option Addr)(n2 e:Nat)(a:Value)(g:World):Prop :=
 (a=.nilIface/\∃t,Bi s c t/\Dl g t (.agg #[Zi h,.slice b n1 c1,Zi i,.slice d n2 e]))\/(∃f x,a=.iface f x/\∀t,¬Bi s c t)
theorem kJ(s:Ah)(a:Tv)(tx:Tb)(o:Bool)(Bz:List A5)(f:To)(i g:Nat)(w:Tw)(h:Dl w s a)(I:Good Bv Cm s)(m:0<=s.Eb)(n:s.Eb<=1000)(G:Dt w (Zs f i g) Bz)(j:Bz.length<=1000)(l:tx.size<=maxLen)(J:Lw w):
 Zc 44 #[a,Zg #[Zt tx,Zo o,Zs f i g]] w λe p=>∃u b n1 c1 y c n2 d q,e=Zr (Zu #[Zg #[Zi u,Zs b n1 c1,Zi y,Zs c n2 d],q])/\Zb w p/\AKH s (tx,o,Bz) u b n1 c1 y c n2 d q p:=by
 refine(ADj s a tx o Bz f i g w h I m n G j l J).mono ?_;rintro e p⟨r,⟨t,v,z,rfl,k⟩|⟨M,x,rfl,k⟩⟩
 ·obtain⟨b,c1,c,d,L,rfl,D⟩:=k
  exact⟨_,_,_,_,_,_,_,_,_,rfl,r,.inl ⟨rfl,t,z,b,c1,c,d,L,rfl,D⟩⟩
 exact⟨_,_,_,_,_,_,_,_,_,rfl,r,.inr ⟨M,x,rfl,k⟩⟩
abbrev AKw(W:World)(b:Nat)(a c d e:Value):World:=(((W.setCell ⟨b,0,none⟩ a).setCell ⟨b,1,none⟩ c).setCell ⟨b,2,none⟩ d).setCell ⟨b,3,none⟩ e
theorem Hx{n:Nat}(h:Below n w W){b:Nat}(a:n<=b)(c d e f:Tv):Below n w (AKw W b c d e f) :=
 (((h.setCell (p:=⟨b,0,none⟩) a _).setCell (p:=⟨b,1,none⟩) a _).setCell (p:=⟨b,2,none⟩) a _).setCell (p:=⟨b,3,none⟩) a _
def Vp(c:Aj):Prop:=Lu c.1/\Lu c.2.2.1/\Lu c.2.2.2.2.2.1
structure Ints(a:A5):Prop where
 rows:Lu a.2.2.1
 mask:∀x∈a.2.2.2.1,Lu x
 cols:∀x∈a.2.2.2.2.1,Vp x
 next:Lu a.2.2.2.2.2
theorem zD{n:Int}(h:(Lit.int .i64 n).wf=true):Lu n:=by
 have a:IntKind.i64.min = -9223372036854775808:=by decide
 have b:IntKind.i64.max=9223372036854775807:=by decide
 simp only[Lit.wf,WJ,decide_eq_true_eq] at h;rw[a,b] at h;exact h
theorem AIb:prog.cellsOf 3=1:=by kernel_rfl
theorem AKN:prog.cellsOf 2=1:=by kernel_rfl
theorem AJr:prog.cellsOf 4=1:=by kernel_rfl
theorem AEW:prog.cellsOf 9=1:=by kernel_rfl
theorem AJ3:prog.cellsOf 57=3:=by kernel_rfl
theorem AHW:prog.cellsOf 72=7:=by kernel_rfl
theorem Jq{α:Type}{l:List α}{n:Nat}(h:l.length=n+1):∃a t,l=a :: t/\t.length=n:=by
 cases l with
 | nil=>simp at h
 | cons a t=>exact⟨a,t,rfl,by simpa using h⟩
theorem AFh{α:Type}{l:List α}(h:l.length=0):l=[]:=Yag.1 h
section
variable {H : Type} {enc : TypeId × Value → H} {P : Program} {w : World} {base : Nat} {spare : Nat → Bool} {held : Bool} {t : TypeId} {fuel : Nat} {cs : List Value} {x : DataW H × List MemPlace}
theorem nB{a b c d e:Field}(p:P.underlying t=some (.struct #[a,b,c,d,e]))(h:DataW.trod enc P w base spare held fuel t cs=some x):
 ∃(i j k l m:DataW H×List MemPlace)(n:Nat),cs.length=P.cellsOf t/\DataW.trod enc P w base spare held n a.type ((cs.drop a.offset).take (P.cellsOf a.type))=some i/\DataW.trod enc P w base spare held n b.type ((cs.drop b.offset).take (P.cellsOf b.type))=some j/\DataW.trod enc P w base spare held n c.type ((cs.drop c.offset).take (P.cellsOf c.type))=some k/\DataW.trod enc P w base spare held n d.type ((cs.drop d.offset).take (P.cellsOf d.type))=some l/\DataW.trod enc P w base spare held n e.type ((cs.drop e.offset).take (P.cellsOf e.type))=some m:=by
 obtain⟨xs,n,_,_,o,g,f⟩:=DataW.trod_struct p h
 match xs,g with
 | [i,j,k,l,m],_=>exact⟨i,j,k,l,m,n,o,f 0 a rfl,f 1 b rfl,f 2 c rfl,f 3 d rfl,f 4 e rfl⟩
end
section
variable {H : Type} {enc : TypeId × Value → H} {W : World} {sp : Nat → Bool} {held : Bool} {n : Nat} {cs : List Value} {x : DataW H × List MemPlace}
theorem AEc(h:DataW.trod enc prog W 0 sp held n 72 cs=some x):∃c:Aj,cs=Cc c/\(c.2.1.size<=maxLen/\c.2.2.2.2.2.2.size<=maxLen)/\Vp c:=by obtain⟨y0,y1,y2,y3,y4,n1,z,t,u,v,w,y⟩:=nB underlying72 h;rw[AHW] at z;obtain⟨v0,cs1,rfl,a⟩:=Jq (n:=6) z;obtain⟨v1,cs2,rfl,b⟩:=Jq (n:=5) a;obtain⟨v2,cs3,rfl,d⟩:=Jq (n:=4) b;obtain⟨v3,O,rfl,e⟩:=Jq (n:=3) d;obtain⟨v4,P,rfl,f⟩:=Jq (n:=2) e;obtain⟨v5,R,rfl,g⟩:=Jq (n:=1) f;obtain⟨v6,T,rfl,i⟩:=Jq (n:=0) g;obtain rfl:=AFh i;simp only[AIb,AEW,AJr,AJ3,WK,WD,WE,WL] at t u v w y;obtain⟨D,e0,_,U⟩:=DataW.trod_int underlying3 t;obtain⟨G,j,_,Y⟩:=DataW.trod_string underlying9 u;obtain⟨I,k,_,V⟩:=DataW.trod_int underlying3 v;obtain⟨J,l,_⟩:=DataW.trod_bool underlying4 w;obtain⟨z0,z1,z2,n2,_,_,q,r,s⟩:=trod_struct3 underlying57 y;simp only[AIb,AEW,AKN,WK,WD,WE,WL] at q r s;obtain⟨L,m,_,_⟩:=DataW.trod_int underlying3 q;obtain⟨M,o,_,X⟩:=DataW.trod_int underlying2 r;obtain⟨N,p,_,m7⟩:=DataW.trod_string underlying9 s;simp at e0 j k l m o p;subst e0 j k l m o p;exact⟨(D,G,I,J,L,M,N),rfl,⟨Y,m7⟩,zD U,zD V,zD X⟩
def AKI{α:Type}[Inhabited α](k:Nat)(en:α->List Value)(W:World)(v:Value)(l:List α):Prop :=
 ((∃a c,v=.slice a 0 c)/\l=[])\/∃g o c,v=.slice (some ⟨g,o,none⟩) l.length c/\l.length<=c/\g<W.heap.size/\∀j,j<l.length->∀i u,(en l[j]!)[i]? = some u->W.cell? ⟨g,o+j*k+i,none⟩=some u
theorem p8{v:Tv}{l:List Aj}(h:AKI 7 Cc W v l):bH W v l:=by
 rcases h with h|⟨g,o,c,e,b,d,a⟩
 ·exact .inl h
 exact .inr ⟨g,o,c,e,b,d,a⟩
abbrev Gx:=A5×Sv×Sv
def nU(q:Gx):List Value:=[Zi q.1.1,.string q.1.2.1,Zi q.1.2.2.1,sv q.2.1,sv q.2.2,Zi q.1.2.2.2.2.2]
abbrev AKx:=Dn×Sv
def PK(W:World)(q:AKx):Prop:=AKB W (sv q.2) q.1.2.2/\q.1.2.2.length<=maxLen/\q.1.1.size<=maxLen/\∀a∈q.1.2.2,Ints a
end
variable{W Y w:Tw}{n:Nat}
attribute [local go_sem] Oper.semAt_some
def Mi:Value:=.agg #[Zi 0,.string ⟨#[]⟩,Zi 0,.slice none 0 0,.slice none 0 0,Zi 0]
theorem gO:(prog.info? 129).map (λi=>(i.zero,i.size,i.bytes))=some (some Mi,6,88):=by kernel_rfl
def Ci(L:List Gx):List Value:=L.flatMap nU
theorem Uy:∀{pre:List (List UInt8)}{L:List A5}{a:List UInt8}{x:A5},Cp pre=some L->Co a=some x->Cp (pre++[a])=some (L++[x])
 | [],L,a,x,h,hx=>by simp only[Cp] at h;cases h;simp[Cp,hx]
 | p :: pre,L,a,x,h,hx=>by
   simp only[Cp] at h;cases hp:Co p with
   | none=>rw[hp] at h;cases h
   | some y=>
     rw[hp] at h;simp only[XS] at h;cases hr:Cp pre with
     | none=>rw[hr] at h;cases h
     | some M=>rw[hr] at h;cases h;simp only[XI,Cp,hp,XS,Uy hr hx];rfl
theorem Sz:∀{pre:List (List UInt8)}{a:List UInt8}{t:List (List UInt8)},Co a=none->Cp (pre++a :: t)=none
 | [],a,t,h=>by simp[Cp,h]
 | p :: pre,a,t,h=>by simp only[XI,Cp];rw[Sz h];cases Co p <;> rfl
def pC(base:Nat)(W:World)(q:Gx):Prop:=W.ownsRow base 3 1 (sv q.2.1) q.1.2.2.2.1.length (q.1.2.2.2.1.map (.int .i64))/\W.ownsRow base 72 7 (sv q.2.2) q.1.2.2.2.2.1.length (Av q.1.2.2.2.2.1)
structure RdI(w:World)(bc base:Nat)(tx:ByteArray)(rd:Bool)(pre:List (List UInt8))(W:World)(L:List Gx)(aa:Option Addr)(ac:Nat):Prop where
 box:W.heap[bc]? = some (.cells #[.string tx,.bool rd,.slice aa L.length ac] 63 (0,0))
 Bz:Cp pre=some (L.map (·.1))
 row:W.ownsRow base 129 6 (.slice aa L.length ac) L.length (Ci L)
 own:∀q∈L,pC base W q
 res:W.heap[w.heap.size]? = some (.cells #[.string ⟨#[]⟩,.bool false,.slice none 0 0] 63 (0,0))
 ok:W.heap[w.heap.size+1]? = some (.cells #[.bool false] 4 (0,0))
 low:Zb w W
theorem Le{base:Nat}{t:TypeId}{z:Nat}{v:Tv}{xs:List Tv}{row:Option Nat}{B:Nat}(h:W.ownsRow base t z v n xs)(i:B<base)(f:W.grownBy Y row)(g:∀r,row=some r->r=B\/(∃o:Obj,W.heap[r]? = some o/\o.isCells=false)):Y.ownsRow base t z v n xs :=
 Az h f (λk a e=>by
  rcases g k e with rfl|⟨o,b,d⟩
  ·have:=Fu h a;omega
  obtain⟨cs,c⟩:=Ho h a;rw[c] at b;cases b;cases d)
theorem Ht{b:Nat}{cs:Array Tv}{t:TypeId}{row:Option Nat}{B:Nat}(h:W.heap[b]? = some (Zk cs t (0,0)))(c:b≠B)(f:W.grownBy Y row)(g:∀r,row=some r->r=B\/(∃o:Obj,W.heap[r]? = some o/\o.isCells=false)):Y.heap[b]? = some (Zk cs t (0,0)):=by
 refine(f.block b (Ac h) (λe=>?_)).trans h
 rcases g b e.symm with rfl|⟨o,a,d⟩
 ·exact c rfl
 rw[h] at a;cases a;cases d
theorem RdI.free{n base:Nat}{tx:Tb}{l:Bool}{pre:List (List UInt8)}{L:List Gx}{f:To}{k:Nat}{row:Option Nat}{B:Nat}(h:RdI w n base tx l pre W L f k)(c:B<base)(d:n≠B)(s:w.heap.size+1<B)(b:W.grownBy Y row)(i:∀r,row=some r->r=B\/(w.heap.size<=r/\∃o:Obj,W.heap[r]? = some o/\o.isCells=false)):RdI w n base tx l pre Y L f k:=by
 have a:∀r,row=some r->r=B\/(∃o:Obj,W.heap[r]? = some o/\o.isCells=false):=λr e=>(i r e).imp id And.right
 refine⟨Ht h.box d b a,h.Bz,Le h.row c b a,λq g=>⟨Le (h.own q g).1 c b a,Le (h.own q g).2 c b a⟩,Ht h.res (by omega) b a,Ht h.ok (by omega) b a,h.low.grown b h.low.size (λj p=>?_)⟩
 rcases i j p with rfl|⟨m,_⟩
 ·omega
 exact m
structure RdX(w:World)(t0:List UInt8)(W:World):Prop where
 bad:Cp (Dp t0)=none
 res:W.heap[w.heap.size]? = some (.cells #[.string ⟨#[]⟩,.bool false,.slice none 0 0] 63 (0,0))
 ok:W.heap[w.heap.size+1]? = some (.cells #[.bool false] 4 (0,0))
 low:Zb w W
theorem RdX.free{l:List UInt8}{row:Option Nat}{B:Nat}(h:RdX w l W)(g:w.heap.size+1<B)(b:W.grownBy Y row)(c:∀r,row=some r->r=B\/(w.heap.size<=r/\∃o:Obj,W.heap[r]? = some o/\o.isCells=false)):RdX w l Y:=by
 have a:∀r,row=some r->r=B\/(∃o:Obj,W.heap[r]? = some o/\o.isCells=false):=λr e=>(c r e).imp id And.right
 refine⟨h.bad,Ht h.res (by omega) b a,Ht h.ok (by omega) b a,h.low.grown b h.low.size (λj f=>?_)⟩
 rcases c j f with rfl|⟨d,_⟩
 ·omega
 exact d
theorem Ie(h:Zb W Y):KeepsFrom n W Y:=⟨h.size,λk _ _ a _=>(h.block k (Ac a)).trans a⟩
variable{n z:Nat}{W Y:Tw}{v:Tv}
attribute [local go_sem] Oper.semAt_some
theorem dL{β:Type}{g:Operand}{p:Tmp}{assign body:Code}{Q:Exit->Act->Tw->Prop}{a:Act}{w:Tw}(q:Tmp)(T:1<=n){gf:Nat}{lb:Array Tv}(Y:a.eval g=.func (.func gf) #[] lb)(O:∀args w,(callFunc gf args).run prog w=.ok (.enter gf args) w){B:Nat}{R:β->Array Tv->β->Prop}{M:β}{E:β->Prop}{k:List UInt8->Tw->Prop}{L:Tw->Prop}(s:aX (n-1) gf lb B R M E k L)(J:∀v X r o o',k v X->X.heap[r]? = some o->o.isCells=false->k v (X.putObj r o'))(m:∀b args e,R b args e->args.size=1)(y:B≠w.heap.size)(z:B≠w.heap.size+1)(I:β->Tw->Prop)(x:Code->Tw->Prop)(U:iM B w.heap.size I)(G:∀c,iM B w.heap.size (λ(_:Unit)=>x c))(P:I M w)(V:∀r,L ((w.alloc (.deferred (some []))).alloc (.loop r)))(d:∀(l:Nat)(v:Tv)(W:Tw)(K:Act->Tw->Prop),K { tmps:=(a.tmps.setIfInBounds p v).setIfInBounds q v,defers:=[] } W ->
   assign.wpIn (Fence.wide.inRound l) (n-1-1) prog (Exit.then K (λ_ _ _=>False)) { tmps:=a.tmps.setIfInBounds p v,defers:=[] } W)(f:∀(l:Nat)(b:β)(v:Tv)(e:β)(W:Tw)(t:List UInt8),w.heap.size<=l->R b #[v] e->I b W->k t W->body.wpIn (Fence.wide.inRound l) (n-1-1) prog (AA1 w.heap.size k t I x e W) { tmps:=(a.tmps.setIfInBounds p v).setIfInBounds q v,defers:=[] } W)(i:∀(D:Nat)(b:β)(W:Tw),w.heap.size<=D->E b->I b W->W.heap[D]? = some (.deferred (some []))->Q .normal { a with defers:={ target:=.collected D,args:=#[] } :: a.defers } W)(j:∀(D:Nat)(c:Code)(W:Tw),w.heap.size<=D->x c W->W.heap[D]? = some (.deferred (some []))->c.wpIn Fence.wide n prog Q { a with defers:={ target:=.collected D,args:=#[] } :: a.defers } W):
 (Code.rangeFunc g #[p] assign body).wpIn Fence.wide n prog Q a w:=by
 have one:∀args:Array Tv,args.size=1->∃v,args=#[v]:=λargs h=>by
  rcases args with⟨_|⟨v,_|⟨u,r⟩⟩⟩
  ·cases h
  ·exact⟨v,rfl⟩
  simp at h
 refine ADO T Y O s J m y z I x U G P V (λargs=>{ tmps:=(a.tmps.setIfInBounds p (args.getD 0 undef)).setIfInBounds q (args.getD 0 undef),defers:=[] }) ?_ ?_ i j
 ·intro l args W K hs hK
  obtain⟨v,rfl⟩:=one args hs;have:=d l v W K hK;simpa using this
 intro l b args e W t hl N hi hk;obtain⟨v,rfl⟩:=one args (m b args e N);exact f l b v e W t hl N hi hk
theorem G6{q i:Nat}(h:KeepsFrom n W Y)(d:q<n):KeepsFrom n W (Y.setCell ⟨q,i,none⟩ v) :=
 ⟨XH h.size (Aq Y q i v).size,λk o b c a=>((Aq Y q i v).block k (Ac (h.same k o b c a)) (λe=>by injection e with e;omega)).trans (h.same k o b c a)⟩
theorem Cg{b q i:Nat}{o:Obj}(h:Y.heap[b]? = some o)(a:b≠q):(Y.setCell ⟨q,i,none⟩ v).heap[b]? = some o :=
 ((Aq Y q i v).block b (Ac h) (λe=>by injection e with e;omega)).trans h
theorem Iq{base:Nat}{t:TypeId}{xs:List Tv}{b i:Nat}{u:Tv}(h:W.ownsRow base t z v n xs)(a:b<base):(W.setCell ⟨b,i,none⟩ u).ownsRow base t z v n xs :=
 Le (B:=b) h a (Aq W b i u) (λr e=>by injection e with e;exact .inl e.symm)
theorem Xa:∀{pre:List (List UInt8)}{M:List A5},Cp pre=some M->M.length=pre.length
 | [],M,h=>by simp only[Cp] at h;cases h;rfl
 | p :: pre,M,h=>by
   simp only[Cp] at h;cases hp:Co p with
   | none=>rw[hp] at h;cases h
   | some y=>
     rw[hp] at h;simp only[XS] at h;cases hr:Cp pre with
     | none=>rw[hr] at h;cases h
     | some N=>rw[hr] at h;cases h;simp[Xa hr]
theorem AHN(s p:List UInt8):(Lib.trimSuffix s p).length<=s.length:=by
 unfold Lib.trimSuffix;split
 ·rw[XR];omega
 exact XA _
theorem j8{base i:Nat}{t t':TypeId}{j:Nat}{v v':Tv}{n n':Nat}{xs X:List Tv}(h:W.ownsRow base t z v n xs)(d:W.ownsRow i t' j v' n' X)(b:t≠t')(f:W.grownBy Y v'.ownBlock):Y.ownsRow base t z v n xs :=
 Az h f (λk g e=>by obtain⟨c1,c⟩:=Ho h g;obtain⟨l,a⟩:=Ho d e;rw[c] at a;injection a with a;injection a with _ a;exact b a)
theorem j4{X:Tw}{base:Nat}{t:TypeId}{k:Nat}{xs:List Tv}(h:KeepsFrom n W X)(g:X.ownsRow base t z v k xs)(f:X.grownBy Y v.ownBlock):KeepsFrom n W Y :=
 ⟨XH h.size f.size,λj o b c a=>(f.block j (Ac (h.same j o b c a)) (λe=>by obtain⟨i,d⟩:=Ho g e.symm;rw[h.same j o b c a] at d;cases d;cases a)).trans (h.same j o b c a)⟩
theorem I2{b:Nat}{x:Tv}{t:TypeId}(h:W.heap[b]? = some (Zk #[x] t (0,0))):W.cell? ⟨b,0,none⟩=some x/\W.frozen? ⟨b,0,none⟩=false:=by constructor <;> simp[World.cell?,World.frozen?,h]
def dM(l:List UInt8)(w:World)(e:Ending)(b:World):Prop:=∃(tx:ByteArray)(f:Bool)(c:Option Addr)(a d:Nat)(ok:Bool),e=.returned (.tuple #[.agg #[.string tx,.bool f,.slice c a d],.bool ok])/\Zb w b/\((ok=true/\∃L:List Gx,Js l=some (tx,f,L.map (·.1))/\a=L.length/\b.ownsRow 0 129 6 (.slice c a d) L.length (Ci L)/\∀q∈L,pC 0 b q)\/(ok=false/\Js l=none))
theorem Pq(hP:S0)(s:Tb)(w:Tw)(hs:s.size<=1000000)(he:Ik w):Zc 76 #[Zt s] w (dM s.data.toList w):=by
 obtain⟨l,hl⟩:∃l,s.data.toList=l:=⟨_,rfl⟩;have cf:l.length<=1000000:=by rw[<-hl,Gm];exact hs
 rw[hl];have aj:=Aa (λW=>L5 s 10 W (by unfold maxLen;omega));rw[hl] at aj;have bn:=P1 10 l;have bb:=Ve 10 l
 have ap:Hid (∀W,Zc 119 #[Zt (bA (Ao 10 l).1),Zt ⟨#[32]⟩] W λe w'=>e=Zr (Zu #[Zt (bA (Ao 32 (Ao 10 l).1).1),Zt (bA (Aw (Ao 10 l).1)),Zo (Ao 32 (Ao 10 l).1).2.2])/\Below W.heap.size W w'):=Aa (λW=>by have:=L5 (bA (Ao 10 l).1) 32 W (by unfold maxLen;omega);rw[B5] at this;exact this)
 have b3:=Gi (Ao 10 l).1
 have aq:Hid (∀W,Zc 119 #[Zt (bA (Aw (Ao 10 l).1)),Zt ⟨#[32]⟩] W λe w'=>e=Zr (Zu #[Zt (bA (Ao 32 (Aw (Ao 10 l).1)).1),Zt (bA (Ao 32 (Aw (Ao 10 l).1)).2.1),Zo (Ao 32 (Aw (Ao 10 l).1)).2.2])/\Below W.heap.size W w'):=Aa (λW=>by have:=L5 (bA (Aw (Ao 10 l).1)) 32 W (by rw[Cz] at bn ⊢;unfold maxLen;omega);rw[B5] at this;exact this)
 have am:Hid (Js l=(Cp (Dp (Ao 10 l).2.1)).map λx=>(bA (Ao 32 (Aw (Ao 10 l).1)).1,decide ((Ao 32 (Aw (Ao 10 l).1)).2.1=gX),x)):=Aa rfl;have ax:=Aa (Ky (Ao 32 (Aw (Ao 10 l).1)).2.1);rw[Cz] at bb
 have av:Hid (∀(a:List UInt8)W,a.length<=1000000->Below w.heap.size w W->Zc 121 #[Zt (bA a)] W (AA3 a W)):=Aa (λa W ha hW=>by have:=eE hP (bA a) W (by rw[Cz];exact ha) (he.below hW);rw[B5] at this;exact this)
 clear he hl hs hP bn b3;generalize Ao 32 (Aw (Ao 10 l).1)=c3 at *;generalize (Ao 32 (Ao 10 l).1).1=bv at *;generalize (Ao 32 (Ao 10 l).1).2.2=z2 at *;generalize bA (Aw (Ao 10 l).1)=r2 at *;generalize Ao 10 l=c1 at *;obtain⟨hd,t0,z1⟩:=c1;obtain⟨b7,ao,z3⟩:=c3;simp only at aj ap aq am ax bb;generalize bA hd=xh at *;generalize bA bv=cg at *;have b5:t0.length<=1000000:=by omega
 generalize bm:bA t0=rs at *;have aw:=Aa bm;generalize bA b7=tx at *;have bl:((bA ao).toList==[114,101,97,100,115])=decide (ao=gX):=by rw[ax.o];exact ABi _ _
 have ar:=Aa bl;generalize bA ao=xw at *;generalize decide (ao=gX)=rd at *;clear bl ax bm bb;obtain⟨z0,bp,bq,br⟩:=C1 w (Zk #[Zt ⟨#[]⟩,Zo false,Zs none 0 0] 63) (Zk #[Zo false] 4);have Z0:=Aa z0;have Z1:=Aa bp;have Z2:=Aa bq;have Z3:=Aa br;clear z0 bp bq br;refine(callsIn_wide (n:=5)).1 ?_;refine callsIn_of_wp_marks func76 rfl trivial ?_ rfl;simp only[ntmps76,XV,XC,XJ,Nat.reduceAdd,Nat.reduceSub,XN,XO,XW,XQ,XU,XI]
 gi_wp2_with (first
  | (refine⟨trivial,?_⟩;gi_at_call_has 119 (Zt s);refine(callsIn_wide.2 (aj.o _)).mono ?_;rintro e w2⟨rfl,ay⟩)
  | (refine⟨trivial,?_⟩;gi_at_call_has 119 (Zt xh);refine(callsIn_wide.2 (ap.o _)).mono ?_;rintro e w3⟨rfl,az⟩)
  | (refine⟨trivial,?_⟩;gi_at_call_has 119 (Zt r2);refine(callsIn_wide.2 (aq.o _)).mono ?_;rintro e g⟨rfl,a0⟩)
  | (refine⟨trivial,?_⟩;gi_at_call 120;refine(callsIn_wide.2 (ADX _ _)).mono ?_;rintro e w5⟨rfl,rfl⟩))
 rename_i K0 hK0;simp only[ar.o];have ah:Below w.heap.size w g:=Below.Ap (Below.Ap (Below.Ap Z3.o ay) az) a0;have ae:=Below.Ap (Below.Ap ay az) a0;have cd:w.heap.size+2<=g.heap.size:=by have:=ae.size;rw[Z0.o] at this;exact this
 have ai:g.heap[w.heap.size]? = some (Zk #[Zt ⟨#[]⟩,Zo false,Zs none 0 0] 63 (0,0)):=(ae.block _ (by rw[Z0.o];omega)).trans Z1.o;have a6:g.heap[w.heap.size+1]? = some (Zk #[Zo false] 4 (0,0)):=(ae.block _ (by rw[Z0.o];omega)).trans Z2.o;clear ae ay az a0 Z0 Z1 Z2 Z3 aj ap aq;obtain⟨y0,y1,y2,y3⟩:=C1 g (Zk #[Zt tx,Zo rd,Zs none 0 0] 63) (Zk #[Zt rs] 9);refine dL 14 (by decide) rfl (λ_ _=>rfl) (AAH 4 (g.heap.size+1) (by decide) t0 b5) (λv X r o o' h ho hc=>iN.kept h ho hc) (λb args b'⟨_,_,_,h,_⟩=>by rw[h];rfl) (by simp) (by simp) (λpre W=>∃L V ac,RdI w g.heap.size (g.heap.size+2) tx rd pre W L V ac) (λc W=>c=.ret/\RdX w t0 W) ?ab ?abx ?h0 ?hT ?hassign ?hbody ?hdone ?hstop
 case ab=>rintro pre X Y row⟨L,V,ac,hI⟩hg hr;exact⟨L,V,ac,hI.free (Nat.lt_succ_self _) (by omega) (by omega) hg (λr e=>(hr r e).imp id (λh=>⟨by have:=h.1;rw[y0] at this;omega,h.2⟩))⟩
 case abx=>rintro c b X Y row⟨hc,hX⟩hg hr;exact⟨hc,hX.free (by omega) hg (λr e=>(hr r e).imp id (λh=>⟨by have:=h.1;rw[y0] at this;omega,h.2⟩))⟩
 case h0=>refine⟨[],none,0,y1,rfl,?_,(λq hq=>by cases hq),(y3.block _ (by omega)).trans ai,(y3.block _ (by omega)).trans a6,Below.Ap ah y3⟩;exact⟨rfl,.inl ⟨rfl,rfl⟩⟩
 case hT=>intro r;unfold iN;rw[XY _ _ _ (by simp),XY _ _ _ (by simp),y2,<-aw.o]
 case hassign=>intro l v W K hK;gi_wp2;exact hK
 case hbody=>
  rintro l pre v ce W t hl⟨a,bo,t',hv,bj,a8,b4,rfl⟩⟨L,V,ac,hI⟩hk;cases hv;clear ai a6 y1 y2 y3 ah
  have HT:Hid (∀W,Zc 122 #[Zt (bA bo),Zt ⟨#[10]⟩] W λe w'=>e=Zr (Zt (bA a))/\w'=W):=Aa (λW=>by have:=strings_TrimSuffix (bA bo) ⟨#[10]⟩ W (by rw[Cz];omega);rw[B5] at this;refine this.mono ?_;rintro e w'⟨rfl,rfl⟩;refine⟨?_,rfl⟩;rw[<-a8];rfl)
  have b2:a.length<=1000000:=by rw[<-a8];exact XH (AHN _ _) b4
  have HR:=Aa (av.o a W b2 hI.low);have d:=Aa hI;have HK:=Aa hk;have HL:=Aa bj;clear hI hk bj a8 av am ar aw;cases hra:Co a with
  | none=>
    have au:Hid (Zc 121 #[Zt (bA a)] W λe w'=>∃(k:Int)(p:Tb)(r:Int)(N:To)(P O:Nat)(G:To)(J I:Nat)(T:Int),e=Zr (Zu #[Zg #[Zi k,Zt p,Zi r,Zs N P O,Zs G J I,Zi T],Zo false])/\Below W.heap.size W w'):=Aa (HR.o.mono (by
     rintro e w'⟨k,p,r,N,P,O,G,J,I,T,ok,rfl,hb,⟨_,M,C,h,_⟩|⟨rfl,_⟩⟩
     ·rw[hra] at h;cases h
     exact⟨k,p,r,N,P,O,G,J,I,T,rfl,hb⟩))
    have HN:Hid (Cp (Dp t0)=none):=Aa (by rw[HL.o];exact Sz hra);clear HR hra HL
    gi_wp2_with (first
     | (refine⟨trivial,?_⟩;gi_at_call 122;refine(callsIn_wide.2 (HT.o _)).mono ?_;rintro e w6⟨rfl,rfl⟩)
     | (refine⟨trivial,?_⟩;gi_at_call 121;refine(callsIn_wide.2 au.o).mono ?_;rintro e w7⟨k,p,r,N,P,O,G,J,I,T,rfl,R⟩
        have ag:Hid (Below w6.heap.size w6 (w7.alloc (Zk #[Zi k,Zt p,Zi r,Zs N P O,Zs G J I,Zi T] 129))):=Aa (R.alloc R.size _);have an:=Aa ((ag.o.block _ (Ac d.o.res)).trans d.o.res);have bc:=Aa ((ag.o.block _ (Ac d.o.ok)).trans d.o.ok);obtain⟨x0,x1,x2,xf⟩:=Db an.o;have xb:=I2 bc.o;clear R))
    rw[y0];refine⟨G6 (G6 (G6 (G6 (Ie ag.o) (by omega)) (by omega)) (by omega)) (by omega),rfl,HN.o,?_,?_,?_⟩
    ·exact Cg (pF _ _ _ _ _ _ _ _ _ an.o) (by omega)
    ·exact As _ _ 0 _ _ _ (Cg (Cg (Cg bc.o (by omega)) (by omega)) (by omega))
    exact(Fi (Below.Ap d.o.low ag.o) (XA _) _ _ _).setCell (p:=⟨w.heap.size+1,0,none⟩) (XB _) _
  | some x=>
    obtain⟨k,p,r,M,C,T⟩:=x
    have au:Hid (Zc 121 #[Zt (bA a)] W λe w'=>∃(N:To)(P O:Nat)(G:To)(J I:Nat),e=Zr (Zu #[Zg #[Zi k,Zt p,Zi r,Zs N P O,Zs G J I,Zi T],Zo true])/\Below W.heap.size W w'/\w'.ownsRow W.heap.size 3 1 (Zs N P O) M.length (M.map (.int .i64))/\w'.ownsRow W.heap.size 72 7 (Zs G J I) C.length (Av C)):=Aa (HR.o.mono (by
     rintro e w'⟨k,p,r,N,P,O,G,J,I,T,ok,rfl,hb,⟨rfl,M,C,h,h1,h2⟩|⟨_,h⟩⟩
     ·rw[hra] at h;cases h;exact⟨N,P,O,G,J,I,rfl,hb,h1,h2⟩
     rw[hra] at h;cases h))
    have HN:=Aa (Uy d.o.Bz hra)
    have hlen:L.length<=1000000:=by have h1:=Xa d.o.Bz;have h2:=eX _ t0 (XA _);rw[HL.o] at h2;simp only[XG,XE,XC] at h1 h2;omega
    obtain⟨iA,bi,a2⟩:=Option.map_eq_some_iff.1 gO;simp only[Prod.mk.injEq] at a2;have al:=Aa (And.intro bi a2);clear HR hra HL bi a2
    gi_wp2_with (first
     | (refine⟨trivial,?_⟩;gi_at_call 122;refine(callsIn_wide.2 (HT.o _)).mono ?_;rintro e w6⟨rfl,rfl⟩)
     | (refine⟨trivial,?_⟩;gi_at_call 121;refine(callsIn_wide.2 au.o).mono ?_;rintro e w7⟨N,P,O,G,J,I,rfl,R,bk,bh⟩
        have bt:=Aa bk;have bs:=Aa bh;have f:=Aa R;have ag:Hid (Below w6.heap.size w6 (w7.alloc (Zk #[Zi k,Zt p,Zi r,Zs N P O,Zs G J I,Zi T] 129))):=Aa (R.alloc R.size _);have an:=Aa ((ag.o.block _ (Ac d.o.box)).trans d.o.box);obtain⟨x0,x1,x2,xf⟩:=Db an.o;have y:Hid (Below w7.heap.size w7 ((w7.alloc (Zk #[Zi k,Zt p,Zi r,Zs N P O,Zs G J I,Zi T] 129)).alloc (Zk #[Zi k,Zt p,Zi r,Zs N P O,Zs G J I,Zi T] 129))):=Aa ((Zal).alloc (by rw[XL];exact XB _) _);have m:=Aa (Bc (Bc d.o.row f.o) y.o);have U:Hid (g.heap.size+2<=w6.heap.size):=Aa (Ac HK.o);clear R bk bh)
     | (gi_at_builtin;refine wpListIn_append_own _ rfl _ _ 61 rfl (g.heap.size+2) 129 iA Mi 6 88 underlying61 al.o.1 al.o.2.1 al.o.2.2.1 al.o.2.2.2 rfl (by decide) (.slice V L.length ac) L.length (Ci L) rfl m.o ⟨w7.heap.size+1,0,none⟩ 1 1 (nU ((k,p,r,M,C,T),(N,P,O),(G,J,I))) rfl rfl (λj u hj=>XP (by rw[<-XL w7 (.cells #[Zi k,.string p,Zi r,.slice N P O,.slice G J I,Zi T] 129)];exact Yac _ _) j u hj) (by intro u hu;simp[nU] at hu;rcases hu with rfl|rfl|rfl|rfl|rfl|rfl <;> rfl) (by unfold maxLen;omega) (by omega) (XH U.o (XH f.o.size y.o.size)) ?_
        intro v1 w9 ad a1 _;obtain⟨a',c',rfl⟩:=AAN ad;have bu:=Aa ad;have ak:=Aa a1;have bd:=Aa ((a1.block g.heap.size (Ya (Ac d.o.box) (XH f.o.size y.o.size)) (λe=>by have:=Fu m.o e.symm;omega)).trans ((y.o.block _ (Ya (Ac d.o.box) f.o.size)).trans ((f.o.block _ (Ac d.o.box)).trans d.o.box)));obtain⟨b8,b9,cb,yf⟩:=Db bd.o;clear ad a1))
    clear b8 b9 cb yf x0 x1 x2 xf
    have a9:∀{b:Nat}{cs:Array Tv}{t:TypeId},w6.heap[b]? = some (Zk cs t (0,0))->b<g.heap.size+2->b≠g.heap.size->(w9.setCell ⟨g.heap.size,2,none⟩ (Zs a' (L.length+1) c')).heap[b]? = some (Zk cs t (0,0)):=λh hb a4=>Cg ((ak.o.block _ (Ya (Ac h) (XH f.o.size y.o.size)) (λe=>by have:=Fu m.o e.symm;omega)).trans ((y.o.block _ (Ya (Ac h) f.o.size)).trans ((f.o.block _ (Ac h)).trans h))) a4
    have af:∀{t:TypeId}{z:Nat}{v:Tv}{n:Nat}{xs:List Tv},w7.ownsRow (g.heap.size+2) t z v n xs->t≠129->(w9.setCell ⟨g.heap.size,2,none⟩ (Zs a' (L.length+1) c')).ownsRow (g.heap.size+2) t z v n xs:=λh a4=>Iq (j8 (Bc h y.o) m.o a4 ak.o) (by omega)
    rw[y0];refine⟨G6 (j4 (Ie (Below.Ap f.o y.o)) m.o ak.o) (by omega),⟨L++[((k,p,r,M,C,T),(N,P,O),(G,J,I))],a',c',?_,?_,?_,?_,?_,?_,?_⟩,?_⟩
    ·rw[XE]
     exact As w9 g.heap.size 2 _ _ _ bd.o
    ·rw[HN.o,XM];rfl
    ·rw[XE]
     have:=Iq (b:=g.heap.size) (i:=2) (u:=Zs a' (L.length+1) c') bu.o (by omega);have e:Ci (L++[((k,p,r,M,C,T),(N,P,O),(G,J,I))])=Ci L++nU ((k,p,r,M,C,T),(N,P,O),(G,J,I)):=by simp[Ci]
     rw[e];exact this
    ·intro q hq
     rcases List.mem_append.1 hq with hq|hq
     ·exact⟨af (Bc (d.o.own q hq).1 f.o) (by decide),af (Bc (d.o.own q hq).2 f.o) (by decide)⟩
     obtain rfl:=List.mem_singleton.1 hq;exact⟨af (G1 bt.o U.o) (by decide),af (G1 bs.o U.o) (by decide)⟩
    ·exact a9 d.o.res (by omega) (by omega)
    ·exact a9 d.o.ok (by omega) (by omega)
    ·have h1:=Below.Ap d.o.low (Below.Ap f.o y.o)
     exact(h1.grown ak.o h1.size (λj hj=>by have:=Fu m.o hj;omega)).setCell (p:=⟨g.heap.size,2,none⟩) (by show w.heap.size<=g.heap.size;omega) _
    exact a9 HK.o (by omega) (by omega)
 case hdone=>
  rintro D pre W hD rfl⟨L,V,ac,hI⟩hd;rw[y0] at hD;clear y0 y1 y2 y3 ai a6 av aw ar ah;refine hK0 _ _ ?_;clear hK0;obtain⟨x0,x1,x2,xf⟩:=Db hI.box;obtain⟨r0,r1,b6,rf⟩:=Db hI.res;obtain⟨o0,of⟩:=I2 hI.ok;have d:=Aa hI;have HD:=Aa hd;clear hI hd;gi_wp2;clear x0 x1 x2 xf r0 r1 b6 rf o0 of;have bw:=pF W w.heap.size _ _ _ (Zt tx) (Zo rd) (Zs V L.length ac) _ d.o.res;have bx:(aL W w.heap.size (Zt tx) (Zo rd) (Zs V L.length ac)).heap[w.heap.size+1]? = _:=Cg (Cg (Cg d.o.ok (by omega)) (by omega)) (by omega);have bz:=Cg (q:=w.heap.size+1) (i:=0) (v:=Zo true) bw (by omega);have b0:=As _ (w.heap.size+1) 0 _ _ (Zo true) bx;have bf:((aL W w.heap.size (Zt tx) (Zo rd) (Zs V L.length ac)).setCell ⟨w.heap.size+1,0,none⟩ (Zo true)).heap[D]? = _:=Cg (Cg (Cg (Cg HD.o (by omega)) (by omega)) (by omega)) (by omega);have bg:Below w.heap.size w ((aL W w.heap.size (Zt tx) (Zo rd) (Zs V L.length ac)).setCell ⟨w.heap.size+1,0,none⟩ (Zo true)):=(Fi d.o.low (XA _) _ _ _).setCell (p:=⟨w.heap.size+1,0,none⟩) (XB _) _;have b1:∀{t:TypeId}{z:Nat}{v:Tv}{n:Nat}{xs:List Tv},W.ownsRow (g.heap.size+2) t z v n xs->((aL W w.heap.size (Zt tx) (Zo rd) (Zs V L.length ac)).setCell ⟨w.heap.size+1,0,none⟩ (Zo true)).ownsRow (g.heap.size+2) t z v n xs:=λh=>Iq (Iq (Iq (Iq h (by omega)) (by omega)) (by omega)) (by omega)
  change LeavesInM _ _ _ _ _ _ _ _ ((aL W w.heap.size (Zt tx) (Zo rd) (Zs V L.length ac)).setCell ⟨w.heap.size+1,0,none⟩ (Zo true))
  generalize (aL W w.heap.size (Zt tx) (Zo rd) (Zs V L.length ac)).setCell ⟨w.heap.size+1,0,none⟩ (Zo true)=X at *;refine⟨by simp,.inl ⟨_,_,rfl,run_takeDeferred bf,?_⟩⟩;have a7:(X.putObj D (.deferred none)).heap[w.heap.size]? = _:=(Y' (by omega)).trans bz;have a5:(X.putObj D (.deferred none)).heap[w.heap.size+1]? = _:=(Y' (by omega)).trans b0;have a3:Below w.heap.size w (X.putObj D (.deferred none)):=bg.grown (grownBy_putObj' X D _) bg.size (λj hj=>by injection hj with hj;omega);have ba:∀{t:TypeId}{z:Nat}{v:Tv}{n:Nat}{xs:List Tv},W.ownsRow (g.heap.size+2) t z v n xs->(X.putObj D (.deferred none)).ownsRow 0 t z v n xs:=λh=>G1 (Le (B:=w.heap.size) (b1 h) (by omega) (grownBy_putObj' X D _) (λr e=>by injection e with e;subst e;exact .inr ⟨_,bf,rfl⟩)) (X2 _)
  generalize X.putObj D (.deferred none)=W9 at *;obtain⟨x0,x1,x2,_⟩:=Db a7;obtain⟨xb,_⟩:=I2 a5;refine⟨Zu #[Zg #[Zt tx,Zo rd,Zs V L.length ac],Zo true],?_,tx,rd,V,L.length,ac,true,rfl,a3,.inl ⟨rfl,L,by rw[am.o,d.o.Bz];rfl,rfl,ba d.o.row,λq hq=>⟨ba (d.o.own q hq).1,ba (d.o.own q hq).2⟩⟩⟩;simp[results,f76,go_sem,x0,x1,x2,xb]
 case hstop=>rintro D c W hD⟨rfl,hX⟩hd;gi_wp2;rw[y0] at hD;refine⟨by simp,.inl ⟨_,_,rfl,run_takeDeferred hd,?_⟩⟩;have a7:(W.putObj D (.deferred none)).heap[w.heap.size]? = _:=(Y' (by omega)).trans hX.res;have a5:(W.putObj D (.deferred none)).heap[w.heap.size+1]? = _:=(Y' (by omega)).trans hX.ok;have a3:Below w.heap.size w (W.putObj D (.deferred none)):=hX.low.grown (grownBy_putObj' W D _) hX.low.size (λj hj=>by injection hj with hj;omega);generalize W.putObj D (.deferred none)=W9 at *;obtain⟨x0,x1,x2,_⟩:=Db a7;obtain⟨xb,_⟩:=I2 a5;refine⟨Zu #[Zg #[Zt ⟨#[]⟩,Zo false,Zs none 0 0],Zo false],?_,⟨#[]⟩,false,none,0,0,false,rfl,a3,.inr ⟨rfl,by rw[am.o,hX.bad];rfl⟩⟩;clear hK0;simp[results,f76,go_sem,x0,x1,x2,xb]
attribute [local go_sem] Oper.semAt_some
theorem AB5(s sep:Tb)(w:Tw):
 Zc 298 #[Zt s,Zt sep,Zi 0] w λe a=>e=Zr (.func (.func 319) #[] #[Zp (some ⟨w.heap.size+1,0,none⟩),Zp (some ⟨w.heap.size,0,none⟩),Zp (some ⟨w.heap.size+2,0,none⟩)])/\a=((w.alloc (Zk #[Zt s] 9)).alloc (Zk #[Zt sep] 9)).alloc (Zk #[Zi 0] 3):=by
 go_enter func298,ntmps298;go_wp2;go_ret;exact⟨rfl,rfl⟩
theorem ACE(s sep:Tb)(w:Tw):
 Zc 263 #[Zt s,Zt sep] w λe a=>e=Zr (.func (.func 319) #[] #[Zp (some ⟨w.heap.size+1,0,none⟩),Zp (some ⟨w.heap.size,0,none⟩),Zp (some ⟨w.heap.size+2,0,none⟩)])/\a=((w.alloc (Zk #[Zt s] 9)).alloc (Zk #[Zt sep] 9)).alloc (Zk #[Zi 0] 3):=by
 go_enter func263,ntmps263;go_wp2_with (go_at_call 298;refine(AB5 _ _ _).mono ?_;rintro e b⟨rfl,rfl⟩);go_ret;exact⟨rfl,rfl⟩
structure pI(B:Nat)(r:List UInt8)(w:World):Prop where
 Gw:iN B r w
 sep:iN (B+1) [44] w
 save:w.heap[B+2]? = some (.cells #[Zi 0] 3 (0,0))
theorem pI.put{B:Nat}{r:List UInt8}{w:Tw}(h:pI B r w)(q:List UInt8):pI B q (w.setCell ⟨B,0,none⟩ (Zt (bA q))) :=
 ⟨h.Gw.put q,Cg h.sep (by omega),Cg h.save (by omega)⟩
theorem ABy(n:Nat)(_hn:1<=n)(l B:Nat)(h:List UInt8)(hlen:h.length<=1000000)(I:List (List UInt8)->Tw->Prop)(O:Tw->Prop)(G:∀pre W v,I pre W->I pre (W.setCell ⟨B,0,none⟩ v))(V:∀pre a W v,(∃t,Dd 44 h=pre++a :: t)->a.length<=1000000->I pre W->pI B v W->YieldAt Fence.wide (n-1) prog l #[Zt (bA a)] W λe p=>
   (e=Zr (Zo true)/\I (pre++[a]) p/\pI B v p)\/(e=Zr (Zo false)/\O p))(W:Tw)(U:pI B h W)(h0:I [] W):
 CallsIn Fence.wide n prog 319 #[.func (.yield l) #[] #[],Zp (some ⟨B+1,0,none⟩),Zp (some ⟨B,0,none⟩),Zp (some ⟨B+2,0,none⟩)] W λe p=>(∃v,e=Zr v)/\(I (Dd 44 h) p\/O p):=by
 refine callsIn_of_wp func319 rfl trivial ?_ rfl;simp only[ntmps319,XV,XC,XJ,Nat.reduceAdd,Nat.reduceSub,XN,XO,XW,XQ,XU,XI];have L:W.cell? ⟨B+1,0,none⟩=some (Zt ⟨#[44]⟩):=U.sep.cell;gi_wp2;clear L
 gi_loopw [7,8] (λ_ _ wr=>∃(pre:List (List UInt8))(r:List UInt8),Hid (Dd 44 h=pre++Dd 44 r)/\r.length<=1000000/\Hid (I pre wr)/\Hid (pI B r wr)) (λ_ _ wr=>mV B wr)
 case atStart=>exact⟨[],h,Aa rfl,hlen,Aa h0,Aa U⟩
 case round=>
  obtain⟨pre,r,x,hr,N,o⟩:=hrel;have hc:=o.o.Gw.cell;have hf:=o.o.Gw.frozen;have aa:wr.cell? ⟨B+1,0,none⟩=some (Zt ⟨#[44]⟩):=o.o.sep.cell;have ab:=(I2 o.o.save).1;have M:(bA r).size=r.length:=Cz;have J:=Mt hc;have f:=Aa (λW=>strings_Index_one (bA r) 44 W);rw[B5] at f
  rcases O3 r 44 with k|⟨i,k⟩
  ·have b:=Np k
   rw[k] at f;have c:Dd 44 r=[r]:=by rw[Dd,dif_neg (by rw[b];simp)]
   obtain⟨Y,tmps,assign,body,X,u⟩:=V pre r wr r ⟨[],by rw[x.o,c]⟩ hr N.o o.o;have D:=Aa u;have j:Hid (Dd 44 h=pre++[r]):=Aa (by rw[x.o,c]);clear k b c u;gi_wp2_with (refine⟨trivial,?_⟩;gi_at_call 321;refine(callsIn_wide.2 (f.o _)).mono ?_;rintro e w1⟨rfl,rfl⟩);refine D.o.mono ?_;rintro e P (⟨rfl,g,d⟩|⟨rfl,m⟩)
   ·gi_wp2
    go_end0
    refine⟨⟨_,rfl⟩,.inl ?_⟩;rw[j.o];exact g
   gi_wp2
   go_end0
   exact⟨⟨_,rfl⟩,.inr m⟩
  obtain⟨b,w⟩:=J0 k;rw[k] at f;have R:bA (r.take i)=(bA r).extract 0 i:=by rw[extract_eq,B5];simp[bA]
  have T:bA (r.drop (i+1))=(bA r).extract (i+1) (bA r).size:=by rw[extract_eq,B5,Yd (by rw[XK,Cz];exact XA _)];rfl
  have c:Dd 44 r=r.take i :: Dd 44 (r.drop (i+1)):=by rw[Dd,dif_pos (by rw[b]),b]
  obtain⟨Y,tmps,assign,body,X,u⟩:=V pre (r.take i) wr r ⟨_,by rw[x.o,c]⟩ (by rw[XR];omega) N.o o.o;rw[R] at X;have D:=Aa u;have j:Hid (Dd 44 h=(pre++[r.take i])++Dd 44 (r.drop (i+1))):=Aa (by rw[x.o,c];simp);have q:=Aa T;have z:=Aa w;have c1:(0:Int)<=(i:Int):=by omega
  have c0:(i:Int)<=1000000:=by omega
  have c3:(0:Int)<=(i:Int)+1:=by omega
  have c4:(i:Int)+1<=((bA r).size:Int):=by omega
  have c5:(i:Int)<=((bA r).size:Int):=by omega
  clear k b c u R T w M;gi_wp2_with (refine⟨trivial,?_⟩;gi_at_call 321;refine(callsIn_wide.2 (f.o _)).mono ?_;rintro e w1⟨rfl,rfl⟩);refine D.o.mono ?_;rintro e P (⟨rfl,g,d⟩|⟨rfl,m⟩)
  ·have y:=Aa g
   have s:=Aa d;have d1:=d.Gw.cell;have d2:P.cell? ⟨B+1,0,none⟩=some (Zt ⟨#[44]⟩):=d.sep.cell;have d3:=d.Gw.frozen;clear g d;gi_wp2
   go_roundw
   case rel=>
    refine⟨pre++[r.take i],r.drop (i+1),j,by rw[XK];omega,Aa ?_,Aa ?_⟩
    ·exact G _ _ _ y.o
    rw[<-q.o];exact s.o.put _
   case measure=>rw[<-q.o,Mt (s.o.put _).Gw.cell,J,XK];have:=z.o;omega
  gi_wp2;refine bodyPost_ret (results_none rfl _ _ _) rfl ?_;exact⟨⟨_,rfl⟩,.inr m⟩
theorem pI.kept{B:Nat}{r:List UInt8}{X:Tw}{q:Nat}{o c:Obj}(h:pI B r X)(a:X.heap[q]? = some o)(b:o.isCells=false):pI B r (X.putObj q c):=by refine⟨h.Gw.kept a b,h.sep.kept a b,(Y' (λe=>?_)).trans h.save⟩;subst e;rw[h.save] at a;cases a;cases b
theorem yO(m B:Nat)(o:1<=m)(c:List UInt8)(hlen:c.length<=1000000):
 aX m 319 #[Zp (some ⟨B+1,0,none⟩),Zp (some ⟨B,0,none⟩),Zp (some ⟨B+2,0,none⟩)] B (λ(pre:List (List UInt8))args b=>∃a t,args=#[Zt (bA a)]/\Dd 44 c=pre++a :: t/\a.length<=1000000/\b=pre++[a]) [] (λpre=>pre=Dd 44 c) (pI B) (pI B c):=by
 intro l J f W i j n k g;refine(ABy m o l B c hlen J f (λpre W v h=>i.set h v) (λpre a W1 v ht hl hj d=>by obtain⟨t,ht⟩:=ht;exact n pre _ (pre++[a]) W1 v ⟨a,t,rfl,ht,hl,rfl⟩ hj d) W k g).mono ?_;rintro e p⟨d,h|h⟩
 ·exact⟨d,.inl ⟨_,rfl,h⟩⟩
 exact⟨d,.inr h⟩
def dN{β γ:Type}(m gf:Nat)(lb:Array Value)(B:Nat)(R:β->Array Value->β->Prop)(i:β)(E:β->Prop)(d:γ->World->Prop)(h:World->Prop):Prop :=
 ∀(l:Nat)(J:β->World->Prop)(c:World->Prop)(W:World),iM B W.heap.size J->iM B W.heap.size (λ(_:Unit)=>c) ->
  (∀b args g f v,R b args g->J b f->d v f->YieldAt Fence.wide (m-1) prog l args f λe a=>(e=.returned (.bool true)/\J g a/\d v a)\/(e=.returned (.bool false)/\c a/\d v a)) ->
  h W->J i W->CallsIn Fence.wide m prog gf (#[.func (.yield l) #[] #[]]++lb) W λe a=>(∃v,e=.returned v)/\((∃b,E b/\J b a)\/c a)
def uD{β γ:Type}(w0:Nat)(a:γ->World->Prop)(v:γ)(I:β->World->Prop)(b:Code->World->Prop)(c:β)(W:World):Exit->Act->World->Prop
 | .normal,_,W'=>KeepsFrom w0 W W'/\I c W'/\a v W'
 | .ret,_,W'=>KeepsFrom w0 W W'/\b .ret W'/\a v W'
 | _,_,_=>False
theorem zQ{β γ:Type}{g:Operand}{ps:Array Tmp}{assign body:Code}{Q:Exit->Act->Tw->Prop}{a:Act}{w:Tw}{n:Nat}(h1:1<=n){gf:Nat}{lb:Array Tv}(hg:a.eval g=.func (.func gf) #[] lb)(eg:∀args w,(callFunc gf args).run prog w=.ok (.enter gf args) w){B:Nat}{R:β->Array Tv->β->Prop}{b0:β}{E:β->Prop}{Kp:γ->Tw->Prop}{T0:Tw->Prop}(ag:dN (n-1) gf lb B R b0 E Kp T0)(N:∀v X o o',Kp v X->X.heap[w.heap.size+1]? = some o->o.isCells=false->Kp v (X.putObj (w.heap.size+1) o'))(af:∀b args L,R b args L->args.size=ps.size)(ap:B≠w.heap.size)(aq:B≠w.heap.size+1)(I:β->Tw->Prop)(Ix:Code->Tw->Prop)(hI:iM B w.heap.size I)(M:∀c,iM B w.heap.size (λ(_:Unit)=>Ix c))(h0:I b0 w)(hT:∀r,T0 ((w.alloc (.deferred (some []))).alloc (.loop r)))(a1:Array Tv->Act)(z:∀(l:Nat)(args:Array Tv)(W:Tw)(K:Act->Tw->Prop),args.size=ps.size->K (a1 args) W ->
   assign.wpIn (Fence.wide.inRound l) (n-1-1) prog (Exit.then K (λ_ _ _=>False)) { tmps:=(ps.zip args).foldl (λt(p,v)=>t.setIfInBounds p v) a.tmps,defers:=[] } W)(O:∀(l:Nat)(b:β)(args:Array Tv)(L:β)(W:Tw)(v:γ),w.heap.size<=l->R b args L->I b W->Kp v W->body.wpIn (Fence.wide.inRound l) (n-1-1) prog (uD w.heap.size Kp v I Ix L W) (a1 args) W)(T:∀(D:Nat)(b:β)(W:Tw),w.heap.size<=D->E b->I b W->W.heap[D]? = some (.deferred (some []))->Q .normal { a with defers:={ target:=.collected D,args:=#[] } :: a.defers } W)(ab:∀(D:Nat)(c:Code)(W:Tw),w.heap.size<=D->Ix c W->W.heap[D]? = some (.deferred (some []))->c.wpIn Fence.wide n prog Q { a with defers:={ target:=.collected D,args:=#[] } :: a.defers } W):
 (Code.rangeFunc g ps assign body).wpIn Fence.wide n prog Q a w:=by
 refine wpIn_rangeFunc λfn al=>?_
 obtain⟨d,f⟩:∃d:LoopState->Option Code->Loop,d=λst pe=>{ state:=st,pending:=pe,fn,tmps:=a.tmps,params:=ps,assign,body,defers:=w.heap.size }:=⟨_,rfl⟩
 obtain⟨u,x⟩:∃u,(w.alloc (.deferred (some []))).alloc (.loop (d .ready none))=u:=⟨_,rfl⟩;have ar:u.heap.size=w.heap.size+2:=by rw[<-x];simp
 have aj:u.heap[w.heap.size+1]? = some (.loop (d .ready none)):=by rw[<-x];have:=XX (w.alloc (.deferred (some []))) (.loop (d .ready none));rwa[XL] at this
 have ai:u.heap[w.heap.size]? = some (.deferred (some [])):=by rw[<-x];exact(XY _ _ _ (by simp)).trans (XX w _)
 have ah:I b0 u:=by rw[<-x];exact hI.alloc (hI.alloc h0 _) _
 have ak:T0 u:=by rw[<-x];exact hT _
 have m:∀{X Y:Tw}{row:Option Nat}(k:Nat)(o:Obj),k<w.heap.size+2->w.heap.size<=k->X.heap[k]? = some o->X.grownBy Y row->(∀r,row=some r->r=B\/(u.heap.size<=r/\∃o:Obj,X.heap[r]? = some o/\o.isCells=false))->Y.heap[k]? = some o:=by
  intro X Y row k o hk ae ho j s;refine(j.block k (Ac ho) (λe=>?_)).trans ho
  rcases s k e.symm with h|⟨h,_⟩
  ·omega
  omega
 have lift:∀{X:Tw}{row:Option Nat},(∀r,row=some r->r=B\/(u.heap.size<=r/\∃o:Obj,X.heap[r]? = some o/\o.isCells=false))->∀r,row=some r->r=B\/(w.heap.size<=r/\∃o:Obj,X.heap[r]? = some o/\o.isCells=false) :=
  λs r e=>(s r e).imp id (λ⟨q,o⟩=>⟨by omega,o⟩)
 refine⟨w.heap.size+1,[{ target:=.collected w.heap.size,args:=#[] }],u,{ target:=.fn (.func gf) lb,args:=#[.func (.yield (w.heap.size+1)) #[] #[]] },u,gf,
  #[.func (.yield (w.heap.size+1)) #[] #[]]++lb,u,?_,?_,λ_ _=>trivial,?_,λ_=>h1,?_⟩
 ·rw[<-x,f];exact run_enterLoop_outer _ _ _ _ _
 ·simp only[resolve,hg]
  simp[go_sem]
 ·simp[invoke,go_sem,eg]
 refine(ag (w.heap.size+1)
  (λb W=>I b W/\W.heap[w.heap.size+1]? = some (.loop (d .ready none))/\W.heap[w.heap.size]? = some (.deferred (some [])))
  (λW=>∃c,Ix c W/\W.heap[w.heap.size+1]? = some (.loop (d .done (some c)))/\W.heap[w.heap.size]? = some (.deferred (some []))) u
  (λb X Y row hs j s=>⟨hI b X Y row hs.1 j (lift s),m _ _ (by omega) (by omega) hs.2.1 j s,m _ _ (by omega) (by omega) hs.2.2 j s⟩)
  (λb X Y row hs j s=>by obtain⟨c,hc,q1,q2⟩:=hs;exact⟨c,M c () X Y row hc j (lift s),m _ _ (by omega) (by omega) q1 j s,m _ _ (by omega) (by omega) q2 j s⟩)
  ?_ ak ⟨ah,aj,ai⟩).mono ?_
 ·rintro b args L W v hR⟨hi,G,hk⟩hv
  have an:w.heap.size+1<W.heap.size:=Ac G;have hy:=run_yield (P:=prog) (args:=args) G (by rw[f];exact af b args L hR);rw[f] at hy;refine⟨fn,_,assign,body,hy,roundIn_of_wpIn al (z _ args W _ (af b args L hR) ⟨_,run_beginRound G (by rw[f]),?_⟩)⟩;have am:(W.putObj (w.heap.size+1) (.loop { d .ready none with state:=.busy })).heap[w.heap.size+1]? = some (.loop { d .ready none with state:=.busy }):=XT an;have ae:(W.putObj (w.heap.size+1) (.loop { d .ready none with state:=.busy })).heap[w.heap.size]? = some (.deferred (some [])):=(Y' (by omega)).trans hk;have ao:Kp v (W.putObj (w.heap.size+1) (.loop { d .ready none with state:=.busy })):=N _ _ _ _ hv G rfl;refine wpIn_mono (O _ b args L _ v (by omega) hR (hI.put hi G rfl (by omega) _) ao) ?_
  have ad:∀(jump:Option Code)(J:Tw),KeepsFrom w.heap.size (W.putObj (w.heap.size+1) (.loop { d .ready none with state:=.busy })) J ->
   (Instr.endRound (w.heap.size+1) jump).run prog J=.ok (Zo jump.isNone) (J.putObj (w.heap.size+1) (.loop (d (if jump.isNone then .ready else .done) jump))) /\
   J.heap[w.heap.size+1]? = some (.loop { d .ready none with state:=.busy }) /\
   (J.putObj (w.heap.size+1) (.loop (d (if jump.isNone then .ready else .done) jump))).heap[w.heap.size+1]? = some (.loop (d (if jump.isNone then .ready else .done) jump)) /\
   (J.putObj (w.heap.size+1) (.loop (d (if jump.isNone then .ready else .done) jump))).heap[w.heap.size]? = some (.deferred (some [])):=λjump J y=>by
   have i:=y.same _ _ (by omega) am rfl;have:=run_endRound (P:=prog) jump i;rw[f] at this ⊢;exact⟨this,by rw[f] at i;exact i,XT (Ac i),(Y' (by omega)).trans (y.same _ _ (XA _) ae rfl)⟩
  rintro e a3 J hp;cases e with
  | normal=>obtain⟨y,U,ac⟩:=hp;obtain⟨s,i,aa,V⟩:=ad none J y;exact⟨_,_,s,.inl ⟨rfl,⟨hI.put U i rfl (by omega) _,aa,V⟩,N _ _ _ _ ac i rfl⟩⟩
  | ret=>obtain⟨y,U,ac⟩:=hp;obtain⟨s,i,aa,V⟩:=ad (some .ret) J y;exact⟨_,_,s,.inr ⟨rfl,⟨.ret,(M .ret).put (b:=()) U i rfl (by omega) _,aa,V⟩,N _ _ _ _ ac i rfl⟩⟩
  | exit id=>exact hp.elim
  | goto t=>exact hp.elim
  | panic ch=>exact hp.elim
  | outgrown=>exact hp.elim
 rintro e W2⟨⟨v,rfl⟩,(⟨b,hE,hi,G,hk⟩|⟨c,hi,G,hk⟩)⟩
 ·exact⟨none,_,by have:=run_endLoop (P:=prog) G (by rw[f];simp);rw[f] at this;exact this,T _ b _ (XA _) hE (hI.put hi G rfl (by omega) _) ((Y' (by omega)).trans hk)⟩
 exact⟨some c,_,by have:=run_endLoop (P:=prog) G (by rw[f];simp);rw[f] at this;exact this,ab _ c _ (XA _) ((M c).put (b:=()) hi G rfl (by omega) _) ((Y' (by omega)).trans hk)⟩
theorem ACK{l l' n n':Nat}{f:FuncId}{tmps:Array Tv}{assign body:Code}{w:Tw}{R:Ending->Tw->Prop}(h:RoundIn Fence.wide n prog l f tmps assign body w R):RoundIn (Fence.wide.inRound l') n' prog l f tmps assign body w R :=
 ⟨h.1,λc cs _=>h.2 c cs (room_wide _)⟩
variable{W Y:Tw}
attribute [local go_sem] Oper.semAt_some
theorem rX(s:Tb)(w:Tw):
 Zc 219 #[Zt s] w λe a=>e=Zr (.func (.func 262) #[] #[Zp (some ⟨w.heap.size,0,none⟩)])/\a=w.alloc (Zk #[Zt s] 9):=by
 go_enter func219,ntmps219;go_wp2;go_ret;exact⟨rfl,rfl⟩
structure KpN(Y:Nat)(v:List UInt8×World)(W:World):Prop where
 sp:pI (Y+1) v.1 W
 keep:KeepsFrom (Y+4) v.2 W
 err:Ik W
 yb:W.heap[Y]? = v.2.heap[Y]?
def AK8(d:List UInt8)(pre:List (List UInt8))(args:Array Value)(b:List (List UInt8)):Prop:=∃a t n c,args=#[Zi n,c]/\Dd 44 d=pre++a :: t/\b=pre++[a]/\((numOf a=some n/\c=.nilIface)\/(numOf a=none/\∃t x,c=.iface t x))
theorem lN{B:Nat}{row:Option Nat}(h:Ik W)(j:B≠4)(d:B≠5)(m:W.grownBy Y row)(p:∀r,row=some r->r=B\/(∃o:Obj,W.heap[r]? = some o/\o.isCells=false)):Ik Y:=by
 obtain⟨⟨t1,q,g⟩,t2,s,i⟩:=h
 have a:∀(b:Nat)(v:Tv),b≠B->W.cell? ⟨b,0,none⟩=some v->Y.cell? ⟨b,0,none⟩=some v:=λb v k c=>by
  have f:=Fv c
  have e:=m.block b f (λe=>by
   rcases p b e.symm with rfl|⟨o,n,l⟩
   ·exact k rfl
   simp only[World.cell?,n] at c;cases o <;> simp_all [Obj.isCells])
  simp only[World.cell?,e] at c ⊢;exact c
 exact⟨⟨t1,q,a _ _ (Ne.symm j) g⟩,t2,s,a _ _ (Ne.symm d) i⟩
theorem ABt(h:Zb W Y):W.grownBy Y none:=⟨h.os,h.tape,h.output,h.size,λk a _=>h.block k a⟩
theorem iM.up{β:Type}{B n:Nat}{J:β->Tw->Prop}(h:iM B n J){b:β}(c:J b W)(a:Zb W Y):J b Y:=h b W Y none c (ABt a) (λr e=>by cases e)
theorem cF(w:Tw)(a b c d:Obj):((((w.alloc a).alloc b).alloc c).alloc d).heap.size=w.heap.size+4/\((((w.alloc a).alloc b).alloc c).alloc d).heap[w.heap.size]? = some a/\((((w.alloc a).alloc b).alloc c).alloc d).heap[w.heap.size+1]? = some b/\((((w.alloc a).alloc b).alloc c).alloc d).heap[w.heap.size+2]? = some c/\((((w.alloc a).alloc b).alloc c).alloc d).heap[w.heap.size+3]? = some d/\Zb w ((((w.alloc a).alloc b).alloc c).alloc d):=by
 obtain⟨e,i,j,k⟩:=C1 w a b;obtain⟨f,g,h,b3⟩:=C1 ((w.alloc a).alloc b) c d
 change Below _ _ _ at b3
 rw[e] at f g h b3;exact⟨f,(b3.block _ (by omega)).trans i,(b3.block _ (by omega)).trans j,g,h,Below.Ap k (by change Below _ _ _;rw[e];exact b3)⟩
theorem pI.AFy{B:Nat}{r:List UInt8}{X:Tw}(h:pI B r X)(a:Zb X Y):pI B r Y:=⟨(a.block _ (Ac h.Gw)).trans h.Gw,(a.block _ (Ac h.sep)).trans h.sep,(a.block _ (Ac h.save)).trans h.save⟩
def AKA(b:List (List UInt8))(J:List (List UInt8)->World->Prop)(a:World->Prop)(c:World->Prop)(e:Ending)(W:World):Prop:=∃ok:Bool,e=.returned (.bool ok)/\c W/\((ok=true/\J b W)\/(ok=false/\a W))
theorem oQ(m Y Bs:Nat)(hm:3<=m)(j:List UInt8)(hlen:j.length<=1000000):
 dN m 262 #[Zp (some ⟨Bs,0,none⟩)] (Y+1) (AK8 j) [] (λpre=>pre=Dd 44 j) (KpN Y) (λW=>W.heap.size=Y/\iN Bs j W/\Ik W):=by
 rintro l J Jx W z N hY⟨rfl,ad,i⟩h0;have w:iN Bs j (W.alloc (Zk #[.func (.yield l) #[] #[]] 345)):=(XY W _ Bs (Ac ad)).trans ad;have O:=w.cell;refine callsIn_of_wp_marks func262 rfl trivial ?_ rfl;simp only[ntmps262,XV,XC,XJ,Nat.reduceAdd,Nat.reduceSub,XN,XO,XW,XQ,XU,XI];gi_wp2_with (refine⟨trivial,λ_=>by omega,?_⟩;gi_at_call 263;refine(callsIn_wide.2 (ACE _ _ _)).mono ?_;rintro e w5⟨rfl,rfl⟩);obtain⟨y0,y1,y2,y3,y4,y5⟩:=cF W (Zk #[.func (.yield l) #[] #[]] 345) (Zk #[Zt (bA j)] 9) (Zk #[Zt ⟨#[44]⟩] 9) (Zk #[Zi 0] 3);have ag:J [] ((((W.alloc (Zk #[.func (.yield l) #[] #[]] 345)).alloc (Zk #[Zt (bA j)] 9)).alloc (Zk #[Zt ⟨#[44]⟩] 9)).alloc (Zk #[Zi 0] 3)):=z.alloc (z.alloc (z.alloc (z.alloc h0 _) _) _) _;have ai:=i.below y5;have ah:pI (W.heap.size+1) j ((((W.alloc (Zk #[.func (.yield l) #[] #[]] 345)).alloc (Zk #[Zt (bA j)] 9)).alloc (Zk #[Zt ⟨#[44]⟩] 9)).alloc (Zk #[Zi 0] 3)):=⟨y2,y3,y4⟩;have ak:W.heap.size+1≠4:=by obtain⟨⟨_,_,h⟩,_⟩:=i;have:=Fv h;omega
 have al:W.heap.size+1≠5:=by obtain⟨_,_,_,h⟩:=i;have:=Fv h;omega
 clear O w y2 y3 y4;generalize (((W.alloc (Zk #[.func (.yield l) #[] #[]] 345)).alloc (Zk #[Zt (bA j)] 9)).alloc (Zk #[Zt ⟨#[44]⟩] 9)).alloc (Zk #[Zi 0] 3)=w4 at *;refine dL 3 (by omega) rfl (λ_ _=>rfl) (yO (m-1) (W.heap.size+1) (by omega) j hlen) (λv X r o o' h ho O=>pI.kept h ho O) (λb args b'⟨_,_,h,_⟩=>by rw[h];rfl) (by omega) (by omega) (λpre X=>J pre X/\Ik X/\X.heap[W.heap.size]? = some (Zk #[.func (.yield l) #[] #[]] 345 (0,0))) (λc X=>c=.ret/\Jx X) ?ab ?abx ?h0 ?hT ?hassign ?hbody ?hdone ?hstop
 case ab=>
  rintro pre X Z row⟨I,U,f⟩V hr;refine⟨z pre X Z row I V (λr e=>(hr r e).imp id (λh=>⟨by omega,h.2⟩)),lN U ak al V (λr e=>(hr r e).imp id And.right),(V.block _ (Ac f) (λe=>?_)).trans f⟩
  rcases hr _ e.symm with h|h
  ·omega
  have:=h.1;omega
 case abx=>rintro c b X Z row⟨O,hX⟩V hr;exact⟨O,N () X Z row hX V (λr e=>(hr r e).imp id (λh=>⟨by omega,h.2⟩))⟩
 case h0=>exact⟨ag,ai,y1⟩
 case hT=>intro r;exact ah.AFy ((Zal).alloc (by simp) _)
 case hassign=>intro l v W K hK;gi_wp2;exact hK
 case hbody=>
  rintro l' pre v an X t hl⟨a,t',hv,ac,ao,rfl⟩⟨I,U,f⟩hk;cases hv;have P:=(I2 f).1
  have ae:Hid (∀Z,Ik Z->Zc 178 #[Zt (bA a)] Z (Ns a Z)):=Aa (λZ h=>by have:=Ud (bA a) Z (by rw[Cz];omega) h;rw[B5] at this;exact this)
  have aj:Ik X.drew:=U.below (XF _ _).drew
  have L:Hid (∀n y g,Below X.drew.heap.size X.drew g->((numOf a=some n/\y=Zn)\/(numOf a=none/\∃t x,y=Zf t x))->∃M tmps assign body,(Instr.yield l #[Zi n,y]).run prog g=.ok (.round l M tmps assign body) g/\∀l' k,RoundIn (Fence.wide.inRound l') k prog l M tmps assign body g (AKA (pre++[a]) J Jx (KpN W.heap.size (t,g)))):=Aa (λn y g hb u=>by
   have G:Zb X g:=Below.Ap (XF _ _).drew hb;obtain⟨M,tmps,assign,body,hy,hR⟩:=hY pre _ (pre++[a]) g (t,g) ⟨a,t',n,y,rfl,ac,rfl,u⟩ (z.up I G) ⟨hk.AFy G,KeepsFrom.refl _ _,U.below G,rfl⟩;refine⟨M,tmps,assign,body,hy,λl' k=>ACK (hR.mono ?_)⟩;rintro e W3 (⟨rfl,h1,h2⟩|⟨rfl,h1,h2⟩)
   ·exact⟨true,rfl,h2,.inl ⟨rfl,h1⟩⟩
   exact⟨false,rfl,h2,.inr ⟨rfl,h1⟩⟩)
  have HX:=Aa f;clear hY I hk ac;gi_wp2_with fail
  gi_region_with (first
   | (refine⟨trivial,λ_=>by omega,?_⟩;gi_at_call 178;refine(CallsIn.inRound l' (callsIn_wide.2 (ae.o _ aj))).mono ?_;rintro e g⟨n,y,rfl,d,u⟩
      obtain⟨M,tmps,assign,body,hy,hR⟩:=L.o n y g d u;have HR:=Aa hR;have af:=Aa d;have R:=(d.cell (p:=⟨W.heap.size,0,none⟩) (Ac HX.o)).trans P;clear hR d u)
   | (refine(HR.o _ _).mono ?_;rintro e W3⟨b,rfl,q⟩)
   | (refine⟨λ_=>by omega,(HR.o _ _).mono ?_⟩;rintro e W3⟨b,rfl,q⟩)
   | (refine⟨trivial,λ_=>by omega,(HR.o _ _).mono ?_⟩;rintro e W3⟨b,rfl,q⟩))
  all_goals
   rename_i K0 hK0;obtain⟨s,q⟩:=q;refine hK0 _ _ ?_;have d:Zb X g:=Below.Ap (XF _ _).drew af.o;have aa:KeepsFrom w4.heap.size X W3:=by rw[y0];exact(Ie d).trans s.keep
   have am:=s.yb.trans ((d.block _ (Ac HX.o)).trans HX.o);clear hK0 hy R P HR L
   rcases q with⟨rfl,q⟩|⟨rfl,q⟩
   ·gi_wp2
    exact⟨aa,⟨q,s.err,am⟩,s.sp⟩
   gi_wp2;exact⟨aa,rfl,q⟩
 case hdone=>rintro D pre X hD rfl⟨I,U,f⟩T;show LeavesInM Fence.wide m prog f262 _ _ _ .returning X;refine⟨by simp,.inl ⟨_,_,rfl,run_takeDeferred T,?_⟩⟩;exact⟨Zu #[],results_none rfl _ _ _,⟨_,rfl⟩,.inl ⟨_,rfl,z.put I T rfl (by omega) _⟩⟩
 case hstop=>rintro D c X hD⟨rfl,hX⟩T;gi_wp2;refine⟨by simp,.inl ⟨_,_,rfl,run_takeDeferred T,?_⟩⟩;exact⟨Zu #[],results_none rfl _ _ _,⟨_,rfl⟩,.inr (N.put (b:=()) hX T rfl (by omega) _)⟩
variable{W Y w:Tw}{n:Nat}
attribute [local go_sem] Oper.semAt_some
theorem vJ{β γ:Type}{g:Operand}{p y:Tmp}{assign body:Code}{Q:Exit->Act->Tw->Prop}{a:Act}(q O:Tmp)(h1:1<=n){gf:Nat}{lb:Array Tv}(hg:a.eval g=.func (.func gf) #[] lb)(V:∀args w,(callFunc gf args).run prog w=.ok (.enter gf args) w){B:Nat}{R:β->Array Tv->β->Prop}{T:β}{E:β->Prop}{k:γ->Tw->Prop}{P:Tw->Prop}(s:dN (n-1) gf lb B R T E k P)(N:∀v X o o',k v X->X.heap[w.heap.size+1]? = some o->o.isCells=false->k v (X.putObj (w.heap.size+1) o'))(m:∀b args e,R b args e->args.size=2)(J:B≠w.heap.size)(L:B≠w.heap.size+1)(I:β->Tw->Prop)(G:Code->Tw->Prop)(hI:iM B w.heap.size I)(M:∀c,iM B w.heap.size (λ(_:Unit)=>G c))(Y:I T w)(hT:∀r,P ((w.alloc (.deferred (some []))).alloc (.loop r)))(d:∀(l:Nat)(v u:Tv)(W:Tw)(K:Act->Tw->Prop),K { tmps:=(((a.tmps.setIfInBounds p v).setIfInBounds y u).setIfInBounds q v).setIfInBounds O u,defers:=[] } W ->
   assign.wpIn (Fence.wide.inRound l) (n-1-1) prog (Exit.then K (λ_ _ _=>False)) { tmps:=(a.tmps.setIfInBounds p v).setIfInBounds y u,defers:=[] } W)(f:∀(l:Nat)(b:β)(v u:Tv)(e:β)(W:Tw)(t:γ),w.heap.size<=l->R b #[v,u] e->I b W->k t W->body.wpIn (Fence.wide.inRound l) (n-1-1) prog (uD w.heap.size k t I G e W) { tmps:=(((a.tmps.setIfInBounds p v).setIfInBounds y u).setIfInBounds q v).setIfInBounds O u,defers:=[] } W)(i:∀(D:Nat)(b:β)(W:Tw),w.heap.size<=D->E b->I b W->W.heap[D]? = some (.deferred (some []))->Q .normal { a with defers:={ target:=.collected D,args:=#[] } :: a.defers } W)(j:∀(D:Nat)(c:Code)(W:Tw),w.heap.size<=D->G c W->W.heap[D]? = some (.deferred (some []))->c.wpIn Fence.wide n prog Q { a with defers:={ target:=.collected D,args:=#[] } :: a.defers } W):
 (Code.rangeFunc g #[p,y] assign body).wpIn Fence.wide n prog Q a w:=by
 have z:∀args:Array Tv,args.size=2->∃v u,args=#[v,u]:=λargs h=>by
  rcases args with⟨_|⟨v,_|⟨u,_|⟨x,r⟩⟩⟩⟩
  ·cases h
  ·cases h
  ·exact⟨v,u,rfl⟩
  simp at h
 refine zQ h1 hg V s N m J L I G hI M Y hT (λargs=>{ tmps:=(((a.tmps.setIfInBounds p (args.getD 0 undef)).setIfInBounds y (args.getD 1 undef)).setIfInBounds q (args.getD 0 undef)).setIfInBounds O (args.getD 1 undef),defers:=[] }) ?_ ?_ i j
 ·intro l args W K hs hK
  obtain⟨v,u,rfl⟩:=z args hs;have:=d l v u W K hK;simpa using this
 intro l b args e W t hl U hi hk;obtain⟨v,u,rfl⟩:=z args (m b args e U);exact f l b v u e W t hl U hi hk
theorem Xd:∀{pre:List (List UInt8)}{L:List Int}{a:List UInt8}{x:Int},Dr pre=some L->numOf a=some x->Dr (pre++[a])=some (L++[x])
 | [],L,a,x,h,hx=>by simp only[Dr] at h;cases h;simp[Dr,hx]
 | p :: pre,L,a,x,h,hx=>by
   simp only[Dr] at h;cases hp:numOf p with
   | none=>rw[hp] at h;cases h
   | some y=>
     rw[hp] at h;simp only[XS] at h;cases hr:Dr pre with
     | none=>rw[hr] at h;cases h
     | some M=>rw[hr] at h;cases h;simp only[XI,Dr,hp,XS,Xd hr hx];rfl
theorem aA:∀{pre:List (List UInt8)}{a:List UInt8}{t:List (List UInt8)},numOf a=none->Dr (pre++a :: t)=none
 | [],a,t,h=>by simp[Dr,h]
 | p :: pre,a,t,h=>by simp only[XI,Dr];rw[aA h];cases numOf p <;> rfl
theorem cJ:∀{pre:List (List UInt8)}{M:List Int},Dr pre=some M->M.length=pre.length
 | [],M,h=>by simp only[Dr] at h;cases h;rfl
 | p :: pre,M,h=>by
   simp only[Dr] at h;cases hp:numOf p with
   | none=>rw[hp] at h;cases h
   | some y=>
     rw[hp] at h;simp only[XS] at h;cases hr:Dr pre with
     | none=>rw[hr] at h;cases h
     | some N=>rw[hr] at h;cases h;simp[cJ hr]
theorem gS(c:UInt8):∀(n:Nat)(s:List UInt8),s.length<=n->(Dd c s).length<=s.length+1
 | n,s,hn=>by
   rw[Dd];split
   ·rename_i h
    have a:s≠[]:=by rintro rfl;simp[Ao] at h
    have b:=Un c a;cases n with
    | zero=>exact absurd (Yag.1 (by omega)) a
    | succ n=>have:=gS c n (Ao c s).2.1 (by omega);simp only[XC];omega
   simp
structure PlI(w:World)(pre:List (List UInt8))(W:World)(L:List Int)(aa:Option Addr)(ac:Nat):Prop where
 box:W.heap[w.heap.size+2]? = some (.cells #[.slice aa L.length ac] 28 (0,0))
 AHU:Dr pre=some L
 row:W.ownsRow (w.heap.size+10) 3 1 (.slice aa L.length ac) L.length (L.map (.int .i64))
 res:W.heap[w.heap.size]? = some (.cells #[.slice none 0 0] 28 (0,0))
 ok:W.heap[w.heap.size+1]? = some (.cells #[.bool false] 4 (0,0))
 low:Zb w W
theorem PlI.free{pre:List (List UInt8)}{L:List Int}{c:To}{row:Option Nat}(h:PlI w pre W L c n)(b:W.grownBy Y row)(d:∀r,row=some r->r=w.heap.size+7\/(w.heap.size+4<=r/\∃o:Obj,W.heap[r]? = some o/\o.isCells=false)):PlI w pre Y L c n:=by
 have a:∀r,row=some r->r=w.heap.size+7\/(∃o:Obj,W.heap[r]? = some o/\o.isCells=false):=λr e=>(d r e).imp id And.right
 refine⟨Ht h.box (by omega) b a,h.AHU,Le h.row (by omega) b a,Ht h.res (by omega) b a,Ht h.ok (by omega) b a,h.low.grown b h.low.size (λj f=>?_)⟩
 rcases d j f with rfl|⟨g,_⟩ <;> omega
structure PlX(w:World)(t0:List UInt8)(W:World):Prop where
 bad:Dr (Dd 44 t0)=none
 res:W.heap[w.heap.size]? = some (.cells #[.slice none 0 0] 28 (0,0))
 ok:W.heap[w.heap.size+1]? = some (.cells #[.bool false] 4 (0,0))
 low:Zb w W
theorem PlX.free{l:List UInt8}{row:Option Nat}(h:PlX w l W)(b:W.grownBy Y row)(c:∀r,row=some r->r=w.heap.size+7\/(w.heap.size+4<=r/\∃o:Obj,W.heap[r]? = some o/\o.isCells=false)):PlX w l Y:=by
 have a:∀r,row=some r->r=w.heap.size+7\/(∃o:Obj,W.heap[r]? = some o/\o.isCells=false):=λr e=>(c r e).imp id And.right
 refine⟨h.bad,Ht h.res (by omega) b a,Ht h.ok (by omega) b a,h.low.grown b h.low.size (λj d=>?_)⟩
 rcases c j d with rfl|⟨f,_⟩ <;> omega
theorem ACP:S0:=by
 intro s w hs he;obtain⟨U,hl⟩:∃l,s.data.toList=l:=⟨_,rfl⟩;have az:s=bA U:=by rw[<-hl,Ju]
 have ax:U.length<=1000000:=by rw[<-hl,Gm];exact hs
 rw[hl];subst az;clear hs hl;refine(callsIn_wide (n:=9)).1 ?_;refine callsIn_of_wp_marks func179 rfl trivial ?_ rfl;simp only[ntmps179,XV,XC,XJ,Nat.reduceAdd,Nat.reduceSub,XN,XO,XW,XQ,XU,XI];gi_wp2_with (refine⟨trivial,?_⟩;gi_at_call 219;refine(callsIn_wide.2 (rX _ _)).mono ?_;rintro e w5⟨rfl,rfl⟩);rename_i K0 hK0;obtain⟨y0,y1,y2,y3,y4,y5⟩:=cF w (Zk #[Zs none 0 0] 28) (Zk #[Zo false] 4) (Zk #[Zs none 0 0] 28) (Zk #[Zt (bA U)] 9);have T:=y5;have al:=he.below y5;have a2:4<w.heap.size:=by obtain⟨⟨_,_,h⟩,_⟩:=he;exact Fv h
 have a3:5<w.heap.size:=by obtain⟨_,_,_,h⟩:=he;exact Fv h
 have HE:=Aa he;clear he;generalize (((w.alloc (Zk #[Zs none 0 0] 28)).alloc (Zk #[Zo false] 4)).alloc (Zk #[Zs none 0 0] 28)).alloc (Zk #[Zt (bA U)] 9)=w4 at *;have e2:w.heap.size+1+1=w.heap.size+2:=rfl;have e3:w.heap.size+2+1=w.heap.size+3:=rfl;rw[e2,e3];refine vJ 5 6 (by decide) rfl (λ_ _=>rfl) (oQ 8 (w.heap.size+6) (w.heap.size+3) (by decide) U ax) (λv X o o' h ho hc=>?kp) (λb args b'⟨_,_,_,_,h,_⟩=>by rw[h];rfl) (by omega) (by omega) (λpre W=>∃L m x,PlI w pre W L m x) (λc W=>c=.ret/\PlX w U W) ?ab ?abx ?h0 ?hT ?hassign ?hbody ?hdone ?hstop
 case kp=>rw[y0] at ho ⊢;refine⟨h.sp.kept ho hc,?_,lN h.err (B:=w.heap.size+5) (by omega) (by omega) (grownBy_putObj' X _ _) (λr e=>by injection e with e;exact .inl e.symm),(Y' (by omega)).trans h.yb⟩;exact h.keep.trans (KeepsFrom.of_grownBy (grownBy_putObj' X _ _) (λj G=>by injection G with G;omega))
 case ab=>rintro pre X Y row⟨L,m,x,k⟩hg hr;exact⟨L,m,x,k.free hg (λr e=>(hr r e).imp id (λh=>⟨by have:=h.1;omega,h.2⟩))⟩
 case abx=>rintro c b X Y row⟨hc,V⟩hg hr;exact⟨hc,V.free hg (λr e=>(hr r e).imp id (λh=>⟨by have:=h.1;omega,h.2⟩))⟩
 case h0=>exact⟨[],none,0,y3,rfl,⟨rfl,.inl ⟨rfl,rfl⟩⟩,y1,y2,T⟩
 case hT=>intro r;obtain⟨N,_,_,x3⟩:=C1 w4 (.deferred (some [])) (.loop r);exact⟨by rw[N,y0],(x3.block _ (Ac y4)).trans y4,al.below x3⟩
 case hassign=>intro l v u W K hK;gi_wp2;exact hK
 case hbody=>
  rintro l pre v u a1 W t hl⟨a,t',n,er,hv,R,rfl,aw⟩⟨L,m,x,k⟩hk;cases hv;have y:=Aa k;have M:=Aa hk;have av:w.heap.size+10<=W.heap.size:=Ac hk.sp.save
  rcases aw with⟨hn,rfl⟩|⟨hn,t1,x1,rfl⟩
  ·have HN:=Aa (Xd k.AHU hn)
   have hlen:L.length<=1000001:=by have h1:=cJ k.AHU;have h2:=gS 44 _ U (XA _);rw[R] at h2;simp only[XE,XC] at h2;omega
   have f:Hid (Below W.heap.size W (W.alloc (Zk #[Zi n] 3))):=Aa (Zal);have g:=Aa (Bc k.row f.o);obtain⟨N,xf⟩:=I2 k.box;obtain⟨iI,am,ae⟩:=Option.map_eq_some_iff.1 AFX;simp only[Prod.mk.injEq] at ae;have P:=Aa (And.intro am ae);clear am ae k hk R hn y1 y2 y3 y4
   gi_wp2_with (first
    | (gi_at_builtin;refine wpListIn_append_own _ rfl _ _ 28 rfl (w.heap.size+10) 3 iI U5 1 8 underlying28 P.o.1 P.o.2.1 P.o.2.2.1 P.o.2.2.2 rfl (by decide) (.slice m L.length x) L.length (L.map (.int .i64)) rfl g.o ⟨W.heap.size,0,none⟩ 1 1 [Zi n] rfl rfl (λj u G=>XP (Yac _ _) j u G) (by intro u hu;simp at hu;subst hu;rfl) (by unfold maxLen;omega) (by omega) (XH av f.o.size) ?_
       intro v1 w9 z ad _;obtain⟨a',c',rfl⟩:=AAN z;have an:=Aa z;have O:=Aa ad;have ai:=Aa ((ad.block (w.heap.size+2) (Ya (Ac y.o.box) f.o.size) (λe=>by have:=Fu g.o e.symm;omega)).trans ((f.o.block _ (Ac y.o.box)).trans y.o.box));obtain⟨z0,zf⟩:=I2 ai.o;clear z ad))
   clear z0 zf N xf
   have d:∀b,b<w.heap.size+10->b≠w.heap.size+2->(w9.setCell ⟨w.heap.size+2,0,none⟩ (Zs a' (L.length+1) c')).heap[b]? = W.heap[b]? := λb hb ay=>((Aq w9 (w.heap.size+2) 0 _).block b (Ya (by omega) (XH f.o.size O.o.size)) (λe=>by injection e with e;omega)).trans ((O.o.block b (Ya (by omega) f.o.size) (λe=>by have:=Fu g.o e.symm;omega)).trans (f.o.block b (by omega)))
   have I:∀q,w.heap.size+3<=q->KeepsFrom q W (w9.setCell ⟨w.heap.size+2,0,none⟩ (Zs a' (L.length+1) c')):=λq hq=>G6 (j4 (Ie f.o) g.o O.o) (by omega)
   have J:Below w.heap.size w (w9.setCell ⟨w.heap.size+2,0,none⟩ (Zs a' (L.length+1) c')):=by have h1:=Below.Ap y.o.low f.o;exact(h1.grown O.o h1.size (λj G=>by have:=Fu g.o G;omega)).setCell (p:=⟨w.heap.size+2,0,none⟩) (by show w.heap.size<=w.heap.size+2;omega) _
   refine⟨I _ (by omega),⟨L++[n],a',c',?_,HN.o,?_,(d _ (by omega) (by omega)).trans y.o.res,(d _ (by omega) (by omega)).trans y.o.ok,J⟩,⟨⟨(d _ (by omega) (by omega)).trans M.o.sp.Gw,(d _ (by omega) (by omega)).trans M.o.sp.sep,(d _ (by omega) (by omega)).trans M.o.sp.save⟩,M.o.keep.trans (I _ (by omega)),HE.o.below J,(d _ (by omega) (by omega)).trans M.o.yb⟩⟩
   ·rw[XE]
    exact As w9 (w.heap.size+2) 0 _ _ _ ai.o
   rw[XE,XM];exact Iq an.o (by omega)
  have HN:Hid (Dr (Dd 44 U)=none):=Aa (by rw[R];exact aA hn);obtain⟨N,xf⟩:=I2 k.res;obtain⟨x1,xg⟩:=I2 k.ok;clear k hk R hn y1 y2 y3 y4;gi_wp2;have J:Below w.heap.size w ((W.setCell ⟨w.heap.size,0,none⟩ (Zs none 0 0)).setCell ⟨w.heap.size+1,0,none⟩ (Zo false)):=(y.o.low.setCell (p:=⟨w.heap.size,0,none⟩) (XA _) _).setCell (p:=⟨w.heap.size+1,0,none⟩) (XB _) _;have I:∀q,w.heap.size+2<=q->KeepsFrom q W ((W.setCell ⟨w.heap.size,0,none⟩ (Zs none 0 0)).setCell ⟨w.heap.size+1,0,none⟩ (Zo false)):=λq hq=>G6 (G6 (KeepsFrom.refl _ _) (by omega)) (by omega)
  have d:∀b,b<W.heap.size->w.heap.size+1<b->((W.setCell ⟨w.heap.size,0,none⟩ (Zs none 0 0)).setCell ⟨w.heap.size+1,0,none⟩ (Zo false)).heap[b]? = W.heap[b]? := λb hb ay=>((Aq _ (w.heap.size+1) 0 _).block b (Ya hb (Aq W w.heap.size 0 _).size) (λe=>by injection e with e;omega)).trans ((Aq W w.heap.size 0 _).block b hb (λe=>by injection e with e;omega))
  refine⟨I _ (by omega),⟨rfl,HN.o,?_,?_,J⟩,⟨⟨(d _ (by omega) (by omega)).trans M.o.sp.Gw,(d _ (by omega) (by omega)).trans M.o.sp.sep,(d _ (by omega) (by omega)).trans M.o.sp.save⟩,M.o.keep.trans (I _ (by omega)),HE.o.below J,(d _ (by omega) (by omega)).trans M.o.yb⟩⟩
  ·exact Cg (As W _ 0 _ _ _ y.o.res) (by omega)
  exact As _ _ 0 _ _ _ (Cg y.o.ok (by omega))
 case hdone=>
  rintro D pre W hD rfl⟨L,m,x,k⟩hd;rw[y0] at hD;clear y0 y1 y2 y3 y4 y5 T al;refine hK0 _ _ ?_;clear hK0;obtain⟨N,xf⟩:=I2 k.box;obtain⟨r0,rf⟩:=I2 k.res;obtain⟨o0,of⟩:=I2 k.ok;have y:=Aa k;have HD:=Aa hd;clear k hd;gi_wp2;clear N xf r0 rf o0 of;have ao:=As W w.heap.size 0 _ _ (Zs m L.length x) y.o.res;have ap:(W.setCell ⟨w.heap.size,0,none⟩ (Zs m L.length x)).heap[w.heap.size+1]? = _:=Cg y.o.ok (by omega);have aq:=Cg (q:=w.heap.size+1) (i:=0) (v:=Zo true) ao (by omega);have ar:=As _ (w.heap.size+1) 0 _ _ (Zo true) ap;have aj:((W.setCell ⟨w.heap.size,0,none⟩ (Zs m L.length x)).setCell ⟨w.heap.size+1,0,none⟩ (Zo true)).heap[D]? = _:=Cg (Cg HD.o (by omega)) (by omega);have ak:Below w.heap.size w ((W.setCell ⟨w.heap.size,0,none⟩ (Zs m L.length x)).setCell ⟨w.heap.size+1,0,none⟩ (Zo true)):=(y.o.low.setCell (p:=⟨w.heap.size,0,none⟩) (XA _) _).setCell (p:=⟨w.heap.size+1,0,none⟩) (XB _) _;have au:=Iq (b:=w.heap.size+1) (i:=0) (u:=Zo true) (Iq (b:=w.heap.size) (i:=0) (u:=Zs m L.length x) y.o.row (by omega)) (by omega)
  change LeavesInM _ _ _ _ _ _ _ _ ((W.setCell ⟨w.heap.size,0,none⟩ (Zs m L.length x)).setCell ⟨w.heap.size+1,0,none⟩ (Zo true))
  generalize (W.setCell ⟨w.heap.size,0,none⟩ (Zs m L.length x)).setCell ⟨w.heap.size+1,0,none⟩ (Zo true)=X at *;refine⟨by simp,.inl ⟨_,_,rfl,run_takeDeferred aj,?_⟩⟩;have ah:(X.putObj D (.deferred none)).heap[w.heap.size]? = _:=(Y' (by omega)).trans aq;have ag:(X.putObj D (.deferred none)).heap[w.heap.size+1]? = _:=(Y' (by omega)).trans ar;have af:Below w.heap.size w (X.putObj D (.deferred none)):=ak.grown (grownBy_putObj' X D _) ak.size (λj G=>by injection G with G;omega);have a0:(X.putObj D (.deferred none)).ownsRow w.heap.size 3 1 (Zs m L.length x) L.length (L.map (.int .i64)):=G1 (Le (B:=w.heap.size) au (by omega) (grownBy_putObj' X D _) (λr e=>by injection e with e;subst e;exact .inr ⟨_,aj,rfl⟩)) (by omega);generalize X.putObj D (.deferred none)=W9 at *;obtain⟨N,_⟩:=I2 ah;obtain⟨xb,_⟩:=I2 ag;refine⟨Zu #[Zs m L.length x,Zo true],?_,m,L.length,x,true,rfl,af,.inl ⟨rfl,L,y.o.AHU,rfl,a0⟩⟩;simp[results,f179,go_sem,N,xb]
 case hstop=>rintro D c W hD⟨rfl,V⟩hd;gi_wp2;rw[y0] at hD;refine⟨by simp,.inl ⟨_,_,rfl,run_takeDeferred hd,?_⟩⟩;have ah:(W.putObj D (.deferred none)).heap[w.heap.size]? = _:=(Y' (by omega)).trans V.res;have ag:(W.putObj D (.deferred none)).heap[w.heap.size+1]? = _:=(Y' (by omega)).trans V.ok;have af:Below w.heap.size w (W.putObj D (.deferred none)):=V.low.grown (grownBy_putObj' W D _) V.low.size (λj G=>by injection G with G;omega);generalize W.putObj D (.deferred none)=W9 at *;obtain⟨N,_⟩:=I2 ah;obtain⟨xb,_⟩:=I2 ag;refine⟨Zu #[Zs none 0 0,Zo false],?_,none,0,0,false,rfl,af,.inr ⟨rfl,V.bad⟩⟩;clear hK0;simp[results,f179,go_sem,N,xb]
variable{w:Tw}{v:Tv}
theorem Hi{α:Type}[Inhabited α]{k:Nat}{en:α->List Tv}(hlen:∀x,(en x).length=k):∀(l:List α)(j:Nat),j<l.length->∀(i:Nat),i<k->(l.flatMap en)[j*k+i]? = (en l[j]!)[i]?
 | [],j,hj,_,_=>by cases hj
 | x :: l,0,_,i,hi=>by rw[WA,Nat.zero_mul,WI,Wb (by rw[hlen];exact hi)];rfl
 | x :: l,j+1,hj,i,hi=>by
   have e:(j+1)*k+i=k+(j*k+i):=by rw[Y2];omega
   rw[WA,e,X' (by rw[hlen];omega),hlen,Nat.add_sub_cancel_left];simp only[XC] at hj;rw[Hi hlen l j (by omega) i hi];rfl
theorem gL{α:Type}[Inhabited α]{k:Nat}{en:α->List Tv}(hlen:∀x,(en x).length=k){base:Nat}{T:TypeId}{l:List α}(h:w.ownsRow base T k v l.length (l.flatMap en)):AKI k en w v l:=by
 rcases Di h with⟨e,e0⟩|⟨g,c,e,_,n,m,_⟩
 ·exact .inl ⟨⟨_,_,e⟩,Yag.1 e0⟩
 subst e;refine .inr ⟨g,0,c,rfl,m,n,λj d i u b=>?_⟩
 have o:i<k:=by
  rcases Yc i k with a|a
  ·exact a
  rw[Yb (by rw[hlen];exact a)] at b;cases b
 have f:j*k+i<l.length*k:=by have:(j+1)*k<=l.length*k:=Yn k d;rw[Y2] at this;omega
 rw[WI,h.cellAt (j*k+i) f,Hi hlen l j d i o,b]
structure pM(a:A5):Prop where
 path:a.2.1.size<=maxLen
 Iz:a.2.2.2.1.length<=600000
 texts:∀x∈a.2.2.2.2.1,x.2.1.size<=maxLen/\x.2.2.2.2.2.2.size<=maxLen
theorem sP{base:Nat}{L:List Gx}(h:w.ownsRow base 129 6 v L.length (Ci L))(d:∀q∈L,pC base w q)(l:∀q∈L,pM q.1):Dt w v (L.map (·.1)):=by
 rcases gL (k:=6) (en:=nU) (λ_=>rfl) h with⟨h1,h2⟩|⟨g,o,c,e,hc,hg,hcell⟩
 ·exact .inl ⟨h1,by rw[h2];rfl⟩
 refine .inr ⟨g,o,c,by rw[XG];exact e,by rw[XG];exact hc,hg,λj a=>?_⟩;rw[XG] at a;have b:L[j]! ∈L:=by rw[getElem!_pos L j a];exact Yh a
 have i:(L.map (·.1))[j]! = L[j]!.1:=by rw[getElem!_pos _ j (by rw[XG];exact a),List.getElem_map,getElem!_pos L j a]
 rw[i];have f:=l _ b;refine⟨_,_,_,_,_,_,⟨Ph.Fz (d _ b).1,?_,f.path,f.Iz,f.texts⟩,hcell j a 0 _ rfl,hcell j a 1 _ rfl,hcell j a 2 _ rfl,hcell j a 3 _ rfl,hcell j a 4 _ rfl,hcell j a 5 _ rfl⟩;exact p8 (gL (k:=7) (en:=Cc) (λ_=>rfl) (d _ b).2)
