import Derived.Test.YthlacpbkcmellaaGreatDoorZS
set_option maxHeartbeats 40000000
set_option maxRecDepth 100000
open List renaming getElem?_eq_getElem->Y'
open Go.World renaming cell?_alloc_at->XA
open Nat renaming zero_le->XB
namespace Go.Proofs.YthlacpbkcmellaaGreatDoor
open Tryz RowKit Shelf Joins
namespace F
def ALG:List V->List V->Int
 | [],[]=>0
 | [],_ :: _=> -1
 | _ :: _,[]=>1
 | x :: a,y :: b=>if S.Eu x y=0 then ALG a b else S.Eu x y
theorem ALN:∀a b:List V,ALG a b = -1\/ALG a b=0\/ALG a b=1
 | [],[]=>.inr (.inl rfl)
 | [],_ :: _=>.inl rfl
 | _ :: _,[]=>.inr (.inr rfl)
 | x :: a,y :: b=>by
   unfold ALG;split
   ·exact ALN a b
   exact S.bV x y
theorem ALM:∀a b:List V,ALG b a = -ALG a b
 | [],[]=>rfl
 | [],_ :: _=>rfl
 | _ :: _,[]=>rfl
 | x :: a,y :: b=>by
   have h:=S.He x y;unfold ALG
   by_cases e:S.Eu x y=0
   ·rw[Yag e,Yag (by omega)];exact ALM a b
   rw[Yaf e,Yaf (by omega)];exact h
theorem ALh:∀a b:List V,ALG a b=0->a=b
 | [],[],_=>rfl
 | [],_ :: _,h=>by simp[ALG] at h
 | _ :: _,[],h=>by simp[ALG] at h
 | x :: a,y :: b,h=>by
   unfold ALG at h
   by_cases e:S.Eu x y=0
   ·rw[Yag e] at h
    rw[S.Ig.mp e,ALh a b h]
   rw[Yaf e] at h;exact absurd h e
theorem AMo(a:List V):ALG a a=0:=by have:=ALM a a;omega
theorem Ha{x y z:V}{m:Int}(a:S.Eu x y=m)(b:S.Eu y z=m):S.Eu x z=m:=S.AAF _ _ _ _ _ _ _ _ _ m a b
theorem ALo:∀a b c:List V,ALG a b = -1->ALG b c = -1->ALG a c = -1
 | [],_,[],_,h2=>by rename_i b _;cases b <;> simp[ALG] at *
 | [],_,_ :: _,_,_=>rfl
 | _ :: _,[],_,h1,_=>by simp[ALG] at h1
 | _ :: _,_ :: _,[],_,h2=>by simp[ALG] at h2
 | x :: a,y :: b,z :: c,h1,h2=>by
   unfold ALG at h1 h2 ⊢
   by_cases e1:S.Eu x y=0
   ·have d:=S.Ig.mp e1
    subst d;rw[Yag e1] at h1
    by_cases e2:S.Eu x z=0
    ·rw[Yag e2] at h2 ⊢;exact ALo a b c h1 h2
    rw[Yaf e2] at h2 ⊢;exact h2
   rw[Yaf e1] at h1
   by_cases e2:S.Eu y z=0
   ·have e:=S.Ig.mp e2
    subst e;rw[Yaf e1];exact h1
   rw[Yaf e2] at h2;have:=Ha h1 h2;rw[Yaf (by omega)];exact this
def Gr(w a:World):Prop:=∃q os,a=Go.Sort.grow (w.drewN q) os
theorem Gr.refl(w:Tw):Gr w w:=⟨0,#[],by rw[Go.Sort.grow_empty];rfl⟩
theorem Gr.trans{a b c:Tw}(h:Gr a b)(k:Gr b c):Gr a c:=by obtain⟨q,os,rfl⟩:=h;obtain⟨p,d,rfl⟩:=k;refine⟨q+p,os++d,?_⟩;rw[<-Go.Sort.grow_grow];simp[World.drewN,Go.Sort.grow,Nat.add_assoc]
theorem Gr.alloc{a b:Tw}(h:Gr a b)(o:Obj):Gr a (b.alloc o):=h.trans ⟨0,#[o],by rw[Go.Sort.alloc_eq_grow];rfl⟩
theorem Gr.drew{a b:Tw}(h:Gr a b):Gr a b.drew:=h.trans ⟨1,#[],by rw[Go.Sort.grow_empty];rfl⟩
theorem Gr.below{a b:Tw}(h:Gr a b):Zb a b:=by obtain⟨q,os,rfl⟩:=h;exact⟨rfl,rfl,rfl,by simp[Go.Sort.grow,World.drewN],λk c=>by simp[Go.Sort.grow,World.drewN,Array.getElem?_append,c]⟩
theorem AMx(b n1 c n2:Int)(t1 t2:Tb)(w:Tw):
 Zc 37 #[Zg #[Zi b,Zi n1,Zt t1],Zg #[Zi c,Zi n2,Zt t2]] w λe a=>e=Zr (Zi (S.Kb b n1 t1 c n2 t2))/\Gr w a:=by
 go_enter func37,ntmps37;go_wp2
 go_region_held3 (λa=>a.cell? (Zd w.heap.size 0)=some (Zi b)/\a.cell? (Zd w.heap.size 1)=some (Zi n1)/\a.cell? (Zd w.heap.size 2)=some (Zt t1)/\a.cell? (Zd (w.heap.size+1) 0)=some (Zi c)/\a.cell? (Zd (w.heap.size+1) 1)=some (Zi n2)/\a.cell? (Zd (w.heap.size+1) 2)=some (Zt t2)) (go_keep)
  (first
    | (go_at_call 64;refine(S.wD _ _ _).mono ?_;rintro e a⟨rfl,rfl⟩)
    | (go_at_call 65;refine(S.nI _ _ _).mono ?_;rintro e a⟨rfl,rfl⟩)
    | (go_at_call 66;refine(S.xM _ _ _).mono ?_;rintro e a⟨rfl,rfl⟩)
    | (go_at_call 63;refine(S.AJV (w.heap.size+1+1) (S.Oh b c) (S.Oh n1 n2) (S.R4 t1 t2) _ (by simp[XA]) (by simp[XA]) (by simp[XA])).mono ?_;rintro e a⟨rfl,rfl⟩))
 go_wp2;go_ret;exact⟨rfl,((((Gr.refl _).alloc _).alloc _).alloc _).drew⟩
theorem drop_cons{l:List V}{k:Nat}{x:V}(h:l[k]? = some x):l.drop k=x :: l.drop (k+1):=by have a:=Ax h;rw[Y' a] at h;injection h with h;rw[Yk a,h]
theorem AMw(Y v2:Tv)(a b:List V)(w:Tw)(R:E.Sl w Y a)(T:E.Sl w v2 b)(ha:a.length<=1000)(_hb:b.length<=1000):
 Zc 36 #[Y,v2,.func (.func 37) #[] #[]] w λe w'=>e=Zr (Zi (ALG a b))/\Gr w w':=by
 have H1:=Aa R;have H2:=Aa T;obtain⟨a1,c1,rfl,_,_⟩:=R;obtain⟨a2,c2,rfl,_,_⟩:=T;go_enter func36,ntmps36;go_wp2
 go_loopw [13] (λI wr=>∃k:Nat,k<=a.length/\k<=b.length/\I=Zi k/\Hid (ALG (a.drop k) (b.drop k)=ALG a b)/\Hid (Gr w wr)) (λI _=>a.length-(intOf I).toNat)
 case atStart=>exact⟨0,XB _,XB _,rfl,Aa rfl,Aa (Gr.refl _)⟩
 case round=>
  obtain⟨k,hk,ae,rfl,n,i⟩:=hrel
  by_cases hlt:k<a.length
  ·obtain⟨x,m⟩:∃x,a[k]? = some x:=⟨_,Y' hlt⟩
   have v:(k:Int)<(a.length:Int):=by omega
   obtain⟨aa,ac,e1,_,D⟩:=H1.o.up i.o.below;injection e1 with e11 _ q;subst e11 q;obtain⟨b1,o1,rfl,p1,G⟩:=D (λe=>by rw[e] at hlt;simp at hlt);obtain⟨x0,x1,x2⟩:=G k x m;obtain⟨J,L,M⟩:=x
   by_cases hlb:k<b.length
   ·obtain⟨y,z⟩:∃y,b[k]? = some y:=⟨_,Y' hlb⟩
    have u:¬(b.length:Int)<=(k:Int):=by omega
    have U:(k:Int)<(b.length:Int):=by omega
    obtain⟨ab,ad,e2,_,W⟩:=H2.o.up i.o.below;injection e2 with r _ s;subst r s;obtain⟨b2,o2,rfl,p2,X⟩:=W (λe=>by rw[e] at hlb;simp at hlb);obtain⟨y0,y1,y2⟩:=X k y z;obtain⟨N,O,P⟩:=y;have c:=Aa (n.o.symm.trans (congr (congrArg ALG (drop_cons m)) (drop_cons z)));clear m z G X D W;go_wp2_with fail;refine(AMx _ _ _ _ _ _ _).mono ?_;rintro e w1⟨rfl,l⟩;have j:Hid (Gr w w1):=Aa (((i.o.alloc _).alloc _).trans l);have o:Hid (S.Kb J L M N O P=S.Eu (J,L,M) (N,O,P)):=Aa rfl;clear l;generalize S.Kb J L M N O P=p at o ⊢
    by_cases hz:p=0
    ·have d:Hid (ALG (a.drop (k+1)) (b.drop (k+1))=ALG a b):=Aa (by
      have h:=c.o;rw[ALG,Yag (by rw[<-o.o];exact hz)] at h;exact h.symm)
     subst hz;clear c;go_wp2;exact⟨⟨k+1,by omega,by omega,by go_num,d,j⟩,by simp[intOf];omega⟩
    have d:Hid (p=ALG a b):=Aa (by have h:=c.o;rw[ALG,Yaf (by rw[<-o.o];exact hz)] at h;rw[h];exact o.o)
    have af:(p==0)=false:=by simpa using hz
    clear c;go_wp2;go_ret;exact⟨congrArg (λx=>Ending.returned (Zi x)) d.o,j.o⟩
   have u:(b.length:Int)<=(k:Int):=by omega
   have c:Hid (ALG a b=1):=Aa (by have g:b.drop k=[]:=Yx (by omega);rw[<-n.o,drop_cons m,g];rfl)
   clear m G D;go_wp2;go_ret;exact⟨congrArg (λx=>Ending.returned (Zi x)) c.o.symm,i.o.alloc _⟩
  have v:¬(k:Int)<(a.length:Int):=by omega
  by_cases hlb:k<b.length
  ·have t:(a.length:Int)<(b.length:Int):=by omega
   have c:Hid (ALG a b = -1):=Aa (by have f:a.drop k=[]:=Yx (by omega);rw[<-n.o,f,Yk hlb];rfl)
   go_wp2;go_ret;exact⟨congrArg (λx=>Ending.returned (Zi x)) c.o.symm,i.o⟩
  have t:¬(a.length:Int)<(b.length:Int):=by omega
  have c:Hid (ALG a b=0):=Aa (by have f:a.drop k=[]:=Yx (by omega);have g:b.drop k=[]:=Yx (by omega);rw[<-n.o,f,g];rfl)
  go_wp2;go_ret;exact⟨congrArg (λx=>Ending.returned (Zi x)) c.o.symm,i.o⟩
theorem ANI(d f:Tv)(a b:List V)(w:Tw)(h:E.Sl w d a)(i:E.Sl w f b)(j:a.length<=1000)(c:b.length<=1000):
 Zc 35 #[d,f] w λe k=>e=Zr (Zi (ALG a b))/\Gr w k:=by
 have g:=Aa (AMw d f a b w h i j c);generalize ALG a b=r at g ⊢;clear h i;go_enter func35,ntmps35;go_wp2_with fail;refine g.o.mono ?_;rintro e l⟨rfl,c⟩;go_wp2;go_ret;exact⟨rfl,c⟩
