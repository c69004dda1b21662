import Derived.Lib.SlBy
import Derived.Test.YthafikkkjfielaaGreatDoorAb
set_option maxHeartbeats 40000000
set_option maxRecDepth 100000
open List renaming flatMap_cons->Y',mem_append_left->XC,length_cons->XF,map_append->XG,mem_cons->XH,map_cons->XI,map_set->XJ,map_nil->XK
open Bool renaming and_eq_true->XA,or_eq_false_iff->XB,not_eq_true'->XD
open Int renaming toNat_natCast->XE
namespace Go.Proofs.YthafikkkjfielaaGreatDoor
open Tryz 
variable{j k:Nat}
abbrev Aj:=Int×ByteArray×Int×Bool×Int×Int×ByteArray
def Cc(c:Aj):List Value:=[Zi c.1,.string c.2.1,Zi c.2.2.1,.bool c.2.2.2.1,Zi c.2.2.2.2.1,Zi c.2.2.2.2.2.1,.string c.2.2.2.2.2.2]
def Av(l:List Aj):List Value:=l.flatMap Cc
theorem Gl(c:Aj):(Cc c).length=7:=rfl
theorem Hy:∀l:List Aj,(Av l).length=l.length*7
 | []=>rfl
 | c :: l=>by simp only[Av,Y',List.length_append,Gl,XF];have:=Hy l;simp only[Av] at this;omega
theorem Wq:∀(l:List Aj)(j i:Nat),j<l.length->i<7->(Av l)[j*7+i]? = (Cc l[j]!)[i]?
 | [],j,i,h,_=>absurd h (Yr _)
 | c :: l,0,i,_,hi=>by simp only[Av,Y'];rw[List.getElem?_append_left (by rw[Gl];omega)];simp
 | c :: l,j+1,i,h,hi=>by have a:=Wq l j i (by simpa using h) hi;simp only[Av,Y'] at a ⊢;rw[List.getElem?_append_right (by rw[Gl];omega),Gl,show (j+1)*7+i-7=j*7+i by omega,a];simp
theorem Ni(l:List Aj):∀u∈Av l,u.oneCell'=true:=by
 intro u b;simp only[Av,List.mem_flatMap] at b;obtain⟨c,_,a⟩:=b;simp only[Cc,XH,List.not_mem_nil,or_false] at a
 rcases a with rfl|rfl|rfl|rfl|rfl|rfl|rfl <;> rfl
def AIv(cb:ByteArray->Bool)(fb:Int->Int->Int->ByteArray->Bool)(c:Aj):Prop :=
 (c.2.2.1=1\/c.2.2.1=2)/\1<=c.1/\cb c.2.1=true/\fb c.2.2.1 c.2.2.2.2.1 c.2.2.2.2.2.1 c.2.2.2.2.2.2=true
def AFO(a b:Aj):Prop:=a.1≠b.1/\a.2.1≠b.2.1
def Wc(cb:ByteArray->Bool)(fb:Int->Int->Int->ByteArray->Bool)(l:List Aj)(next:Int):Prop :=
 1<=l.length/\l.length<=8/\(∀c∈l,AIv cb fb c/\c.1<next)/\l.Pairwise AFO
def rR(c:Aj)(x:ByteArray):Aj:=(c.1,x,c.2.2)
def Ce(l:List Aj)(nm:ByteArray):Int:=Lib.idxBy (λ_ y=>y.2.1.toList==nm.toList) l default
theorem toList_inj{a b:Tb}(h:a.toList=b.toList):a=b:=by rw[ByteArray.toList_eq,ByteArray.toList_eq] at h;exact ByteArray.ext (Array.toList_inj.mp h)
theorem Jj{l:List Aj}(h:j<l.length):l[j]! ∈l:=by rw[getElem!_pos l j h];exact Yh h
theorem AF5{l:List Aj}(h:l.Pairwise AFO){i:Nat}(b:i<l.length)(c:j<l.length)(d:i≠j):AFO l[i]! l[j]! := by
 rw[getElem!_pos l i b,getElem!_pos l j c]
 rcases YQ d with a|a
 ·exact List.pairwise_iff_getElem.1 h i j b c a
 have:=List.pairwise_iff_getElem.1 h j i c b a;exact⟨λe=>this.1 e.symm,λe=>this.2 e.symm⟩
abbrev Vc:=ByteArray×Int×List Int
variable{l:List Vc}{e:Vc}
abbrev ADV:=Int×ByteArray×Int×List Int×List Aj×Int
variable{a:ADV}
abbrev Dn:=ByteArray×Bool×List ADV
variable{c:Dn}
structure Ah where
 Eb:Int
 qz:List Aj
 next:Int
 qx:List Vc
def F6:Ah:=⟨0,[],0,[]⟩
def F9(qj:Int):Int->List Int->Bool
 | _,[]=>true
 | last,x :: xs=>!(decide (x<=last) || decide (qj<=x)) && F9 qj x xs
def Dj(l:List Int)(qj:Int):Bool:=decide (0<l.length) && F9 qj (-1) l
def Bt(l:List Vc)(p:ByteArray):Int:=Lib.idxBy (λ_ y=>y.1.toList==p.toList) l default
def aK(l masked:List Int):Bool:=l.any (λx=>masked.any (λy=>x==y))
def Ir(l:List Int):List Int:=l.mergeSort λx y=>decide (x<=y)
def N6(e:Vc)(m:List Int):Vc:=(e.1,e.2.1,Ir (e.2.2++m))
section
variable (nb : ByteArray → Bool) (cb : ByteArray → Bool) (fb : Int → Int → Int → ByteArray → Bool)
def jP(s:Ah)(a:ADV):Prop:=nb a.2.1=true/\1<=a.2.2.1/\a.2.2.1<=60/\Bt s.qx a.2.1<0/\s.qz≠[]/\s.qx.length<40
def oE(s:Ah)(a:ADV):Ah:=⟨s.Eb,s.qz,s.next,s.qx++[(a.2.1,a.2.2.1,[])]⟩
def tI(s:Ah)(a:ADV):Ah:=⟨s.Eb,s.qz,s.next,s.qx.eraseIdx (Bt s.qx a.2.1).toNat⟩
def dW(s:Ah)(a:ADV):Prop:=0<=Bt s.qx a.2.1/\Dj a.2.2.2.1 (s.qx[(Bt s.qx a.2.1).toNat]!).2.1=true/\aK a.2.2.2.1 (s.qx[(Bt s.qx a.2.1).toNat]!).2.2=false
def gJ(s:Ah)(a:ADV):Ah:=⟨s.Eb,s.qz,s.next,s.qx.set (Bt s.qx a.2.1).toNat (N6 s.qx[(Bt s.qx a.2.1).toNat]! a.2.2.2.1)⟩
def j7(s:Ah)(a:ADV):Prop:=Wc cb fb a.2.2.2.2.1 a.2.2.2.2.2/\s.next<=a.2.2.2.2.2
def AI8(s:Ah)(a:ADV):Ah:=⟨s.Eb,a.2.2.2.2.1,a.2.2.2.2.2,s.qx⟩
def pQ(s:Ah)(a:ADV)(t:Ah):Prop :=
 (a.1=1/\jP nb s a/\t=oE s a)\/(a.1=2/\0<=Bt s.qx a.2.1/\t=tI s a)\/(a.1=3/\dW s a/\t=gJ s a)\/(a.1=4/\j7 cb fb s a/\t=AI8 s a)
def Il:Ah->List ADV->Ah->Prop
 | s,[],t=>t=s
 | s,a :: l,t=>∃u,pQ nb cb fb s a u/\Il u l t
def bump(s:Ah):Ah:=⟨s.Eb+1,s.qz,s.next,s.qx⟩
def oL(s:Ah)(c:Dn)(t:Ah):Prop:=nb c.1=true/\Il nb cb fb (bump s) c.2.2 t
end
section
variable {nb : ByteArray → Bool} {cb : ByteArray → Bool} {fb : Int → Int → Int → ByteArray → Bool}
theorem AE3{s t u:Ah}(h:pQ nb cb fb s a t)(k:pQ nb cb fb s a u):t=u:=by
 unfold pQ at h k
 rcases h with⟨b,_,rfl⟩|⟨b,_,rfl⟩|⟨b,_,rfl⟩|⟨b,_,rfl⟩ <;> rcases k with⟨k1,_,rfl⟩|⟨k1,_,rfl⟩|⟨k1,_,rfl⟩|⟨k1,_,rfl⟩ <;> first|rfl|(exfalso;omega)
theorem K6:∀{l:List ADV}{s t u:Ah},Il nb cb fb s l t->Il nb cb fb s l u->t=u
 | [],_,_,_,h,k=>by simp only[Il] at h k;rw[h,k]
 | a :: l,s,t,u,h,k=>by obtain⟨x,b,c⟩:=h;obtain⟨y,d,e⟩:=k;have:=AE3 b d;subst this;exact K6 c e
theorem tE:∀{l m:List ADV}{s u t:Ah},Il nb cb fb s l u->Il nb cb fb u m t->Il nb cb fb s (l++m) t
 | [],_,_,_,_,h,k=>by simp only[Il] at h;subst h;exact k
 | a :: l,m,s,u,t,⟨x,h1,h2⟩,k=>⟨x,h1,tE h2 k⟩
theorem cE:∀{l m:List ADV}{s t:Ah},Il nb cb fb s (l++m) t->∃u,Il nb cb fb s l u/\Il nb cb fb u m t
 | [],_,s,_,h=>⟨s,rfl,h⟩
 | a :: l,m,s,t,⟨x,h1,h2⟩=>by obtain⟨u,b,c⟩:=cE h2;exact⟨u,⟨x,h1,b⟩,c⟩
theorem J8(l:List Vc)(nm:Tb):(Bt l nm = -1/\∀j,j<l.length->l[j]!.1≠nm)\/∃k:Nat,k<l.length/\Bt l nm=k/\l[k]!.1=nm/\∀j,j<k->l[j]!.1≠nm:=by
 by_cases h:∃k,k<l.length/\l[k]!.1=nm
 ·right
  let P:Nat->Prop:=λk=>k<l.length/\l[k]!.1=nm
  have i:∀n,(∃k,k<n/\P k)->∃k,P k/\∀j,j<k->¬P j:=by
   intro n
   induction n with
   | zero=>rintro⟨k,d,_⟩;omega
   | succ n ih=>
     rintro⟨k,d,p⟩
     by_cases hx:∃j,j<n/\P j
     ·exact ih hx
     refine⟨k,p,λj b g=>hx ⟨j,by omega,g⟩⟩
  obtain⟨o,f⟩:=h;obtain⟨k,⟨d,m⟩,c⟩:=i (o+1) ⟨o,by omega,f⟩;have a:∀j,j<k->l[j]!.1≠nm:=λj b e=>c j b ⟨by omega,e⟩
  refine⟨k,d,?_,m,a⟩;have:=Lib.idxBy_hit (λ(_:Vc)(y:Vc)=>y.1.toList==nm.toList) l l.length k default d (Nat.le_refl _) (by show (l[k]!.1.toList==nm.toList)=true;rw[m];exact beq_self_eq_true _) (λj b=>beq_eq_false_iff_ne.2 (λe=>a j b (toList_inj e)));rw[Yg] at this;exact this
 left;refine⟨?_,λj b e=>h ⟨j,b,e⟩⟩;have:=Lib.idxBy_miss (λ(_:Vc)(y:Vc)=>y.1.toList==nm.toList) l l.length default (λj b=>beq_eq_false_iff_ne.2 (λe=>h ⟨j,b,toList_inj e⟩));rw[Yg] at this;exact this
def Ma(b a:Int)(l:List Int):Prop:=l.Pairwise (·<·)/\∀x∈l,b<x/\x<a
theorem Mr(qj:Int):∀(l:List Int)(last:Int),F9 qj last l=true↔Ma last qj l
 | [],last=>by simp[F9,Ma]
 | x :: xs,last=>by
   have g:=Mr qj xs x;simp only[F9,XA,XD,XB,decide_eq_false_iff_not,g,Ma,List.pairwise_cons,XH,forall_eq_or_imp];constructor
   ·rintro⟨⟨c,d⟩,e,b⟩
    exact⟨⟨λy a=>(b y a).1,e⟩,⟨by omega,by omega⟩,λy a=>⟨by have:=(b y a).1;omega,(b y a).2⟩⟩
   rintro⟨⟨c,d⟩,⟨e,b⟩,f⟩;exact⟨⟨by omega,by omega⟩,d,λy a=>⟨c y a,(f y a).2⟩⟩
theorem fO(qj:Int){l:List Int}{last:Int}(h:F9 qj last l=true):(l.length:Int)<=max 0 (qj-last-1):=by
 induction l generalizing last with
 | nil=>simp;omega
 | cons x xs ih=>simp only[F9,XA,XD,XB,decide_eq_false_iff_not] at h;have:=ih h.2;simp only[XF];omega
theorem cU(l:List Int):(Ir l).Perm l:=Y1 l _
theorem Ml(l:List Int):(Ir l).length=l.length:=(cU l).length_eq
theorem oK(l:List Int):(Ir l).Pairwise (·<=·):=by have:=List.pairwise_mergeSort (le:=λ(x y:Int)=>decide (x<=y)) (λa b c h1 h2=>by simp at *;omega) (λa b=>by simp;omega) l;exact this.imp (λh=>by simpa using h)
theorem nR{z t:Int}{a b:List Int}(d:Ma z t a)(f:Ma z t b)(i:aK b a=false):Ma z t (Ir (a++b)):=by
 have g:=cU (a++b)
 have j:(Ir (a++b)).Nodup:=by rw[g.nodup_iff,YR];refine⟨d.1.imp (λh e=>by omega),f.1.imp (λh e=>by omega),?_⟩;intro x c y k e;subst e;have:=List.any_eq_false.1 i x k;simp at this;exact this c
 refine⟨?_,?_⟩
 ·exact((oK (a++b)).and j).imp (λh=>by have l:=h.1;have m:=h.2;omega)
 intro x c
 rcases List.mem_append.1 (g.mem_iff.1 c) with h|h
 ·exact d.2 x h
 exact f.2 x h
structure Good(cb:ByteArray->Bool)(fb:Int->Int->Int->ByteArray->Bool)(s:Ah):Prop where
 Iz:s.qx.length<=40
 qz:s.qz=[]\/Wc cb fb s.qz s.next
 once:(s.qx.map (·.1)).Nodup
 Cl:∀e∈s.qx,Ma (-1) e.2.1 e.2.2
 qj:∀e∈s.qx,e.2.1<=60
theorem ABq:Good cb fb F6:=⟨by simp[F6],.inl rfl,by simp[F6],by simp[F6],by simp[F6]⟩
theorem bB(h:j<l.length):l[j]! ∈l:=by rw[getElem!_pos l j h];exact Yh h
theorem AB2(b:k<l.length)(a:e.1=l[k]!.1):(l.set k e).map (·.1)=l.map (·.1):=by
 rw[XJ,a,getElem!_pos l k b];apply Y9
 ·simp
 intro i c d;rw[YK];split
 ·rename_i hh;subst hh;simp
 rfl
theorem lB{s t:Ah}(h:pQ nb cb fb s a t)(g:Good cb fb s):Good cb fb t:=by
 rcases h with⟨_,⟨_,f,p,m,_,O5⟩,rfl⟩|⟨_,m,rfl⟩|⟨_,⟨m,c,i⟩,rfl⟩|⟨_,⟨c,_⟩,rfl⟩
 ·refine⟨by simp[oE];omega,g.qz,?_,?_,?_⟩
  ·simp only[oE,XG,XI,XK]
   rw[YR];refine⟨g.once,by simp,?_⟩;intro x u y n e;simp at n;subst e;subst n
   rcases J8 s.qx a.2.1 with⟨_,r⟩|⟨k,d,q,_⟩
   ·obtain⟨e,b,o⟩:=List.mem_map.1 u
    obtain⟨j,l,rfl⟩:=Yk b;have:=r j l;rw[getElem!_pos s.qx j l] at this;exact this o
   omega
  ·intro e b
   rcases List.mem_append.1 b with b|b
   ·exact g.Cl e b
   simp at b;subst b;exact⟨List.Pairwise.nil,by simp⟩
  intro e b
  rcases List.mem_append.1 b with b|b
  ·exact g.qj e b
  simp at b;subst b;exact p
 ·refine⟨?_,g.qz,?_,?_,λe b=>g.qj e (YB b)⟩
  ·have:=g.Iz
   have:=(YN s.qx (Bt s.qx a.2.1).toNat).length_le;simp only[tI];omega
  ·exact(g.once).sublist ((YN _ _).map _)
  exact λe b=>g.Cl e (YB b)
 ·rcases J8 s.qx a.2.1 with⟨v,_⟩|⟨k,d,q,_⟩
  ·omega
  have e0:(Bt s.qx a.2.1).toNat=k:=by omega
  rw[e0] at c i;unfold gJ;rw[e0];refine⟨by simpa using g.Iz,g.qz,?_,?_,?_⟩
  ·simp only
   rw[AB2 d (by rfl)];exact g.once
  ·intro e b
   rcases Yu b with b|rfl
   ·exact g.Cl e b
   have f:=g.Cl _ (bB d);simp only[Dj,XA] at c;exact nR f ((Mr _ _ _).1 c.2) i
  intro e b
  rcases Yu b with b|rfl
  ·exact g.qj e b
  exact g.qj s.qx[k]! (bB d)
 exact⟨g.Iz,.inr c,g.once,g.Cl,g.qj⟩
theorem lX:∀{l:List ADV}{s t:Ah},Il nb cb fb s l t->Good cb fb s->Good cb fb t
 | [],_,_,h,g=>by simp only[Il] at h;subst h;exact g
 | a :: l,s,t,⟨u,h1,h2⟩,g=>lX h2 (lB h1 g)
theorem mP{s t:Ah}(h:oL nb cb fb s c t)(g:Good cb fb s):Good cb fb t:=lX h.2 ⟨g.Iz,g.qz,g.once,g.Cl,g.qj⟩
theorem AEJ{s t:Ah}(h:pQ nb cb fb s a t):t.Eb=s.Eb:=by rcases h with⟨_,_,rfl⟩|⟨_,_,rfl⟩|⟨_,_,rfl⟩|⟨_,_,rfl⟩ <;> rfl
theorem qW:∀{l:List ADV}{s t:Ah},Il nb cb fb s l t->t.Eb=s.Eb
 | [],_,_,h=>by simp only[Il] at h;rw[h]
 | a :: l,s,t,⟨u,h1,h2⟩=>(qW h2).trans (AEJ h1)
theorem aB{s t:Ah}(h:oL nb cb fb s c t):t.Eb=s.Eb+1:=qW h.2
theorem Qr{s:Ah}(g:Good cb fb s)(a:e∈s.qx):e.2.2.length<=60:=by have b:=g.qj e a;have:=fO e.2.1 ((Mr _ _ _).2 (g.Cl e a));omega
end
def AL3(σ:ByteArray->ByteArray)(e:Vc):Vc:=(σ e.1,e.2)
def ALv(σ:ByteArray->ByteArray)(s:Ah):Ah:=⟨s.Eb,s.qz,s.next,s.qx.map (AL3 σ)⟩
def ALh(σ:ByteArray->ByteArray)(a:ADV):ADV:=if a.1=4 then a else (a.1,σ a.2.1,a.2.2)
def AMR(σ:ByteArray->ByteArray)(N:List ByteArray):Prop:=∀x∈N,∀y∈N,σ x=σ y->x=y
theorem AMR.sub{σ:Tb->Tb}{N M:List Tb}(h:AMR σ N)(a:∀x∈M,x∈N):AMR σ M:=λx b y c=>h x (a x b) y (a y c)
theorem AMH(σ:Tb->Tb)(a:ADV):(ALh σ a).1=a.1:=by unfold ALh;split <;> rfl
theorem ANH(σ:Tb->Tb)(a:ADV):(ALh σ a).2.2=a.2.2:=by unfold ALh;split <;> rfl
theorem AMX{σ:Tb->Tb}(h:a.1≠4):(ALh σ a).2.1=σ a.2.1:=by unfold ALh;rw[Yad h]
theorem AM4(σ:Tb->Tb)(a:k<l.length):(l.map (AL3 σ))[k]! = AL3 σ l[k]! := by
 rw[getElem!_pos _ k (by simpa using a),getElem!_pos l k a,List.getElem_map]
theorem AOO{σ:Tb->Tb}{p:Tb}(g:AMR σ (p :: l.map (·.1))):Bt (l.map (AL3 σ)) (σ p)=Bt l p:=by
 have c:∀j,j<l.length->l[j]!.1∈p :: l.map (·.1):=λj n=>Yd _ (List.mem_map.2 ⟨_,bB n,rfl⟩)
 rcases J8 l p with⟨e,d⟩|⟨k,f,e,d,i⟩ <;> rcases J8 (l.map (AL3 σ)) (σ p) with⟨k1,k2⟩|⟨m,hm,k1,k2,k3⟩
 ·rw[e,k1]
 ·have a:m<l.length:=by simpa using hm
  rw[AM4 σ a] at k2;exact absurd (g _ (c m a) _ (Ye ..) k2) (d m a)
 ·have:=k2 k (by simpa using f)
  rw[AM4 σ f] at this;exact absurd (by show σ l[k]!.1=σ p;rw[d]) this
 have a:m<l.length:=by simpa using hm
 rw[AM4 σ a] at k2;have h:l[m]!.1=p:=g _ (c m a) _ (Ye ..) k2;rw[e,k1]
 rcases Y6 m k with b|b|b
 ·exact absurd h (i m b)
 ·rw[b]
 have:=k3 k b;rw[AM4 σ f] at this;exact absurd (by show σ l[k]!.1=σ p;rw[d]) this
section
variable {nb : ByteArray → Bool} {cb : ByteArray → Bool} {fb : Int → Int → Int → ByteArray → Bool}
theorem AOG(σ:Tb->Tb)(l:List Vc)(k:Nat):(l.eraseIdx k).map (AL3 σ)=(l.map (AL3 σ)).eraseIdx k:=by
 induction l generalizing k with
 | nil=>rfl
 | cons x l ih=>cases k with
   | zero=>rfl
   | succ k=>simp[ih]
theorem AOm{σ:Tb->Tb}{s t:Ah}(h:pQ nb cb fb s a t)(u:AMR σ (a.2.1 :: s.qx.map (·.1)))(v:a.1=1->nb (σ a.2.1)=true):pQ nb cb fb (ALv σ s) (ALh σ a) (ALv σ t):=by
 have f:=AOO (σ:=σ) (l:=s.qx) (p:=a.2.1) u;have c:=ANH σ a
 rcases h with⟨d,⟨g,i,j,o,q,r⟩,rfl⟩|⟨d,g,rfl⟩|⟨d,⟨g,i,j⟩,rfl⟩|⟨d,⟨g,i⟩,rfl⟩
 ·have b:=AMX (σ:=σ) (a:=a) (by omega)
  refine .inl ⟨by rw[AMH,d],⟨by rw[b];exact v d,by rw[c];exact i,by rw[c];exact j,?_,q,?_⟩,?_⟩
  ·show Bt (s.qx.map (AL3 σ)) (ALh σ a).2.1<0
   rw[b,f];exact o
  ·show (s.qx.map (AL3 σ)).length<40
   rw[List.length_map];exact r
  show ALv σ (oE s a)=oE (ALv σ s) (ALh σ a);unfold oE ALv;simp only[XG,XI,XK,b,c];rfl
 ·have b:=AMX (σ:=σ) (a:=a) (by omega)
  refine .inr (.inl ⟨by rw[AMH,d],?_,?_⟩)
  ·show 0<=Bt (s.qx.map (AL3 σ)) (ALh σ a).2.1
   rw[b,f];exact g
  show ALv σ (tI s a)=tI (ALv σ s) (ALh σ a);unfold tI ALv;simp only[b,f,AOG]
 ·have b:=AMX (σ:=σ) (a:=a) (by omega)
  obtain⟨k,m,e,_⟩:∃k:Nat,k<s.qx.length/\Bt s.qx a.2.1=(k:Int)/\True:=by
   rcases J8 s.qx a.2.1 with⟨e,_⟩|⟨k,m,e,_⟩
   ·omega
   exact⟨k,m,e,trivial⟩
  have n:(s.qx.map (AL3 σ))[(Bt s.qx a.2.1).toNat]! = AL3 σ s.qx[(Bt s.qx a.2.1).toNat]! := by rw[e,XE];exact AM4 σ m
  refine .inr (.inr (.inl ⟨by rw[AMH,d],⟨?_,?_,?_⟩,?_⟩))
  ·show 0<=Bt (s.qx.map (AL3 σ)) (ALh σ a).2.1
   rw[b,f];exact g
  ·show Dj (ALh σ a).2.2.2.1 ((s.qx.map (AL3 σ))[(Bt (s.qx.map (AL3 σ)) (ALh σ a).2.1).toNat]!).2.1=true
   rw[c,b,f,n];exact i
  ·show aK (ALh σ a).2.2.2.1 ((s.qx.map (AL3 σ))[(Bt (s.qx.map (AL3 σ)) (ALh σ a).2.1).toNat]!).2.2=false
   rw[c,b,f,n];exact j
  show ALv σ (gJ s a)=gJ (ALv σ s) (ALh σ a);unfold gJ ALv;simp only[c,b,f,n,XJ];rfl
 refine .inr (.inr (.inr ⟨by rw[AMH,d],⟨by rw[c];exact g,by rw[c];exact i⟩,?_⟩));show ALv σ (AI8 s a)=AI8 (ALv σ s) (ALh σ a);unfold AI8 ALv;simp only[c]
def ANO(s:Ah)(A:List ADV):List ByteArray:=s.qx.map (·.1)++A.map (·.2.1)
theorem AN3{s t:Ah}(h:pQ nb cb fb s a t):∀x∈t.qx.map (·.1),x∈a.2.1 :: s.qx.map (·.1):=by
 intro x b
 rcases h with⟨_,_,rfl⟩|⟨_,_,rfl⟩|⟨_,⟨i,_,_⟩,rfl⟩|⟨_,_,rfl⟩
 ·simp[oE] at b
  rcases b with b|rfl
  ·obtain⟨y,z,g⟩:=b
   exact Yd _ (List.mem_map.2 ⟨(x,y,z),g,rfl⟩)
  exact Ye ..
 ·obtain⟨e,d,rfl⟩:=List.mem_map.1 b
  exact Yd _ (List.mem_map.2 ⟨e,YB d,rfl⟩)
 ·obtain⟨k,c,e⟩:∃k:Nat,k<s.qx.length/\Bt s.qx a.2.1=(k:Int):=by
   rcases J8 s.qx a.2.1 with⟨e,_⟩|⟨k,c,e,_⟩
   ·omega
   exact⟨k,c,e⟩
  have f:(gJ s a).qx.map (·.1)=s.qx.map (·.1):=by unfold gJ;simp only[e,XE];exact AB2 c rfl
  rw[f] at b;exact Yd _ b
 exact Yd _ b
theorem ANh{σ:Tb->Tb}:∀{A:List ADV}{s t:Ah},Il nb cb fb s A t->AMR σ (ANO s A)->(∀a∈A,a.1=1->nb (σ a.2.1)=true)->Il nb cb fb (ALv σ s) (A.map (ALh σ)) (ALv σ t)
 | [],_,_,h,_,_=>by simp only[Il] at h;rw[h];rfl
 | a :: A,s,t,h,hi,hn=>by
   obtain⟨u,d,e⟩:=h;refine⟨ALv σ u,AOm d (hi.sub λx c=>?_) (hn a (Ye ..)),ANh e (hi.sub λx c=>?_) λb hb=>hn b (Yd _ hb)⟩
   ·rcases List.mem_cons.1 c with rfl|c
    ·exact YT _ (Ye ..)
    exact XC _ c
   rcases List.mem_append.1 c with c|c
   ·rcases List.mem_cons.1 (AN3 d x c) with rfl|c
    ·exact YT _ (Ye ..)
    exact XC _ c
   exact YT _ (Yd _ c)
theorem ANV{σ:Tb->Tb}{s t:Ah}{p tx':Tb}{b:Bool}{A:List ADV}(h:oL nb cb fb s (p,b,A) t)(e:nb tx'=true)(c:AMR σ (ANO s A))(d:∀a∈A,a.1=1->nb (σ a.2.1)=true):oL nb cb fb (ALv σ s) (tx',b,A.map (ALh σ)) (ALv σ t) :=
 ⟨e,ANh (s:=bump s) h.2 c d⟩
end
