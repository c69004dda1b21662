import Derived.Test.YtbhhpheailbebaaGreatDoorCDs
import Derived.Lib.VarintDec
import Derived.Lib.VarintMem
import Derived.Lib.VarintBits
import Derived.Lib.Zigzag
import Derived.Laws.AppendOwnNone
set_option maxHeartbeats 40000000
set_option maxRecDepth 100000
open Nat renaming le_refl->Y9,zero_le->XG,le_trans->XH,add_assoc->XK,add_zero->XO,add_comm->XP,zero_add->XW
open List renaming length_append->Y',getElem?_eq_getElem->XA,length_cons->XB,mem_of_getElem?->XJ,append_assoc->XM,mem_of_mem_drop->XR,filter_eq_self->XS,set_cons_succ->XU,drop_drop->XY
open Go.RowKit.Below renaming refl->XC
open Go.World renaming ownsRow_nil->XD,cell?_alloc_mark->XE,cell?_drewN->XN,grownBy_alloc->XT,drewN_drewN->XV
open Bool renaming and_eq_true->XF,or_eq_true->XQ
open Array renaming getElem?_eq_none->XI,length_toList->XL
open Option renaming getD_some->XX
namespace Go.Proofs.YtbhhpheailbebaaGreatDoor
open Tryz RowKit Lib Joins Shelf
open Go.Sort (grow)
variable{W Y w:Tw}{D:Td}{T:TypeId}{i j:Nat}{s:Tb}
theorem AFH(w:Tw):(binOp .eql 32 Zn (Zf 90 (Zi 7))).run prog w=.ok (Zo false) w:=by kernel_rfl
theorem AEV(w:Tw):(binOp .eql 32 (Zf 90 (Zi 7)) (Zf 90 (Zi 7))).run prog w=.ok (Zo true) w:=by kernel_rfl
structure LdI(w:World)(bb:Nat)(H:List (Dn×Ah))(W:World)(k:Nat)(a1:Option Addr)(n1 c1:Nat)(x2:Int)(a2:Option Addr)(n2 c2:Nat):Prop where
 box:W.heap[w.heap.size+2]? = some (.cells #[Zi k,.slice a1 n1 c1,Zi x2,.slice a2 n2 c2] 42 (0,0))
 snap:Dl W (Ae H k) (K4 k a1 n1 c1 x2 a2 n2 c2)
 res:W.heap[w.heap.size]? = some (.cells #[Zi 0,.slice none 0 0,Zi 0,.slice none 0 0] 42 (0,0))
 kb:W.heap[w.heap.size+1]? = some (.cells #[.pointer (some ⟨bb,0,none⟩)] 26 (0,0))
 low:Zb w W
def ABf(b:Nat)(w:World):Nat:=match w.cell? ⟨b,0,none⟩ with
 | some (.int _ v)=>v.toNat
 | _=>0
theorem Pm{b k:Nat}(h:w.cell? ⟨b,0,none⟩=some (Zi k)):ABf b w=k:=by unfold ABf;rw[h];simp
theorem Ua(bb n:Nat)(D:Td)(mv:Tv)(H:List (Dn×Ah))(Eb:Int)(P:Nat)(w:Tw)(h:Ground w bb n D mv)(hl:U6 D H)(hp:La H)(O5:H.length<=40)(hk:P<=H.length)(hv:(Eb<0/\P=H.length)\/Eb=P):
 Zc 9 #[Zp (some ⟨bb,0,none⟩),Zi Eb] w λe w'=>∃j n1 c1 o l n2 m,e=Zr (Zu #[K4 P j n1 c1 o l n2 m,Zn])/\Dl w' (Ae H P) (K4 P j n1 c1 o l n2 m)/\Zb w w':=by
 obtain⟨t0,t1,t2,t3,t4⟩:=On w (Zk #[Zi 0,Zs none 0 0,Zi 0,Zs none 0 0] 42) (Zk #[Zp (some ⟨bb,0,none⟩)] 26) (Zk #[Zi 0,Zs none 0 0,Zi 0,Zs none 0 0] 42)
 have ah:Hid (∃j n1 c1 o l n2 m,LdI w bb H (((w.alloc (Zk #[Zi 0,Zs none 0 0,Zi 0,Zs none 0 0] 42)).alloc (Zk #[Zp (some ⟨bb,0,none⟩)] 26)).alloc (Zk #[Zi 0,Zs none 0 0,Zi 0,Zs none 0 0] 42)) 0 j n1 c1 o l n2 m) :=
  Aa ⟨none,0,0,0,none,0,0,t3,AAK _,t1,t2,t4⟩
 have HG:=Aa h;have HL:=Aa hl;have HP:=Aa hp;have q1:=AFH;have q2:=AEV;clear h hl hp t0 t1 t2 t3 t4;go_enter func9,ntmps9;go_wp2_with (go_at_call 25;refine(mM _ _).mono ?_;rintro e w1⟨rfl,rfl⟩);generalize ((w.alloc (Zk #[Zi 0,Zs none 0 0,Zi 0,Zs none 0 0] 42)).alloc (Zk #[Zp (some ⟨bb,0,none⟩)] 26)).alloc (Zk #[Zi 0,Zs none 0 0,Zi 0,Zs none 0 0] 42)=wa at *
 go_loopw [8,9] (λ_ _ wr=>∃k j n1 c1 o l n2 m,k<=P/\Hid (LdI w bb H wr k j n1 c1 o l n2 m)) (λ_ _ wr=>P-ABf (w.heap.size+2) wr)
 case atStart=>obtain⟨j,n1,c1,o,l,n2,m,hI⟩:=ah.o;exact⟨0,j,n1,c1,o,l,n2,m,XG _,Aa hI⟩
 case round=>
  obtain⟨k,j,n1,c1,o,l,n2,m,au,a⟩:=hrel;clear ah;obtain⟨z,U,V,X,Y⟩:=B3 a.o.box;have an:=Pm z
  by_cases hlt:k<P
  ·obtain⟨c,hc,ak,t⟩:=AA8 HP.o (Ya hlt hk)
   obtain⟨hh,al⟩:=(HL.o.2 k (by omega)).1 c hc;obtain⟨gg,nn,vv⟩:=Jb HP.o (i:=k) (by omega);have f:=Aa (AAJ bb (w.heap.size+1) n D mv (k+1) c wr (by omega) (HG.o.up a.o.low) a.o.kb hh al t);obtain⟨tx,rd,A⟩:=c;have e1:((k+1:Nat):Int)=(k:Int)+1:=by omega
   rw[e1] at f;simp only at f;have ax:A.length<=100:=t.Iz
   have am:tx.size<=maxLen:=by have h:=t.ok;simp only[Cv,XF] at h;have:=Hh h.1;unfold maxLen;omega
   have aa:Hid (∀W J M L,Zb wr W->Dt W (Zs J M L) A->Zc 26 #[Zg #[Zi k,Zs j n1 c1,Zi o,Zs l n2 m],Zg #[Zt tx,Zo rd,Zs J M L]] W λe w'=>∃y0 G R N y2 I T O,e=Zr (Zu #[K4 y0 G R N y2 I T O,Zn])/\Dl w' (Ae H (k+1)) (K4 y0 G R N y2 I T O)/\Zb wr w'):=Aa (λW J M L hb hA=>(bN _ _ k j n1 c1 o l n2 m tx rd A J M L W (a.o.snap.up hb) gg (by rw[vv];omega) (by rw[vv];omega) hA (by omega) am ((HG.o.nc.below a.o.low).below hb) ak).mono (by rintro e w'⟨y0,G,R,N,y2,I,T,O,he,h1,h2⟩;exact⟨y0,G,R,N,y2,I,T,O,he,h1,Below.Ap hb h2⟩))
   have ai:Hid ((Ae H (k+1)).Eb=(k+1:Nat)):=Aa (Jb HP.o (i:=k+1) (by omega)).2.2;clear ak t hh al hc gg nn vv am;clear e1;have aw:(k:Int)+1<=41:=by omega
   have ao:(0:Int)<=(k:Int):=by omega
   have ae:Eb<0\/(¬Eb<0/\(k:Int)<Eb):=by rcases hv with⟨h,_⟩|h <;> omega
   generalize C6 (tx,rd,A)=pb at *
   rcases ae with ab|⟨ab,ay⟩
   ·go_wp2_with fail
    refine f.o.mono ?_;rintro e w2⟨J,M,L,rfl,x,p⟩;have b:Hid (Zb wr (w2.alloc (Zk #[Zt pb,Zt tx,Zo rd,Zs J M L] 88))):=Aa (Below.Ap p (Zal));have u:=Aa (x.below ((XC _ _).alloc (Y9 _) (Zk #[Zt pb,Zt tx,Zo rd,Zs J M L] 88)));have q:=Aa ((b.o.block _ (Ac a.o.box)).trans a.o.box);clear z U V X Y x p f;obtain⟨z,U,V,X,Y⟩:=B3 q.o;go_wp2_with fail;refine(aa.o _ _ _ _ b.o u.o).mono ?_;rintro e w4⟨y0,G,R,N,y2,I,T,O,rfl,g,s⟩;have r:=Aa ((s.block _ (Ac a.o.box)).trans a.o.box);have d:=Aa s;obtain⟨_,_,_,_,_,_,_,ev⟩:=Nv g;unfold K4 at ev g ⊢;simp only[Value.agg.injEq,Array.mk.injEq,List.cons.injEq,Value.int.injEq,Value.slice.injEq] at ev;have ag:y0=((k+1:Nat):Int):=by rw[ev.1.2,ai.o]
    clear ev;subst ag;have ad:=Aa g;clear z U V X Y g s aa u b q;obtain⟨_,_,_,_,gf⟩:=B3 r.o;have g0:=gf 0;have g1:=gf 1;have g2:=gf 2;have g3:=gf 3;clear gf;generalize af:((k+1:Nat):Int)=ki at *;go_wp2_with fail;subst af;obtain⟨hP,y⟩:=sF _ _ _ _ _ _ (Zi ((k+1:Nat):Int)) (Zs G R N) (Zi y2) (Zs I T O) _ r.o;refine⟨⟨k+1,G,R,N,y2,I,T,O,by omega,Aa ⟨hP,ad.o.put r.o y,?_,?_,Hx (Below.Ap a.o.low d.o) (by omega) _ _ _ _⟩⟩,?_⟩
    ·exact(y.block _ (Ya (Ac a.o.res) d.o.size) (λe=>by injection e with e;omega)).trans ((d.o.block _ (Ac a.o.res)).trans a.o.res)
    ·exact(y.block _ (Ya (Ac a.o.kb) d.o.size) (λe=>by injection e with e;omega)).trans ((d.o.block _ (Ac a.o.kb)).trans a.o.kb)
    have e1:=Pm (B3 hP).1;have e2:w.heap.size+1+1=w.heap.size+2:=rfl;rw[an,e2,e1];omega
   go_wp2_with fail;refine f.o.mono ?_;rintro e w2⟨J,M,L,rfl,x,p⟩;have b:Hid (Zb wr (w2.alloc (Zk #[Zt pb,Zt tx,Zo rd,Zs J M L] 88))):=Aa (Below.Ap p (Zal));have u:=Aa (x.below ((XC _ _).alloc (Y9 _) (Zk #[Zt pb,Zt tx,Zo rd,Zs J M L] 88)));have q:=Aa ((b.o.block _ (Ac a.o.box)).trans a.o.box);clear z U V X Y x p f;obtain⟨z,U,V,X,Y⟩:=B3 q.o;go_wp2_with fail;refine(aa.o _ _ _ _ b.o u.o).mono ?_;rintro e w4⟨y0,G,R,N,y2,I,T,O,rfl,g,s⟩;have r:=Aa ((s.block _ (Ac a.o.box)).trans a.o.box);have d:=Aa s;obtain⟨_,_,_,_,_,_,_,ev⟩:=Nv g;unfold K4 at ev g ⊢;simp only[Value.agg.injEq,Array.mk.injEq,List.cons.injEq,Value.int.injEq,Value.slice.injEq] at ev;have ag:y0=((k+1:Nat):Int):=by rw[ev.1.2,ai.o]
   clear ev;subst ag;have ad:=Aa g;clear z U V X Y g s aa u b q;obtain⟨_,_,_,_,gf⟩:=B3 r.o;have g0:=gf 0;have g1:=gf 1;have g2:=gf 2;have g3:=gf 3;clear gf;generalize af:((k+1:Nat):Int)=ki at *;go_wp2_with fail;subst af;obtain⟨hP,y⟩:=sF _ _ _ _ _ _ (Zi ((k+1:Nat):Int)) (Zs G R N) (Zi y2) (Zs I T O) _ r.o;refine⟨⟨k+1,G,R,N,y2,I,T,O,by omega,Aa ⟨hP,ad.o.put r.o y,?_,?_,Hx (Below.Ap a.o.low d.o) (by omega) _ _ _ _⟩⟩,?_⟩
   ·exact(y.block _ (Ya (Ac a.o.res) d.o.size) (λe=>by injection e with e;omega)).trans ((d.o.block _ (Ac a.o.res)).trans a.o.res)
   ·exact(y.block _ (Ya (Ac a.o.kb) d.o.size) (λe=>by injection e with e;omega)).trans ((d.o.block _ (Ac a.o.kb)).trans a.o.kb)
   have e1:=Pm (B3 hP).1;have e2:w.heap.size+1+1=w.heap.size+2:=rfl;rw[an,e2,e1];omega
  have ar:k=P:=by omega
  subst ar;clear au hlt;have aj:∀(W:Tw)(S:Act),LdI w bb H W k j n1 c1 o l n2 m->True:=λ_ _ _=>trivial
  rcases hv with⟨ab,aq⟩|av
  ·have f:=Aa (AIL bb (w.heap.size+1) n D mv (k+1) wr (by omega) (HG.o.up a.o.low) a.o.kb ((HL.o.2 k (by omega)).2 (by omega)))
   have e1:((k+1:Nat):Int)=(k:Int)+1:=by omega
   rw[e1] at f;have aw:(k:Int)+1<=41:=by omega
   have ao:(0:Int)<=(k:Int):=by omega
   clear e1 aj aq;go_wp2_with fail;refine f.o.mono ?_;rintro e w2⟨rfl,p⟩;have b:Hid (Zb wr (w2.alloc (Zk #[Zt ⟨#[]⟩,Zt ⟨#[]⟩,Zo false,Zs none 0 0] 88))):=Aa (Below.Ap p (Zal));have q:=Aa ((b.o.block _ (Ac a.o.box)).trans a.o.box);have ac:=Aa ((b.o.block _ (Ac a.o.res)).trans a.o.res);have ap:=Aa (a.o.snap.up b.o);clear z U V X Y p f;obtain⟨z,U,V,X,Y⟩:=B3 q.o;obtain⟨_,_,_,_,gf⟩:=B3 ac.o;have g0:=gf 0;have g1:=gf 1;have g2:=gf 2;have g3:=gf 3;clear gf;go_wp2_with fail;clear g0 g1 g2 g3 z U V X Y;obtain⟨hP,y⟩:=sF _ _ _ _ _ _ (Zi (k:Int)) (Zs j n1 c1) (Zi o) (Zs l n2 m) _ ac.o;obtain⟨z0,z1,z2,z3,_⟩:=B3 hP;refine bodyPost_ret (v:=Zu #[K4 k j n1 c1 o l n2 m,Zn]) (by simp[results,results9,go_sem,z0,z1,z2,z3,K4]) rfl ⟨j,n1,c1,o,l,n2,m,rfl,ap.o.put ac.o y,Hx (Below.Ap a.o.low b.o) (Y9 _) _ _ _ _⟩
  subst av;clear aj;have ao:¬(k:Int)<0:=by omega
  obtain⟨_,_,_,_,gf⟩:=B3 a.o.res;have g0:=gf 0;have g1:=gf 1;have g2:=gf 2;have g3:=gf 3;clear gf;go_wp2_with fail;clear g0 g1 g2 g3 z U V X Y;obtain⟨hP,y⟩:=sF _ _ _ _ _ _ (Zi (k:Int)) (Zs j n1 c1) (Zi o) (Zs l n2 m) _ a.o.res;obtain⟨z0,z1,z2,z3,_⟩:=B3 hP;refine bodyPost_ret (v:=Zu #[K4 k j n1 c1 o l n2 m,Zn]) (by simp[results,results9,go_sem,z0,z1,z2,z3,K4]) rfl ⟨j,n1,c1,o,l,n2,m,rfl,a.o.snap.put a.o.res y,Hx a.o.low (Y9 _) _ _ _ _⟩
structure Ey(w0 w:World)(NF bb n:Nat)(D:DataW Unit)(fs:List Int)(mv fv:Value):Prop where
 bu:B.Bu w bb n D fs mv fv
 low:Zb w0 w
 hb:w0.heap.size<=bb
 hm:∀k,mv=.map (some k)->w0.heap.size<=k
 er:Ik w0
 nc:Lw w0
 tb:Jp w0
 hf:∀b off l c,fv=.slice (some ⟨b,off,none⟩) (l+1) c->b<NF
theorem Ey.ground{w0 w:Tw}{k bb n:Nat}{fs:List Int}{mv v:Tv}(h:Ey w0 w k bb n D fs mv v):Ground w bb n D mv :=
 ⟨h.bu.1.c0,h.bu.2.1,h.er.below h.low,h.nc.below h.low,h.tb.below h.low⟩
theorem Ey.up{w0 w W:Tw}{k bb n:Nat}{fs:List Int}{mv v:Tv}(h:Ey w0 w k bb n D fs mv v)(a:Zb w W):Ey w0 W k bb n D fs mv v :=
 ⟨h.bu.below a,Below.Ap h.low a,h.hb,h.hm,h.er,h.nc,h.tb,h.hf⟩
theorem Ut{bb n:Nat}{fs:List Int}{mv v:Tv}{b:Nat}{cs:Array Tv}(h:B.Bu W bb n D fs mv v)(j:B.A0 (B.Own bb mv) W Y)(a:W.heap[b]? = some (Zk cs T (0,0)))(i:T≠30):Y.heap[b]? = some (Zk cs T (0,0)):=by
 refine(j.block b (Ac a) ?_).trans a;rintro(e|e)
 ·subst e
  have g:W.heap[b]? = _:=h.1;rw[g] at a;injection a with a;injection a with _ a;exact i a.symm
 rcases h.2.1 with⟨f,_⟩|⟨m,d,es,clock,c,_⟩
 ·rw[f] at e;cases e
 rw[d] at e;cases e;rw[c] at a;cases a
theorem Ub{w0 w:Tw}{j bb n:Nat}{fs:List Int}{mv v:Tv}(h:Ey w0 w j bb n D fs mv v)(z:n<100000)(i:Nat)(s:Tb)(u:s.size<=maxLen)(r:Int×Td×List Int)(t:B.bM D fs (Ek i) s=r):
 Zc 78 #[Zp (some ⟨bb,0,none⟩),Zt (Ek i),Zt s] w λe o=>e=Zr (B.L8 r.1)/\∃a d,Ey w0 o j bb (n+1) r.2.1 r.2.2 a d/\B.A0 (B.Own bb mv) w o/\∀k,a=.map (some k)->mv=.map (some k)\/w.heap.size<=k:=by
 refine(B.ABa bb n D fs mv v (Ek i) s w h.bu (by unfold maxLen;omega) (by rw[qI];decide) u).mono ?_;rw[t];rintro e o⟨rfl,a,d,g,p,f,m,_⟩;refine⟨rfl,a,d,⟨g,p.below h.low h.low.size ?_,h.hb,λk q=>?_,h.er,h.nc,h.tb,λb off l c e=>?_⟩,p,f⟩
 ·rintro i (rfl|e)
  ·exact h.hb
  exact h.hm i e
 ·rcases f k q with e|e
  ·exact h.hm k e
  exact XH h.low.size e
 obtain⟨y,x,c0,e0⟩:=m b off l c e;exact h.hf b y x c0 e0
theorem AE4(i:Nat):B.Wz (Ek i)=true:=rfl
theorem wF{fs:List Int}(h:Maps.has D (B.lit (Ek i))=true):B.bM D fs (Ek i) s=(9,D,fs):=by unfold B.bM;rw[AE4,h];rfl
theorem AEG{fs:List Int}(h:Maps.has D (B.lit (Ek i))=false):B.bM D fs (Ek i) s=if fs.headD 0=1 then (14,D,fs.tail) else if fs.headD 0=2 then (14,D.put (B.lit (Ek i)) (B.Gw s),fs.tail) else (0,D.put (B.lit (Ek i)) (B.Gw s),fs.tail):=by unfold B.bM;rw[AE4,h];rfl
def Nj(C:Dn)(H:List (Dn×Ah))(j i:Nat):Prop:=∀x c,j<=x->x<i->(H[x]?).map (·.1)=some c->Nt C c=false
theorem oR{C:Dn}{H:List (Dn×Ah)}{c:Dn}(h:Nj C H j i)(f:(H[i]?).map (·.1)=some c)(g:Nt C c=false):Nj C H j (i+1):=λx d e l a=>by
 rcases Yc x i with b|k
 ·exact h x d e b a
 have:x=i:=by omega
 subst this;rw[f] at a;cases a;exact g
def AD8(C:Dn)(H:List (Dn×Ah))(fs:List Int)(j:Nat)(a:Value):Prop :=
 Cv C=false\/(∃i,j<=i/\i<=H.length/\Nj C H j i/\∀t,¬Bi (Ae H i) C t)\/(∃i c,j<=i/\(H[i]?).map (·.1)=some c/\Nt C c=true/\a=.iface 90 (Zi 6))\/(Nj C H j H.length/\fs.headD 0=1)
def Jy(w0 w:World)(h bb n:Nat)(D:DataW Unit)(fs:List Int)(mv:Value)(C:Dn)(H:List (Dn×Ah))(j:Nat)(e:Ending)(g:World):Prop :=
 ∃n' b c a d,Ey w0 g h bb n' b c a d/\n'<=n+50/\B.A0 (B.Own bb mv) w g/\(∀k,a=.map (some k)->mv=.map (some k)\/w.heap.size<=k) /\
  ((∃t,e=.returned (.tuple #[.int .i64 (H.length+1:Nat),.nilIface])/\Bi (Ae H H.length) C t/\Cv C=true/\Nj C H j H.length/\b=D.put (B.lit (Ek (H.length+1))) (B.Gw (C6 C))) \/
   (∃f x,e=.returned (.tuple #[Zi 0,.iface f x])/\b=D/\AD8 C H fs j (.iface f x)))
structure TrI(w0 w:World)(NF bb n:Nat)(D:DataW Unit)(fs:List Int)(mv:Value)(C:Dn)(aa:Option Addr)(an ac:Nat)(H:List (Dn×Ah))(j kb:Nat)(W:World)(k:Nat)(a1:Option Addr)(n1 c1:Nat)(x2:Int)(a2:Option Addr)(n2 c2:Nat)(mv' fv':Value):Prop where
 base:Ey w0 W NF bb (n+(k-j)) D fs mv' fv'
 only:B.A0 (B.Own bb mv) w W
 link:∀k,mv'=.map (some k)->mv=.map (some k)\/w.heap.size<=k
 box:W.heap[w.heap.size]? = some (.cells #[Zi k,.slice a1 n1 c1,Zi x2,.slice a2 n2 c2] 42 (0,0))
 snap:Dl W (Ae H k) (K4 k a1 n1 c1 x2 a2 n2 c2)
 com:W.heap[w.heap.size+1]? = some (.cells #[.string C.1,.bool C.2.1,.slice aa an ac] 86 (0,0))
 kb:W.heap[kb]? = some (.cells #[.pointer (some ⟨bb,0,none⟩)] 26 (0,0))
 st:G3 w W
 quiet:Nj C H j k
theorem TrI.up{w0 w:Tw}{i bb n:Nat}{D:Td}{fs:List Int}{mv:Tv}{C:Dn}{e:To}{m d:Nat}{H:List (Dn×Ah)}{j q:Nat}{W Y:Tw}{k:Nat}{b:To}{n1 c1:Nat}{x:Int}{c:To}{n2 p:Nat}{v u:Tv}(h:TrI w0 w i bb n D fs mv C e m d H j q W k b n1 c1 x c n2 p v u)(a:Zb W Y):TrI w0 w i bb n D fs mv C e m d H j q Y k b n1 c1 x c n2 p v u :=
 ⟨h.base.up a,h.only.trans (B.A0.Ba (S:=λ_=>False) a) (λ_ _ h=>h.elim),h.link,(a.block _ (Ac h.box)).trans h.box,h.snap.up a,(a.block _ (Ac h.com)).trans h.com,(a.block _ (Ac h.kb)).trans h.kb,h.st.trans (G3.Ba a),h.quiet⟩
theorem TrI.put{w0 w:Tw}{m bb n n':Nat}{D r:Td}{fs z:List Int}{mv:Tv}{C:Dn}{o:To}{d q:Nat}{H:List (Dn×Ah)}{j p:Nat}{W Y:Tw}{k:Nat}{c:To}{n1 c1:Nat}{x:Int}{l:To}{n2 g:Nat}{v u f a:Tv}(h:TrI w0 w m bb n D fs mv C o d q H j p W k c n1 c1 x l n2 g v u)(_hB:Ey w0 Y m bb n' r z f a)(b:B.A0 (B.Own bb v) W Y)(t:∀k,f=.map (some k)->v=.map (some k)\/W.heap.size<=k):
 B.A0 (B.Own bb mv) w Y/\(∀k,f=.map (some k)->mv=.map (some k)\/w.heap.size<=k)/\Y.heap[w.heap.size]? = some (Zk #[Zi k,Zs c n1 c1,Zi x,Zs l n2 g] 42 (0,0))/\Dl Y (Ae H k) (K4 k c n1 c1 x l n2 g)/\Y.heap[w.heap.size+1]? = some (Zk #[Zt C.1,Zo C.2.1,Zs o d q] 86 (0,0))/\Y.heap[p]? = some (Zk #[Zp (some ⟨bb,0,none⟩)] 26 (0,0))/\G3 w Y:=by
 refine⟨h.only.trans b (λi y e=>?_),λk s=>?_,Ut h.base.bu b h.box (by decide),h.snap.only h.base.bu b,Ut h.base.bu b h.com (by decide),Ut h.base.bu b h.kb (by decide),h.st.trans (G3.put h.base.bu b)⟩
 ·rcases e with e|e
  ·exact .inl e
  rcases h.link i e with e|e
  ·exact .inr e
  omega
 rcases t k s with e|e
 ·exact h.link k e
 exact .inr (XH h.only.size e)
theorem Ey.store{w0 W Y:Tw}{k bb n:Nat}{fs:List Int}{mv v:Tv}{b:Nat}{cs:Array Tv}(h:Ey w0 W k bb n D fs mv v)(c:W.heap[b]? = some (Zk cs T (0,0)))(N:T≠30)(V:k<=b)(X:w0.heap.size<=b)(q:W.grownBy Y (some b)):Ey w0 Y k bb n D fs mv v:=by
 obtain⟨s,d,M⟩:=h.bu
 have w:b≠bb:=λe=>by subst e;have t:W.heap[b]? = _:=s;rw[t] at c;injection c with c;injection c with _ c;exact N c.symm
 refine⟨⟨s.keep (q.block bb s.lt (λe=>by injection e with e;exact w e.symm)),d.keep λm e=>q.block m (d.lt e) (λr=>?_),?_⟩,h.low.grown q h.low.size (λj hj=>by injection hj with hj;omega),h.hb,h.hm,h.er,h.nc,h.tb,h.hf⟩
 ·injection r with r
  subst r
  rcases d with⟨L,_⟩|⟨m',I,es,clock,u,_⟩
  ·rw[L] at e;cases e
  rw[I] at e;cases e;rw[u] at c;cases c
 obtain⟨a,p,e,O,P⟩:=M;refine⟨a,p,e,O,λG=>?_⟩;obtain⟨g,off,z,f⟩:=P G;refine⟨g,off,z,λi x U=>?_⟩
 have R:g<k:=by
  cases hfs:fs with
  | nil=>exact absurd hfs G
  | cons y l=>refine h.hf g off l.length p ?_;rw[e,z,hfs];rfl
 have o:=f i x U;have J:=q.block g (Fv o) (λe=>by injection e with e;omega);simp only[World.cell?,J] at o ⊢;exact o
theorem AIC{b q:Nat}{cs c:Array Tv}{U:TypeId}(h:W.heap[b]? = some (Zk cs T (0,0)))(a:W.heap[q]? = some (Zk c U (0,0)))(d:T≠U)(f:W.grownBy Y (some q)):Y.heap[b]? = some (Zk cs T (0,0)) :=
 (f.block b (Ac h) (λe=>by injection e with e;subst e;rw[h] at a;injection a with a;injection a with _ a;exact d a)).trans h
theorem AJa(w:Tw):(binOp .eql 32 (Zf 90 (Zi 9)) (Zf 90 (Zi 14))).run prog w=.ok (Zo false) w:=by kernel_rfl
theorem AFK(w:Tw):(binOp .eql 32 (Zf 90 (Zi 14)) (Zf 90 (Zi 14))).run prog w=.ok (Zo true) w:=by kernel_rfl
theorem AE7{s:Ah}{y:Int}{G:To}{n k:Nat}{z:Int}{I:To}{C:Dn}{l:To}{m d:Nat}(h:Dl w s (K4 y G n k z I i j))(P:Good Bv Cm s)(u:0<=s.Eb)(v:s.Eb<=1000)(O:Dt w (Zs l m d) C.2.2)(p:C.2.2.length<=1000)(r:C.1.size<=maxLen)(R:Lw w):
 Zc 47 #[Zg #[Zi y,Zs G n k,Zi z,Zs I i j],Zg #[Zt C.1,Zo C.2.1,Zs l m d]] w λe M=>Zb w M/\((∃t a n1 c1 f b n2 c,e=Zr (Zu #[Zg #[Zi (s.Eb+1),Zs a n1 c1,Zi f,Zs b n2 c],Zn])/\Bi s C t)\/(∃g a n1 c1 f b n2 c D x,e=Zr (Zu #[Zg #[Zi g,Zs a n1 c1,Zi f,Zs b n2 c],Zf D x])/\∀t,¬Bi s C t)):=by
 obtain⟨V,U,A⟩:=C;refine(kJ s _ V U A l m d w h P u v O p r R).mono ?_;rintro e M⟨g,a,n1,c1,f,b,n2,c,W,rfl,L,⟨rfl,t,J,N⟩|⟨D,x,rfl,q⟩⟩
 ·obtain⟨_,_,_,_,_,_,_,o⟩:=Nv N
  unfold K4 at o;simp only[Value.agg.injEq,Array.mk.injEq,List.cons.injEq,Value.int.injEq,Value.slice.injEq] at o;have T:g=s.Eb+1:=by rw[o.1.2,aB J]
  subst T;exact⟨L,.inl ⟨t,a,n1,c1,f,b,n2,c,rfl,J⟩⟩
 exact⟨L,.inr ⟨g,a,n1,c1,f,b,n2,c,D,x,rfl,q⟩⟩
theorem AHx(w0:Tw)(NF bb n:Nat)(D:Td)(fs:List Int)(mv fv:Tv)(p:Tb)(r:Bool)(A:List A5)(aa:To)(an ac:Nat)(H:List (Dn×Ah))(j:Nat)(a1:To)(n1 c1:Nat)(x2:Int)(a2:To)(n2 c2:Nat)(w:Tw)(h:Ey w0 w NF bb n D fs mv fv)(ce:NF<=w.heap.size)(hn:n<=90000)(hl:U6 D H)(hp:La H)(O5:H.length<=40)(hj:j<=H.length)(hs:Dl w (Ae H j) (K4 j a1 n1 c1 x2 a2 n2 c2))(hA:Dt w (Zs aa an ac) A)(cd:A.length<=100)(bz:Cv (p,r,A)=true->0<(C6 (p,r,A)).size/\(C6 (p,r,A)).size<=1000000)(cr:p.size<=60)(ap:∀a∈A,Ch a=true->Fh a):
 Zc 42 #[Zp (some ⟨bb,0,none⟩),K4 j a1 n1 c1 x2 a2 n2 c2,Zg #[Zt p,Zo r,Zs aa an ac]] w (Jy w0 w NF bb n D fs mv (p,r,A) H j):=by
 have b3:p.size<=maxLen:=by unfold maxLen;omega
 obtain⟨t0,t1,t2,t3⟩:=C1 w (Zk #[Zi j,Zs a1 n1 c1,Zi x2,Zs a2 n2 c2] 42) (Zk #[Zt p,Zo r,Zs aa an ac] 86);have M:=Aa (lW p r A aa an ac _ (hA.below t3) (by omega) b3 ap (h.ground.nc.below t3) (h.ground.tb.below t3));unfold K4;cases hpo:Cv (p,r,A) with
 | false=>unfold Hz at M;rw[hpo] at M;have b9:Hid (∀W,Below w.heap.size w W->Jy w0 w NF bb n D fs mv (p,r,A) H j (Zr (Zu #[Zi 0,Zf 90 (Zi 1)])) W):=Aa (λW hb=>⟨n,D,fs,mv,fv,h.up hb,by omega,B.A0.Ba hb,λk hk=>.inl hk,.inr ⟨_,_,rfl,rfl,.inl hpo⟩⟩);have cb:=Aa t3;clear h hl hp hs hA ap hpo t0 t1 t2 t3;go_enter func42,ntmps42;go_wp2_with fail;refine M.o.mono ?_;rintro e w1⟨rfl,al⟩;clear M;go_wp2_with fail;go_ret2;exact b9.o _ (Below.Ap cb.o al)
 | true=>
   unfold Hz at M;rw[hpo] at M
   have ax:Hid (Lay (p,r,A)):=Aa ⟨hpo,λa ha=>by simp only[Cv,XF,List.all_eq_true] at hpo;exact ap a ha (hpo.2 a ha),cd,bz hpo⟩
   have cq:=bz hpo
   have bi:Hid (∀W,Below ((w.alloc (Zk #[Zi j,Zs a1 n1 c1,Zi x2,Zs a2 n2 c2] 42)).alloc (Zk #[Zt p,Zo r,Zs aa an ac] 86)).heap.size ((w.alloc (Zk #[Zi j,Zs a1 n1 c1,Zi x2,Zs a2 n2 c2] 42)).alloc (Zk #[Zt p,Zo r,Zs aa an ac] 86)) W->TrI w0 w NF bb n D fs mv (p,r,A) aa an ac H j W.heap.size (W.alloc (Zk #[Zp (some ⟨bb,0,none⟩)] 26)) j a1 n1 c1 x2 a2 n2 c2 mv fv):=Aa (λW hb=>by have ak:=Below.Ap (Below.Ap t3 hb) ((XC _ W).alloc (Y9 _) (Zk #[Zp (some ⟨bb,0,none⟩)] 26));have U:=Below.Ap hb ((XC _ W).alloc (Y9 _) (Zk #[Zp (some ⟨bb,0,none⟩)] 26));refine⟨by rw[YV];exact h.up ak,B.A0.Ba ak,λk hk=>.inl hk,(U.block _ (Ac t1)).trans t1,hs.up ak,(U.block _ (Ac t2)).trans t2,heap_alloc_new _ _,G3.Ba ak,λx c h1 h2=>by omega⟩)
   have HL:=Aa hl;have HP:=Aa hp;have b7:=Aa h.low.size;have a7:=Aa hA;clear h hl hp hs hA ap t0 t1 t2 t3 hpo;have q1:=AFH;have q2:=AEV;have q3:=AJa;have q4:=AFK;go_enter func42,ntmps42;go_wp2_with fail;refine M.o.mono ?_;rintro e w1⟨rfl,al⟩;have bj:=Aa (bi.o w1 al);clear M bi al;go_wp2_with (go_at_call 25;refine(mM _ _).mono ?_;rintro e w2⟨rfl,rfl⟩);generalize w1.alloc (Zk #[Zp (some ⟨bb,0,none⟩)] 26)=wa at *;generalize w1.heap.size=kb at *;generalize bw:C6 (p,r,A)=pb at *;have az:=Aa bw;clear bw
   go_loopw [11,12,13,14] (λ_ _ _ _ wr=>∃k a1 n1 c1 x2 a2 n2 c2 b4 bm,k<=H.length/\j<=k/\Hid (TrI w0 w NF bb n D fs mv (p,r,A) aa an ac H j kb wr k a1 n1 c1 x2 a2 n2 c2 b4 bm)) (λ_ _ _ _ wr=>H.length-ABf w.heap.size wr)
   case atStart=>exact⟨j,a1,n1,c1,x2,a2,n2,c2,mv,fv,hj,Y9 _,bj⟩
   case round=>
    obtain⟨k,a1,n1,c1,x2,a2,n2,c2,b4,bm,bs,br,HI⟩:=hrel;clear bj;obtain⟨a5,cf,af⟩:=Jb HP.o (i:=k) bs;have ab:=Aa (AE7 (C:=(p,r,A)) HI.o.snap a5 (by rw[af];omega) (by rw[af];omega) (a7.o.stays HI.o.st) (by show A.length<=1000;omega) b3 HI.o.base.ground.nc);rw[af] at ab;simp only at ab;have HG:=Aa (And.intro a5 af);have cs:(k:Int)+1<=41:=by omega
    have ct:(0:Int)<=(k:Int):=by omega
    have cu:¬(200:Int)<=(k:Int):=by omega
    clear a5 cf af;obtain⟨X,Y,x3,x4,xf⟩:=B3 HI.o.box;have ci:=Aa (Pm X);obtain⟨y0,y1,y2,yf⟩:=Db HI.o.com;go_wp2_with fail;refine ab.o.mono ?_;rintro e w2⟨U,⟨t,b1,m1,d1,z2,b2,m2,d2,rfl,bo⟩|⟨z0,b1,m1,d1,z2,b2,m2,d2,ty,x,rfl,bv⟩⟩
    ·have bd:Hid (Below wr.heap.size wr (w2.alloc (Zk #[Zi ((k:Int)+1),Zs b1 m1 d1,Zi z2,Zs b2 m2 d2] 42))):=Aa (Below.Ap U (Zal))
     have ah:=Aa (HI.o.up bd.o);have ay:=Aa (heap_alloc_new w2 (Zk #[Zi ((k:Int)+1),Zs b1 m1 d1,Zi z2,Zs b2 m2 d2] 42));have HT:=Aa bo;have aw:=Aa (ABK (k+1) (w2.alloc (Zk #[Zi ((k:Int)+1),Zs b1 m1 d1,Zi z2,Zs b2 m2 d2] 42)) (by omega) ah.o.base.ground.tb);have e1:((k+1:Nat):Int)=(k:Int)+1:=by omega
     rw[e1] at aw;have X2:=Aa ah.o.box;clear X Y x3 x4 xf y0 y1 y2 yf U bo ab;obtain⟨X,Y,x3,x4,xf⟩:=B3 X2.o;go_wp2_with fail;refine aw.o.mono ?_;rintro e w3⟨rfl,a4⟩;have b:=Aa (ah.o.up a4);have L:=Aa ((a4.block _ (Ac ay.o)).trans ay.o);clear X Y x3 x4 xf a4 aw ah ay bd X2
     by_cases bt:k<H.length
     ·obtain⟨c,hc,aq,ag⟩:=AA8 HP.o bt
      obtain⟨hh,bp⟩:=(HL.o.2 k (by omega)).1 c hc;have f:=Aa (Ub b.o.base (by omega) (k+1) pb (by unfold maxLen;omega) (9,D,fs) (wF hh));rw[show B.L8 ((9:Int),D,fs).1=Value.iface 90 (Zi 9) from rfl] at f;go_wp2_with fail;refine f.o.mono ?_;rintro e R⟨rfl,P,ae,d,l,z⟩;obtain⟨o1,l1,bx,sn,cm,G,N⟩:=b.o.put d l z;have y:=Aa (Ut b.o.base.bu l L.o (by decide));have en:n+(k-j)+1=n+1+(k-j):=by omega
      have bk:Hid (TrI w0 w NF bb (n+1) D fs mv (p,r,A) aa an ac H j kb R k a1 n1 c1 x2 a2 n2 c2 P ae):=Aa ⟨en ▸ d,o1,l1,bx,sn,cm,G,N,b.o.quiet⟩;have u:=Aa (AAJ bb kb _ D P (k+1) c R (by omega) d.ground G hh bp ag);rw[e1] at u;obtain⟨O,T,cA⟩:=c;simp only at u;have HC:=Aa (And.intro hc (And.intro aq ag));clear d l z o1 l1 bx sn cm G N f hh bp aq ag hc b L;obtain⟨X,Y,x3,x4,xf⟩:=B3 y.o;go_wp2_with fail;refine u.o.mono ?_;rintro e w5⟨ba,bn,bc,rfl,aj,V⟩;generalize C6 (O,T,cA)=a3 at *;have ad:Hid (Below R.heap.size R (w5.alloc (Zk #[Zt a3,Zt O,Zo T,Zs ba bn bc] 88))):=Aa (Below.Ap V (Zal));have ai:=Aa (bk.o.up ad.o);have ar:=Aa (aj.below ((XC _ _).alloc (Y9 _) (Zk #[Zt a3,Zt O,Zo T,Zs ba bn bc] 88)));have av:=Aa (heap_alloc_new w5 (Zk #[Zt a3,Zt O,Zo T,Zs ba bn bc] 88));have ck:cA.length<=100:=HC.o.2.2.Iz;have bh:=Aa (v8 p r aa an ac A O T ba bn bc cA _ (a7.o.stays ai.o.st) ar.o (by omega) (by omega));clear X Y x3 x4 xf aj V u y;obtain⟨y0,y1,y2,yf⟩:=Db ai.o.com;go_wp2_with fail;refine bh.o.mono ?_;rintro e w6⟨rfl,am⟩;have I:=Aa (ai.o.up am);have a8:=Aa (ar.o.below am);have bf:=Aa ((am.block _ (Ac av.o)).trans av.o);clear y0 y1 y2 yf am bh ai ar av ad bk;cases hf:Nt (p,r,A) (O,T,cA) with
      | true=>have J:Hid (Jy w0 w NF bb n D fs mv (p,r,A) H j (Zr (Zu #[Zi 0,Zf 90 (Zi 6)])) w6):=Aa ⟨_,_,_,_,_,I.o.base,by omega,I.o.only,I.o.link,.inr ⟨_,_,rfl,rfl,.inr (.inr (.inl ⟨k,_,br,HC.o.1,hf,rfl⟩))⟩⟩;clear hf;go_wp2_with fail;go_ret2;exact J.o
      | false=>
        have b0:O.size<=maxLen:=by have hh:=HC.o.2.2.ok;simp only[Cv,XF] at hh;have:=Hh hh.1;unfold maxLen;omega
        have au:=Aa (bN _ _ k a1 n1 c1 x2 a2 n2 c2 O T cA ba bn bc w6 I.o.snap HG.o.1 (by rw[HG.o.2];omega) (by rw[HG.o.2];omega) a8.o (by omega) b0 I.o.base.ground.nc HC.o.2.1);have HQ:=Aa (oR I.o.quiet HC.o.1 hf);have cc:Hid ((Ae H (k+1)).Eb=(k+1:Nat)):=Aa (Jb HP.o (i:=k+1) (by omega)).2.2;unfold K4 at au;obtain⟨X,Y,x3,x4,xf⟩:=B3 I.o.box;obtain⟨y0,y1,y2,y3,yf⟩:=B3 bf.o;clear hf b0;go_wp2_with fail;refine au.o.mono ?_;rintro e w7⟨u0,g1,p1,b5,u2,g2,p2,b6,rfl,a6,bq⟩;obtain⟨_,_,_,_,_,_,_,ev⟩:=Nv a6;unfold K4 at ev;simp only[Value.agg.injEq,Array.mk.injEq,List.cons.injEq,Value.int.injEq,Value.slice.injEq] at ev;have ch:u0=((k+1:Nat):Int):=by rw[ev.1.2,cc.o]
        clear ev;subst ch;have ca:=Aa a6;have q:=Aa (I.o.up bq);clear X Y x3 x4 xf y0 y1 y2 y3 yf a6 bq au I a8 bf;obtain⟨_,_,_,_,gf⟩:=B3 q.o.box;have cl:=gf 0;have cn:=gf 1;have co:=gf 2;have cp:=gf 3;clear gf e1;generalize cg:((k+1:Nat):Int)=ki at *;go_wp2_with fail;subst cg;obtain⟨hP,hG⟩:=sF _ _ _ _ _ _ (Zi ((k+1:Nat):Int)) (Zs g1 p1 b5) (Zi u2) (Zs g2 p2 b6) _ q.o.box;have cj:w0.heap.size<=w.heap.size:=b7.o;have en:n+1+(k-j)=n+(k+1-j):=by omega
        refine⟨⟨k+1,g1,p1,b5,u2,g2,p2,b6,P,ae,by omega,by omega,Aa ⟨en ▸ q.o.base.store q.o.box (by decide) ce cj hG,q.o.only.grown hG (λm hm bt=>by injection hm with hm;omega),q.o.link,hP,ca.o.put q.o.box hG,?_,?_,?_,HQ.o⟩⟩,?_⟩
        ·exact(hG.block _ (Ac q.o.com) (λe=>by injection e with e;omega)).trans q.o.com
        ·exact AIC q.o.kb q.o.box (by decide) hG
        ·exact⟨XH q.o.st.size hG.size,λg o x hc=>(hG.block g (Ya (Fv hc) q.o.st.size) (λe=>by injection e with e;have:=Fv hc;omega)).trans (q.o.st.same g o x hc)⟩
        have e1:=Pm (B3 hP).1;rw[ci.o,e1];omega
     have ao:k=H.length:=by omega
     have hh:=(HL.o.2 k (by omega)).2 (by omega);have v:=AEG (fs:=fs) (s:=pb) hh;have a9:Hid (Bi (Ae H H.length) (p,r,A) t):=Aa (ao ▸ HT.o);have a0:Hid (Nj (p,r,A) H j H.length):=Aa (ao ▸ b.o.quiet);have bg:Hid (((H.length+1:Nat):Int)=(k:Int)+1):=Aa (by omega);have bl:Hid (D.put (B.lit (Ek (k+1))) (B.Gw pb)=D.put (B.lit (Ek (H.length+1))) (B.Gw (C6 (p,r,A)))):=Aa (by rw[az.o,ao]);clear ao
     by_cases f1:fs.headD 0=1
     ·have f:=Aa (Ub b.o.base (by omega) (k+1) pb (by unfold maxLen;omega) (14,D,fs.tail) (by rw[v,if_pos f1]))
      rw[show B.L8 ((14:Int),D,fs.tail).1=Value.iface 90 (Zi 14) from rfl] at f;have F1:=Aa f1;clear f1 v;go_wp2_with fail;refine f.o.mono ?_;rintro e R⟨rfl,P,ae,d,l,z⟩;obtain⟨o1,l1,bx,sn,cm,G,N⟩:=b.o.put d l z;have y:=Aa (Ut b.o.base.bu l L.o (by decide));have u:=Aa (AIL bb kb _ D P (k+1) R (by omega) d.ground G hh);rw[e1] at u;have J:Hid (∀W,Below R.heap.size R W->Jy w0 w NF bb n D fs mv (p,r,A) H j (Zr (Zu #[Zi 0,Zf 90 (Zi 14)])) W):=Aa (λW hb=>⟨_,_,_,_,_,d.up hb,by omega,o1.trans (B.A0.Ba (S:=λ_=>False) hb) (λ_ _ h=>h.elim),l1,.inr ⟨_,_,rfl,rfl,.inr (.inr (.inr ⟨a0.o,F1.o⟩))⟩⟩);clear d l z o1 l1 bx sn cm G N f hh b L;obtain⟨X,Y,x3,x4,xf⟩:=B3 y.o;go_wp2_with fail;refine u.o.mono ?_;rintro e w5⟨rfl,V⟩;clear u;go_wp2_with fail;go_ret2;exact J.o _ (Below.Ap V (Zal))
     by_cases f2:fs.headD 0=2
     ·have f:=Aa (Ub b.o.base (by omega) (k+1) pb (by unfold maxLen;omega) (14,D.put (B.lit (Ek (k+1))) (B.Gw pb),fs.tail) (by rw[v,if_neg f1,if_pos f2]))
      rw[show B.L8 ((14:Int),D.put (B.lit (Ek (k+1))) (B.Gw pb),fs.tail).1=Value.iface 90 (.int .i64 14) from rfl] at f;clear f1 f2 v;go_wp2_with fail;refine f.o.mono ?_;rintro e R⟨rfl,P,ae,d,l,z⟩;obtain⟨o1,l1,bx,sn,cm,G,N⟩:=b.o.put d l z;have y:=Aa (Ut b.o.base.bu l L.o (by decide));have u:=Aa (AAJ bb kb _ _ P (k+1) (p,r,A) R (by omega) d.ground G (Maps.has_put_same HL.o.1 L4 _) (by rw[Maps.atKey_put_same HL.o.1 L4,az.o]) ax.o);rw[e1,az.o] at u;simp only at u;have J:Hid (∀W,Below R.heap.size R W->Jy w0 w NF bb n D fs mv (p,r,A) H j (Zr (Zu #[Zi ((k:Int)+1),Zn])) W):=Aa (λW hb=>⟨_,_,_,_,_,d.up hb,by omega,o1.trans (B.A0.Ba (S:=λ_=>False) hb) (λ_ _ h=>h.elim),l1,.inl ⟨t,by rw[bg.o],a9.o,ax.o.ok,a0.o,bl.o⟩⟩);clear d l z o1 l1 bx sn cm G N f hh b L;obtain⟨X,Y,x3,x4,xf⟩:=B3 y.o;go_wp2_with fail;refine u.o.mono ?_;rintro e w5⟨ba,bn,bc,rfl,aj,V⟩;have ad:Hid (Below R.heap.size R (w5.alloc (Zk #[Zt pb,Zt p,Zo r,Zs ba bn bc] 88))):=Aa (Below.Ap V (Zal));have b8:=Aa ((ad.o.block _ (Ac y.o)).trans y.o);clear u X Y x3 x4 xf aj V y;obtain⟨X,Y,x3,x4,xf⟩:=B3 b8.o;go_wp2_with fail;go_ret2;exact J.o _ ad.o
     have f:=Aa (Ub b.o.base (by omega) (k+1) pb (by unfold maxLen;omega) (0,D.put (B.lit (Ek (k+1))) (B.Gw pb),fs.tail) (by rw[v,if_neg f1,if_neg f2]));rw[show B.L8 ((0:Int),D.put (B.lit (Ek (k+1))) (B.Gw pb),fs.tail).1=Value.nilIface from rfl] at f;clear f1 f2 v;go_wp2_with fail;refine f.o.mono ?_;rintro e R⟨rfl,P,ae,d,l,z⟩;obtain⟨o1,l1,bx,sn,cm,G,N⟩:=b.o.put d l z;have y:=Aa (Ut b.o.base.bu l L.o (by decide));have J:Hid (Jy w0 w NF bb n D fs mv (p,r,A) H j (Zr (Zu #[Zi ((k:Int)+1),Zn])) R):=Aa ⟨_,_,_,_,_,d,by omega,o1,l1,.inl ⟨t,by rw[bg.o],a9.o,ax.o.ok,a0.o,bl.o⟩⟩;clear d l z o1 l1 bx sn cm G N f hh b L;obtain⟨X,Y,x3,x4,xf⟩:=B3 y.o;go_wp2_with fail;go_ret2;exact J.o
    have J:Hid (Jy w0 w NF bb n D fs mv (p,r,A) H j (Zr (Zu #[Zi 0,Zf ty x])) (w2.alloc (Zk #[Zi z0,Zs b1 m1 d1,Zi z2,Zs b2 m2 d2] 42))):=by have hI:=HI.o.up (Below.Ap U ((XC _ _).alloc (Y9 _) (Zk #[Zi z0,Zs b1 m1 d1,Zi z2,Zs b2 m2 d2] 42)));exact Aa ⟨_,_,_,_,_,hI.base,by omega,hI.only,hI.link,.inr ⟨_,_,rfl,rfl,.inr (.inl ⟨k,br,bs,hI.quiet,bv⟩)⟩⟩
    clear X Y x3 x4 xf y0 y1 y2 yf U bv ab;go_wp2_with fail;go_ret2;exact J.o
namespace E
abbrev V:Type:=Int×Int×ByteArray
def str(l:List UInt8):ByteArray:=⟨l.toArray⟩
theorem Ux(s:Tb):str s.data.toList=s:=by cases s;simp[str]
theorem Eo(l:List UInt8):(str l).data.toList=l:=by simp[str]
theorem Ds(l:List UInt8):(str l).size=l.length:=by show (str l).data.size=_;simp[str]
def Pp(x:Int):Int:=(x+9223372036854775808) % 18446744073709551616-9223372036854775808
def J3(v:V):List UInt8:=if v.1=1 then uvarint (zigzag v.2.1) else uvarint v.2.2.size++v.2.2.data.toList
def Fx(l:List V):List UInt8:=l.flatMap J3
def same(v:V):List V->Nat
 | []=>0
 | x :: l=>if x=v then same v l+1 else 0
theorem Ue(v:V):∀l,same v l<=l.length
 | []=>Y9 _
 | x :: l=>by unfold same;split <;> simp;exact Ue v l
def El:Nat->List V->List UInt8
 | 0,_=>[]
 | _+1,[]=>[]
 | f+1,v :: l=>uvarint (same v l+1)++J3 v++El f (l.drop (same v l))
def place(v:V):List V->Nat
 | []=>0
 | x :: l=>if x=v then 0 else place v l+1
def Ff(s:List V×List UInt8)(v:V):List V×List UInt8 :=
 (if place v s.1<s.1.length then s.1 else s.1++[v],s.2++uvarint (place v s.1))
def Pd(l:List V):List UInt8 :=
 uvarint (l.foldl Ff ([],[])).1.length++Fx (l.foldl Ff ([],[])).1++(l.foldl Ff ([],[])).2
def G5(a:Int):List V->List UInt8
 | []=>[]
 | v :: l=>uvarint (zigzag (Pp (v.2.1-a)))++G5 v.2.1 l
def I0(a:Nat)(l:List V):List UInt8:=if a=1 then El l.length l else if a=2 then Pd l else if a=3 then G5 0 l else Fx l
def better(a b:List UInt8):List UInt8:=if b.length<a.length then b else a
def Hp(kind:Int)(l:List V):Nat->List UInt8
 | 0=>[]
 | 1=>0 :: I0 0 l
 | w+2=>if w+1=3/\kind≠1 then Hp kind l (w+1) else better (Hp kind l (w+1)) ((w+1).toUInt8 :: I0 (w+1) l)
def AEn(kind:Int)(l:List V):List UInt8:=Hp kind l 4
def Qi(v:V):Bool:=v.1==0
def Cb(l:List V)(m:Nat):Nat->List Nat
 | 0=>List.replicate m 0
 | k+1=>if (l[k]?.map Qi)=some true then (Cb l m k).set (k / 8) (((Cb l m k)[k / 8]?.getD 0)+2 ^ (k % 8)) else Cb l m k
def Q8(l:List V):List Nat:=Cb l ((l.length+7) / 8) l.length
def Gq(l:List V):List UInt8:=(Q8 l).map Nat.toUInt8
def known(l:List V):List V:=l.filter λv=>!Qi v
def Hv(kind:Int)(l:List V):List UInt8:=uvarint l.length++Gq l++AEn kind (known l)
abbrev St:Type:=List UInt8×Bool
def Nu(full:List UInt8):Nat->List UInt8->Nat->Nat×List UInt8×Bool
 | _,[],_=>(0,full,false)
 | i,c :: r,acc=>
   if i=10 then (0,full,false)
   else if c.toNat<128 then (acc+c.toNat % 128*2 ^ (7*i) % 18446744073709551616,r,decide (uvarint (acc+c.toNat % 128*2 ^ (7*i) % 18446744073709551616)=full.take (i+1)))
   else Nu full (i+1) r (acc+c.toNat % 128*2 ^ (7*i) % 18446744073709551616)
def rdNum(l:List UInt8):Nat×List UInt8×Bool:=Nu l 0 l 0
def Fg(s:St):Nat×St:=((rdNum s.1).1,((rdNum s.1).2.1,s.2 || !(rdNum s.1).2.2))
def Ra(most:Int)(s:St):Bool:=(Fg s).2.2 || decide (most<0) || decide (most<((Fg s).1:Int))
def Am(most:Int)(s:St):Nat×St:=if Ra most s then (0,((Fg s).2.1,true)) else Fg s
def C8(n:Nat)(s:St):List UInt8×St:=if s.1.length<n then ([],(s.1,true)) else (s.1.take n,(s.1.drop n,s.2))
def Dy(kind:Int)(s:St):V×St :=
 if kind=1 then ((1,unzigzag (Fg s).1,str []),(Fg s).2)
 else ((2,0,str (C8 (Am 40 s).1 (Am 40 s).2).1),(C8 (Am 40 s).1 (Am 40 s).2).2)
def Cn(kind:Int):Nat->St->List V×St
 | 0,s=>([],s)
 | n+1,s=>((Dy kind s).1 :: (Cn kind n (Dy kind s).2).1,(Cn kind n (Dy kind s).2).2)
def Qy(kind:Int)(n:Nat)(l:List V)(s:St):St:=(Dy kind (Am (n-l.length:Nat) s).2).2
def rM(kind:Int)(n:Nat)(l:List V)(s:St):List V:=l++List.replicate (Am (n-l.length:Nat) s).1 (Dy kind (Am (n-l.length:Nat) s).2).1
def G7(kind:Int)(n:Nat):Nat->List V->St->List V×St
 | 0,l,s=>(l,s)
 | f+1,l,s=>if l.length<n/\s.2=false then G7 kind n f (rM kind n l s) (Qy kind n l s) else (l,s)
def Ec(d:List V):Nat->List V->St->List V×St
 | 0,a,s=>(a,s)
 | n+1,a,s=>
   if (Am ((d.length:Int)-1) s).2.2 then ([],(Am ((d.length:Int)-1) s).2)
   else Ec d n (a++[d[(Am ((d.length:Int)-1) s).1]?.getD (0,0,str [])]) (Am ((d.length:Int)-1) s).2
def Nw(kind:Int)(n:Nat)(s:St):List V×St :=
 Ec (Cn kind (Am n s).1 (Am n s).2).1 n [] (Cn kind (Am n s).1 (Am n s).2).2
def E5:Nat->Int->St->List V×St
 | 0,_,s=>([],s)
 | n+1,a,s=>((1,Pp (a+unzigzag (Fg s).1),str []) :: (E5 n (Pp (a+unzigzag (Fg s).1)) (Fg s).2).1,(E5 n (Pp (a+unzigzag (Fg s).1)) (Fg s).2).2)
def Gs(kind:Int)(a:Nat)(n:Nat)(s:St):List V×St :=
 if a=0 then Cn kind n s else if a=1 then G7 kind n (s.1.length+2) [] s else if a=2 then Nw kind n s
 else if a=3 then E5 n 0 s else ([],(s.1,true))
def gF(b:List UInt8)(i:Nat):Nat:=(b[i / 8]?.getD 0).toNat / 2 ^ (i % 8) % 2
def B8(b:List UInt8):Nat->List Nat
 | 0=>[]
 | k+1=>if gF b k=0 then B8 b k++[k] else B8 b k
def F0(l:List V):List Nat->List V->List V
 | p :: ps,v :: vs=>F0 (l.set p v) ps vs
 | _,_=>l
def V6(s:List UInt8):Nat×St:=Am 60 (s,false)
def Bv(s:List UInt8):List UInt8×St:=C8 (((V6 s).1+7) / 8) (V6 s).2
def cB(s:List UInt8):List UInt8×St:=C8 1 (Bv s).2
def xX(s:List UInt8):List Nat:=B8 (Bv s).1 (V6 s).1
def nS(kind:Int)(s:List UInt8):List V×St:=Gs kind ((cB s).1[0]?.getD 0).toNat (xX s).length (cB s).2
def Lr(kind:Int)(s:List UInt8):List V×Bool :=
 if (cB s).2.2 then ([],true) else if (nS kind s).2.2 then ([],true)
 else (F0 (List.replicate (V6 s).1 (0,0,str [])) (xX s) (nS kind s).1,false)
variable{k:Nat}{W w:Tw}{T:TypeId}{v:Tv}{l:List V}{x:V}
theorem Ab{p:Prop}(h:p):Hid p:=h
theorem Bd{k:IntKind}{a b:Int}(h:a=b):Ending.returned (.int k a)=Zr (.int k b):=by rw[h]
theorem Af{a b:Bool}(h:a=b):Ending.returned (Zo a)=Zr (Zo b):=by rw[h]
theorem bX:(prog.info? 5).map (λi=>(i.zero,i.size,i.bytes))=some (some (.int .u8 0),1,1):=by kernel_rfl
def Wr(B:Nat)(w b:World):Prop:=Below B w b/\∀k,k<w.heap.size->(∀a fr,w.heap[k]? ≠some (.cells a 5 fr))->b.heap[k]? = w.heap[k]?
theorem Wr.refl(B:Nat)(w:Tw):Wr B w w:=⟨XC _ _,λ_ _ _=>rfl⟩
theorem Wr.trans{B:Nat}{a b c:Tw}(h:Wr B a b)(k:Wr B b c):Wr B a c :=
 ⟨h.1.trans k.1,λi f g=>by have e:=h.2 i f g;exact(k.2 i (Ya f h.1.size) (λd fr=>by rw[e];exact g d fr)).trans e⟩
theorem Wr.Ba{B:Nat}(h:Zb w W)(a:B<=w.heap.size):Wr B w W:=⟨h.mono a,λk b _=>h.block k b⟩
theorem Wr.alloc{B:Nat}{a w:Tw}(h:Wr B a w)(b:B<=w.heap.size)(o:Obj):Wr B a (w.alloc o) :=
 h.trans (Wr.Ba (Zal) b)
theorem Wr.drew{B:Nat}{a w:Tw}(h:Wr B a w):Wr B a w.drew:=⟨h.1.drew,h.2⟩
theorem Wr.grown{B n:Nat}{a w W:Tw}{v:Tv}{xs:List Tv}(h:Wr B a w)(d:w.ownsRow B 5 1 v n xs)(c:w.grownBy W v.ownBlock)(j:B<=w.heap.size):Wr B a W :=
 h.trans ⟨(XC _ _).grown c j (λk b=>(d.lt k b).1),λk b hn=>c.block k b (λe=>by
  rcases d.2 with⟨rfl,_⟩|⟨g,f,i,rfl,_,l,_⟩
  ·cases e
  cases e;exact hn _ _ l)⟩
theorem Dq(B n x:Nat)(O:x<18446744073709551616)(sv:Tv)(xs:List Tv)(w:Tw)(k:w.ownsRow B 5 1 sv n xs)(J:B<=w.heap.size)(v:n+10<=140737488355328):
 Zc 147 #[sv,.int .u64 x] w λe D=>∃v',e=Zr v'/\D.ownsRow B 5 1 v' (n+(Lib.uvarint x).length) (xs++Lib.byteCells (Lib.uvarint x))/\Wr B w D:=by
 obtain⟨z,t,m,o,p⟩:=info_parts bX;have hlen:=Lib.uvarint_length64 O;go_enter func147,ntmps147;go_wp2
 go_loopw [0,1] (λvb r wr=>∃(y:Nat)(pre:List UInt8),r=.int .u64 y/\y<=x/\Lib.uvarint x=pre++Lib.uvarint y/\wr.ownsRow B 5 1 vb (n+pre.length) (xs++Lib.byteCells pre)/\Wr B w wr)
  (λ_ r _=>(intOf r).toNat)
 case atStart=>exact⟨x,[],rfl,Y9 _,rfl,by simpa[Lib.byteCells] using k,Wr.refl _ _⟩
 case round=>
  obtain⟨y,pre,rfl,R,b,a,h⟩:=hrel
  have M:pre.length+(Lib.uvarint y).length<=10:=by have I:=congrArg List.length b;rw[Y'] at I;omega
  have P:=Lib.uvarint_pos y;have N:=h.1.size;have i:B<=wr.heap.size:=by omega
  by_cases h128:128<=y
  ·have L:bits .or .u8 ((y:Int) % 256) 128=((y % 128+128:Nat):Int):=by
    rw[Lib.u8_or128_any _ (by omega) (by omega)];omega
   go_wp2_with (at_builtin;refine wpList_append_own _ rfl _ _ 81 rfl B 5 z (.int .u8 0) 1 1 underlying81 t m o p rfl (by decide) _ _ _ rfl (a.alloc _) ⟨wr.heap.size,0,none⟩ 1 1 [Value.int .u8 ((y % 128+128:Nat):Int)] rfl rfl ?c1 ?c2 ?c3 ?c4 ?c5 ?_)
   case c1=>
    intro j u g
    match j,g with
    | 0,g=>simp at g;subst g;simp[Addr.add]
   case c2=>intro u l;simp at l;subst l;rfl
   case c3=>unfold maxLen;omega
   case c4=>omega
   case c5=>simp;omega
   intro v' s d c _;have f:Wr B w s:=(h.alloc i _).grown (a.alloc _) c (by simp;omega);go_wp2
   go_roundw
   case rel=>
    refine⟨y / 128,pre++[(y % 128+128).toUInt8],by go_num,by omega,by rw[b,Lib.uvarint_big h128];simp,?_,f⟩;have G:((y % 128+128:Nat):Int)=(y:Int) % 128+128:=by omega
    rw[Lib.byteCells_snoc pre (by omega),Y',YC,<-XK,G];exact d
   case measure=>simp[intOf];omega
  have q:Lib.uvarint y=[y.toUInt8]:=Lib.uvarint_small (by omega);go_wp2_with (at_builtin;refine wpList_append_own _ rfl _ _ 81 rfl B 5 z (.int .u8 0) 1 1 underlying81 t m o p rfl (by decide) _ _ _ rfl (a.alloc _) ⟨wr.heap.size,0,none⟩ 1 1 [Value.int .u8 (y:Int)] rfl rfl ?c1 ?c2 ?c3 ?c4 ?c5 ?_)
  case c1=>
   intro j u g
   match j,g with
   | 0,g=>simp at g;subst g;simp[Addr.add]
  case c2=>intro u l;simp at l;subst l;rfl
  case c3=>unfold maxLen;omega
  case c4=>omega
  case c5=>simp;omega
  intro v' s d c _;have f:Wr B w s:=(h.alloc i _).grown (a.alloc _) c (by simp;omega);go_wp2;go_ret;refine⟨v',rfl,?_,f⟩;rw[b,q,Lib.byteCells_snoc pre (by omega),Y',YC,<-XK];exact d
theorem oG(a b:Int):bits .xor .i64 a b=bits .xor .i64 b a:=by show IntKind.i64.wrap ((BitVec.ofInt 64 a ^^^ BitVec.ofInt 64 b).toNat:Int)=IntKind.i64.wrap ((BitVec.ofInt 64 b ^^^ BitVec.ofInt 64 a).toNat:Int);rw[BitVec.xor_comm]
theorem pB(a b:Int):bits .xor .u64 a b=bits .xor .u64 b a:=by show IntKind.u64.wrap ((BitVec.ofInt 64 a ^^^ BitVec.ofInt 64 b).toNat:Int)=IntKind.u64.wrap ((BitVec.ofInt 64 b ^^^ BitVec.ofInt 64 a).toNat:Int);rw[BitVec.xor_comm]
theorem oM(x:Nat)(c:x<9223372036854775808):bits .xor .i64 (x:Int) 0=x:=by
 show IntKind.i64.wrap ((BitVec.ofInt 64 (x:Int) ^^^ BitVec.ofInt 64 0).toNat:Int)=_
 have b:(BitVec.ofInt 64 (x:Int)).toNat=x:=by rw[BitVec.ofInt_natCast,BitVec.toNat_ofNat];exact YW (by omega)
 have a:(BitVec.ofInt 64 0).toNat=0:=by decide
 rw[BitVec.toNat_xor,a,b,Nat.xor_zero,IntKind.wrap_i64];omega
theorem mU(x:Nat)(a:x<18446744073709551616):bits .xor .u64 (x:Int) 0=x:=by have:=bits_xor_u64_nat x 0 (by simpa using a) (by decide);simpa using this
theorem Ms(B n:Nat)(x:Int)(c : -9223372036854775808<=x)(h:x<=9223372036854775807)(sv:Tv)(xs:List Tv)(w:Tw)(b:w.ownsRow B 5 1 sv n xs)(d:B<=w.heap.size)(a:n+10<=140737488355328):
 Zc 329 #[sv,Zi x] w λe j=>∃v',e=Zr v'/\j.ownsRow B 5 1 v' (n+(Lib.uvarint (Lib.zigzag x)).length) (xs++Lib.byteCells (Lib.uvarint (Lib.zigzag x)))/\Wr B w j:=by
 have i:=Ab (Dq B n (Lib.zigzag x) (Lib.zigzag_lt c h) sv xs w b d a)
 by_cases hneg:x<0
 ·have E:Hid (bits .xor .u64 (IntKind.u64.wrap (IntKind.u64.wrap x*2)) (IntKind.u64.wrap (x / 9223372036854775808))=((Lib.zigzag x:Nat):Int)):=by
   have e:x / 9223372036854775808 = -1:=by omega
   rw[e,pB,<-Lib.zigzag_neg c hneg];rfl
  go_enter func329,ntmps329;go_wp2_with fail;rw[E.o];refine i.o.mono ?_;rintro e l⟨v',rfl,g,f⟩;go_wp2;go_ret;exact⟨v',rfl,g,f⟩
 have E:Hid (bits .xor .u64 (x*2) (x / 9223372036854775808)=((Lib.zigzag x:Nat):Int)):=by
  have e:x / 9223372036854775808=0:=by omega
  have k:x*2=((Lib.zigzag x:Nat):Int):=(Lib.zigzag_nonneg (by omega)).symm;rw[e,k];exact mU _ (Lib.zigzag_lt c h)
 go_enter func329,ntmps329;go_wp2_with fail;rw[E.o];refine i.o.mono ?_;rintro e l⟨v',rfl,g,f⟩;go_wp2;go_ret;exact⟨v',rfl,g,f⟩
theorem gV(x:Nat)(c:x<18446744073709551616)(w:Tw):
 Zc 312 #[.int .u64 x] w λe b=>e=Zr (Zi (Lib.unzigzag x))/\b=w:=by
 have H:Hid (bits .xor .i64 ((x:Int) / 2) (wrap64 (-wrap64 (bits .and .u64 (x:Int) 1)))=Lib.unzigzag x):=by
  rw[Lib.u64_and1 _ (by omega) (by omega)];have a:((x:Int) / 2)=((x / 2:Nat):Int):=by omega
  rw[a];unfold Lib.unzigzag
  by_cases h:x % 2=0
  ·rw[if_pos h,show ((x:Int) % 2)=0 by omega]
   rw[show wrap64 (-wrap64 0)=0 by unfold wrap64;omega];exact oM (x / 2) (by omega)
  rw[if_neg h,show ((x:Int) % 2)=1 by omega,oG];rw[show wrap64 (-wrap64 1) = -1 by unfold wrap64;omega];exact Lib.i64_not (x / 2) (by omega)
 go_enter func312,ntmps312;go_wp2;go_ret;exact⟨Bd H.o,rfl⟩
theorem aH{P:Program}{g:Array Oper}{o:Oper}{a:Act}{K:Act->Tw->Prop}{Q:Exit->Act->Tw->Prop}{E:Prop}(m:o.guard=none)(p x:Operand)(t u:TypeId)(z:o.op=.call { callee:=.builtin .append,args:=#[p,x],argTypes:=#[t,u] })(base:Nat)(e:TypeId)(i:TypeInfo)(I:P.underlying t=some (.slice e))(J:P.underlying u=some .string)(y:P.info? e=some i)(N:i.zero=some (.int .u8 0))(d:i.size=1)(l:i.bytes=1)(v:Tv)(n:Nat)(xs:List Tv)(G:a.eval p=v)(f:w.ownsRow base e 1 v n xs)(s:Tb)(M:a.eval x=Zt s)(k:n+s.size<=maxLen)(b:n+s.size<=140737488355328)(c:base<=w.heap.size)(h:∀v' j,j.ownsRow base e 1 v' (n+s.size) (xs++Lib.strCells s)->w.grownBy j v.ownBlock->K (a.put o.dst v') j):
 if Region.wanted o (yielded g a.tmps)=true then Oper.wp P o a w K Q else E:=by
 have L:Region.wanted o (yielded g a.tmps)=true:=by simp[Region.wanted,m]
 rw[if_pos L];obtain⟨v',j,D,q,r,O⟩:=Lib.run_append_own_string (P:=P) w base t u o.type e i I J y N d l v n xs f s k b c;unfold Oper.wp execOp;simp only[z,resolve,invoke,builtin,Sem.run_bind,Sem.run_pure,Result.andThen_ok,List.map_toArray,List.map_cons,List.map_nil,G,M,D];exact h v' j q r
theorem Bg(a b:List UInt8):Lib.byteCells (a++b)=Lib.byteCells a++Lib.byteCells b:=Lib.byteCells_append a b
theorem fU(t:Tb):Lib.strCells t=Lib.byteCells t.data.toList:=rfl
theorem Hw{B:Nat}(h:Wr B w W){b:Nat}{cs:Array Tv}{fr:Nat×Nat}(a:w.heap[b]? = some (Zk cs T fr))(g:T≠5):W.heap[b]? = some (Zk cs T fr):=by
 rw[h.2 b (by
  rcases Yc b w.heap.size with c|c
  ·exact c
  rw[XI c] at a;cases a) (λd f e=>by rw[a] at e;injection e with e;injection e with _ e;exact g e)]
 exact a
theorem ADw{B n b:Nat}{xs:List Tv}{cs:Array Tv}{fr:Nat×Nat}(j:w.grownBy W v.ownBlock)(c:w.heap[b]? = some (Zk cs T fr))(k:w.ownsRow B 5 1 v n xs)(i:T≠5:=by decide):W.heap[b]? = some (Zk cs T fr):=by
 rw[j.block b (by
  rcases Yc b w.heap.size with d|d
  ·exact d
  ·rw[XI d] at c;cases c) (λe=>by
  rcases k.2 with⟨rfl,_⟩|⟨g,f,h,rfl,_,a,_⟩
  ·cases e
  cases e;rw[c] at a;injection a with a;injection a with _ a;exact i a)]
 exact c
theorem N8(B n:Nat)(k x:Int)(t:Tb)(N : -9223372036854775808<=x)(O:x<=9223372036854775807)(X:t.size<=1000000)(sv:Tv)(xs:List Tv)(w:Tw)(b:w.ownsRow B 5 1 sv n xs)(i:B<=w.heap.size)(M:n<=1000000):
 Zc 327 #[sv,Zg #[Zi k,Zi x,Zt t]] w λe a=>∃v',e=Zr v'/\a.ownsRow B 5 1 v' (n+(J3 (k,x,t)).length) (xs++Lib.byteCells (J3 (k,x,t)))/\Wr B w a:=by
 obtain⟨R,L,l,m,p⟩:=info_parts bX;have q:=Zy L l m p;clear L l m p;have J:=Ab b;clear b
 by_cases hk:k=1
 ·have u:Hid (J3 (k,x,t)=Lib.uvarint (Lib.zigzag x)):=by unfold J3;rw[if_pos hk];exact rfl
  have y:(k==1)=true:=by simpa using hk
  have s:Hid (∀o,Zc 329 #[sv,Zi x] (w.alloc o) λe a=>∃v',e=Zr v'/\a.ownsRow B 5 1 v' (n+(Lib.uvarint (Lib.zigzag x)).length) (xs++Lib.byteCells (Lib.uvarint (Lib.zigzag x)))/\Wr B w a):=λo=>(Ms B n x N O sv xs (w.alloc o) (J.o.alloc o) (by simp;omega) (by omega)).mono λe a⟨v',z,v,r⟩=>⟨v',z,v,((Wr.refl B w).alloc i o).trans r⟩
  clear hk;rw[u.o];go_enter func327,ntmps327;go_wp2_with (go_at_call 329;refine(s.o _).mono ?_;rintro e V⟨v',rfl,D,y⟩);go_ret;exact⟨v',rfl,D,y⟩
 have u:Hid (J3 (k,x,t)=Lib.uvarint t.size++t.data.toList):=by unfold J3;rw[if_neg hk];exact rfl
 have y:(k==1)=false:=by simpa using hk
 have s:Hid (∀W,W.heap[w.heap.size]? = some (Zk #[Zi k,Zi x,Zt t] 56)->Wr B w W->W.ownsRow B 5 1 sv n xs->Zc 147 #[sv,.int .u64 (IntKind.u64.wrap (t.size:Int))] W λe a=>∃v',e=Zr v'/\a.ownsRow B 5 1 v' (n+(Lib.uvarint t.size).length) (xs++Lib.byteCells (Lib.uvarint t.size))/\Wr B w a/\a.heap[w.heap.size]? = some (Zk #[Zi k,Zi x,Zt t] 56)):=λW hh hw D=>by rw[show IntKind.u64.wrap (t.size:Int)=((t.size:Nat):Int) by rw[IntKind.wrap_u64];omega];exact(Dq B n t.size (by omega) sv xs W D (by have:=hw.1.size;omega) (by omega)).mono λe a⟨v',z,v,r⟩=>⟨v',z,v,hw.trans r,Hw r hh (by decide)⟩
 have I:Hid (∀W:Tw,W.heap[w.heap.size]? = some (Zk #[Zi k,Zi x,Zt t] 56)->W.cell? ⟨w.heap.size,2,none⟩=some (Zt t)):=λW h=>by simp[World.cell?,h]
 have P:(Lib.uvarint t.size).length<=10:=Lib.uvarint_length64 (by omega);clear hk;rw[u.o];go_enter func327,ntmps327;go_wp2_with fail
 go_region_held3 (λa=>a.cell? ⟨w.heap.size,2,none⟩=some (Zt t))
  (first
    | (go_keep;done)
    | exact I.o _ f
    | exact I.o _ (g))
  (first
    | (go_at_call 147;refine(s.o _ ?_ ?_ ?_).mono ?_;exact heap_alloc_new _ _;exact((Wr.refl B w).alloc i _).drew;exact J.o.alloc _;rintro e V⟨T,rfl,c,d,f⟩)
    | (refine aH (by rfl) (.tmp 17) (.tmp 19) 81 9 (by rfl) B 5 R underlying81 underlying9 q.o.1 q.o.2.1 q.o.2.2.1 q.o.2.2.2 T _ _ (by rfl) c t (by rfl) (by unfold maxLen;omega) (by omega) (by have:=d.1.size;omega) ?_;intro U Y G j;have g:=ADw j f c))
 go_wp2;go_ret;rw[Y',<-XK,Bg,<-XM];exact⟨U,rfl,G,d.grown c j (by have:=d.1.size;omega)⟩
def Sl(w:World)(v:Value)(l:List V):Prop :=
 ∃a c,v=.slice a l.length c/\l.length<=c/\(l≠[]->∃b off,a=some ⟨b,off,none⟩/\b<w.heap.size /\
  ∀j x,l[j]? = some x->w.cell? ⟨b,off+j*3,none⟩=some (Zi x.1)/\w.cell? ⟨b,off+j*3+1,none⟩=some (Zi x.2.1)/\w.cell? ⟨b,off+j*3+2,none⟩=some (.string x.2.2))
theorem Sl.up(h:Sl w v l)(f:Zb w W):Sl W v l:=by obtain⟨a,c,e,g,s⟩:=h;refine⟨a,c,e,g,λi=>?_⟩;obtain⟨b,off,k,d,q⟩:=s i;refine⟨b,off,k,Ya d f.size,λj x r=>?_⟩;obtain⟨m,n,o⟩:=q j x r;exact⟨(f.cell (p:=⟨b,off+j*3,none⟩) d).trans m,(f.cell (p:=⟨b,off+j*3+1,none⟩) d).trans n,(f.cell (p:=⟨b,off+j*3+2,none⟩) d).trans o⟩
def Vd(l:List V):Prop:=l.length<=60/\∀x∈l,-9223372036854775808<=x.2.1/\x.2.1<=9223372036854775807/\x.2.2.size<=40
theorem Vd.get(h:Vd l){j:Nat}(a:l[j]? = some x):-9223372036854775808<=x.2.1/\x.2.1<=9223372036854775807/\x.2.2.size<=40:=h.2 x (XJ a)
theorem rL(h : -9223372036854775808<=x.2.1/\x.2.1<=9223372036854775807/\x.2.2.size<=40):(J3 x).length<=50:=by
 unfold J3;split
 ·have:=Lib.uvarint_length64 (Lib.zigzag_lt h.1 h.2.1);omega
 have:=Lib.uvarint_length64 (x:=x.2.2.size) (by omega);have e:x.2.2.data.toList.length=x.2.2.size:=by rw[XL];rfl
 rw[Y',e];omega
theorem Br{α:Type}{l:List α}{x:α}(h:l[k]? = some x):l.take (k+1)=l.take k++[x]:=by
 have b:k<l.length:=by
  rcases Yc k l.length with a|a
  ·exact a
  rw[Yb a] at h;cases h
 rw[Yr b];rw[XA b] at h;injection h with h;rw[h]
theorem pP(h:l[k]? = some x):Fx (l.take (k+1))=Fx (l.take k)++J3 x:=by rw[Br h];simp[Fx]
theorem N0(h:∀x∈l,-9223372036854775808<=x.2.1/\x.2.1<=9223372036854775807/\x.2.2.size<=40):(Fx l).length<=l.length*50:=by
 induction l with
 | nil=>simp[Fx]
 | cons v l ih=>have b:=rL (h v (by simp));have c:=ih (λx a=>h x (by simp[a]));have e:Fx (v :: l)=J3 v++Fx l:=rfl;rw[e,Y',XB];omega
theorem Vd.take{l:List V}(h:Vd l)(k:Nat):Vd (l.take k):=⟨by have:=h.1;simp;omega,λx a=>h.2 x (Yk a)⟩
theorem Hk{α:Type}{l:List α}(h:k<l.length):∃x,l[k]? = some x:=⟨_,XA h⟩
theorem Xm(v:Tv)(l:List V)(w:Tw)(U:Sl w v l)(j:Vd l):
 Zc 317 #[v] w λe f=>∃v',e=Zr v'/\f.ownsRow w.heap.size 5 1 v' (Fx l).length (Lib.byteCells (Fx l))/\Wr w.heap.size w f:=by
 obtain⟨a,c,rfl,_,L⟩:=U;have N:=Ab L;have h:=Ab j;have R:=j.1;clear L j;go_enter func317,ntmps317;go_wp2
 go_loopw [3,8] (λvb y wr=>∃k:Nat,k<=l.length/\y=Zi k/\Hid (wr.ownsRow w.heap.size 5 1 vb (Fx (l.take k)).length (Lib.byteCells (Fx (l.take k))))/\Hid (Wr w.heap.size w wr)) (λ_ y _=>l.length-(intOf y).toNat)
 case atStart=>exact⟨0,XG _,rfl,XD _ _ _ _,Wr.refl _ _⟩
 case round=>
  obtain⟨k,Y,rfl,m,d⟩:=hrel
  by_cases hlt:k<l.length
  ·obtain⟨b,off,rfl,i,J⟩:=N.o (by intro e;rw[e] at hlt;simp at hlt)
   obtain⟨⟨t,u,x⟩,s⟩:=Hk hlt;obtain⟨z,D,G⟩:=J k _ s;have c0:wr.cell? ⟨b,off+k*3,none⟩=some (Zi t):=(d.o.1.cell (p:=⟨b,off+k*3,none⟩) i).trans z;have c1:wr.cell? ⟨b,off+k*3+1,none⟩=some (Zi u):=(d.o.1.cell (p:=⟨b,off+k*3+1,none⟩) i).trans D;have W:wr.cell? ⟨b,off+k*3+2,none⟩=some (Zt x):=(d.o.1.cell (p:=⟨b,off+k*3+2,none⟩) i).trans G;have g:=h.o.get s;have q:=d.o.1.size;have O:=Ab (pP s)
   have M:Hid (∀o,Zc 327 #[_,Zg #[Zi t,Zi u,Zt x]] (wr.alloc o) λe f=>∃v',e=Zr v'/\f.ownsRow w.heap.size 5 1 v' _ _/\Wr w.heap.size w f):=λo=>(N8 w.heap.size _ t u x g.1 g.2.1 (by have:=g.2.2;simp at this;omega) _ _ (wr.alloc o) (m.o.alloc o) (by simp;omega) (by have X:=N0 (h.o.take k).2;have I:=(h.o.take k).1;omega)).mono λe f⟨v',T,I,P⟩=>⟨v',T,I,(d.o.alloc q o).trans P⟩
   clear z D G J g;go_wp2_with (go_at_call 327;refine(M.o _).mono ?_;rintro e w1⟨v1,rfl,n,r⟩)
   go_roundw
   case rel=>exact⟨k+1,by omega,by go_num,Ab (by rw[O.o,Y',Bg];exact n),Ab r⟩
   case measure=>simp[intOf];omega
  have e:l.take k=l:=Yd (by omega);rw[e] at m;go_wp2;go_ret;exact⟨_,rfl,m.o,d.o⟩
theorem Ww{a:Int}:∀{l:List V}{k:Nat}{x:V},l[k]? = some x->G5 a (l.take (k+1))=G5 a (l.take k)++Lib.uvarint (Lib.zigzag (Pp (x.2.1-(if k=0 then a else (l[k-1]?.map (·.2.1)).getD 0))))
 | [],k,x,h=>by simp at h
 | v :: l,0,x,h=>by simp at h;subst h;simp[G5]
 | v :: l,k+1,x,h=>by
   have b:l[k]? = some x:=by simpa using h
   have c:=Ww (a:=v.2.1) b;simp only[List.take_succ_cons,G5,c,XM];congr 3;cases k with
   | zero=>simp
   | succ k=>simp
theorem N1(x:Int):-9223372036854775808<=Pp x/\Pp x<=9223372036854775807:=by unfold Pp;omega
theorem bQ{a:Int}:(G5 a l).length<=l.length*10:=by
 induction l generalizing a with
 | nil=>simp[G5]
 | cons v l ih=>have b:=Lib.uvarint_length64 (Lib.zigzag_lt (N1 (v.2.1-a)).1 (N1 (v.2.1-a)).2);have c:=ih (a:=v.2.1);simp only[G5,Y',XB];omega
theorem AAw(x:Int):wrap64 x=Pp x:=by unfold wrap64 Pp;rfl
def P7(l:List V)(k:Nat):Int:=if k=0 then 0 else (l[k-1]?.map (·.2.1)).getD 0
theorem rD(v:Tv)(l:List V)(w:Tw)(W:Sl w v l)(j:Vd l):
 Zc 316 #[v] w λe f=>∃v',e=Zr v'/\f.ownsRow w.heap.size 5 1 v' (G5 0 l).length (Lib.byteCells (G5 0 l))/\Wr w.heap.size w f:=by
 obtain⟨a,c,rfl,_,L⟩:=W;have P:=Ab L;have O:=Ab j;have R:=j.1;clear L j;go_enter func316,ntmps316;go_wp2
 go_loopw [3,4,9] (λvb X u wr=>∃k:Nat,k<=l.length/\u=Zi k/\X=Zi (P7 l k)/\Hid (wr.ownsRow w.heap.size 5 1 vb (G5 0 (l.take k)).length (Lib.byteCells (G5 0 (l.take k))))/\Hid (Wr w.heap.size w wr)) (λ_ _ u _=>l.length-(intOf u).toNat)
 case atStart=>exact⟨0,XG _,rfl,rfl,XD _ _ _ _,Wr.refl _ _⟩
 case round=>
  obtain⟨k,hk,rfl,rfl,m,h⟩:=hrel
  by_cases hlt:k<l.length
  ·obtain⟨b,off,rfl,i,J⟩:=P.o (by intro e;rw[e] at hlt;simp at hlt)
   obtain⟨⟨s,d,t⟩,r⟩:=Hk hlt;obtain⟨y,z,D⟩:=J k _ r;have c0:wr.cell? ⟨b,off+k*3,none⟩=some (Zi s):=(h.o.1.cell (p:=⟨b,off+k*3,none⟩) i).trans y;have c1:wr.cell? ⟨b,off+k*3+1,none⟩=some (Zi d):=(h.o.1.cell (p:=⟨b,off+k*3+1,none⟩) i).trans z;have Y:wr.cell? ⟨b,off+k*3+2,none⟩=some (Zt t):=(h.o.1.cell (p:=⟨b,off+k*3+2,none⟩) i).trans D;have o:=h.o.1.size;have x:Hid (G5 0 (l.take (k+1))=G5 0 (l.take k)++Lib.uvarint (Lib.zigzag (Pp (d-P7 l k)))):=Ww r
   have M:Hid (P7 l (k+1)=d):=by show P7 l (k+1)=d;unfold P7;rw[if_neg (by omega),Nat.add_sub_cancel,r];rfl
   generalize P7 l k=g at x
   have N:Hid (Zc 329 #[_,Zi (wrap64 (d-g))] (wr.alloc (Zk #[Zi s,Zi d,Zt t] 56)) λe f=>∃v',e=Zr v'/\f.ownsRow w.heap.size 5 1 v' _ _/\Wr w.heap.size w f/\f.cell? ⟨wr.heap.size,1,none⟩=some (Zi d)) :=
    (Ms w.heap.size _ (wrap64 (d-g)) (AAw (d-g) ▸ (N1 (d-g)).1) (AAw (d-g) ▸ (N1 (d-g)).2) _ _ (wr.alloc (.cells #[.int .i64 s,.int .i64 d,.string t] 56)) (m.o.alloc _) (by simp;omega) (by have h1:=bQ (a:=0) (l:=l.take k);have G:=(O.o.take k).1;omega)).mono λe f⟨v',U,G,I⟩=>⟨v',U,G,(h.o.alloc o _).trans I,by have:=Hw I (heap_alloc_new _ _) (by decide);simp[World.cell?,this]⟩
   clear y z D J;go_wp2_with (go_at_call 329;refine N.o.mono ?_;rintro e w1⟨v1,rfl,n,q,T⟩)
   go_roundw
   case rel=>exact⟨k+1,by omega,by go_num,by rw[M.o],Ab (by rw[x.o,Y',Bg,<-AAw];exact n),Ab q⟩
   case measure=>simp[intOf];omega
  have e:l.take k=l:=Yd (by omega);rw[e] at m;go_wp2;go_ret;exact⟨_,rfl,m.o,h.o⟩
variable{k:Nat}{W w:Tw}{u v:Tv}{l:List V}{X Y:List Tv}{x:V}{s:List V×List UInt8}
abbrev ADW(x:V):Value:=.agg #[Zi x.1,Zi x.2.1,.string x.2.2]
def B7(p:V->Bool):List V->Nat
 | []=>0
 | x :: l=>if p x then 0 else B7 p l+1
def Kk(p:V->Bool)(l:List V):Int:=if B7 p l<l.length then (B7 p l:Int) else -1
theorem ABD{α:Type}{l:List α}{x:α}(h:l[k]? = some x):l.drop k=x :: l.drop (k+1):=by
 have b:k<l.length:=by
  rcases Yc k l.length with a|a
  ·exact a
  rw[Yb a] at h;cases h
 rw[Yq b];rw[XA b] at h;injection h with h;rw[h]
def Pr(g:Nat)(lb:Array Value)(p:V->Bool)(l:List V)(w:World):Prop :=
 ∀(W:World)(x:V),x∈l->Zb w W->Zc g (#[ADW x]++lb) W λe a=>e=.returned (.bool (p x))/\Zb w a
theorem Md(g:Nat)(lb:Array Tv)(p:V->Bool)(P:∀args w,(callFunc g args).run prog w=.ok (.enter g args) w)(v:Tv)(l:List V)(w:Tw)(N:Sl w v l)(M:l.length<=1000)(I:Pr g lb p l w):
 Zc 313 #[v,.func (.func g) #[] lb] w λe t=>e=Zr (Zi (Kk p l))/\Zb w t:=by
 obtain⟨a,c,rfl,_,G⟩:=N;have J:=Ab G;have L:=Ab I;clear G I;go_enter func313,ntmps313;go_wp2
 go_loopw [8] (λs wr=>∃k:Nat,k<=l.length/\s=Zi k/\Hid (B7 p l=k+B7 p (l.drop k))/\Hid (Zb w wr)) (λs _=>l.length-(intOf s).toNat)
 case atStart=>exact⟨0,XG _,rfl,Ab (by simp),XC _ _⟩
 case round=>
  obtain⟨k,R,rfl,m,i⟩:=hrel
  by_cases hlt:k<l.length
  ·obtain⟨b,off,rfl,j,D⟩:=J.o (by intro e;rw[e] at hlt;simp at hlt)
   obtain⟨⟨o,q,r⟩,n⟩:=Hk hlt;obtain⟨x,y,z⟩:=D k _ n;have c0:wr.cell? ⟨b,off+k*3,none⟩=some (Zi o):=(i.o.cell (p:=⟨b,off+k*3,none⟩) j).trans x;have c1:wr.cell? ⟨b,off+k*3+1,none⟩=some (Zi q):=(i.o.cell (p:=⟨b,off+k*3+1,none⟩) j).trans y;have O:wr.cell? ⟨b,off+k*3+2,none⟩=some (Zt r):=(i.o.cell (p:=⟨b,off+k*3+2,none⟩) j).trans z;have d:=L.o wr (o,q,r) (XJ n) i.o;have u:=Ab (ABD n);clear x y z D;cases hq:p (o,q,r) with
   | true=>
     rw[hq] at d
     have h:Hid ((k:Int)=Kk p l):=by
      have:B7 p l=k:=by rw[m.o,u.o];simp[B7,hq]
      show (k:Int)=Kk p l;unfold Kk;rw[this,if_pos hlt]
     go_wp2_with (go_at_fn g;refine d.mono ?_;rintro e t⟨rfl,f⟩);go_ret;exact⟨Bd h.o,f⟩
   | false=>
     rw[hq] at d
     have h:Hid (B7 p l=k+1+B7 p (l.drop (k+1))):=by show B7 p l=k+1+B7 p (l.drop (k+1));rw[m.o,u.o];simp[B7,hq];omega
     go_wp2_with (go_at_fn g;refine d.mono ?_;rintro e t⟨rfl,f⟩)
     go_roundw
     case rel=>exact⟨k+1,by omega,by go_num,h,Ab f⟩
     case measure=>simp[intOf];omega
  have h:Hid (-1=Kk p l):=by
   have:B7 p l=l.length:=by rw[m.o,YK (by omega)];simp[B7];omega
   show -1=Kk p l;unfold Kk;rw[if_neg (by omega)]
  go_wp2;go_ret;exact⟨Bd h.o,i.o⟩
theorem l7(p:V->Bool):∀l,l.any p=decide (B7 p l<l.length)
 | []=>by simp[B7]
 | x :: l=>by
   by_cases h:p x=true
   ·simp[B7,h]
   simp[B7,h,l7 p l]
theorem AIB(p:V->Bool)(l:List V):decide (0<=Kk p l)=l.any p:=by
 rw[l7];unfold Kk
 by_cases h:B7 p l<l.length
 ·rw[if_pos h];simp[h]
 rw[if_neg h];simp[h]
theorem Wp(g:Nat)(lb:Array Tv)(p:V->Bool)(j:∀args w,(callFunc g args).run prog w=.ok (.enter g args) w)(v:Tv)(l:List V)(w:Tw)(d:Sl w v l)(a:l.length<=1000)(c:Pr g lb p l w):
 Zc 287 #[v,.func (.func g) #[] lb] w λe f=>e=Zr (Zo (l.any p))/\Zb w f:=by
 have h:=Ab (Md g lb p j v l w d a c);have i:=Ab (AIB p l);clear d c;go_enter func287,ntmps287;go_wp2_with (go_at_call 313;refine h.o.mono ?_;rintro e f⟨rfl,b⟩);go_ret;exact⟨Af i.o,b⟩
theorem AH0(x y:V)(w:Tw):(Op.equalIn 10000 56 (ADW x) (ADW y)).run prog w=.ok (decide (x=y)) w:=by
 have c:prog.underlying 56=some (.struct (prog.fieldsOf 56)):=by kernel_rfl
 rw[show (10000:Nat)=9999+1 from rfl,run_equalIn_agg w 9999 56 _ _ c (by kernel_rfl)];simp only[Program.fieldsOf,underlying56];go_simp;obtain⟨d,g,a⟩:=x;obtain⟨f,nb,b⟩:=y;have e:(a.toList=b.toList)↔a=b:=⟨λh=>by simp[ByteArray.toList_eq] at h;exact ByteArray.ext h,λh=>by rw[h]⟩
 by_cases h1:d=f <;> by_cases h2:g=nb <;> by_cases h3:a.toList=b.toList <;> simp[h1,h2,h3,Prod.ext_iff,e.symm]
theorem zL(a c b d:Int)(e f:Tb)(w:Tw):(Op.equalIn 10000 56 (Zg #[Zi a,Zi c,Zt e]) (Zg #[Zi b,Zi d,Zt f])).run prog w=.ok (decide (((a,c,e):V)=(b,d,f))) w:=AH0 (a,c,e) (b,d,f) w
theorem ADg(v:Tv)(l:List V)(d f:Int)(g:Tb)(w:Tw)(U:Sl w v l)(P:l.length<=1000):
 Zc 328 #[v,Zg #[Zi d,Zi f,Zt g]] w λe X=>e=Zr (Zi (Kk (λx=>decide (((d,f,g):V)=x)) l))/\Zb w X:=by
 obtain⟨a,c,rfl,_,M⟩:=U;have O:=Ab M;clear M;go_enter func328,ntmps328;go_wp2
 go_loopw [8] (λz wr=>∃k q:Nat,k<=l.length/\z=Zi k/\Hid (B7 (λx=>decide (((d,f,g):V)=x)) l=k+B7 (λx=>decide (((d,f,g):V)=x)) (l.drop k))/\Hid (wr=(w.alloc (Zk #[Zi d,Zi f,Zt g] 56)).drewN q)) (λz _=>l.length-(intOf z).toNat)
 case atStart=>exact⟨0,0,XG _,rfl,Ab (by simp),Ab rfl⟩
 case round=>
  obtain⟨k,q,hk,rfl,h,y⟩:=hrel
  have j:Hid (∀m,Zb w (wr.drewN m)):=λm=>by rw[y.o];exact⟨rfl,rfl,rfl,by show _<=(w.alloc _).heap.size;simp,λi R=>Below.heap_alloc _ _ _ R⟩
  have t:Hid (∀m i,(wr.drewN m).cell? ⟨w.heap.size,i,none⟩=(#[Zi d,Zi f,Zt g]:Array Tv)[i]?):=λm i=>by rw[y.o,XN,XN];exact XE w _ 56 (0,0) i
  by_cases hlt:k<l.length
  ·obtain⟨b,off,rfl,u,L⟩:=O.o (by intro e;rw[e] at hlt;simp at hlt)
   obtain⟨⟨o,r,s⟩,N⟩:=Hk hlt;obtain⟨G,I,J⟩:=L k _ N;have c0:∀m,(wr.drewN m).cell? ⟨b,off+k*3,none⟩=some (Zi o):=λm=>((j.o m).cell (p:=⟨b,off+k*3,none⟩) u).trans G
   have c1:∀m,(wr.drewN m).cell? ⟨b,off+k*3+1,none⟩=some (Zi r):=λm=>((j.o m).cell (p:=⟨b,off+k*3+1,none⟩) u).trans I
   have Y:∀m,(wr.drewN m).cell? ⟨b,off+k*3+2,none⟩=some (Zt s):=λm=>((j.o m).cell (p:=⟨b,off+k*3+2,none⟩) u).trans J
   have d0:∀m,(wr.drewN m).cell? ⟨w.heap.size,0,none⟩=some (Zi d):=λm=>t.o m 0
   have d1:∀m,(wr.drewN m).cell? ⟨w.heap.size,1,none⟩=some (Zi f):=λm=>t.o m 1
   have d2:∀m,(wr.drewN m).cell? ⟨w.heap.size,2,none⟩=some (Zt g):=λm=>t.o m 2
   have D:=Ab (ABD N);clear G I J L
   by_cases hq:((d,f,g):V)=(o,r,s)
   ·have T:∀W,(Op.equalIn 10000 56 (Zg #[Zi d,Zi f,Zt g]) (Zg #[Zi o,Zi r,Zt s])).run prog W=.ok true W:=λW=>by rw[zL];simp[hq]
    have n:Hid ((k:Int)=Kk (λx=>decide (((d,f,g):V)=x)) l):=by
     have:B7 (λx=>decide (((d,f,g):V)=x)) l=k:=by rw[h.o,D.o];simp[B7,hq]
     show (k:Int)=Kk _ l;unfold Kk;rw[this,if_pos hlt]
    clear hq h;go_wp2_with fail
    go_quiet (fail)
    go_wp2;go_ret;exact⟨Bd n.o,j.o _⟩
   have T:∀W,(Op.equalIn 10000 56 (Zg #[Zi d,Zi f,Zt g]) (Zg #[Zi o,Zi r,Zt s])).run prog W=.ok false W:=λW=>by rw[zL];simp[hq]
   have n:Hid (B7 (λx=>decide (((d,f,g):V)=x)) l=k+1+B7 (λx=>decide (((d,f,g):V)=x)) (l.drop (k+1))):=by show B7 _ l=k+1+B7 _ (l.drop (k+1));rw[h.o,D.o];simp[B7,hq];omega
   clear hq h;go_wp2_with fail
   go_quiet (fail)
   go_wp2
   go_roundw
   case rel=>exact⟨k+1,q+nq,by omega,by go_num,n,Ab (by rw[y.o,XV])⟩
   case measure=>simp[intOf];omega
  have n:Hid (-1=Kk (λx=>decide (((d,f,g):V)=x)) l):=by
   have:B7 (λx=>decide (((d,f,g):V)=x)) l=l.length:=by rw[h.o,YK (by omega)];simp[B7];omega
   show -1=Kk _ l;unfold Kk;rw[if_neg (by omega)]
  clear h;go_wp2;go_ret;exact⟨Bd n.o,j.o 0⟩
theorem AC0{α:Type}{l m:List α}{x y:α}(h:l.take k=m.take k)(a:l[k]? = some x)(b:m[k]? = some y)(e:x=y):l.take (k+1)=m.take (k+1):=by rw[Br a,Br b,h,e]
theorem AHv{α:Type}{l m:List α}{x y:α}(b:l[k]? = some x)(a:m[k]? = some y)(e:x≠y):l≠m:=by rintro rfl;rw[b] at a;exact e (Yu a)
theorem AGg(v1 v2:Tv)(l m:List V)(w:Tw)(R:Sl w v1 l)(T:Sl w v2 m)(P:l.length<=1000)(_h61:m.length<=1000):
 Zc 16 #[v1,v2] w λe w'=>e=Zr (Zo (decide (l=m)))/\Zb w w':=by
 obtain⟨a1,aa,rfl,_,u⟩:=R;obtain⟨a2,ab,rfl,_,v⟩:=T;have N:=Ab u;have O:=Ab v;clear u v
 by_cases hn:l.length=m.length
 ·generalize hN:m.length=n at *
  have h:Hid (l.length=n/\m.length=n):=⟨hn,hN⟩;rw[hn];rw[hn] at P;clear hn hN;go_enter func16,ntmps16;go_wp2
  go_loopw [13] (λU wr=>∃k q:Nat,k<=n/\U=Zi k/\Hid (l.take k=m.take k)/\Hid (wr=w.drewN q)) (λU _=>n-(intOf U).toNat)
  case atStart=>exact⟨0,0,XG _,rfl,Ab (by simp),Ab rfl⟩
  case round=>
   obtain⟨k,q,hk,rfl,t,hw⟩:=hrel
   have c:Hid (∀m,Zb w (wr.drewN m)):=λm=>by rw[hw.o];exact⟨rfl,rfl,rfl,Y9 _,λi hh=>rfl⟩
   by_cases hlt:k<n
   ·obtain⟨j,a,rfl,f,r⟩:=N.o (by intro e;have:=h.o.1;rw[e] at this;simp at this;omega)
    obtain⟨o,b,rfl,g,s⟩:=O.o (by intro e;have:=h.o.2;rw[e] at this;simp at this;omega);obtain⟨⟨D,I,L⟩,y⟩:=Hk (l:=l) (k:=k) (by have:=h.o.1;omega);obtain⟨⟨G,J,M⟩,z⟩:=Hk (l:=m) (k:=k) (by have:=h.o.2;omega);obtain⟨g0,g1,g2⟩:=r k _ y;obtain⟨X,Y,f2⟩:=s k _ z;have c0:∀m,(wr.drewN m).cell? ⟨j,a+k*3,none⟩=some (Zi D):=λm=>((c.o m).cell (p:=⟨j,a+k*3,none⟩) f).trans g0
    have c1:∀m,(wr.drewN m).cell? ⟨j,a+k*3+1,none⟩=some (Zi I):=λm=>((c.o m).cell (p:=⟨j,a+k*3+1,none⟩) f).trans g1
    have c2:∀m,(wr.drewN m).cell? ⟨j,a+k*3+2,none⟩=some (Zt L):=λm=>((c.o m).cell (p:=⟨j,a+k*3+2,none⟩) f).trans g2
    have d0:∀m,(wr.drewN m).cell? ⟨o,b+k*3,none⟩=some (Zi G):=λm=>((c.o m).cell (p:=⟨o,b+k*3,none⟩) g).trans X
    have d1:∀m,(wr.drewN m).cell? ⟨o,b+k*3+1,none⟩=some (Zi J):=λm=>((c.o m).cell (p:=⟨o,b+k*3+1,none⟩) g).trans Y
    have d2:∀m,(wr.drewN m).cell? ⟨o,b+k*3+2,none⟩=some (Zt M):=λm=>((c.o m).cell (p:=⟨o,b+k*3+2,none⟩) g).trans f2
    clear g0 g1 g2 r X Y f2 s
    by_cases hq:((D,I,L):V)=(G,J,M)
    ·have hr:∀W,(Op.equalIn 10000 56 (Zg #[Zi D,Zi I,Zt L]) (Zg #[Zi G,Zi J,Zt M])).run prog W=.ok true W:=λW=>by rw[zL];simp[hq]
     have d:Hid (l.take (k+1)=m.take (k+1)):=AC0 t.o y z hq;clear hq t y z;go_wp2_with fail
     go_quiet (fail)
     go_wp2
     go_roundw
     case rel=>exact⟨k+1,q+nq,by omega,by go_num,d,Ab (by rw[hw.o,XV])⟩
     case measure=>simp[intOf];omega
    have hr:∀W,(Op.equalIn 10000 56 (Zg #[Zi D,Zi I,Zt L]) (Zg #[Zi G,Zi J,Zt M])).run prog W=.ok false W:=λW=>by rw[zL];simp[hq]
    have d:Hid (false=decide (l=m)):=by have:=AHv y z hq;show false=decide (l=m);simp[this]
    clear hq t y z;go_wp2_with fail
    go_quiet (fail)
    go_wp2;go_ret;exact⟨Af d.o,c.o _⟩
   have d:Hid (true=decide (l=m)):=by have h1:=t.o;rw[Yd (by have:=h.o.1;omega),Yd (by have:=h.o.2;omega)] at h1;show true=decide (l=m);simp[h1]
   clear t;go_wp2;go_ret;exact⟨Af d.o,c.o 0⟩
 have d:Hid (false=decide (l=m)):=by
  show false=decide (l=m);have:l≠m:=λe=>hn (by rw[e])
  simp[this]
 have x:¬(l.length:Int)=(m.length:Int):=by omega
 have ac:((l.length:Int)==(m.length:Int))=false:=by simpa using x
 clear hn x;go_enter func16,ntmps16;go_wp2;go_ret;exact⟨Af d.o,XC _ _⟩
theorem jH(a c b d:Int)(f g:Tb)(bx:Nat)(w:Tw)(n:bx<w.heap.size)(k:w.cell? ⟨bx,0,none⟩=some (Zi b))(l:w.cell? ⟨bx,1,none⟩=some (Zi d))(m:w.cell? ⟨bx,2,none⟩=some (Zt g)):
 Zc 326 #[Zg #[Zi a,Zi c,Zt f],Zp (some ⟨bx,0,none⟩)] w λe j=>e=Zr (Zo (!decide (((a,c,f):V)=(b,d,g))))/\Zb w j:=by
 have h:¬w.heap.size=bx:=by omega
 have i:=zL a c b d f g;generalize decide (((a,c,f):V)=(b,d,g))=q at i;go_enter func326,ntmps326;go_wp2;go_ret;exact⟨rfl,Zal⟩
def lenOf:Value->Nat
 | .slice _ n _=>n
 | _=>0
theorem Ro:∀(f:Nat)(l:List V),l.length<=f->El f l=El l.length l
 | 0,[],_=>rfl
 | 0,_ :: _,h=>by simp at h
 | f+1,[],_=>rfl
 | f+1,v :: l,h=>by
   have c:=Ue v l;have a:(l.drop (same v l)).length<=f:=by simp at h ⊢;omega
   have b:(l.drop (same v l)).length<=l.length:=by simp
   simp only[XB,El];rw[Ro f _ a,Ro l.length _ b]
theorem mG(v:V):∀l:List V,B7 (λy=>!decide (y=v)) l=same v l
 | []=>rfl
 | x :: l=>by
   unfold B7 same
   by_cases h:x=v
   ·simp[h,mG v l]
   simp[h]
theorem cC(v:V)(l:List V):El (v :: l).length (v :: l)=Lib.uvarint (same v l+1)++J3 v++El (l.drop (same v l)).length (l.drop (same v l)):=by simp only[XB,El];rw[Ro _ _ (by simp)]
theorem AC7(v:V)(l:List V):same v (v :: l)=same v l+1:=by simp[same]
theorem Ad{B e z n:Nat}{xs:List Tv}(h:w.ownsRow B e z v n xs)(k:Zb w W):W.ownsRow B e z v n xs:=by
 refine⟨h.1,?_⟩
 rcases h.2 with a|⟨g,b,c,f,i,d,j⟩
 ·exact .inl a
 refine .inr ⟨g,b,c,f,i,?_,j⟩
 rw[k.block g (by
  rcases Yc g w.heap.size with a|a
  ·exact a
  rw[XI a] at d;cases d)]
 exact d
theorem Ai{B k e z n:Nat}{xs:List Tv}(h:w.ownsRow B e z v n xs)(j:k<=B):w.ownsRow k e z v n xs:=by
 refine⟨h.1,?_⟩
 rcases h.2 with i|⟨g,a,b,c,d,f⟩
 ·exact .inl i
 exact .inr ⟨g,a,b,c,XH j d,f⟩
theorem Vd.drop{l:List V}(h:Vd l)(k:Nat):Vd (l.drop k):=⟨by have:=h.1;simp;omega,λx a=>h.2 x (XR a)⟩
theorem Ac{b:Nat}{o:Obj}(h:w.heap[b]? = some o):b<w.heap.size:=by
 rcases Yc b w.heap.size with a|a
 ·exact a
 rw[XI a] at h;cases h
theorem Wf{b:Nat}{o:Obj}(h:w.heap[b]? = some o)(a:Zb w W):W.heap[b]? = some o:=(a.block b (Ac h)).trans h
theorem jM(l:List V)(h:∀x∈l,-9223372036854775808<=x.2.1/\x.2.1<=9223372036854775807/\x.2.2.size<=40)(a:l.length<=1000):∀f,(El f l).length<=f*60:=by
 intro f
 induction f generalizing l with
 | zero=>simp[El]
 | succ f ih=>
   cases l with
   | nil=>simp[El]
   | cons v l=>have c:=rL (h v (by simp));have g:=Ue v l;have d:=ih (l.drop (same v l)) (λx b=>h x (by simp[XR b])) (by simp at a ⊢;omega);have e:=Lib.uvarint_length64 (x:=same v l+1) (by simp at a;omega);simp only[El,Y'];omega
theorem vS{B bx n:Nat}{vb:Tv}{cs:Array Tv}{xs:List Tv}(x:Nat)(W:Tw)(k:x<9223372036854775808)(i:B<=w.heap.size)(h:W.ownsRow B 5 1 vb n xs)(j:n<=1000000)(c:Wr B w W)(f:W.heap[bx]? = some (Zk cs 56)):
 Zc 147 #[vb,.int .u64 (IntKind.u64.wrap (x:Int))] W λe a=>∃v',e=Zr v'/\a.ownsRow B 5 1 v' (n+(Lib.uvarint x).length) (xs++Lib.byteCells (Lib.uvarint x))/\Wr B w a/\a.heap[bx]? = some (Zk cs 56):=by
 rw[show IntKind.u64.wrap (x:Int)=((x:Nat):Int) by rw[IntKind.wrap_u64];omega];exact(Dq B n x (by omega) vb xs W h (by have:=c.1.size;omega) (by omega)).mono λe a⟨v',g,d,b⟩=>⟨v',g,d,c.trans b,Hw b f (by decide)⟩
theorem ADL{B bx n:Nat}{vb:Tv}{cs:Array Tv}{xs:List Tv}(k x:Int)(t:Tb)(W:Tw)(c : -9223372036854775808<=x/\x<=9223372036854775807/\t.size<=40)(l:B<=w.heap.size)(j:W.ownsRow B 5 1 vb n xs)(i:n<=1000000)(d:Wr B w W)(g:W.heap[bx]? = some (Zk cs 56)):
 Zc 327 #[vb,Zg #[Zi k,Zi x,Zt t]] W λe a=>∃v',e=Zr v'/\a.ownsRow B 5 1 v' (n+(J3 (k,x,t)).length) (xs++Lib.byteCells (J3 (k,x,t)))/\Wr B w a/\a.heap[bx]? = some (Zk cs 56) :=
 (N8 B n k x t c.1 c.2.1 (by omega) vb xs W j (by have:=d.1.size;omega) i).mono λe a⟨v',h,f,b⟩=>⟨v',h,f,d.trans b,Hw b g (by decide)⟩
theorem Ei{bx:Nat}{k n:Int}{t:Tb}(h:W.heap[bx]? = some (Zk #[Zi k,Zi n,Zt t] 56)):
 W.cell? ⟨bx,0,none⟩=some (Zi k)/\W.cell? ⟨bx,1,none⟩=some (Zi n)/\W.cell? ⟨bx,2,none⟩=some (Zt t):=by
 simp[World.cell?,h]
theorem AJ6{w wr:Tw}{L:List V}{b off c:Nat}(d f:Int)(g:Tb)(r:Sl w (Zs (some ⟨b,off,none⟩) L.length c) L)(n:Zb w wr)(s:L.length<=1000):
 Zc 313 #[Zs (some ⟨b,off,none⟩) L.length c,.func (.func 326) #[] #[Zp (some ⟨wr.heap.size,0,none⟩)]] (wr.alloc (Zk #[Zi d,Zi f,Zt g] 56)) λe j=>e=Zr (Zi (Kk (λy=>!decide (y=((d,f,g):V))) L))/\Below (wr.alloc (Zk #[Zi d,Zi f,Zt g] 56)).heap.size (wr.alloc (Zk #[Zi d,Zi f,Zt g] 56)) j/\j.heap[wr.heap.size]? = some (Zk #[Zi d,Zi f,Zt g] 56):=by
 have m:Zb w (wr.alloc (Zk #[Zi d,Zi f,Zt g] 56)):=n.alloc n.size _;have h:(wr.alloc (Zk #[Zi d,Zi f,Zt g] 56)).heap[wr.heap.size]? = some (Zk #[Zi d,Zi f,Zt g] 56):=heap_alloc_new _ _;refine(Md 326 #[Zp (some ⟨wr.heap.size,0,none⟩)] (λy=>!decide (y=((d,f,g):V))) (enters_of func326 (by kernel_rfl) rfl) _ L _ (r.up m) s ?_).mono λe j⟨l,i⟩=>⟨l,i,Wf h i⟩
 intro W x _ k;have a:=Wf h k;obtain⟨o,p,q⟩:=Ei a;exact(jH x.1 x.2.1 d f x.2.2 g wr.heap.size W (Ac a) o p q).mono λe j⟨l,i⟩=>⟨l,k.trans (i.mono k.size)⟩
theorem AAA(v:Tv)(l:List V)(w:Tw)(hs:Sl w v l)(hf:Vd l):
 Zc 314 #[v] w λe u=>∃v',e=Zr v'/\u.ownsRow w.heap.size 5 1 v' (El l.length l).length (Lib.byteCells (El l.length l))/\Wr w.heap.size w u:=by
 have HS:=Ab hs;have HF:=Ab hf;have HN:Hid ((El l.length l).length<=3600):=by have J:=jM l hf.2 (by have:=hf.1;omega) l.length;have P:=hf.1;show (El l.length l).length<=3600;omega
 obtain⟨a,c,rfl,_,_⟩:=hs;clear hf;have ax:∀args w,(callFunc 326 args).run prog w=.ok (.enter 326 args) w:=enters_of func326 (by kernel_rfl) rfl;go_enter func314,ntmps314;go_wp2
 go_loopw [0,3] (λv0 vb wr=>∃(L:List V)(pre:List UInt8),Hid (Sl w v0 L)/\Hid (Vd L)/\Hid (El l.length l=pre++El L.length L)/\Hid (wr.ownsRow w.heap.size 5 1 vb pre.length (Lib.byteCells pre))/\Hid (Wr w.heap.size w wr)) (λv0 _ _=>lenOf v0)
 case atStart=>exact⟨l,[],HS,HF,Ab rfl,XD _ _ _ _,Wr.refl _ _⟩
 case round=>
  obtain⟨L,pre,hS,hF,hR,ho,X⟩:=hrel;obtain⟨a,c,rfl,ao,hl⟩:=hS.o;cases L with
  | nil=>have HE:Hid (El l.length l=pre):=Ab (by rw[hR.o];simp[El]);have aq:([]:List V).length=0:=rfl;clear hl;rw[aq];go_wp2;go_ret;exact⟨_,rfl,by rw[HE.o];exact ho.o,X.o⟩
  | cons x R=>
    obtain⟨d,f,g⟩:=x;obtain⟨b,off,rfl,hb,hc⟩:=hl (by simp);obtain⟨g0,g1,g2⟩:=hc 0 _ rfl;simp only[Nat.zero_mul,XO] at g0 g1 g2;have c0:wr.cell? ⟨b,off,none⟩=some (Zi d):=(X.o.1.cell (p:=⟨b,off,none⟩) hb).trans g0;have c1:wr.cell? ⟨b,off+1,none⟩=some (Zi f):=(X.o.1.cell (p:=⟨b,off+1,none⟩) hb).trans g1;have c2:wr.cell? ⟨b,off+2,none⟩=some (Zt g):=(X.o.1.cell (p:=⟨b,off+2,none⟩) hb).trans g2;have av:=X.o.1.size;have HI:=Ab (AJ6 (w:=w) (wr:=wr) (L:=(d,f,g) :: R) (c:=c) (b:=b) (off:=off) d f g hS.o X.o.1 (by have:=hF.o.1;omega));have ar:=Ue (d,f,g) R;have ap:=hF.o.1;have an:=Ab (cC (d,f,g) R);have HV:=hF.o.get (j:=0) (x:=(d,f,g)) rfl;have z:Hid (pre.length<=3600):=by have J:=congrArg List.length hR.o;rw[Y'] at J;have P:=HN.o;show pre.length<=3600;omega
    have af:=Ab (λW ac n' ad J P h3 h4=>ADL (w:=w) (B:=w.heap.size) (bx:=wr.heap.size) (n:=n') (vb:=ac) (cs:=#[Zi d,Zi f,Zt g]) (xs:=ad) d f g W HV (Y9 _) J P h3 h4);have ae:=Ab (λW x ac n' ad h0 J P h3 h4=>vS (w:=w) (B:=w.heap.size) (bx:=wr.heap.size) (n:=n') (vb:=ac) (cs:=#[Zi d,Zi f,Zt g]) (xs:=ad) x W h0 (Y9 _) J P h3 h4);simp only[XB] at HI ao ap ⊢;generalize hn:R.length=n at *;obtain⟨r,am⟩:∃r,r=same (d,f,g) R+1:=⟨_,rfl⟩;have D:=Ab am;have ah:=Ab hn;have ay:1<=r:=by omega
    have az:r<=n+1:=by omega
    have aw:w.heap.size<=wr.heap.size+1:=by omega
    have al:Hid (Wr w.heap.size w (wr.alloc (Zk #[Zi d,Zi f,Zt g] 56))):=X.o.alloc av _;have ai:Hid ((wr.alloc (Zk #[Zi d,Zi f,Zt g] 56)).ownsRow w.heap.size 5 1 _ pre.length (Lib.byteCells pre)):=Ab (ho.o.alloc _);have I:Hid (∀(ab:Tv)(w4:Tw),w4.ownsRow w.heap.size 5 1 ab (pre.length+(Lib.uvarint r).length+(J3 (d,f,g)).length) (Lib.byteCells pre++Lib.byteCells (Lib.uvarint r)++Lib.byteCells (J3 (d,f,g)))->∃i,El l.length l=i++El (R.drop (same (d,f,g) R)).length (R.drop (same (d,f,g) R))/\w4.ownsRow w.heap.size 5 1 ab i.length (Lib.byteCells i)):=λab w4 h4=>⟨pre++Lib.uvarint r++J3 (d,f,g),by rw[hR.o,an.o,D.o];simp,by rw[Y',Y',Bg,Bg];exact h4⟩
    have ak:Hid ((Lib.uvarint r).length<=10):=Lib.uvarint_length64 (by omega)
    have aj:Hid (∀a' c',n+1-r<=c'->(r<n+1->a'=some ⟨b,off+r*3,none⟩)->Sl w (Zs a' (n+1-r) c') (R.drop (same (d,f,g) R))/\(R.drop (same (d,f,g) R)).length=n+1-r):=λa' c' J P=>by
     have hlen:(R.drop (same (d,f,g) R)).length=n+1-r:=by simp;have:=ah.o;have:=D.o;omega
     refine⟨⟨a',c',by rw[hlen],by rw[hlen];exact J,λau=>⟨b,off+r*3,P ?_,hb,λj x hj=>?_⟩⟩,hlen⟩
     ·rcases Yc r (n+1) with h'|h'
      ·exact h'
      exact absurd (Yz (by omega)) au
     have:=hc (r+j) x (by rw[D.o,Nat.add_right_comm,List.getElem?_cons_succ];rwa[List.getElem?_drop] at hj);rw[show off+r*3+j*3=off+(r+j)*3 by omega];exact this
    have ag:Hid (Vd (R.drop (same (d,f,g) R))):=by have:=hF.o.drop (same (d,f,g) R+1);rw[List.drop_succ_cons] at this;exact this
    clear hn am g0 g1 g2 hl HV ar
    have M:Kk (λy=>!decide (y=((d,f,g):V))) ((d,f,g) :: R)=if r<n+1 then ((r:Nat):Int) else -1:=by unfold Kk;rw[mG,AC7,<-D.o,XB,ah.o]
    rw[M] at HI;clear M
    by_cases hA:r<n+1
    ·rw[if_pos hA] at HI
     go_wp2_with (go_at_call 313;refine HI.o.mono ?_;rintro e w2⟨rfl,q,k⟩);have HA:=Ab (ae.o w2.drew r _ _ _ (by omega) (Ad ai.o q.drew) (by have:=z.o;omega) (al.o.trans (Wr.Ba q (by simp;omega))).drew k)
     go_region_held3 (λu=>u.cell? ⟨wr.heap.size,0,none⟩=some (Zi d)/\u.cell? ⟨wr.heap.size,1,none⟩=some (Zi f)/\u.cell? ⟨wr.heap.size,2,none⟩=some (Zt g))
      (first
        | (go_keep;done)
        | exact Ei k
        | exact Ei m
        | exact Ei s)
      (first
        | (go_at_call 147;refine HA.o.mono ?_;rintro e w3⟨v3,rfl,T,Y,m⟩)
        | (go_at_call 327;refine(af.o _ _ _ _ T ?_ Y m).mono ?_;(have:=z.o;have:=ak.o;omega);rintro e w4⟨v4,rfl,U,aa,s⟩))
     obtain⟨i,o,t⟩:=I.o _ _ U;have O:=Ab o;have N:=Ab t;clear o t;go_wp2;obtain⟨G,_⟩:=aj.o (some ⟨b,off+r*3,none⟩) (c-r) (by omega) (λ_=>rfl);exact⟨⟨_,i,Ab G,ag,O,N,Ab aa⟩,by show n+1-r<n+1;omega⟩
    rw[if_neg hA] at HI;have er:((r:Nat):Int)=(n:Int)+1:=by omega
    go_wp2_with (go_at_call 313;refine HI.o.mono ?_;rintro e w2⟨rfl,q,k⟩);have HA:=ae.o w2.drew r _ _ _ (by omega) (Ad ai.o q.drew) (by have:=z.o;omega) (al.o.trans (Wr.Ba q (by simp;omega))).drew k;rw[er] at HA;have HA:=Ab HA;clear er
    go_region_held3 (λu=>u.cell? ⟨wr.heap.size,0,none⟩=some (Zi d)/\u.cell? ⟨wr.heap.size,1,none⟩=some (Zi f)/\u.cell? ⟨wr.heap.size,2,none⟩=some (Zt g))
     (first
       | (go_keep;done)
       | exact Ei k
       | exact Ei m
       | exact Ei s)
     (first
       | (go_at_call 147;refine HA.o.mono ?_;rintro e w3⟨v3,rfl,T,Y,m⟩)
       | (go_at_call 327;refine(af.o _ _ _ _ T ?_ Y m).mono ?_;(have:=z.o;have:=ak.o;omega);rintro e w4⟨v4,rfl,U,aa,s⟩))
    obtain⟨i,o,t⟩:=I.o _ _ U;have O:=Ab o;have N:=Ab t;clear o t;go_wp2;obtain⟨G,_⟩:=aj.o (if c=n+1 then some ⟨b,off,none⟩ else some ⟨b,off+(n+1)*3,none⟩) (c-(n+1)) (by omega) (λh=>absurd h hA);rw[show n+1-r=0 by omega] at G;exact⟨⟨_,i,Ab G,ag,O,N,Ab aa⟩,by show 0<n+1;omega⟩
theorem Ip:(prog.info? 56).map (λi=>(i.zero,i.size,i.bytes))=some (some (Zg #[Zi 0,Zi 0,Zt ⟨#[]⟩]),3,32):=by kernel_rfl
theorem Ck{P:Program}{k:Array Oper}{rest:List Oper}{o:Oper}{a:Act}{Q:Exit->Act->Tw->Prop}(j:o.guard=none)(s x:Operand)(t:TypeId)(M:o.op=.call { callee:=.builtin .append,args:=#[s,x],argTypes:=#[t,t] })(base:Nat)(e:TypeId)(i:TypeInfo)(z:Tv)(size bytes:Nat)(O:P.underlying t=some (.slice e))(L:P.info? e=some i)(Y:i.zero=some z)(f:i.size=size)(G:i.bytes=bytes)(J:z.cells.size=size)(I:0<size)(v:Tv)(n:Nat)(xs:List Tv)(N:a.eval s=v)(b:w.ownsRow base e size v n xs)(u:Tv)(m Bu:Nat)(p:List Tv)(R:a.eval x=u)(q:w.ownsRow Bu e size u m p)(U:∀y∈p,y.oneCell'=true)(D:n+m<=maxLen)(c:(n+m)*bytes<=140737488355328)(d:base<=w.heap.size)(h:∀v' l,l.ownsRow base e size v' (n+m) (xs++p)->w.grownBy l v.ownBlock->wpList P k Q rest (a.put o.dst v') l):wpList P k Q (o :: rest) a w:=by
 rcases q.2 with⟨rfl,rfl⟩|⟨g,r,T,rfl,_,_⟩
 ·have X:p=[]:=Yz (by have:=q.1;omega)
  subst X;refine wpList_append_own_none j s x t M base e i size O L v n xs N b R (h v w (by simpa using b) ⟨rfl,rfl,rfl,Y9 _,λ_ _ _=>rfl⟩)
 exact wpList_append_own w j s x t M base e i z size bytes O L Y f G J I v n xs N b ⟨g,0,none⟩ m r p R q.1 (q.cells rfl) U D c d (λv' l V W _=>h v' l V W)
def aD(x:V):List Value:=[Zi x.1,Zi x.2.1,.string x.2.2]
def A1(l:List V):List Value:=l.flatMap aD
theorem K3:∀l,(A1 l).length=l.length*3
 | []=>rfl
 | x :: l=>by have:=K3 l;simp[A1,aD] at this ⊢;omega
theorem Jk(l m:List V):A1 (l++m)=A1 l++A1 m:=by simp[A1]
theorem Hr:∀{l:List V}{j:Nat}{x:V},l[j]? = some x->(A1 l)[j*3]? = some (Zi x.1)/\(A1 l)[j*3+1]? = some (Zi x.2.1)/\(A1 l)[j*3+2]? = some (Zt x.2.2)
 | [],_,_,h=>by simp at h
 | y :: l,0,x,h=>by simp at h;subst h;simp[A1,aD]
 | y :: l,j+1,x,h=>by
   have d:l[j]? = some x:=by simpa using h
   obtain⟨a,b,c⟩:=Hr d;have e:A1 (y :: l)=aD y++A1 l:=rfl;have f:(aD y).length=3:=rfl;rw[e,show (j+1)*3=(aD y).length+j*3 by omega,show (aD y).length+j*3+1=(aD y).length+(j*3+1) by omega,show (aD y).length+j*3+2=(aD y).length+(j*3+2) by omega];simp only[List.getElem?_append_right (Nat.le_add_right _ _),Nat.add_sub_cancel_left];exact⟨a,b,c⟩
theorem Hf(l:List V):∀y∈A1 l,y.oneCell'=true:=by
 intro y b;simp only[A1,List.mem_flatMap,aD] at b;obtain⟨x,_,a⟩:=b;simp at a
 rcases a with rfl|rfl|rfl <;> rfl
theorem byteCells_one(l:List UInt8):∀y∈Lib.byteCells l,y.oneCell'=true:=by intro y a;simp only[Lib.byteCells,List.mem_map] at a;obtain⟨x,_,rfl⟩:=a;rfl
theorem addr_add(g j:Nat):(⟨g,0,none⟩:Addr).add j=⟨g,j,none⟩:=by unfold Addr.add;split <;> simp_all
theorem Cy{B:Nat}(h:w.ownsRow B 56 3 v l.length (A1 l)):Sl w v l:=by
 rcases h.2 with⟨rfl,k⟩|⟨g,f,m,rfl,o,n,d,_,_⟩
 ·exact⟨none,0,by rw[k],by omega,λi=>absurd (Yz k) i⟩
 refine⟨_,f,rfl,d,λ_=>⟨g,0,rfl,Ac n,λj x hj=>?_⟩⟩;obtain⟨a,b,c⟩:=Hr hj;have e:=h.cells (g:=g) rfl;simp only[addr_add] at e;rw[XW];exact⟨e _ _ a,e _ _ b,e _ _ c⟩
theorem C2{n k i n1 j m d n2:Nat}(f:w.ownsRow n k i v n1 X)(o:w.ownsRow j m d u n2 Y)(p:k≠m)(q:w.grownBy W u.ownBlock):W.ownsRow n k i v n1 X:=by
 refine f.kept q ?_
 rcases f.2 with⟨rfl,_⟩|⟨g,h,l,rfl,_,r,_⟩
 ·exact .inl rfl
 rcases o.2 with⟨rfl,_⟩|⟨s,b,c,rfl,_,a,_⟩
 ·exact .inr (by simp[Value.ownBlock])
 refine .inr (λe=>?_);simp[Value.ownBlock] at e;subst e;rw[r] at a;injection a with a;injection a with _ a;exact p a
theorem eO{B n k i n1:Nat}(c:w.ownsRow n k i v n1 X)(j:Wr B w W)(f:k≠5):W.ownsRow n k i v n1 X:=by
 refine⟨c.1,?_⟩
 rcases c.2 with d|⟨g,a,b,rfl,e,h,rest⟩
 ·exact .inl d
 exact .inr ⟨g,a,b,rfl,e,Hw j h f,rest⟩
theorem N4{H n i j n1 m d n2:Nat}(b:w.ownsRow n i j v n1 X)(a:∀k,v.ownBlock=some k->k<H)(c:w.ownsRow H m d u n2 Y)(f:w.grownBy W u.ownBlock):W.ownsRow n i j v n1 X:=by
 refine b.kept f ?_;cases hv:v.ownBlock with
 | none=>exact .inl rfl
 | some k=>exact .inr λe=>by have g:=(c.lt k e.symm).1;have h:=a k hv;omega
theorem gD(x:V):∀l:List V,B7 (λy=>decide (x=y)) l=place x l
 | []=>rfl
 | y :: l=>by
   unfold B7 place
   by_cases h:x=y
   ·simp[h]
   have a:¬y=x:=λe=>h e.symm
   simp[h,a,gD x l]
theorem Sg(x:V):∀l:List V,place x l<=l.length
 | []=>Y9 _
 | y :: l=>by unfold place;split <;> simp;exact Sg x l
def S8(l:List V)(k:Nat):List V×List UInt8:=(l.take k).foldl Ff ([],[])
theorem rE(h:l[k]? = some x):S8 l (k+1)=Ff (S8 l k) x:=by unfold S8;rw[Br h,List.foldl_append];rfl
theorem bO(h:place x s.1<s.1.length):Ff s x=(s.1,s.2++Lib.uvarint (place x s.1)):=by unfold Ff;rw[if_pos h]
theorem aC(h:¬place x s.1<s.1.length):Ff s x=(s.1++[x],s.2++Lib.uvarint s.1.length):=by unfold Ff;rw[if_neg h,show place x s.1=s.1.length by have:=Sg x s.1;omega]
theorem Qg{l:List V}(h:Vd l):∀k,k<=l.length->(S8 l k).1.length<=k/\(∀x∈(S8 l k).1,x∈l)/\(S8 l k).2.length<=k*10
 | 0,_=>by simp[S8]
 | k+1,hk=>by
   obtain⟨x,c⟩:=Hk (l:=l) (k:=k) (by omega);obtain⟨e,b,f⟩:=Qg h k (by omega);have d:=h.1;have g:=Sg x (S8 l k).1;have i:=Lib.uvarint_length64 (x:=place x (S8 l k).1) (by omega);rw[rE c];unfold Ff;refine⟨?_,?_,?_⟩
   ·split <;> simp <;> omega
   ·intro y a
    split at a
    ·exact b y a
    simp at a
    rcases a with a|rfl
    ·exact b y a
    exact XJ c
   simp;omega
theorem ABX(h:Vd l)(b:k<=l.length):Vd (S8 l k).1:=by obtain⟨d,a,_⟩:=Qg h k b;exact⟨by have:=h.1;omega,λx c=>h.2 x (a x c)⟩
theorem Bj{B e z n:Nat}{xs:List Tv}{a:Tw}(c:Below B a w)(g:w.ownsRow B e z v n xs)(d:w.grownBy W v.ownBlock)(b:B<=w.heap.size):Below B a W :=
 c.grown d b (λk f=>(g.lt k f).1)
theorem q9(v:Tv)(l:List V)(w:Tw)(hs:Sl w v l)(hf:Vd l):
 Zc 315 #[v] w λe w'=>∃v',e=Zr v'/\w'.ownsRow w.heap.size 5 1 v' (Pd l).length (Lib.byteCells (Pd l))/\Zb w w':=by
 obtain⟨aw,M,T,r,t⟩:=info_parts Ip;have n:=Zy M T r t;obtain⟨i5,ae,ah,P,R⟩:=info_parts bX;have m:=Zy ae ah P R;clear M T r t ae ah P R;obtain⟨a,c,rfl,_,hl⟩:=hs;have HL:=Ab hl;have HF:=Ab hf;have ay:=hf.1;clear hl hf;go_enter func315,ntmps315;go_wp2
 go_loopw [3,4,11] (λvd vw vi wr=>∃k:Nat,k<=l.length/\vi=Zi k/\Hid (wr.ownsRow w.heap.size 56 3 vd (S8 l k).1.length (A1 (S8 l k).1))/\Hid (wr.ownsRow w.heap.size 5 1 vw (S8 l k).2.length (Lib.byteCells (S8 l k).2))/\Hid (Zb w wr)) (λ_ _ vi _=>l.length-(intOf vi).toNat)
 case atStart=>exact⟨0,XG _,rfl,XD _ _ _ _,XD _ _ _ _,XC _ _⟩
 case round=>
  obtain⟨k,hk,rfl,L,hv,O⟩:=hrel
  by_cases hlt:k<l.length
  ·obtain⟨b,off,rfl,hb,hc⟩:=HL.o (by intro e;rw[e] at hlt;simp at hlt)
   obtain⟨⟨g,h,i⟩,hx⟩:=Hk hlt;obtain⟨g0,g1,g2⟩:=hc k _ hx;have c0:wr.cell? ⟨b,off+k*3,none⟩=some (Zi g):=(O.o.cell (p:=⟨b,off+k*3,none⟩) hb).trans g0;have c1:wr.cell? ⟨b,off+k*3+1,none⟩=some (Zi h):=(O.o.cell (p:=⟨b,off+k*3+1,none⟩) hb).trans g1;have c2:wr.cell? ⟨b,off+k*3+2,none⟩=some (Zt i):=(O.o.cell (p:=⟨b,off+k*3+2,none⟩) hb).trans g2;have q:=O.o.size;have HN:=Ab (rE hx);have HW:=Ab (Qg HF.o k hk);have HP:=Ab (Sg (g,h,i) (S8 l k).1);generalize S8 l k=st at *;obtain⟨d,z⟩:=st;obtain⟨ad,cd,rfl,_,_⟩:=Cy L.o;have HI:=Ab (ADg _ d g h i (wr.alloc (Zk #[Zi g,Zi h,Zt i] 56)) (Cy (L.o.alloc _)) (by have:=HW.o.1;simp at this;omega));have ai:Hid ((wr.alloc (Zk #[Zi g,Zi h,Zt i] 56)).heap[wr.heap.size]? = some (Zk #[Zi g,Zi h,Zt i] 56)):=heap_alloc_new _ _
   have N:Kk (λy=>decide (((g,h,i):V)=y)) d=if place (g,h,i) d<d.length then ((place (g,h,i) d:Nat):Int) else -1:=by unfold Kk;rw[gD]
   rw[N] at HI;clear N g0 g1 g2 hc;have an:d.length<=60:=by have:=HW.o.1;simp at this;omega
   have av:z.length<=600:=by have:=HW.o.2.2;simp at this;omega
   by_cases hA:place (g,h,i) d<d.length
   ·rw[if_pos hA] at HI
    have HE:=Ab (bO (s:=(d,z)) (x:=(g,h,i)) hA);generalize place (g,h,i) d=p at *;go_wp2_with fail;refine HI.o.mono ?_;rintro e I⟨rfl,f⟩;have o:=f.size;have U:w.heap.size<=I.heap.size:=by simp at o;omega
    go_wp2_with fail;refine(Dq w.heap.size _ p (by omega) _ _ I (Ad (hv.o.alloc _) f) U (by show z.length+10<=_;omega)).mono ?_;rintro e w3⟨v3,rfl,Y,G⟩;go_wp2;have e1:S8 l (k+1)=(d,z++Lib.uvarint p):=by rw[HN.o,HE.o]
    refine⟨⟨k+1,by omega,by go_num,?_,?_,Ab (((O.o.alloc q _).trans (f.mono (by simp;omega))).trans G.1)⟩,by simp[intOf];omega⟩
    ·rw[e1];exact eO (Ad (L.o.alloc _) f) G (by decide)
    rw[e1,Y',Bg];exact Y
   rw[if_neg hA] at HI;have HE:=Ab (aC (s:=(d,z)) (x:=(g,h,i)) hA);go_wp2_with fail;refine HI.o.mono ?_;rintro e I⟨rfl,f⟩;have o:=f.size;have U:w.heap.size<=I.heap.size:=by simp at o;omega
   have al:=Wf ai.o f;obtain⟨q0,q1,q2⟩:=Ei al;go_wp2_with (at_builtin;refine wpList_append_own _ rfl _ _ 51 rfl w.heap.size 56 aw (.agg #[Zi 0,Zi 0,.string ⟨#[]⟩]) 3 32 underlying51 n.o.1 n.o.2.1 n.o.2.2.1 n.o.2.2.2 rfl (by decide) _ _ _ rfl ((Ad (L.o.alloc _) f).alloc _) ⟨I.heap.size,0,none⟩ 1 1 [Zi g,Zi h,.string i] rfl rfl ?c1 ?c2 ?c3 ?c4 ?c5 ?_)
   case c1=>exact λj u hj=>World.news_of_block (heap_alloc_new _ _) j u hj
   case c2=>exact Hf [(g,h,i)]
   case c3=>show d.length+1<=maxLen;unfold maxLen;omega
   case c4=>show (d.length+1)*32<=_;omega
   case c5=>simp;omega
   intro v3 w3 am W _;have ar:=C2 ((Ad (hv.o.alloc _) f).alloc (Zk #[Zi g,Zi h,Zt i] 56)) ((Ad (L.o.alloc _) f).alloc (Zk #[Zi g,Zi h,Zt i] 56)) (by decide) W;have af:=W.size;have ak:w.heap.size<=w3.heap.size:=by simp at af;omega
   have ac:Zb w w3:=Bj ((((O.o.alloc q _).trans (f.mono (by simp;omega)))).alloc U _) ((Ad (L.o.alloc _) f).alloc _) W (by simp;omega);go_wp2_with fail;refine(Dq w.heap.size _ d.length (by omega) _ _ w3 ar ak (by show z.length+10<=_;omega)).mono ?_;rintro e w4⟨v4,rfl,aa,ag⟩;go_wp2;have e1:S8 l (k+1)=(d++[(g,h,i)],z++Lib.uvarint d.length):=by rw[HN.o,HE.o]
   refine⟨⟨k+1,by omega,by go_num,?_,?_,Ab (ac.trans ag.1)⟩,by simp[intOf];omega⟩
   ·rw[e1,Jk,Y'];exact eO am ag (by decide)
   rw[e1,Y',Bg];exact aa
  have ek:S8 l k=(l.foldl Ff ([],[])):=by unfold S8;rw[Yd (by omega)]
  have aj:Hid (Pd l=Lib.uvarint (S8 l k).1.length++Fx (S8 l k).1++(S8 l k).2):=by rw[ek];exact rfl
  have HW:=Ab (Qg HF.o k hk);have ab:=Ab (ABX HF.o hk);clear ek;generalize S8 l k=st at *;obtain⟨d,z⟩:=st;obtain⟨ad,cd,rfl,_,_⟩:=Cy L.o;have an:d.length<=60:=by have:=HW.o.1;simp at this;omega
  have av:z.length<=600:=by have:=HW.o.2.2;simp at this;omega
  have q:=O.o.size;have az:(Fx d).length<=3000:=by have:=N0 ab.o.2;simp at this;omega
  have a1:(Lib.uvarint d.length).length<=10:=Lib.uvarint_length64 (by omega);go_wp2_with fail;refine(Dq wr.heap.size 0 d.length (by omega) _ [] wr (XD _ _ _ _) (Y9 _) (by omega)).mono ?_;rintro e I⟨v2,rfl,ap,au⟩;have f:Zb wr I:=au.1;have o:=f.size;go_wp2_with fail;refine(Xm _ d I (Cy (Ad L.o f)) ab.o).mono ?_;rintro e w3⟨v3,rfl,Y,G⟩;have D:Zb I w3:=G.1;have af:=D.size;have HA:=Ab (Ad ap D);have HB:=Ab Y;have HC:=Ab (Ad (Ad hv.o f) D);go_wp2_with (at_builtin;refine Ck rfl _ _ 81 rfl wr.heap.size 5 i5 (.int .u8 0) 1 1 underlying81 m.o.1 m.o.2.1 m.o.2.2.1 m.o.2.2.2 rfl (by decide) _ _ _ rfl HA.o _ _ _ _ rfl HB.o (byteCells_one _) ?f3 ?f4 ?f5 ?_)
  case f3=>unfold maxLen;omega
  case f4=>omega
  case f5=>omega
  intro v4 w4 aa X;have a0:=X.size;have HD:=Ab aa;have HE:=Ab (N4 HC.o (λj hj=>(hv.o.lt j hj).2) HA.o X);have J:Zb wr w4:=Bj (f.trans (D.mono o)) HA.o X (by omega);have ax:=J.size;go_wp2_with (at_builtin;refine Ck rfl _ _ 81 rfl wr.heap.size 5 i5 (.int .u8 0) 1 1 underlying81 m.o.1 m.o.2.1 m.o.2.2.1 m.o.2.2.2 rfl (by decide) _ _ _ rfl HD.o _ _ _ _ rfl HE.o (byteCells_one _) ?f6 ?f7 ?f8 ?_)
  case f6=>show _+z.length<=_;unfold maxLen;omega
  case f7=>show (_+z.length)*1<=_;omega
  case f8=>omega
  intro v5 w5 aq ao;go_wp2;go_ret;refine⟨v5,rfl,?_,O.o.trans ((Bj J HD.o ao (by omega)).mono q)⟩;rw[aj.o];rw[Y',Y',Bg,Bg,XM];exact Ai aq q
theorem AAD(h:Vd l):(Pd l).length<=3610:=by
 have e:S8 l l.length=l.foldl Ff ([],[]):=by unfold S8;rw[Yd (Y9 _)]
 obtain⟨b,c,d⟩:=Qg h l.length (Y9 _);have f:=N0 (ABX h (Y9 l.length)).2;have a:=h.1;have g:=Lib.uvarint_length64 (x:=(S8 l l.length).1.length) (by omega);unfold Pd;rw[<-e];simp only[Y'];omega
theorem eM(h:Vd l)(k:Nat):(I0 k l).length<=4000:=by
 have b:=h.1;unfold I0;split
 ·have:=jM l h.2 (by omega) l.length;omega
 split
 ·have:=AAD h;omega
 split
 ·have:=bQ (a:=0) (l:=l);omega
 have:=N0 h.2;omega
theorem ACS(k:Nat)(v:Tv)(l:List V)(w:Tw)(h:Sl w v l)(g:Vd l)(o:k<=3):
 Zc 289 #[Zi k,v] w λe m=>∃v',e=Zr v'/\m.ownsRow w.heap.size 5 1 v' (I0 k l).length (Lib.byteCells (I0 k l))/\Zb w m:=by
 have H1:=Ab (AAA v l w h g);have H2:=Ab (q9 v l w h g);have H3:=Ab (rD v l w h g);have n:=Ab (Xm v l w h g);obtain⟨a,c,rfl,_,_⟩:=h;clear g;have i:k=0\/k=1\/k=2\/k=3:=by omega
 rcases i with rfl|rfl|rfl|rfl
 ·go_enter func289,ntmps289
  go_wp2_with (go_at_call 317;refine n.o.mono ?_;rintro e j⟨f,rfl,b,d⟩);go_ret;exact⟨f,rfl,b,d.1⟩
 ·go_enter func289,ntmps289
  go_wp2_with (go_at_call 314;refine H1.o.mono ?_;rintro e j⟨f,rfl,b,d⟩);go_ret;exact⟨f,rfl,b,d.1⟩
 ·go_enter func289,ntmps289
  go_wp2_with (go_at_call 315;refine H2.o.mono ?_;rintro e j⟨f,rfl,b,d⟩);go_ret;exact⟨f,rfl,b,d⟩
 go_enter func289,ntmps289;go_wp2_with (go_at_call 316;refine H3.o.mono ?_;rintro e j⟨f,rfl,b,d⟩);go_ret;exact⟨f,rfl,b,d.1⟩
theorem M5(kind:Int)(l:List V)(k:Nat)(a:1<=k):Hp kind l (k+1)=if k=3/\kind≠1 then Hp kind l k else better (Hp kind l k) (k.toUInt8 :: I0 k l):=by obtain⟨j,rfl⟩:∃j,k=j+1:=⟨k-1,by omega⟩;rfl
theorem Wd{kind:Int}{l:List V}(h:Vd l):∀k,(Hp kind l k).length<=4001
 | 0=>by simp[Hp]
 | 1=>by have:=eM h 0;simp[Hp];omega
 | k+2=>by
   have a:=Wd (kind:=kind) h (k+1);have b:=eM h (k+1);rw[M5 kind l (k+1) (by omega)];split
   ·exact a
   unfold better;split <;> simp <;> omega
theorem l5(k:Nat)(a:k<256)(l:List UInt8):Value.int .u8 (k:Int) :: Lib.byteCells l=Lib.byteCells (k.toUInt8 :: l):=by simp[Lib.byteCells,Lib.toUInt8_toNat a]
def oP(kind:Int)(l:List V)(w wr:World)(k:Nat)(vb:Value):Prop :=
 (k=0/\vb=.slice none 0 0)\/(0<k/\wr.ownsRow w.heap.size 5 1 vb (Hp kind l k).length (Lib.byteCells (Hp kind l k))/\0<(Hp kind l k).length)
theorem AKQ:∀(w:Tw)(a:To)(n c n' b:Nat),(binOp .eql 81 (.slice a n c) (.slice none n' b)).run prog w=.ok (.bool a.isNone) w:=λw a n c n' b=>Lib.run_eql_slice_nil w _ _ a n c n' b underlying81
theorem yK(kind:Int)(v:Tv)(l:List V)(w:Tw)(hs:Sl w v l)(hf:Vd l)(ae:kind=1\/kind=2):
 Zc 247 #[Zi kind,v] w λe w'=>∃v',e=Zr v'/\w'.ownsRow w.heap.size 5 1 v' (AEn kind l).length (Lib.byteCells (AEn kind l))/\Zb w w':=by
 have HS:=Ab hs;have HF:=Ab hf;obtain⟨i5,ad,af,I,J⟩:=info_parts bX;have i:=Zy ad af I J;clear ad af I J;obtain⟨a,c,rfl,_,_⟩:=hs;clear hf;have al:=AKQ;go_enter func247,ntmps247;go_wp2
 go_loopw [5,8] (λvb vi wr=>∃k:Nat,k<=4/\vi=Zi k/\Hid (oP kind l w wr k vb)/\Hid (Zb w wr)) (λ_ vi _=>4-(intOf vi).toNat)
 case atStart=>exact⟨0,XG _,rfl,Ab (.inl ⟨rfl,rfl⟩),XC _ _⟩
 case round=>
  obtain⟨k,hk,rfl,hB,X⟩:=hrel;have r:=X.o.size
  by_cases hlt:k<4
  ·by_cases hskip:k=3/\kind≠1
   ·obtain⟨rfl,ai⟩:=hskip
    obtain rfl:kind=2:=by omega
    have HN:Hid (oP 2 l w wr 4 _):=Ab (by
     rcases hB.o with⟨h,_⟩|⟨_,W,N⟩
     ·omega
     refine .inr ⟨by omega,?_⟩;rw[M5 2 l 3 (by omega),if_pos ⟨rfl,ai⟩];exact⟨W,N⟩)
    go_wp2;exact⟨⟨4,by omega,rfl,HN,X⟩,by simp[intOf]⟩
   have HC:=Ab (ACS k (Zs a l.length c) l (wr.alloc (Zk #[.int .u8 (k:Int)] 5)) (HS.o.up (X.o.alloc r _)) HF.o (by omega));have ab:Hid (1<=k->Hp kind l (k+1)=better (Hp kind l k) (k.toUInt8 :: I0 k l)):=λh=>by rw[M5 kind l k h,if_neg hskip]
   have s:=Ab (eM HF.o k);have aa:=Ab (Wd (kind:=kind) HF.o k);have ac:Hid ((wr.alloc (Zk #[.int .u8 (k:Int)] 5)).ownsRow wr.heap.size 5 1 (Zs (some ⟨wr.heap.size,0,none⟩) 1 1) 1 [.int .u8 (k:Int)]):=Ab (World.ownsRow_lit wr #[.int .u8 (k:Int)] 1 (Y9 _) (by unfold maxLen;omega) rfl);have aj:(k:Int)<256:=by omega
   have T:(k=3->kind=1):=λh=>Classical.byContradiction λW=>hskip ⟨h,W⟩
   clear hskip
   by_cases N:k=3
   ·have b3:((k:Int)==3)=true:=by simp;omega
    have bk:(kind==1)=true:=by simp[T N]
    clear N T ae;go_wp2_with fail;refine HC.o.mono ?_;rintro e w2⟨v2,rfl,R,o⟩;have U:=o.size;have O:wr.heap.size<=w2.heap.size:=by simp at U;omega
    have z:Zb wr w2:=(Zal).trans (o.mono (by simp));have Y:=Ab (Ad ac.o o);have HB:=Ab R;go_wp2_with (at_builtin;refine Ck rfl _ _ 81 rfl wr.heap.size 5 i5 (.int .u8 0) 1 1 underlying81 i.o.1 i.o.2.1 i.o.2.2.1 i.o.2.2.2 rfl (by decide) _ _ _ rfl Y.o _ _ _ _ rfl HB.o (byteCells_one _) ?fA1 ?fA2 ?fA3 ?_)
    case fA1=>have:=s.o;unfold maxLen;omega
    case fA2=>have:=s.o;omega
    case fA3=>omega
    intro v3 t G D;have j:Zb wr t:=Bj z Y.o D O;have n:Hid (t.ownsRow wr.heap.size 5 1 v3 (k.toUInt8 :: I0 k l).length (Lib.byteCells (k.toUInt8 :: I0 k l))):=Ab (by rw[<-l5 k (by omega),XB,XP];exact G);have m:Hid (Zb w t):=Ab (X.o.trans (j.mono r));obtain⟨g,x,rfl,_,_⟩:=n.o.form (by simp);clear G D;have ak:(k.toUInt8 :: I0 k l).length<=4001:=by have:=s.o;rw[XB];omega
    generalize d:(k.toUInt8 :: I0 k l)=u at *
    rcases hB.o with⟨rfl,rfl⟩|⟨P,q,p⟩
    ·have b:Hid (oP kind l w t 1 (Zs (some ⟨g,0,none⟩) u.length x)):=Ab (.inr ⟨by omega,by rw[show Hp kind l 1=u from d];exact Ai n.o r,by rw[show Hp kind l 1=u from d,<-d];simp⟩)
     go_wp2;exact⟨⟨1,by omega,rfl,b,m⟩,by simp[intOf]⟩
    obtain⟨gb,y,rfl,_,ah⟩:=q.form p;have M:=Ab (Ad q j);have ag:=aa.o;have L:=Ab p;have f:=ab.o P;generalize Hp kind l k=fo at *;clear q p
    by_cases hcmp:u.length<fo.length
    ·have b:Hid (oP kind l w t (k+1) (Zs (some ⟨g,0,none⟩) u.length x)):=Ab (.inr ⟨by omega,by rw[f,better,if_pos hcmp];exact⟨Ai n.o r,by rw[<-d];simp⟩⟩)
     clear f d;go_wp2;exact⟨⟨k+1,by omega,by go_num,b,m⟩,by simp[intOf];omega⟩
    have b:Hid (oP kind l w t (k+1) (Zs (some ⟨gb,0,none⟩) fo.length y)):=Ab (.inr ⟨by omega,by rw[f,better,if_neg hcmp];exact⟨M.o,L.o⟩⟩);clear f d;go_wp2;exact⟨⟨k+1,by omega,by go_num,b,m⟩,by simp[intOf];omega⟩
   have b3:((k:Int)==3)=false:=by simp;omega
   clear N T ae;go_wp2_with fail;refine HC.o.mono ?_;rintro e w2⟨v2,rfl,R,o⟩;have U:=o.size;have O:wr.heap.size<=w2.heap.size:=by simp at U;omega
   have z:Zb wr w2:=(Zal).trans (o.mono (by simp));have Y:=Ab (Ad ac.o o);have HB:=Ab R;go_wp2_with (at_builtin;refine Ck rfl _ _ 81 rfl wr.heap.size 5 i5 (.int .u8 0) 1 1 underlying81 i.o.1 i.o.2.1 i.o.2.2.1 i.o.2.2.2 rfl (by decide) _ _ _ rfl Y.o _ _ _ _ rfl HB.o (byteCells_one _) ?fB1 ?fB2 ?fB3 ?_)
   case fB1=>have:=s.o;unfold maxLen;omega
   case fB2=>have:=s.o;omega
   case fB3=>omega
   intro v3 t G D;have j:Zb wr t:=Bj z Y.o D O;have n:Hid (t.ownsRow wr.heap.size 5 1 v3 (k.toUInt8 :: I0 k l).length (Lib.byteCells (k.toUInt8 :: I0 k l))):=Ab (by rw[<-l5 k (by omega),XB,XP];exact G);have m:Hid (Zb w t):=Ab (X.o.trans (j.mono r));obtain⟨g,x,rfl,_,_⟩:=n.o.form (by simp);clear G D;have ak:(k.toUInt8 :: I0 k l).length<=4001:=by have:=s.o;rw[XB];omega
   generalize d:(k.toUInt8 :: I0 k l)=u at *
   rcases hB.o with⟨rfl,rfl⟩|⟨P,q,p⟩
   ·have b:Hid (oP kind l w t 1 (Zs (some ⟨g,0,none⟩) u.length x)):=Ab (.inr ⟨by omega,by rw[show Hp kind l 1=u from d];exact Ai n.o r,by rw[show Hp kind l 1=u from d,<-d];simp⟩)
    go_wp2;exact⟨⟨1,by omega,rfl,b,m⟩,by simp[intOf]⟩
   obtain⟨gb,y,rfl,_,ah⟩:=q.form p;have M:=Ab (Ad q j);have ag:=aa.o;have L:=Ab p;have f:=ab.o P;generalize Hp kind l k=fo at *;clear q p
   by_cases hcmp:u.length<fo.length
   ·have b:Hid (oP kind l w t (k+1) (Zs (some ⟨g,0,none⟩) u.length x)):=Ab (.inr ⟨by omega,by rw[f,better,if_pos hcmp];exact⟨Ai n.o r,by rw[<-d];simp⟩⟩)
    clear f d;go_wp2;exact⟨⟨k+1,by omega,by go_num,b,m⟩,by simp[intOf];omega⟩
   have b:Hid (oP kind l w t (k+1) (Zs (some ⟨gb,0,none⟩) fo.length y)):=Ab (.inr ⟨by omega,by rw[f,better,if_neg hcmp];exact⟨M.o,L.o⟩⟩);clear f d;go_wp2;exact⟨⟨k+1,by omega,by go_num,b,m⟩,by simp[intOf];omega⟩
  obtain rfl:k=4:=by omega
  have HE:Hid (oP kind l w wr 4 _ ):=hB
  rcases hB.o with⟨h,_⟩|⟨_,W,N⟩
  ·omega
  have HO:=Ab W;clear W N;go_wp2;go_ret;exact⟨_,rfl,HO.o,X.o⟩
variable{k n:Int}
def Cu(r:Nat):Bool:=decide (r<32) || (decide (126<r) || ((r:Int)==39))
theorem Rv(w:Tw):PredAt prog 88 #[] encR Cu w:=λW r _=>by
 unfold FnGives
 by_cases h1:r<32 <;> by_cases h2:126<r
 all_goals
  have a:(r:Int)<32↔r<32:=by omega
  have b:(126:Int)<(r:Int)↔126<r:=by omega
  go_enter func88,ntmps88;go_wp2
  all_goals first|(exfalso;omega)|(go_ret;exact⟨Af (by simp[Cu,h1,h2]),0,rfl⟩)
def Vb(t:ByteArray):Bool:=decide (t.size<=40) && !(decide (0<=Lib.idxFunc Cu true t))
theorem rt0{t:Tb}(h:¬t.size<=40):false=Vb t:=by simp[Vb,h]
theorem rt1{t:Tb}(h:t.size<=40):(!(decide (0<=Lib.idxFunc Cu true t)))=Vb t:=by simp[Vb,h]
theorem Mj(t:Tb)(w:Tw)(g:t.size<=maxLen):
 Zc 48 #[Zt t] w λe f=>e=Zr (Zo (Vb t))/\Zb w f:=by
 have c:Hid (∀W,Zc 87 #[Zt t,.func (.func 88) #[] #[]] W λe f=>e=Zr (Zo (decide (0<=Lib.idxFunc Cu true t)))/\Zb W f):=λW=>strings_ContainsFunc 88 #[] (enters_of func88 (by kernel_rfl) rfl) Cu t W (Rv W)
 unfold maxLen at g
 by_cases h:t.size<=40
 ·have a:Hid ((!(decide (0<=Lib.idxFunc Cu true t)))=Vb t):=rt1 h
  generalize decide (0<=Lib.idxFunc Cu true t)=b at c a;go_enter func48,ntmps48
  go_wp2_with (first
   | (go_at_call 87;refine(c.o _).mono ?_;rintro e i⟨rfl,d⟩))
  go_ret;exact⟨Af a.o,d⟩
 have a:Hid (false=Vb t):=rt0 h;clear c;go_enter func48,ntmps48;go_wp2;go_ret;exact⟨Af a.o,XC _ _⟩
def A9(k n:Int)(t:ByteArray):Bool:=if k=0 then n==0 && t.toList.isEmpty else if k=1 then t.toList.isEmpty else if k=2 then n==0 && Vb t else false
theorem rv0{t:Tb}(a:(n==0)=true)(h:(k==0)=true):t.toList.isEmpty=A9 k n t:=by simp at h a;subst h a;simp[A9]
theorem AI3{t:Tb}(a:(n==0)=false)(h:(k==0)=true):false=A9 k n t:=by simp at h;subst h;simp[A9,a]
theorem rv1{t:Tb}(h:(k==1)=true):t.toList.isEmpty=A9 k n t:=by simp at h;subst h;simp[A9]
theorem rv2{t:Tb}(a:(n==0)=true)(h:(k==2)=true):Vb t=A9 k n t:=by simp at h a;subst h a;simp[A9]
theorem AIp{t:Tb}(a:(n==0)=false)(h:(k==2)=true):false=A9 k n t:=by simp at h;subst h;simp[A9,a]
theorem rv3{t:Tb}(a:(k==0)=false)(b:(k==1)=false)(c:(k==2)=false):false=A9 k n t:=by simp at a b c;simp[A9,a,b,c]
theorem Ln(k n:Int)(t:Tb)(w:Tw)(f:t.size<=maxLen):
 Zc 27 #[Zg #[Zi k,Zi n,Zt t]] w λe c=>e=Zr (Zo (A9 k n t))/\Zb w c:=by
 have d:Hid (∀W,Zc 48 #[Zt t] W λe c=>e=Zr (Zo (Vb t))/\Zb W c):=λW=>Mj t W f
 unfold maxLen at f
 by_cases hn:n=0
 ·have a:(n==0)=true:=by simpa using hn
  clear hn;go_enter func27,ntmps27
  go_wp2_with (first
   | (go_at_call 48;refine(d.o _).mono ?_;rintro e g⟨rfl,b⟩))
  all_goals go_ret
  ·exact⟨Af (rv0 a ‹_›),Zal⟩
  ·exact⟨Af (rv1 ‹_›),Zal⟩
  ·exact⟨Af (rv2 a ‹_›),(Zal).trans (b.mono (by simp))⟩
  exact⟨Af (rv3 ‹_› ‹_› ‹_›),Zal⟩
 have a:(n==0)=false:=by simpa using hn
 clear hn;go_enter func27,ntmps27
 go_wp2_with (first
  | (go_at_call 48;refine(d.o _).mono ?_;rintro e g⟨rfl,b⟩))
 all_goals go_ret
 ·exact⟨Af (AI3 a ‹_›),Zal⟩
 ·exact⟨Af (rv1 ‹_›),Zal⟩
 ·exact⟨Af (AIp a ‹_›),Zal⟩
 exact⟨Af (rv3 ‹_› ‹_› ‹_›),Zal⟩
theorem Qu(k n:Int)(t:Tb)(w:Tw):
 Zc 292 #[Zg #[Zi k,Zi n,Zt t]] w λe a=>e=Zr (Zo (k==0))/\Zb w a:=by
 go_enter func292,ntmps292;go_wp2;go_ret;exact⟨rfl,Zal⟩
variable{W a w:Tw}{D l:List V}{i j m n:Nat}{x:V}{k:Int}{c:UInt8}{r:Option Nat}{T:TypeId}{X:List Tv}{s:St}
def Wa(kind:Int)(x:V):Bool:=!A9 x.1 x.2.1 x.2.2 || (!(x.1==0) && !(x.1==kind))
theorem jG(kind k n:Int)(t:Tb)(bx:Nat)(w:Tw)(o:bx<w.heap.size)(f:w.cell? ⟨bx,0,none⟩=some (Zi kind))(g:t.size<=maxLen):
 Zc 288 #[Zg #[Zi k,Zi n,Zt t],Zp (some ⟨bx,0,none⟩)] w λe l=>e=Zr (Zo (Wa kind (k,n,t)))/\Zb w l:=by
 have h:¬w.heap.size=bx:=by omega
 have c:=Ab (λW=>Ln k n t W g);have d:Hid (Wa kind (k,n,t)=(!A9 k n t || (!(k==0) && !(k==kind)))):=rfl;clear g;cases hr:A9 k n t with
 | false=>rw[hr] at d c;go_enter func288,ntmps288;go_wp2_with (go_at_call 27;refine(c.o _).mono ?_;rintro e b⟨rfl,a⟩);go_ret;exact⟨Af (by rw[d.o];rfl),(Zal).trans (a.mono (by simp))⟩
 | true=>
   rw[hr] at d c
   by_cases h0:k=0
   ·subst h0
    go_enter func288,ntmps288;go_wp2_with fail;refine(c.o _).mono ?_;rintro e b⟨rfl,a⟩;have i:b.cell? ⟨w.heap.size,0,none⟩=some (Zi 0):=(a.cell (p:=⟨w.heap.size,0,none⟩) (by simp)).trans (XE w _ 56 (0,0) 0);have j:b.cell? ⟨bx,0,none⟩=some (Zi kind):=(a.cell (p:=⟨bx,0,none⟩) (by simp;omega)).trans (Lib.cell?_alloc_some _ f);go_wp2
    all_goals
     go_ret;exact⟨Af (by rw[d.o];simp[*]),(Zal).trans (a.mono (by simp))⟩
   have m:(k==0)=false:=by simpa using h0
   go_enter func288,ntmps288;go_wp2_with fail;refine(c.o _).mono ?_;rintro e b⟨rfl,a⟩;have i:b.cell? ⟨w.heap.size,0,none⟩=some (Zi k):=(a.cell (p:=⟨w.heap.size,0,none⟩) (by simp)).trans (XE w _ 56 (0,0) 0);have j:b.cell? ⟨bx,0,none⟩=some (Zi kind):=(a.cell (p:=⟨bx,0,none⟩) (by simp;omega)).trans (Lib.cell?_alloc_some _ f);go_wp2
   all_goals
    go_ret;exact⟨Af (by rw[d.o];simp[*,bne]),(Zal).trans (a.mono (by simp))⟩
def Gk(kind:Int)(l:List V):Bool:=(kind==1 || kind==2) && !l.any (Wa kind)
theorem AJM(kind:Int)(v:Tv)(l:List V)(w W:Tw)(b:Nat)(k:Sl w v l)(j:l.length<=1000)(m:∀x∈l,x.2.2.size<=maxLen)(n:Zb w W)(d:W.heap[b]? = some (Zk #[Zi kind] 3)):
 Zc 287 #[v,.func (.func 288) #[] #[Zp (some ⟨b,0,none⟩)]] W λe g=>e=Zr (Zo (l.any (Wa kind)))/\Zb W g:=by
 refine Wp 288 #[Zp (some ⟨b,0,none⟩)] (Wa kind) (enters_of func288 (by kernel_rfl) rfl) v l W (k.up n) j ?_;intro f x o c;have a:=Wf d c;have h:f.cell? ⟨b,0,none⟩=some (Zi kind):=by simp[World.cell?,a]
 exact(jG kind x.1 x.2.1 x.2.2 b f (Ac a) h (m x o)).mono λe g⟨i,d⟩=>⟨i,c.trans (d.mono c.size)⟩
theorem Sn(kind:Int)(v:Tv)(l:List V)(w:Tw)(g:Sl w v l)(i:l.length<=1000)(h:∀x∈l,x.2.2.size<=maxLen):
 Zc 245 #[Zi kind,v] w λe j=>e=Zr (Zo (Gk kind l))/\Zb w j:=by
 have f:=Ab (AJM kind v l w (w.alloc (Zk #[Zi kind] 3)) w.heap.size g i h (Zal) (heap_alloc_new _ _));obtain⟨a,c,rfl,_,_⟩:=g;clear h
 by_cases h1:kind=1
 ·subst h1
  have b:Hid (Gk 1 l=!l.any (Wa 1)):=Ab (by simp[Gk]);generalize l.any (Wa 1)=q at f b;go_enter func245,ntmps245;go_wp2_with (go_at_call 287;refine f.o.mono ?_;rintro e k⟨rfl,d⟩);go_ret;exact⟨Af (by rw[b.o]),(Zal).trans (d.mono (by simp))⟩
 by_cases h2:kind=2
 ·subst h2
  have b:Hid (Gk 2 l=!l.any (Wa 2)):=Ab (by simp[Gk]);generalize l.any (Wa 2)=q at f b;go_enter func245,ntmps245;go_wp2_with (go_at_call 287;refine f.o.mono ?_;rintro e k⟨rfl,d⟩);go_ret;exact⟨Af (by rw[b.o]),(Zal).trans (d.mono (by simp))⟩
 have b:Hid (Gk kind l=false):=Ab (by simp[Gk,h1,h2]);have m:(kind != 1)=true:=by simpa using h1
 have n:(kind != 2)=true:=by simpa using h2
 clear f;go_enter func245,ntmps245;go_wp2;go_ret;exact⟨Af b.o.symm,Zal⟩
theorem AKJ:∀(w:Tw)(a:To)(n c n' b:Nat),(binOp .eql 51 (.slice a n c) (.slice none n' b)).run prog w=.ok (.bool a.isNone) w:=λw a n c n' b=>Lib.run_eql_slice_nil w _ _ a n c n' b underlying51
theorem yN{b off:Nat}(h:∀j x,l[j]? = some x->w.cell? ⟨b,off+j*3,none⟩=some (Zi x.1)/\w.cell? ⟨b,off+j*3+1,none⟩=some (Zi x.2.1)/\w.cell? ⟨b,off+j*3+2,none⟩=some (Zt x.2.2)):
 ∀j u,(A1 l)[j]? = some u->w.cell? ⟨b,off+j,none⟩=some u:=by
 intro j u a
 have o:j<l.length*3:=by
  rcases Yc j (l.length*3) with d|d
  ·exact d
  rw[Yb (by rw[K3];exact d)] at a;cases a
 obtain⟨x,f⟩:=Hk (l:=l) (k:=j / 3) (by omega);obtain⟨g,i,m⟩:=Hr f;obtain⟨c0,c1,n⟩:=h _ _ f;have c:j % 3=0\/j % 3=1\/j % 3=2:=by omega
 rcases c with c|c|c
 ·have e:j=j / 3*3:=by omega
  rw[e] at a ⊢;rw[g] at a;rw[c0];exact a
 ·have e:j=j / 3*3+1:=by omega
  rw[e] at a ⊢;rw[i] at a;rw[<-XK,c1];exact a
 have e:j=j / 3*3+2:=by omega
 rw[e] at a ⊢;rw[m] at a;rw[<-XK,n];exact a
theorem ADl(b off j:Nat):(⟨b,off,none⟩:Addr).add j=⟨b,off+j,none⟩:=by unfold Addr.add;split <;> simp_all
theorem P9(v:Tv)(l:List V)(w:Tw)(I:Sl w v l)(L:l.length<=1000):
 Zc 291 #[v] w λe z=>∃v',e=Zr v'/\z.ownsRow w.heap.size 56 3 v' l.length (A1 l)/\Zb w z:=by
 obtain⟨x,i,m,f,g⟩:=info_parts Ip;have d:=Zy i m f g;clear i m f g;obtain⟨a,c,rfl,_,q⟩:=I;have y:=AKJ;cases a with
 | none=>
   have t:l=[]:=Classical.byContradiction λh=>by obtain⟨b,off,e,_⟩:=q h;cases e
   subst t;clear q;go_enter func291,ntmps291;go_wp2;go_ret;exact⟨_,rfl,XD _ _ _ _,XC _ _⟩
 | some ad=>
   have n:Hid (∀j u,(A1 l)[j]? = some u->w.cell? (ad.add j)=some u):=Ab λj u r=>by
    by_cases hne:l=[]
    ·subst hne;simp[A1] at r
    obtain⟨b,off,e,J,s⟩:=q hne;cases e;rw[ADl];exact yN s j u r
   clear q;go_enter func291,ntmps291;go_wp2_with (at_builtin;refine wpList_append_own _ rfl _ _ 51 rfl w.heap.size 56 x (.agg #[Zi 0,Zi 0,.string ⟨#[]⟩]) 3 32 underlying51 d.o.1 d.o.2.1 d.o.2.2.1 d.o.2.2.2 rfl (by decide) _ _ _ rfl (YS w #[] 0 (Y9 _) (XG _) (by simp)) ad l.length c (A1 l) rfl (K3 l) ?c1 (Hf l) ?c3 ?c4 ?c5 ?_)
   case c1=>exact λj u r=>Lib.cell?_alloc_some _ (n.o j u r)
   case c3=>unfold maxLen;omega
   case c4=>omega
   case c5=>simp
   intro v' M p o G;go_wp2;go_ret;refine⟨v',rfl,by simpa using p,?_⟩;exact((XC _ w).alloc (Y9 _) _).grown o (by simp) (by intro k D;simp[Value.ownBlock] at D;omega)
theorem Q6{B e z n g i:Nat}:∀(d:List Tv)(o:Nat)(w:Tw)(xs:List Tv),w.ownsRow B e z (Zs (some ⟨g,0,none⟩) n i) n xs ->
 ∃a,(w.setCells g o d).ownsRow B e z (Zs (some ⟨g,0,none⟩) n i) n a/\(∀j,j<o->a[j]? = xs[j]?)/\w.grownBy (w.setCells g o d) (some g)
 | [],_,w,xs,h=>⟨xs,h,λ_ _=>rfl,rfl,rfl,rfl,Y9 _,λ_ _ _=>rfl⟩
 | u :: d,o,w,xs,h=>by
   obtain⟨m,b⟩:=h.stored o u;obtain⟨a,f,l,c⟩:=Q6 d (o+1) _ _ m;refine⟨a,f,λj p=>?_,c.os.trans b.os,c.tape.trans b.tape,c.output.trans b.output,XH b.size c.size,λk hk hne=>?_⟩
   ·rw[l j (by omega),Yp (by omega)]
   exact(c.block k (Ya hk b.size) hne).trans (b.block k hk hne)
theorem AIk(w:Tw):(zeroValue 56).run prog w=.ok (Zg #[Zi 0,Zi 0,Zt ⟨#[]⟩]) w:=by have:=zeroValue56 w;exact this
theorem AJg{B n g k:Nat}{xs:List Tv}(w:Tw)(h:w.ownsRow B 56 3 (Zs (some ⟨g,0,none⟩) n k) n xs)(i c:Nat)(y:i<n):
 ∃W,(∀o,(Builtin.clear_ #[51] o #[Zs (some ⟨g,i*3,none⟩) (n-i) c]).run prog w=.ok (Zu #[]) W)/\∃b,W.ownsRow B 56 3 (Zs (some ⟨g,0,none⟩) n k) n b/\(∀j,j<i*3->b[j]? = xs[j]?)/\w.grownBy W (some g):=by
 let vs:=(Builtin.zeroCells (#[Zi 0,Zi 0,Zt ⟨#[]⟩]:Array Tv) (n-i)).toList
 have t:vs.length=(n-i)*3:=by simp[vs,Builtin.zeroCells]
 have l:∀u∈vs,u.oneCell'=true:=by
  intro u f;simp only[vs,Builtin.zeroCells] at f;simp at f;obtain⟨j,s,e⟩:=f;have a:j % 3=0\/j % 3=1\/j % 3=2:=by omega
  rcases a with a|a|a <;> simp[a] at e <;> subst e <;> rfl
 have v:=h.1;have d:=run_storeCells_cells (P:=prog) g (i*3) vs 0 w (λj s=>by rw[XO,h.cellAt (i*3+j) (by omega),XA (by omega)];rfl) (λj _=>by rw[XO];exact h.frozenAt _) l;simp only[XO] at d;obtain⟨b,p,q,r⟩:=Q6 vs (i*3) w xs h;refine⟨w.setCells g (i*3) vs,λo=>?_,b,p,q,r⟩;obtain⟨m,a⟩:∃m,n-i=m+1:=⟨n-i-1,by omega⟩;have x:=AIk;rw[a];simp only[vs,a] at d;simp[Builtin.clear_,run_underlying underlying51,x,Value.cells,d,vs,a]
theorem ALA(l:List V)(w:Tw):Pr 292 #[] Qi l w:=λW x _ a=>
 (Qu x.1 x.2.1 x.2.2 W).mono λ_ _⟨c,b⟩=>⟨c,a.trans (b.mono a.size)⟩
theorem cQ(p:V->Bool):∀(l:List V),B7 p l<l.length->∃x,l[B7 p l]? = some x/\p x=true/\∀y∈l.take (B7 p l),p y=false
 | [],h=>by simp at h
 | x :: l,h=>by
   by_cases hx:p x=true
   ·exact⟨x,by simp[B7,hx],hx,by simp[B7,hx]⟩
   have e:B7 p (x :: l)=B7 p l+1:=by simp[B7,hx]
   rw[e] at h ⊢;obtain⟨y,b,c,d⟩:=cQ p l (by simpa using h);refine⟨y,by simpa using b,c,λz a=>?_⟩;simp at a
   rcases a with rfl|a
   ·simpa using hx
   exact d z a
theorem eA(p:V->Bool):∀(l:List V),¬B7 p l<l.length->∀y∈l,p y=false
 | [],_=>by simp
 | x :: l,h=>by
   by_cases hx:p x=true
   ·exact absurd (by simp[B7,hx]) h
   have e:B7 p (x :: l)=B7 p l+1:=by simp[B7,hx]
   rw[e] at h;intro y a;simp at a
   rcases a with rfl|a
   ·simpa using hx
   exact eA p l (by simpa using h) y a
theorem ACI(h:∀y∈l,Qi y=false):known l=l:=by unfold known;rw[XS];intro a b;simp[h a b]
def Del(l D:List V)(i j:Nat):Prop:=D.length=l.length/\i<j/\D.take i=known (l.take j)/\D.drop j=l.drop j
theorem Del.start(h:B7 Qi l<l.length):Del l l (B7 Qi l) (B7 Qi l+1):=by obtain⟨x,b,c,d⟩:=cQ Qi l h;refine⟨rfl,by omega,?_,rfl⟩;rw[Br b];unfold known;rw[List.filter_append];simp[c];rw[eq_comm,XS];intro a e;simp[d a e]
theorem Del.skip(h:Del l D i j)(e:l[j]? = some x)(d:Qi x=true):Del l D i (j+1):=by
 obtain⟨a,f,b,c⟩:=h;refine⟨a,by omega,?_,?_⟩
 ·rw[b,Br e];simp[known,d]
 have:=congrArg (List.drop 1) c;simpa[XY,XP] using this
theorem Del.keep(h:Del l D i j)(b:l[j]? = some x)(g:Qi x=false):Del l (D.set i x) (i+1) (j+1):=by
 obtain⟨c,k,d,e⟩:=h
 have m:j<l.length:=by
  rcases Yc j l.length with a|a
  ·exact a
  rw[Yb a] at b;cases b
 refine⟨by simpa using c,by omega,?_,?_⟩
 ·have f:(D.set i x)[i]? = some x:=by rw[Yi (by omega)]
  rw[Br f,List.take_set_of_le (Y9 _),d,Br b];simp[known,g]
 rw[List.drop_set_of_lt (by omega)];have:=congrArg (List.drop 1) e;simpa[XY,XP] using this
theorem Del.at(h:Del l D i j)(a:l[j]? = some x):D[j]? = some x:=by have:=congrArg (λm=>m[0]?) h.2.2.2;simpa[a] using this
theorem Del.stop(h:Del l D i j)(a:l.length<=j):D.take i=known l:=by rw[h.2.2.1,Yd a]
theorem Ku:∀(D:List V)(i:Nat)(x:V),A1 (D.set i x)=(((A1 D).set (i*3) (Zi x.1)).set (i*3+1) (Zi x.2.1)).set (i*3+2) (Zt x.2.2)
 | [],i,x=>by simp[A1]
 | y :: D,0,x=>by simp[A1,aD]
 | y :: D,i+1,x=>by
   have a:=Ku D i x;have e:∀m:List V,A1 (y :: m)=Zi y.1 :: Zi y.2.1 :: Zt y.2.2 :: A1 m:=λm=>rfl
   rw[XU,e,a,e,show (i+1)*3=i*3+1+1+1 by omega];simp only[XU,show i*3+1+1+1+1=(i*3+1)+1+1+1 by omega,show i*3+1+1+1+2=(i*3+2)+1+1+1 by omega]
theorem Lo(B:Nat)(v:Tv)(l:List V)(w:Tw)(f:w.ownsRow B 56 3 v l.length (A1 l))(hB:B<=w.heap.size)(hl:l.length<=1000):
 Zc 290 #[v,.func (.func 292) #[] #[]] w λe w'=>∃v',e=Zr v'/\Sl w' v' (known l)/\Below B w w':=by
 have O:=Ab (Md 292 #[] Qi (enters_of func292 (by kernel_rfl) rfl) v l w (Cy f) hl (ALA l w));have HO:=Ab f;have ak:∀args w,(callFunc 292 args).run prog w=.ok (.enter 292 args) w:=enters_of func292 (by kernel_rfl) rfl
 by_cases hf:B7 Qi l<l.length
 ·obtain⟨g,m,rfl,q,an⟩:=f.form (by omega)
  have HD:=Ab (Del.start hf);rw[show Kk Qi l=((B7 Qi l:Nat):Int) by unfold Kk;rw[if_pos hf]] at O
  have am:l.length<=m:=by
   rcases f.2 with⟨h,_⟩|⟨g',c',aj,h,_,_,h2,_⟩
   ·cases h
   injection h with _ _ h3;omega
  generalize B7 Qi l=k0 at *;have ai:((k0:Int) == -1)=false:=beq_eq_false_iff_ne.2 (by omega);clear f;go_enter func290,ntmps290;go_wp2_with (go_at_call 313;refine O.o.mono ?_;rintro e w1⟨rfl,n⟩)
  go_loopw [5,6,7] (λs5 s6 _ wr=>∃(i j:Nat)(D:List V),s5=Zi i/\s6=Zi j/\j<=l.length/\i<j/\Hid (Del l D i j)/\Hid (wr.ownsRow B 56 3 (Zs (some ⟨g,0,none⟩) l.length m) l.length (A1 D))/\Hid (Below B w wr)) (λ_ s6 _ _=>l.length-(intOf s6).toNat)
  case atStart=>exact⟨k0,k0+1,l,rfl,by go_num,by omega,by omega,HD,Ab (Ad HO.o n),Ab (n.mono hB)⟩
  case round=>
   obtain⟨i,j,D,rfl,rfl,hj,ao,u,f,X⟩:=hrel;have ap:=X.o.size
   by_cases hlt:j<l.length
   ·obtain⟨⟨t,M,N⟩,hx⟩:=Hk hlt
    obtain⟨R,T,U⟩:=Hr (u.o.at hx);have c0:wr.cell? ⟨g,j*3,none⟩=some (Zi t):=(f.o.cellAt _ (by omega)).trans R;have c1:wr.cell? ⟨g,j*3+1,none⟩=some (Zi M):=(f.o.cellAt _ (by omega)).trans T;have c2:wr.cell? ⟨g,j*3+2,none⟩=some (Zt N):=(f.o.cellAt _ (by omega)).trans U;have HC:=Ab (λW=>Qu t M N W);clear R T U
    by_cases hk:t=0
    ·subst hk
     have r:=Ab (u.o.skip hx rfl);go_wp2_with (go_at_fn 292;refine(HC.o _).mono ?_;rintro e z⟨rfl,b⟩);exact⟨⟨i,j+1,D,rfl,by go_num,by omega,by omega,r,Ab (Ad (f.o.alloc _) b),Ab ((X.o.alloc (by omega) _).trans (b.mono (by simp;omega)))⟩,by simp[intOf];omega⟩
    have bk:(t==0)=false:=by simpa using hk
    have r:=Ab (u.o.keep hx (by simpa[Qi] using hk));have aa:=Ab (λW hb=>Ad (f.o.alloc (Zk #[Zi t,Zi M,Zt N] 56)) (W:=W) hb);go_wp2_with fail;refine(HC.o _).mono ?_;rintro e z⟨rfl,b⟩;have d:=aa.o z b;have G:=Ab d;have q0:=(b.cell (p:=⟨wr.heap.size,0,none⟩) (by simp)).trans (XE wr _ 56 (0,0) 0);have q1:=(b.cell (p:=⟨wr.heap.size,1,none⟩) (by simp)).trans (XE wr _ 56 (0,0) 1);have q2:=(b.cell (p:=⟨wr.heap.size,2,none⟩) (by simp)).trans (XE wr _ 56 (0,0) 2);simp at q0 q1 q2;have z0:=d.frozenAt (i*3);have z1:=d.frozenAt (i*3+1);have z2:=d.frozenAt (i*3+2);have ac:(A1 D).length=l.length*3:=by rw[K3,u.o.1]
    obtain⟨y0,aq⟩:∃y,z.cell? ⟨g,i*3,none⟩=some y:=⟨_,(d.cellAt _ (by omega)).trans (XA (by omega))⟩;obtain⟨y1,ar⟩:∃y,z.cell? ⟨g,i*3+1,none⟩=some y:=⟨_,(d.cellAt _ (by omega)).trans (XA (by omega))⟩;obtain⟨y2,au⟩:∃y,z.cell? ⟨g,i*3+2,none⟩=some y:=⟨_,(d.cellAt _ (by omega)).trans (XA (by omega))⟩;clear d ac;have ae:(i:Int)<(l.length:Int):=by omega
    go_wp2;have s0:=G.o.stored (i*3) (Zi t);have s1:=s0.1.stored (i*3+1) (Zi M);have s2:=s1.1.stored (i*3+2) (Zt N);have ad:Below B w z:=(X.o.alloc (by omega) _).trans (b.mono (by simp;omega));exact⟨⟨i+1,j+1,D.set i (t,M,N),by go_num,by go_num,by omega,by omega,r,Ab (by rw[Ku];exact s2.1),Ab (((ad.setCell q _).setCell q _).setCell q _)⟩,by simp[intOf];omega⟩
   have P:=Ab (u.o.stop (by omega));have Y:Hid (D.length=l.length):=u.o.1;obtain⟨W,al,av,I,J,L⟩:=AJg wr f.o i (m-i) (by omega);have o:=Ab I;have s:=Ab J;have ab:=Ab L;clear I J L;have ae:(i:Int)<=(m:Int):=by omega
   go_wp2;go_ret;have ah:(known l).length=i:=by rw[<-P.o,List.length_take];have:=Y.o;omega
   refine⟨_,rfl,⟨some ⟨g,0,none⟩,m,by rw[ah];rfl,by omega,λ_=>⟨g,0,rfl,?_,λj' x hj'=>?_⟩⟩,X.o.grown ab.o (by omega) (λk hk=>by cases hk;exact q)⟩
   ·exact(o.o.lt g rfl).2
   have af:j'<i:=by
    rcases Yc j' i with h'|h'
    ·exact h'
    rw[Yb (by omega)] at hj';cases hj'
   have ag:D[j']? = some x:=by rw[<-P.o,Yl af] at hj';exact hj'
   obtain⟨R,T,U⟩:=Hr ag;rw[XW];refine⟨(o.o.cellAt _ (by omega)).trans ((s.o _ (by omega)).trans R),(o.o.cellAt _ (by omega)).trans ((s.o _ (by omega)).trans T),(o.o.cellAt _ (by omega)).trans ((s.o _ (by omega)).trans U)⟩
 have P:=Ab (ACI (eA Qi l hf));rw[show Kk Qi l = -1 by unfold Kk;rw[if_neg hf]] at O;obtain⟨a,c,rfl,_,_⟩:=Cy f;clear f;go_enter func290,ntmps290;go_wp2_with (go_at_call 313;refine O.o.mono ?_;rintro e w1⟨rfl,n⟩);go_ret;exact⟨_,rfl,by rw[P.o];exact Cy (Ad HO.o n),n.mono hB⟩
theorem V5(v:Tv)(l:List V)(w:Tw)(g:Sl w v l)(f:l.length<=1000):
 Zc 248 #[v] w λe h=>∃v',e=Zr v'/\Sl h v' (known l)/\Zb w h:=by
 have i:=Ab (P9 v l w g f);clear g;go_enter func248,ntmps248;go_wp2_with fail;refine i.o.mono ?_;rintro e n⟨k,rfl,b,a⟩;have j:=Ab (Lo w.heap.size k l n b a.size f);clear b;go_wp2_with fail;refine j.o.mono ?_;rintro e o⟨m,rfl,d,c⟩;go_wp2;go_ret;exact⟨m,rfl,d,a.trans c⟩
theorem Xb(n:Nat)(b:n<=1000)(w:Tw):
 Zc 243 #[Zi n] w λe a=>e=Zr (Zi ((n+7) / 8:Nat))/\a=w:=by
 go_enter func243,ntmps243;go_wp2;go_ret;exact⟨Bd (by omega),rfl⟩
theorem J6(l:List V)(m:Nat):∀k,(Cb l m k).length=m
 | 0=>by simp[Cb]
 | k+1=>by unfold Cb;split <;> simp[J6 l m k]
theorem Oo{a b:Nat}(h:a<=b):2 ^ a<=2 ^ b:=Nat.pow_le_pow_right (by decide) h
theorem H5(l:List V)(m:Nat):∀k j x,(Cb l m k)[j]? = some x->x<2 ^ (min (k-8*j) 8)
 | 0,j,x,h=>by simp only[Cb] at h;have:=XJ h;have e:=Yy this;subst e;exact YZ _
 | k+1,j,x,h=>by
   unfold Cb at h;have c:2 ^ (min (k-8*j) 8)<=2 ^ (min (k+1-8*j) 8):=Oo (by omega);split at h
   ·by_cases hj:k / 8=j
    ·subst hj
     have a:k / 8<(Cb l m k).length:=by
      rcases Yc (k / 8) (Cb l m k).length with b|b
      ·exact b
      rw[Yb (by simpa using b)] at h;cases h
     rw[Yi a,XA a] at h;have g:=H5 l m k (k / 8) _ (XA a);simp only[XX,Option.some.injEq] at h;have d:min (k-8*(k / 8)) 8=k % 8:=by omega
     have f:min (k+1-8*(k / 8)) 8=k % 8+1:=by omega
     rw[d] at g;rw[f,Nat.pow_succ];omega
    rw[Yp hj] at h;exact Ya (H5 l m k j x h) c
   exact Ya (H5 l m k j x h) c
def Fy(l:List Nat):List Value:=l.map λ(x:Nat)=>Value.int .u8 (x:Int)
theorem AI7(s:Nat)(x:Nat)(d:s<8)(b:x<2 ^ s):bits .or .u8 (x:Int) ((2:Int) ^ s)=((x+2 ^ s:Nat):Int):=by
 have a:(2:Int) ^ s=((2 ^ s:Nat):Int):=by simp
 have c:2 ^ s<=2 ^ 7:=Oo (by omega);rw[a];have:=bits_join_low .u8 8 (by decide) wraps_u8 s (x:Int) ((2 ^ s:Nat):Int) (by omega) (by exact_mod_cast b) (by omega) (by omega) (by simp) (by omega);rw[this];simp
theorem iP(l:List Nat)(j x:Nat):Fy (l.set j x)=(Fy l).set j (.int .u8 (x:Int)):=by unfold Fy;rw[List.map_set]
theorem Wx{k:Nat}(b:l[k]? = some x)(a:Qi x=true):Cb l m (k+1)=(Cb l m k).set (k / 8) (((Cb l m k)[k / 8]?.getD 0)+2 ^ (k % 8)):=by rw[Cb,if_pos (by rw[b];simp[a])]
theorem cL{k:Nat}(b:l[k]? = some x)(a:Qi x=false):Cb l m (k+1)=Cb l m k:=by rw[Cb,if_neg (by rw[b];simp[a])]
theorem ABz(v:Tv)(l:List V)(w:Tw)(W:Sl w v l)(R:l.length<=1000):
 Zc 246 #[v] w λe w'=>∃v',e=Zr v'/\w'.ownsRow w.heap.size 5 1 v' ((l.length+7) / 8) (Fy (Q8 l))/\Zb w w':=by
 obtain⟨i5,y,J,r,t⟩:=info_parts bX;have j:=Zy y J r t;clear y J r t;obtain⟨a,c,rfl,_,hl⟩:=W;have HL:=Ab hl;have HB:=Ab (Xb l.length R);obtain⟨m,T⟩:∃m,m=(l.length+7) / 8:=⟨_,rfl⟩;have HM:=Ab T;have O:Hid (Q8 l=Cb l m l.length):=by rw[HM.o];exact rfl
 rw[<-T] at HB ⊢;have aa:m<=200:=by omega
 have D:∀k,k<l.length->k / 8<m:=λk hk=>by omega
 have N:=Ab D;clear hl T D;go_enter func246,ntmps246;go_wp2_with fail;refine(HB.o _).mono ?_;rintro e g⟨rfl,rfl⟩;go_wp2_with (refine wpList_make_full _ rfl _ _ 81 rfl g.heap.size 5 i5 (.int .u8 0) 1 underlying81 j.o.1 j.o.2.1 j.o.2.2.1 .i64 .i64 _ _ m rfl rfl rfl rfl ?m1 ?m2 ?m3 ?_)
 case m1=>rw[j.o.2.2.2];omega
 case m2=>unfold maxLen;omega
 case m3=>exact Y9 _
 intro w2 I x
 have P:Hid (w2.ownsRow g.heap.size 5 1 (Zs (some ⟨g.heap.size,0,none⟩) m m) m (Fy (Cb l m 0))):=Ab (by
  have e:(madeCells #[Value.int .u8 0] m).toList=Fy (Cb l m 0):=by rw[toList_madeCells_one];simp[Fy,Cb]
  rw[<-e];exact I)
 have M:Hid (Zb g w2):=Ab ((XC _ _).grown x (Y9 _) (by simp));clear I x;go_wp2
 go_loopw [11] (λvi wr=>∃k:Nat,k<=l.length/\vi=Zi k/\Hid (wr.ownsRow g.heap.size 5 1 (Zs (some ⟨g.heap.size,0,none⟩) m m) m (Fy (Cb l m k)))/\Hid (Zb g wr)) (λvi _=>l.length-(intOf vi).toNat)
 case atStart=>exact⟨0,XG _,rfl,P,M⟩
 case round=>
  obtain⟨k,hk,rfl,G,i⟩:=hrel
  by_cases hlt:k<l.length
  ·obtain⟨b,off,rfl,hb,hc⟩:=HL.o (by intro e;rw[e] at hlt;simp at hlt)
   obtain⟨⟨kx,nx,tx⟩,Y⟩:=Hk hlt;obtain⟨g0,g1,g2⟩:=hc k _ Y;have c0:wr.cell? ⟨b,off+k*3,none⟩=some (Zi kx):=(i.o.cell (p:=⟨b,off+k*3,none⟩) hb).trans g0;have af:=i.o.size;clear g0 g1 g2 hc
   by_cases hz:kx=0
   ·subst hz
    have L:=Ab (Wx (m:=m) Y rfl);have hq:=N.o k hlt;have z:k / 8<(Cb l m k).length:=by rw[J6];exact hq
    have o:(Cb l m k)[k / 8]? = some ((Cb l m k)[k / 8]):=XA z;have u:=H5 l m k (k / 8) _ o;rw[show min (k-8*(k / 8)) 8=k % 8 by omega] at u;rw[o,XX] at L;generalize (Cb l m k)[k / 8]=f at *;have cm:wr.cell? ⟨g.heap.size,k / 8,none⟩=some (.int .u8 (f:Int)):=by rw[G.o.cellAt _ (by omega)];simp[Fy,o]
    have fm:=G.o.frozenAt (k / 8);have n:=Ab (G.o.stored (k / 8) (.int .u8 ((f+2 ^ (k % 8):Nat):Int)));have d:=AI7 (k % 8) f (by omega) u;rw[<-iP,<-L.o] at n;generalize U:k / 8=q at *;have ab:(k:Int) / 8=(q:Int):=by omega
    have ac:(q:Int)<(m:Int):=by omega
    generalize X:k % 8=s at *;have ae:(k:Int) % 8=(s:Int):=by omega
    have ad:s<8:=by omega
    clear U X o u z;have W:s=0\/s=1\/s=2\/s=3\/s=4\/s=5\/s=6\/s=7:=by omega
    rcases W with rfl|rfl|rfl|rfl|rfl|rfl|rfl|rfl
    ·have h:=Ab (show bits .or .u8 (f:Int) 1=((f+2 ^ 0:Nat):Int) from d)
     clear d;go_wp2_with fail
     go_region
     go_wp2;exact⟨⟨k+1,by omega,by go_num,Ab (by rw[h.o];exact n.o.1),Ab (i.o.setCell (p:=⟨g.heap.size,q,none⟩) (Y9 _) _).drew⟩,by simp[intOf];omega⟩
    ·have h:=Ab (show bits .or .u8 (f:Int) 2=((f+2 ^ 1:Nat):Int) from d)
     clear d;go_wp2_with fail
     go_region
     go_wp2;exact⟨⟨k+1,by omega,by go_num,Ab (by rw[h.o];exact n.o.1),Ab (i.o.setCell (p:=⟨g.heap.size,q,none⟩) (Y9 _) _).drew⟩,by simp[intOf];omega⟩
    ·have h:=Ab (show bits .or .u8 (f:Int) 4=((f+2 ^ 2:Nat):Int) from d)
     clear d;go_wp2_with fail
     go_region
     go_wp2;exact⟨⟨k+1,by omega,by go_num,Ab (by rw[h.o];exact n.o.1),Ab (i.o.setCell (p:=⟨g.heap.size,q,none⟩) (Y9 _) _).drew⟩,by simp[intOf];omega⟩
    ·have h:=Ab (show bits .or .u8 (f:Int) 8=((f+2 ^ 3:Nat):Int) from d)
     clear d;go_wp2_with fail
     go_region
     go_wp2;exact⟨⟨k+1,by omega,by go_num,Ab (by rw[h.o];exact n.o.1),Ab (i.o.setCell (p:=⟨g.heap.size,q,none⟩) (Y9 _) _).drew⟩,by simp[intOf];omega⟩
    ·have h:=Ab (show bits .or .u8 (f:Int) 16=((f+2 ^ 4:Nat):Int) from d)
     clear d;go_wp2_with fail
     go_region
     go_wp2;exact⟨⟨k+1,by omega,by go_num,Ab (by rw[h.o];exact n.o.1),Ab (i.o.setCell (p:=⟨g.heap.size,q,none⟩) (Y9 _) _).drew⟩,by simp[intOf];omega⟩
    ·have h:=Ab (show bits .or .u8 (f:Int) 32=((f+2 ^ 5:Nat):Int) from d)
     clear d;go_wp2_with fail
     go_region
     go_wp2;exact⟨⟨k+1,by omega,by go_num,Ab (by rw[h.o];exact n.o.1),Ab (i.o.setCell (p:=⟨g.heap.size,q,none⟩) (Y9 _) _).drew⟩,by simp[intOf];omega⟩
    ·have h:=Ab (show bits .or .u8 (f:Int) 64=((f+2 ^ 6:Nat):Int) from d)
     clear d;go_wp2_with fail
     go_region
     go_wp2;exact⟨⟨k+1,by omega,by go_num,Ab (by rw[h.o];exact n.o.1),Ab (i.o.setCell (p:=⟨g.heap.size,q,none⟩) (Y9 _) _).drew⟩,by simp[intOf];omega⟩
    have h:=Ab (show bits .or .u8 (f:Int) 128=((f+2 ^ 7:Nat):Int) from d);clear d;go_wp2_with fail
    go_region
    go_wp2;exact⟨⟨k+1,by omega,by go_num,Ab (by rw[h.o];exact n.o.1),Ab (i.o.setCell (p:=⟨g.heap.size,q,none⟩) (Y9 _) _).drew⟩,by simp[intOf];omega⟩
   have bz:(kx==0)=false:=by simpa using hz
   have L:=Ab (cL (m:=m) Y bz);go_wp2;exact⟨⟨k+1,by omega,by go_num,by rw[L.o];exact G,i⟩,by simp[intOf];omega⟩
  have e:k=l.length:=by omega
  subst e;go_wp2;go_ret;exact⟨_,rfl,by rw[O.o];exact G.o,i.o⟩
theorem aM(l:List V):Fy (Q8 l)=Lib.byteCells (Gq l):=by unfold Fy Lib.byteCells Gq;rw[List.map_map];apply Yw;intro x b;obtain⟨j,a,e⟩:=List.mem_iff_getElem.1 b;have c:=H5 l ((l.length+7) / 8) l.length j x (by rw[<-e];exact XA a);have d:2 ^ (min (l.length-8*j) 8)<=2 ^ 8:=Oo (by omega);simp[Lib.toUInt8_toNat (show x<256 by omega)]
theorem Rp(l:List V):(Gq l).length=(l.length+7) / 8:=by unfold Gq Q8;rw[List.length_map,J6]
theorem sI{n:Int}{t:Tb}(h:A9 k n t=true):t.size<=40:=by
 unfold A9 at h
 have a:t.toList.isEmpty=true->t.size<=40:=λb=>by
  have:t.data.toList=[]:=by simpa[ByteArray.toList_eq] using b
  have e:t.size=t.data.toList.length:=by rw[XL];rfl
  rw[e,this];simp
 split at h
 ·simp only[XF] at h;exact a h.2
 split at h
 ·exact a h
 split at h
 ·simp only[XF,Vb,decide_eq_true_eq] at h;exact h.2.1
 cases h
def Okl(l:List V):Prop:=∀x∈l,-9223372036854775808<=x.2.1/\x.2.1<=9223372036854775807/\x.2.2.size<=maxLen
theorem dE{kind:Int}(h:Gk kind l=true)(b:Okl l)(c:l.length<=60):Vd l:=by refine⟨c,λx a=>⟨(b x a).1,(b x a).2.1,?_⟩⟩;simp only[Gk,XF,Bool.not_eq_true',List.any_eq_false] at h;have:=h.2 x a;simp only[Wa,XQ,not_or,Bool.not_eq_true,Bool.not_eq_false'] at this;exact sI this.1
theorem Qc(h:Vd l):Vd (known l) :=
 ⟨XH (YN _ _) h.1,λx a=>h.2 x (List.mem_filter.1 a).1⟩
theorem kW{kind:Int}(h:Gk kind l=true):kind=1\/kind=2:=by simp only[Gk,XF,XQ,beq_iff_eq] at h;exact h.1
def Me(kind:Int)(l:List V):Value :=
 if Gk kind l then
  if l.length<=60 then .tuple #[.string (str (Hv kind l)),.nilIface] else .tuple #[.string ⟨#[]⟩,.iface 90 (Zi 4)]
 else .tuple #[.string ⟨#[]⟩,.iface 90 (Zi 1)]
theorem pW{kind:Int}(h:Vd l):(AEn kind l).length<=4001:=Wd h 4
theorem gM(kind:Int)(v:Tv)(l:List V)(w:Tw)(hs:Sl w v l)(hl:l.length<=1000)(P:Okl l):
 Zc 207 #[Zi kind,v] w λe w'=>e=Zr (Me kind l)/\Zb w w':=by
 have u:=Ab (Sn kind v l w hs hl (λx hx=>(P x hx).2.2));have HS:=Ab hs;obtain⟨i5,O,X,i,k⟩:=info_parts bX;have b:=Zy O X i k;clear O X i k;obtain⟨a,c,rfl,_,_⟩:=hs;cases hf:Gk kind l with
 | false=>rw[hf] at u;have z:Hid (Me kind l=Zu #[Zt ⟨#[]⟩,Zf 90 (Zi 1)]):=Ab (by unfold Me;rw[hf];rfl);clear P hf;go_enter func207,ntmps207;go_wp2_with (go_at_call 245;refine u.o.mono ?_;rintro e h⟨rfl,d⟩);go_ret2;exact⟨by rw[z.o];rfl,d⟩
 | true=>
   rw[hf] at u
   by_cases h60:l.length<=60
   ·have z:Hid (Me kind l=Zu #[Zt (str (Hv kind l)),Zn]):=Ab (by unfold Me;rw[hf];simp[h60])
    have y:=Ab (dE hf P h60);have HK:=Ab (kW hf);clear P hf;go_enter func207,ntmps207;go_wp2_with fail;refine u.o.mono ?_;rintro e h⟨rfl,d⟩;have s:=d.size;go_wp2_with fail;refine(Dq h.heap.size 0 l.length (by omega) _ [] h (XD _ _ _ _) (Y9 _) (by omega)).mono ?_;rintro e w2⟨v2,rfl,R,ag⟩;have m:Zb h w2:=ag.1;have ae:=m.size;have I:Zb w w2:=d.trans (m.mono s);have HM:=Ab (ABz _ l w2 (HS.o.up I) hl);go_wp2_with fail;refine HM.o.mono ?_;rintro e w3⟨v3,rfl,q,n⟩;have aj:=n.size;have HA:=Ab (Ad R n);rw[aM] at q;have HB:=Ab q;clear R q;have am:(Lib.uvarint l.length).length<=10:=Lib.uvarint_length64 (by omega);go_wp2_with (at_builtin;refine Ck rfl _ _ 81 rfl h.heap.size 5 i5 (.int .u8 0) 1 1 underlying81 b.o.1 b.o.2.1 b.o.2.2.1 b.o.2.2.2 rfl (by decide) _ _ _ rfl HA.o _ _ _ _ rfl HB.o (byteCells_one _) ?f1 ?f2 ?f3 ?_)
    case f1=>unfold maxLen;omega
    case f2=>omega
    case f3=>omega
    intro v4 w4 T M;have f:Zb h w4:=Bj (m.trans (n.mono ae)) HA.o M (by omega);have af:=f.size;have J:Zb w w4:=d.trans (f.mono s);have ad:=Ab T;clear T M;have ac:=Ab (V5 _ l w4 (HS.o.up J) hl);go_wp2_with fail;refine ac.o.mono ?_;rintro e w5⟨v5,rfl,G,o⟩;have ak:=o.size;have ab:=Ab (yK kind v5 (known l) w5 G (Qc y.o) HK.o);clear G;go_wp2_with fail;refine ab.o.mono ?_;rintro e w6⟨v6,rfl,U,p⟩;have al:=p.size;have t:=Ab (Ad (Ad ad.o o) p);have aa:=Ab U;have ai:=pW (kind:=kind) (Qc y.o);clear U;go_wp2_with (at_builtin;refine Ck rfl _ _ 81 rfl h.heap.size 5 i5 (.int .u8 0) 1 1 underlying81 b.o.1 b.o.2.1 b.o.2.2.1 b.o.2.2.2 rfl (by decide) _ _ _ rfl t.o _ _ _ _ rfl aa.o (byteCells_one _) ?f4 ?f5 ?f6 ?_)
    case f4=>unfold maxLen;omega
    case f5=>omega
    case f6=>omega
    intro v7 Y W N;have L:Zb w Y:=d.trans ((Bj (f.trans ((o.mono af).trans (p.mono (by omega)))) t.o N (by omega)).mono s)
    have r:Y.ownsRow h.heap.size 5 1 v7 (Hv kind l).length (Lib.byteCells (Hv kind l)):=by unfold Hv;rw[Y',Y',Rp,Bg,Bg];simpa using W
    obtain⟨g,D,rfl,_,_⟩:=r.form (by unfold Hv;have:=Lib.uvarint_pos l.length;simp;omega)
    have ah:(convert 81 9 (Zs (some ⟨g,0,none⟩) (Hv kind l).length D)).run prog Y=.ok (Zt (str (Hv kind l))) Y :=
     run_convert_bytes_back Y 81 9 5 ⟨g,0,none⟩ D (Hv kind l) underlying81 underlying5 underlying9 (λj hj=>r.cells rfl j _ (by simp[Lib.byteCells,hj]))
    clear W r N;go_wp2;go_ret2;exact⟨by rw[z.o];rfl,L⟩
   have z:Hid (Me kind l=Zu #[Zt ⟨#[]⟩,Zf 90 (Zi 4)]):=Ab (by unfold Me;rw[hf];simp[h60]);clear P hf;go_enter func207,ntmps207;go_wp2_with (go_at_call 245;refine u.o.mono ?_;rintro e h⟨rfl,d⟩);go_ret2;exact⟨by rw[z.o];rfl,d⟩
theorem AEU(k acc c:Nat)(j:k<=9)(a:acc<2 ^ (7*k))(i:c<256):
 bits .or .u64 (acc:Int) (IntKind.u64.wrap (IntKind.u64.wrap (bits .and .u8 (c:Int) 127)*2 ^ (7*k)))=((acc+c % 128*2 ^ (7*k) % 18446744073709551616:Nat):Int):=by
 have f:2 ^ (7*k)<=2 ^ 63:=Oo (by omega)
 have b:IntKind.u64.wrap (bits .and .u8 (c:Int) 127)=((c % 128:Nat):Int):=by rw[u8_and127 _ (by omega) (by omega),IntKind.wrap_u64];omega
 have d:(((c % 128:Nat):Int)*2 ^ (7*k))=((c % 128*2 ^ (7*k):Nat):Int):=by simp
 have e:IntKind.u64.wrap ((c % 128*2 ^ (7*k):Nat):Int)=((c % 128*2 ^ (7*k) % 18446744073709551616:Nat):Int):=by rw[IntKind.wrap_u64];omega
 rw[b,d,e];have g:(2:Nat) ^ (7*k)∣18446744073709551616:=⟨2 ^ (64-7*k),by rw[<-Y5,show 7*k+(64-7*k)=64 by omega]⟩
 have h:(c % 128*2 ^ (7*k) % 18446744073709551616) % 2 ^ (7*k)=0:=by rw[Nat.mod_mod_of_dvd _ g];simp
 rw[bits_join_low .u64 64 (by decide) wraps_u64 (7*k) (acc:Int) _ (by omega) (by exact_mod_cast a) (by omega) (by omega) (by exact_mod_cast h) (by omega)];simp
theorem AFa{k acc c:Nat}(m:k<=9)(d:acc<2 ^ (7*k)):acc+c % 128*2 ^ (7*k) % 18446744073709551616<2 ^ (7*(k+1))/\acc+c % 128*2 ^ (7*k) % 18446744073709551616<18446744073709551616:=by
 have j:c % 128*2 ^ (7*k) % 18446744073709551616<=c % 128*2 ^ (7*k):=Nat.mod_le _ _;have l:c % 128*2 ^ (7*k)<=127*2 ^ (7*k):=Yn _ (by omega);have e:2 ^ (7*(k+1))=128*2 ^ (7*k):=by rw[show 7*(k+1)=7*k+7 by omega,Y5,Y7]
 refine⟨by rw[e];omega,?_⟩;have f:(2:Nat) ^ (7*k)∣18446744073709551616:=⟨2 ^ (64-7*k),by rw[<-Y5,show 7*k+(64-7*k)=64 by omega]⟩;have h:(2:Nat) ^ (7*k)∣c % 128*2 ^ (7*k) % 18446744073709551616:=(Nat.dvd_mod_iff f).2 ⟨c % 128,by rw[Y7]⟩;obtain⟨q,i⟩:=f;obtain⟨p,g⟩:=h;have a:c % 128*2 ^ (7*k) % 18446744073709551616<18446744073709551616:=Nat.mod_lt _ (by decide);rw[g];rw[g,i] at a;have b:p<q:=Nat.lt_of_mul_lt_mul_left a;have:2 ^ (7*k)*(p+1)<=2 ^ (7*k)*q:=Nat.mul_le_mul_left _ b;rw[Nat.mul_add,Nat.mul_one] at this;omega
theorem Uq(s:Tb)(b:Nat):s.extract 0 b=str (s.data.toList.take b):=by apply ByteArray.ext;apply Array.toList_inj.mp;rw[Eo,Lib.extract_data];simp
theorem U2(s:Tb)(a:Nat):s.extract a s.size=str (s.data.toList.drop a):=by apply ByteArray.ext;apply Array.toList_inj.mp;rw[Eo,Lib.extract_to_end]
theorem AGf(a:List UInt8)(s:Tb)(b:Nat):((str a).toList==(s.extract 0 b).toList)=decide (a=s.data.toList.take b):=by
 rw[Uq,ByteArray.toList_eq,ByteArray.toList_eq,Eo,Eo]
 by_cases h:a=s.data.toList.take b <;> simp[h]
theorem AF7{B n:Nat}{v:Tv}{l:List UInt8}(h:W.ownsRow B 5 1 v n (Lib.byteCells l))(b:n=l.length)(c:0<l.length):
 ∃g a,v=Zs (some ⟨g,0,none⟩) l.length a/\(∀m,(convert 81 9 (Zs (some ⟨g,0,none⟩) l.length a)).run prog (W.drewN m)=.ok (Zt (str l)) (W.drewN m)):=by
 subst b;obtain⟨g,a,rfl,_,_⟩:=h.form c;exact⟨g,a,rfl,λm=>run_convert_bytes_back (W.drewN m) 81 9 5 ⟨g,0,none⟩ a l underlying81 underlying5 underlying9 (λj hj=>by rw[XN];exact h.cells rfl j _ (by simp[Lib.byteCells,hj]))⟩
theorem AK3{a v b u c f:Tv}(d:a=v)(e:b=u)(g:c=f):Ending.returned (Zu #[a,b,c])=Zr (Zu #[v,u,f]):=by rw[d,e,g]
theorem drop_byte(s:Tb)(k:Nat)(h:k<s.size):s.data.toList.drop k=s[k] :: s.data.toList.drop (k+1):=by rw[Yq (by simpa using h)];rfl
theorem AAt{full:List UInt8}{k acc:Nat}{r:List UInt8}(b:k≠10)(a:¬c.toNat<128):Nu full k (c :: r) acc=Nu full (k+1) r (acc+c.toNat % 128*2 ^ (7*k) % 18446744073709551616):=by rw[Nu,if_neg b,if_neg a]
theorem oV{full:List UInt8}{k acc:Nat}{r:List UInt8}(b:k≠10)(a:c.toNat<128):Nu full k (c :: r) acc=(acc+c.toNat % 128*2 ^ (7*k) % 18446744073709551616,r,decide (Lib.uvarint (acc+c.toNat % 128*2 ^ (7*k) % 18446744073709551616)=full.take (k+1))):=by rw[Nu,if_neg b,if_pos a]
theorem AAb(full r:List UInt8)(acc:Nat):Nu full 10 r acc=(0,full,false):=by cases r <;> simp[Nu]
theorem AI1(full:List UInt8)(k acc:Nat):Nu full k [] acc=(0,full,false):=by simp[Nu]
theorem Pq(s:Tb)(w:Tw)(X:s.size<=1000000):
 Zc 235 #[Zt s] w λe T=>e=Zr (Zu #[.int .u64 (rdNum s.data.toList).1,Zt (str (rdNum s.data.toList).2.1),Zo (rdNum s.data.toList).2.2])/\Zb w T:=by
 go_enter func235,ntmps235;go_wp2
 go_loopw [2,3,4,9] (λR O P u wr=>∃(k acc:Nat),u=Zi k/\R=.int .u64 acc/\O=Zt ⟨#[]⟩/\P=Zo false/\k<=10/\k<=s.size/\Hid (acc<2 ^ (7*k))/\Hid (rdNum s.data.toList=Nu s.data.toList k (s.data.toList.drop k) acc)/\wr=w) (λ_ _ _ u _=>10-(intOf u).toNat)
 case atStart=>exact⟨0,0,rfl,rfl,rfl,rfl,by omega,by omega,Ab (by decide),Ab rfl,rfl⟩
 case round=>
  obtain⟨k,acc,rfl,rfl,rfl,rfl,z,M,f,t,rfl⟩:=hrel
  by_cases hlt:k<s.size/\k<10
  ·obtain⟨J,V⟩:=hlt
   have o:(k:Int)<min (s.size:Int) 10:=by omega
   have i:s[k].toNat<256:=s[k].toNat_lt;have x:=Ab (drop_byte s k J);have W:=AEU k acc s[k].toNat (by omega) f.o i;obtain⟨y,l⟩:=AFa (k:=k) (acc:=acc) (c:=s[k].toNat) (by omega) f.o
   by_cases hc:s[k].toNat<128
   ·have b:=t.o
    rw[x.o,oV (by omega) hc] at b;have b:=Ab b;generalize acc+s[k].toNat % 128*2 ^ (7*k) % 18446744073709551616=h at *;have I:=Ab (Dq wr.heap.size 0 h l (Zs none 0 0) [] wr.drew (XD _ _ _ _) (Y9 _) (by omega));obtain⟨d,n⟩:∃d:Nat,d=k+1:=⟨_,rfl⟩;have N:IntKind.i64.wrap ((k:Int)+1)=(d:Int):=by rw[IntKind.wrap_i64];omega
    have L:(0:Int)<=(d:Int):=by omega
    have D:(d:Int)<=(s.size:Int):=by omega
    have G:d<=s.size:=by omega
    have q:=Ab (AGf (Lib.uvarint h) s d);have r:=Ab (U2 s d);rw[<-n] at b;clear y l n;go_wp2_with fail
    go_region_with
     (first
       | (go_at_call 147;refine I.o.mono ?_;rintro e U⟨Y,rfl,p,a⟩;obtain⟨g,cap,rfl,hcv0⟩:=AF7 p (XW _) (Lib.uvarint_pos h);have m:=hcv0 0;rw[World.drewN_zero] at m))
    have j:Hid (Zb wr U):=Ab ⟨a.1.os,a.1.tape,a.1.output,a.1.size,a.1.block⟩;clear m hcv0 p a;go_wp2_with fail
    go_quiet (fail)
    go_wp2;refine bodyPost_ret (v:=Zu #[.int .u64 h,Zt (s.extract d s.size),Zo ((str (Lib.uvarint h)).toList==(s.extract 0 d).toList)]) (by simp[results,results235,go_sem]) rfl ⟨?_,?_⟩
    ·rw[b.o,q.o,r.o]
    exact⟨j.o.os,j.o.tape,j.o.output,j.o.size,j.o.block⟩
   have b:=t.o;rw[x.o,AAt (by omega) hc] at b;have b:=Ab b;generalize acc+s[k].toNat % 128*2 ^ (7*k) % 18446744073709551616=h at *;go_wp2;exact⟨⟨k+1,h,by go_num,rfl,rfl,rfl,by omega,by omega,Ab y,b,trivial⟩,by simp[intOf];omega⟩
  have o:¬(k:Int)<min (s.size:Int) 10:=by omega
  have b:Hid (rdNum s.data.toList=(0,s.data.toList,false)):=by
   show rdNum s.data.toList=(0,s.data.toList,false);rw[t.o]
   by_cases h10:k=10
   ·rw[h10];exact AAb _ _ _
   rw[YK (by have e:s.size=s.data.toList.length:=(by rw[XL];rfl);omega)];exact AI1 _ _ _
  go_wp2;refine bodyPost_ret (v:=Zu #[.int .u64 0,Zt s,Zo false]) (by simp[results,results235,go_sem]) rfl ⟨?_,XC _ _⟩;rw[b.o];exact AK3 rfl (by rw[Ux]) rfl
def Oi(T:TypeId)(a:List Value)(w:World)(b:Nat)(s:St):Prop:=w.heap[b]? = some (.cells (.string (str s.1) :: .bool s.2 :: a).toArray T (0,0))
theorem Em{b:Nat}(h:Oi T X w b s):w.cell? ⟨b,0,none⟩=some (Zt (str s.1))/\w.cell? ⟨b,1,none⟩=some (Zo s.2)/\w.frozen? ⟨b,0,none⟩=false/\w.frozen? ⟨b,1,none⟩=false:=by have a:w.heap[b]? = some (Zk (Zt (str s.1) :: Zo s.2 :: X).toArray T (0,0)):=h;refine⟨by simp[World.cell?,a],by simp[World.cell?,a],frozen_of_row w b 0 _ T a,frozen_of_row w b 1 _ T a⟩
theorem Oi.up{b:Nat}(h:Oi T X w b s)(a:Zb w W):Oi T X W b s:=Wf h a
theorem Oi.lt{b:Nat}(h:Oi T X w b s):b<w.heap.size:=Ac h
theorem Oi.AEs{b:Nat}(h:Oi T X w b s)(l:List UInt8):Oi T X (w.setCell ⟨b,0,none⟩ (Zt (str l))) b (l,s.2):=by have:=heap_setCell_same w b 0 _ T (Zt (str l)) h;simpa[Oi] using this
theorem Oi.oB{b:Nat}(h:Oi T X w b s)(q:Bool):Oi T X (w.setCell ⟨b,1,none⟩ (Zo q)) b (s.1,q):=by have:=heap_setCell_same w b 1 _ T (Zo q) h;simpa[Oi] using this
def Rd(w:World)(b:Nat)(k:Int)(s:St):Prop:=Oi 288 [Zi k] w b s
theorem G9{b:Nat}(h:Rd w b k s):w.cell? ⟨b,2,none⟩=some (Zi k)/\w.cell? ⟨b,0,none⟩=some (Zt (str s.1))/\w.cell? ⟨b,1,none⟩=some (Zo s.2)/\w.frozen? ⟨b,0,none⟩=false/\w.frozen? ⟨b,1,none⟩=false:=by have a:w.heap[b]? = some (Zk (Zt (str s.1) :: Zo s.2 :: [Zi k]).toArray 288 (0,0)):=h;refine⟨by simp[World.cell?,a],(Em h).1,(Em h).2.1,(Em h).2.2.1,(Em h).2.2.2⟩
theorem Rd.up{b:Nat}(h:Rd w b k s)(a:Zb w W):Rd W b k s:=Wf h a
theorem Rd.lt{b:Nat}(h:Rd w b k s):b<w.heap.size:=Ac h
theorem Rd.oB{w:Tw}{b:Nat}{k:Int}{s:St}(h:Rd w b k s)(q:Bool):Rd (w.setCell ⟨b,1,none⟩ (Zo q)) b k (s.1,q):=Oi.oB h q
theorem G2(w:Tw)(r:Option Nat):w.grownBy w r:=⟨rfl,rfl,rfl,Y9 _,λ_ _ _=>rfl⟩
theorem Al{a b c:Tw}(h:a.grownBy b r)(k:b.grownBy c r):a.grownBy c r :=
 ⟨k.os.trans h.os,k.tape.trans h.tape,k.output.trans h.output,XH h.size k.size,λi d e=>(k.block i (Ya d h.size) e).trans (h.block i d e)⟩
theorem Cr{a b:Tw}(h:Zb a b):a.grownBy b r:=⟨h.os,h.tape,h.output,h.size,λi c _=>h.block i c⟩
theorem Ar(w:Tw)(b j:Nat)(u:Tv):w.grownBy (w.setCell ⟨b,j,none⟩ u) (some b) :=
 ⟨rfl,rfl,rfl,by simp,λk _ a=>heap_setCell_other w ⟨b,j,none⟩ k u (λe=>a (by simp[e]))⟩
theorem AAu(full:List UInt8):∀(r:List UInt8)(i acc:Nat),i<=10->acc<2 ^ (7*i)->acc<18446744073709551616->(Nu full i r acc).1<18446744073709551616
 | [],i,acc,_,_,_=>by simp[Nu]
 | c :: r,i,acc,hi,ha,_=>by
   by_cases h10:i=10
   ·rw[h10,AAb];show (0:Nat)<_;decide
   obtain⟨b,a⟩:=AFa (k:=i) (acc:=acc) (c:=c.toNat) (by omega) ha
   by_cases hc:c.toNat<128
   ·rw[oV h10 hc];exact a
   rw[AAt h10 hc];exact AAu full r _ _ (by omega) b a
theorem bW(full:List UInt8):∀(r:List UInt8)(i acc:Nat),r.length<=full.length->(Nu full i r acc).2.1.length<=full.length/\((Nu full i r acc).2.2=true->(Nu full i r acc).2.1.length<full.length)
 | [],i,acc,_=>by simp[Nu]
 | c :: r,i,acc,h=>by
   by_cases h10:i=10
   ·rw[h10,AAb];simp
   by_cases hc:c.toNat<128
   ·rw[oV h10 hc];simp at h ⊢;exact⟨by omega,λ_=>by omega⟩
   rw[AAt h10 hc];exact bW full r _ _ (by simp at h;omega)
theorem aW(s:St):(Fg s).1<18446744073709551616:=AAu s.1 s.1 0 0 (by omega) (by decide) (by decide)
theorem cN(s:St):(Fg s).2.1.length<=s.1.length:=(bW s.1 s.1 0 0 (Y9 _)).1
theorem ACX(h:(Fg s).2.2=false):(Fg s).2.1.length<s.1.length:=by
 have a:(rdNum s.1).2.2=true:=by simp[Fg] at h;exact h.2
 exact(bW s.1 s.1 0 0 (Y9 _)).2 a
theorem fD(h:s.2=true):(Fg s).2.2=true:=by simp[Fg,h]
theorem W6(T:TypeId)(o:List Tv)(b:Nat)(s:St)(w:Tw)(i:Oi T o w b s)(r:s.1.length<=1000000):
 Zc 194 #[Zp (some ⟨b,0,none⟩)] w λe p=>e=Zr (.int .u64 (Fg s).1)/\Oi T o p b (Fg s).2/\w.grownBy p (some b):=by
 obtain⟨l,q⟩:=s;obtain⟨c1,m,_,_⟩:=Em i;have g:=Ab (Pq (str l) w (by rw[Ds];exact r));rw[Eo] at g;have k:=Ab i;have j:Hid (Fg (l,q)=((rdNum l).1,((rdNum l).2.1,q || !(rdNum l).2.2))):=Ab rfl;rw[j.o];generalize rdNum l=R at g ⊢;obtain⟨n,f,ok⟩:=R;have h:True:=trivial;clear h;clear i j;cases q
 ·go_enter func194,ntmps194
  go_wp2_with fail;refine g.o.mono ?_;rintro e v⟨rfl,c⟩;have a:=k.o.up c;obtain⟨t,u,x,y⟩:=Em a;have d:=Ab a;clear a c1 m;go_wp2;go_ret;exact⟨rfl,((d.o.AEs f).oB _),Al (Cr c) (Al (Ar _ _ _ _) (Ar _ _ _ _))⟩
 go_enter func194,ntmps194;go_wp2_with fail;refine g.o.mono ?_;rintro e v⟨rfl,c⟩;have a:=k.o.up c;obtain⟨t,u,x,y⟩:=Em a;have d:=Ab a;clear a c1 m;go_wp2;go_ret;exact⟨rfl,((d.o.AEs f).oB _),Al (Cr c) (Al (Ar _ _ _ _) (Ar _ _ _ _))⟩
theorem Jc(b:Nat)(k:Int)(s:St)(w:Tw)(d:Rd w b k s)(c:s.1.length<=1000000):
 Zc 194 #[Zp (some ⟨b,0,none⟩)] w λe a=>e=Zr (.int .u64 (Fg s).1)/\Rd a b k (Fg s).2/\w.grownBy a (some b):=W6 _ _ b s w d c
theorem cX(T:TypeId)(c:List Tv)(b:Nat)(s:St)(w:Tw)(a:Oi T c w b s):
 Zc 91 #[Zp (some ⟨b,0,none⟩)] w λe d=>e=Zr (Zo s.2)/\d=w:=by
 obtain⟨c1,f,_,_⟩:=Em a;go_enter func91,ntmps91;go_wp2;go_ret;exact⟨rfl,rfl⟩
theorem E9(b:Nat)(k:Int)(s:St)(w:Tw)(a:Rd w b k s):
 Zc 91 #[Zp (some ⟨b,0,none⟩)] w λe c=>e=Zr (Zo s.2)/\c=w:=cX _ _ b s w a
theorem yM(b:Nat)(k:Int)(s:St)(w:Tw)(a:Rd w b k s):
 Zc 286 #[Zp (some ⟨b,0,none⟩)] w λe c=>e=Zr (Zu #[])/\Rd c b k (s.1,true)/\w.grownBy c (some b):=by
 obtain⟨c0,c1,f,g,h⟩:=G9 a;have d:=Ab a;clear a;go_enter func286,ntmps286;go_wp2
 go_end0
 exact⟨rfl,d.o.oB true,Ar _ _ _ _⟩
theorem C0(h:a.grownBy w r){g:Nat}(d:a.heap.size<=g)(u:Tv):a.grownBy (w.setCell ⟨g,j,none⟩ u) r :=
 ⟨h.os,h.tape,h.output,by have:=h.size;simpa using this,λk b c=>(heap_setCell_other w ⟨g,j,none⟩ k u (by simp;omega)).trans (h.block k b c)⟩
theorem H7(h:a.grownBy w r)(o:Obj):a.grownBy (w.alloc o) r:=Al h (XT w o r)
theorem Rd.grown{b c:Nat}(h:Rd w b k s)(d:w.grownBy W (some c))(a:b≠c):Rd W b k s :=
 (d.block b (Ac h) (by simp;exact a)).trans h
theorem Qd{most:Int}{s:St}(h:Ra most s=true):Am most s=(0,((Fg s).2.1,true)):=by unfold Am;rw[if_pos h]
theorem U0{most:Int}{s:St}(h:Ra most s=false):Am most s=Fg s:=by unfold Am;rw[if_neg (by simp[h])]
theorem Jo(T:TypeId)(t:List Tv)(b:Nat)(most:Int)(s:St)(w:Tw)(y:Oi T t w b s)(G:s.1.length<=1000000)(J : -1000<=most)(L:most<=9223372036854775807):
 Zc 144 #[Zp (some ⟨b,0,none⟩),Zi most] w λe z=>e=Zr (Zi (Am most s).1)/\Oi T t z b (Am most s).2/\w.grownBy z (some b):=by
 have j:=Ab (W6 T t b s w y G);have i:Hid (Ra most s=((Fg s).2.2 || decide (most<0) || decide (most<((Fg s).1:Int)))):=Ab rfl;have m:=Ab (@Qd most s);have o:=Ab (@U0 most s);have M:=aW s;generalize Fg s=R at *;obtain⟨n,l,q⟩:=R;clear y;simp only at i j m M
 by_cases c:q=true\/most<0\/most<(n:Int)
 ·have g:Ra most s=true:=by rw[i.o];simpa[or_assoc] using c
  rw[m.o g];clear m o i g;cases q with
  | true=>go_enter func144,ntmps144;go_wp2_with fail;refine j.o.mono ?_;rintro e u⟨rfl,a,f⟩;obtain⟨p,r,v,x⟩:=Em a;have d:=Ab a;clear a;go_wp2;go_ret;exact⟨rfl,d.o.oB true,Al f (Ar _ _ _ _)⟩
  | false=>
    by_cases hneg:most<0
    ·go_enter func144,ntmps144
     go_wp2_with fail;refine j.o.mono ?_;rintro e u⟨rfl,a,f⟩;obtain⟨p,r,v,x⟩:=Em a;have d:=Ab a;clear a;go_wp2;go_ret;exact⟨rfl,d.o.oB true,Al f (Ar _ _ _ _)⟩
    have D:most<(n:Int):=by rcases c with h|h|h;cases h;exact absurd h hneg;exact h
    have k:0<=most:=by omega
    clear c;go_enter func144,ntmps144;go_wp2_with fail;refine j.o.mono ?_;rintro e u⟨rfl,a,f⟩;obtain⟨p,r,v,x⟩:=Em a;have d:=Ab a;clear a;go_wp2;go_ret;exact⟨rfl,d.o.oB true,Al f (Ar _ _ _ _)⟩
 have g:Ra most s=false:=by rw[i.o];simpa[and_assoc] using c
 rw[o.o g];clear m o i g;have N:q=false:=by cases q;rfl;exact absurd (Or.inl rfl) c
 subst N;have k:0<=most:=by omega
 have I:(n:Int)<=most:=by omega
 clear c;go_enter func144,ntmps144;go_wp2_with fail;refine j.o.mono ?_;rintro e u⟨rfl,a,f⟩;obtain⟨p,r,v,x⟩:=Em a;have d:=Ab a;clear a;go_wp2;go_ret;exact⟨rfl,d.o,f⟩
theorem O0(b:Nat)(k most:Int)(s:St)(w:Tw)(g:Rd w b k s)(d:s.1.length<=1000000)(a : -1000<=most)(f:most<=1000):
 Zc 144 #[Zp (some ⟨b,0,none⟩),Zi most] w λe c=>e=Zr (Zi (Am most s).1)/\Rd c b k (Am most s).2/\w.grownBy c (some b):=Jo _ _ b most s w g d a (by omega)
theorem fG(T:TypeId)(o:List Tv)(b n:Nat)(s:St)(w:Tw)(d:Oi T o w b s)(t:s.1.length<=1000000):
 Zc 195 #[Zp (some ⟨b,0,none⟩),Zi n] w λe p=>e=Zr (Zt (str (C8 n s).1))/\Oi T o p b (C8 n s).2/\w.grownBy p (some b):=by
 obtain⟨l,q⟩:=s;obtain⟨c1,r,x,y⟩:=Em d;have k:=Ab d;have a:=Ds l;simp only at t c1 r
 by_cases h:l.length<n
 ·have f:Hid (C8 n (l,q)=([],(l,true))):=Ab (by unfold C8;rw[if_pos h])
  rw[f.o];have g:((str l).size:Int)<(n:Int):=by rw[a];omega
  clear d a h;go_enter func195,ntmps195;go_wp2;go_ret;exact⟨rfl,k.o.oB true,Ar _ _ _ _⟩
 have f:Hid (C8 n (l,q)=(l.take n,(l.drop n,q))):=Ab (by unfold C8;rw[if_neg h]);have g:¬((str l).size:Int)<(n:Int):=by rw[a];omega
 have u:(n:Int)<=((str l).size:Int):=by rw[a];omega
 have m:n<=(str l).size:=by rw[a];omega
 have i:=Ab (Uq (str l) n);have j:=Ab (U2 (str l) n);rw[Eo] at i j;rw[f.o];have c:=Ab (k.o.AEs (l.drop n));rw[<-j.o] at c;clear d a h;generalize str l=v at *;go_enter func195,ntmps195;go_wp2;go_ret;refine⟨?_,c.o,Ar _ _ _ _⟩;rw[<-i.o];rfl
theorem V0(b n:Nat)(k:Int)(s:St)(w:Tw)(d:Rd w b k s)(c:s.1.length<=1000000)(_hn:n<=1000):
 Zc 195 #[Zp (some ⟨b,0,none⟩),Zi n] w λe a=>e=Zr (Zt (str (C8 n s).1))/\Rd a b k (C8 n s).2/\w.grownBy a (some b):=fG _ _ b n s w d c
theorem F4(most:Int)(s:St):(Am most s).2.1.length<=s.1.length:=by unfold Am;split <;> exact cN s
theorem Ld(most:Int)(s:St):((Am most s).1:Int)<=max most 0:=by
 unfold Am;split
 ·simp;omega
 rename_i h;simp only[Ra,XQ,decide_eq_true_eq,not_or] at h;omega
theorem eG{most:Int}{s:St}(h:(Am most s).2.2=false):(Am most s).2.1.length<s.1.length:=by
 cases hb:Ra most s with
 | true=>rw[Qd hb] at h;cases h
 | false=>rw[U0 hb] at h ⊢;exact ACX h
theorem vG{most:Int}(h:s.2=true):(Am most s).2.2=true:=by
 have:Ra most s=true:=by simp[Ra,fD h]
 rw[Qd this]
theorem Ji(n:Nat)(s:St):(C8 n s).2.1.length<=s.1.length:=by unfold C8;split <;> simp
theorem nP(h:s.2=true):(C8 n s).2.2=true:=by unfold C8;split <;> simp[h]
theorem Ja(kind:Int)(s:St):(Dy kind s).2.1.length<=s.1.length:=by
 unfold Dy;split
 ·exact cN s
 exact XH (Ji _ _) (F4 _ _)
theorem Sh{kind:Int}{s:St}(h:s.2=true):(Dy kind s).2.2=true:=by
 unfold Dy;split
 ·exact fD h
 exact nP (vG h)
theorem AEq(h:n<18446744073709551616):-9223372036854775808<=Lib.unzigzag n/\Lib.unzigzag n<=9223372036854775807:=by unfold Lib.unzigzag;split <;> omega
theorem Rd.other{b g j:Nat}(h:Rd w b k s)(a:¬g=b)(u:Tv):Rd (w.setCell ⟨g,j,none⟩ u) b k s :=
 (heap_setCell_other w ⟨g,j,none⟩ b u (λe=>a e.symm)).trans h
theorem lI(b:Nat)(k:Int)(s:St)(w:Tw)(p:Rd w b k s)(I:s.1.length<=1000000):
 Zc 311 #[Zp (some ⟨b,0,none⟩)] w λe J=>e=Zr (ADW (Dy k s).1)/\Rd J b k (Dy k s).2/\w.grownBy J (some b):=by
 have G:=Ab p;have V:=p.lt;have c:¬w.heap.size=b:=by omega
 obtain⟨c0,_,_,_,_⟩:=G9 p;clear p
 by_cases hk:k=1
 ·have j:Hid (Dy k s=((1,Lib.unzigzag (Fg s).1,str []),(Fg s).2)):=Ab (by unfold Dy;rw[if_pos hk])
  have q:=Ab (λW m=>Jc b k s W (G.o.up (W:=W) m) I);have M:=Ab (gV (Fg s).1 (aW s));have N:(k==1)=true:=by simpa using hk
  rw[j.o];generalize Fg s=R at *;obtain⟨n,st⟩:=R;clear hk j;go_enter func311,ntmps311;go_wp2_with fail;refine(q.o _ (Zal)).mono ?_;rintro e U⟨rfl,d,a⟩;go_wp2_with fail;refine(M.o _).mono ?_;rintro e h⟨rfl,rfl⟩;have g:h.heap[w.heap.size]? = some (Zk #[Zi 0,Zi 0,Zt ⟨#[]⟩] 56):=(a.block w.heap.size (by simp) (by simp;omega)).trans (heap_alloc_new _ _);obtain⟨y,z,D⟩:=Ei g;have O:=frozen_of_row h w.heap.size 0 _ 56 g;have P:=frozen_of_row h w.heap.size 1 _ 56 g;have T:=frozen_of_row h w.heap.size 2 _ 56 g;have r:Hid (w.grownBy h (some b)):=Ab (Al (XT _ _ _) a);have i:=Ab d;clear g a d;go_wp2;refine bodyPost_ret (v:=ADW (1,Lib.unzigzag n,str [])) (by simp[results,results311,go_sem,str,y,z,D]) rfl ⟨rfl,?_,?_⟩
  ·exact((i.o.other c _).other c _).other c _
  exact C0 (C0 (C0 r.o (Y9 _) _) (Y9 _) _) (Y9 _) _
 have j:Hid (Dy k s=((2,0,str (C8 (Am 40 s).1 (Am 40 s).2).1),(C8 (Am 40 s).1 (Am 40 s).2).2)):=Ab (by unfold Dy;rw[if_neg hk]);have q:=Ab (λW m=>O0 b k 40 s W (G.o.up (W:=W) m) I (by omega) (by omega));have u:=Ld 40 s;have x:=F4 40 s;have N:(k==1)=false:=by simpa using hk
 rw[j.o];generalize Am 40 s=R at *;obtain⟨n,st⟩:=R;simp only at u x;have L:=Ab (λW m=>V0 b n k st W m (by omega) (by omega));generalize C8 n st=Q at *;obtain⟨t,st2⟩:=Q;clear hk j;go_enter func311,ntmps311;go_wp2_with fail
 go_region_with
  (first
    | (go_at_call 144;refine(q.o _ (Zal).drew).mono ?_;rintro e U⟨rfl,d,a⟩)
    | (go_at_call 195;refine(L.o _ d).mono ?_;rintro e h⟨rfl,l,o⟩;have f:=Al a o;have g:h.heap[w.heap.size]? = some (Zk #[Zi 0,Zi 0,Zt ⟨#[]⟩] 56):=(f.block w.heap.size (by simp) (by simp;omega)).trans (heap_alloc_new _ _);obtain⟨y,z,D⟩:=Ei g;have O:=frozen_of_row h w.heap.size 0 _ 56 g;have P:=frozen_of_row h w.heap.size 1 _ 56 g;have T:=frozen_of_row h w.heap.size 2 _ 56 g;have r:Hid (w.grownBy h (some b)):=Ab (Al (Cr (Zal).drew) f);have i:=Ab l;clear g a d o l f))
 go_wp2;refine bodyPost_ret (v:=ADW (2,0,str t)) (by simp[results,results311,go_sem,y,z,D]) rfl ⟨rfl,?_,?_⟩
 ·exact((i.o.other c _).other c _).other c _
 exact C0 (C0 (C0 r.o (Y9 _) _) (Y9 _) _) (Y9 _) _
