import Derived.Test.YtbhhpheailbebaaGreatDoorQGs
set_option maxHeartbeats 40000000
set_option maxRecDepth 100000
open Go.RowKit.Below renaming refl->Y9,heap_alloc->X4,setCell->Wb
open List renaming getElem?_eq_getElem->Y',length_append->XC,filter_append->XG,length_cons->XH,map_append->XI,getElem?_append_right->XK,set_cons_succ->XL,getElem?_append_left->XM,getElem?_map->XN,flatMap_cons->XO,filter_cons_of_pos->XP,filter_cons_of_neg->XQ,getElem_map->XR,mem_of_getElem?->XS,mem_of_mem_drop->XU,flatten_cons->XV,any_eq_false->XW,map_nil->XY,cons_append->XZ,length_take->X2,length_map->X',map_cons->WA
open Nat renaming zero_le->XA,le_refl->XB,le_trans->XD,lt_trichotomy->XX
open Int renaming toNat_natCast->XE
open Go.World renaming ownsRow_nil->XF,news_of_block->XJ,cell?_alloc_at->XT
open Bool renaming and_eq_true->X6
namespace Go.Proofs.YtbhhpheailbebaaGreatDoor
open Tryz RowKit Shelf Joins Lib
open Go.Sort (grow)
namespace F
variable{T x y:S.CT}{L l:List Aj}{i j:Nat}{c k n:Int}{p:List (List V)}{D:Td}{W w:Tw}{v:Tv}{r:List V}{s:Ah}{m:List Int}{H:List (Dn×Ah)}{U:List Tb}
def AEy(x:Int):Value:=if x=0 then .nilIface else .iface 90 (Zi x)
def wB(l:List Aj)(s:ByteArray):Int:=kd (l[(Ce l s).toNat]?.getD zC)
def Mz(l:List Aj)(c:Int)(Bl:ByteArray)(k:Int):Int:=if Ce l Bl<0 then 5 else if c=7\/c=8\/k=0\/k=wB l Bl then 0 else 1
def D4(l:List Aj):S.CT->Int
 | .nil=>0
 | .node _ _ ⟨c,Bl,k,_,_⟩ x y=>if c=9\/c=10 then (if D4 l x=0 then D4 l y else D4 l x) else if c=11 then D4 l x else Mz l c Bl k
def Ex(l:List Aj)(T:S.CT):Int:=if S.C9 T 24=true then D4 l T else 1
def EPost(x:Int)(w:World)(e:Ending)(a:World):Prop:=e=.returned (AEy x)/\Zb w a
theorem N7:AEy 0=Zn:=rfl
theorem Et{x:Int}(h:x≠0):AEy x=Zf 90 (Zi x):=if_neg h
theorem bC(l:List Aj):∀T:S.CT,D4 l T=0->S.Kg (Rf l) T
 | .nil,_=>trivial
 | .node _ _ ⟨c,Bl,k,_,_⟩ x y,h=>by
   simp only[D4] at h;simp only[S.Kg]
   by_cases h9:c=9\/c=10
   ·rw[if_pos h9] at h
    rw[if_neg (by omega),if_pos h9];split at h
    ·exact⟨bC l x ‹_›,bC l y h⟩
    exact absurd h ‹_›
   rw[if_neg h9] at h
   by_cases h11:c=11
   ·rw[if_pos h11] at h ⊢
    exact bC l x h
   rw[if_neg h11] at h ⊢;rw[if_neg h9];unfold Mz at h;unfold Rf;split at h
   ·cases h
   omega
theorem gP(h:Ex l T=0):S.Kg (Rf l) T/\S.C9 T 24=true:=by
 unfold Ex at h;split at h
 ·exact⟨bC l T h,‹_›⟩
 cases h
theorem ACe(g o U:Nat)(l:List Aj)(b:Nat)(c:Int)(Bl:Tb)(k n:Int)(t:Tb)(pl pr:Tv)(w:Tw)(h:I1 w g o l)(X:l.length<=8)(I:w.heap[b]? = some (Zk #[Zi c,Zt Bl,Zi k,Zi n,Zt t,pl,pr] 94)):
 Zc 55 #[Zs (some ⟨g,o,none⟩) l.length U,Zp (some ⟨b,0,none⟩)] w (EPost (Mz l c Bl k) w):=by
 have r:=Aa (E8 g o U l Bl w h X);have c0:w.cell? ⟨b,0,none⟩=some (Zi c):=S.cell_of_heap I 0;have c1:w.cell? ⟨b,1,none⟩=some (Zt Bl):=S.cell_of_heap I 1;have i:w.cell? ⟨b,2,none⟩=some (Zi k):=S.cell_of_heap I 2;have d:b<w.heap.size:=E.Ac I;have s:=Aa h;clear I h
 rcases Gz l Bl with⟨u,_⟩|⟨j,R,u,_⟩
 ·have f:Hid (Mz l c Bl k=5):=Aa (by unfold Mz;rw[if_pos (by omega)])
  rw[f.o];rw[u] at r;clear u;go_enter func55,ntmps55;go_wp2_with fail;refine r.o.mono ?_;rintro e L⟨rfl,a⟩;go_wp2;go_ret;exact⟨rfl,a⟩
 have W:∃x,l[j]! = x:=⟨_,rfl⟩;obtain⟨⟨y1,y2,P,y4,y5,y6,y7⟩,T⟩:=W
 have J:wB l Bl=P:=by unfold wB;rw[u,XE,Y' R,Option.getD_some,<-getElem!_pos l j R,T];rfl
 have f:Hid (Mz l c Bl k=if c=7\/c=8\/k=0\/k=P then 0 else 1):=Aa (by unfold Mz;rw[if_neg (by omega),J]);rw[u] at r;obtain⟨e0,v,m,y,z,D,G⟩:=s.o.cells R T;have ab:(j:Int)<(l.length:Int):=by omega
 have Y:¬(j:Int)<0:=by omega
 have aa:(0:Int)<=(j:Int):=by omega
 clear u T J;generalize Mz l c Bl k=q at *
 by_cases h7:c=7
 ·subst h7
  obtain rfl:q=0:=f.o.trans (if_pos (.inl rfl));clear f;go_enter func55,ntmps55;go_wp2_with fail;refine r.o.mono ?_;rintro e L⟨rfl,a⟩;have M:=(a.cell (p:=⟨b,0,none⟩) d).trans c0;have N:=(a.cell (p:=⟨b,2,none⟩) d).trans i;have O:=(a.cell (p:=⟨g,o+j*7+2,none⟩) s.o.1).trans m;clear c0 c1 i e0 v m y z D G;go_wp2;go_ret;exact⟨rfl,a⟩
 have b7:(c==7)=false:=by simpa using h7
 by_cases h8':c=8
 ·subst h8'
  obtain rfl:q=0:=f.o.trans (if_pos (.inr (.inl rfl)));clear f;go_enter func55,ntmps55;go_wp2_with fail;refine r.o.mono ?_;rintro e L⟨rfl,a⟩;have M:=(a.cell (p:=⟨b,0,none⟩) d).trans c0;have N:=(a.cell (p:=⟨b,2,none⟩) d).trans i;have O:=(a.cell (p:=⟨g,o+j*7+2,none⟩) s.o.1).trans m;clear c0 c1 i e0 v m y z D G;go_wp2;go_ret;exact⟨rfl,a⟩
 have b8:(c==8)=false:=by simpa using h8'
 by_cases hk:k=0
 ·subst hk
  obtain rfl:q=0:=f.o.trans (if_pos (.inr (.inr (.inl rfl))));clear f;go_enter func55,ntmps55;go_wp2_with fail;refine r.o.mono ?_;rintro e L⟨rfl,a⟩;have M:=(a.cell (p:=⟨b,0,none⟩) d).trans c0;have N:=(a.cell (p:=⟨b,2,none⟩) d).trans i;have O:=(a.cell (p:=⟨g,o+j*7+2,none⟩) s.o.1).trans m;clear c0 c1 i e0 v m y z D G;go_wp2;go_ret;exact⟨rfl,a⟩
 have bk:(k==0)=false:=by simpa using hk
 by_cases hy:k=P
 ·subst hy
  obtain rfl:q=0:=f.o.trans (if_pos (.inr (.inr (.inr rfl))));clear f;go_enter func55,ntmps55;go_wp2_with fail;refine r.o.mono ?_;rintro e L⟨rfl,a⟩;have M:=(a.cell (p:=⟨b,0,none⟩) d).trans c0;have N:=(a.cell (p:=⟨b,2,none⟩) d).trans i;have O:=(a.cell (p:=⟨g,o+j*7+2,none⟩) s.o.1).trans m;clear c0 c1 i e0 v m y z D G;go_wp2_with fail
  go_region
  go_wp2;go_ret;exact⟨rfl,a.drew⟩
 have V:(k==P)=false:=by simpa using hy
 obtain rfl:q=1:=f.o.trans (if_neg (by omega));clear f;go_enter func55,ntmps55;go_wp2_with fail;refine r.o.mono ?_;rintro e L⟨rfl,a⟩;have M:=(a.cell (p:=⟨b,0,none⟩) d).trans c0;have N:=(a.cell (p:=⟨b,2,none⟩) d).trans i;have O:=(a.cell (p:=⟨g,o+j*7+2,none⟩) s.o.1).trans m;clear c0 c1 i e0 v m y z D G;go_wp2_with fail
 go_region
 go_wp2;go_ret;exact⟨rfl,a.drew⟩
theorem p9{Bl:Tb}{t:Tb}(h:c=9\/c=10):(if D4 l x=0 then D4 l y else D4 l x)=D4 l (.node i j ⟨c,Bl,k,n,t⟩ x y):=by rw[D4,if_pos h]
theorem p11{Bl:Tb}{t:Tb}(h:c=11):D4 l x=D4 l (.node i j ⟨c,Bl,k,n,t⟩ x y):=by rw[D4,if_neg (by omega),if_pos h]
theorem p0{Bl:Tb}{t:Tb}(h:¬(c=9\/c=10))(a:¬c=11):Mz l c Bl k=D4 l (.node i j ⟨c,Bl,k,n,t⟩ x y):=by rw[D4,if_neg h,if_neg a]
theorem Ws(g o q:Nat)(l:List Aj)(J:l.length<=8):∀(T:S.CT)(v:Tv)(w:Tw),S.Gy w T v->I1 w g o l ->
 Zc 31 #[Zs (some ⟨g,o,none⟩) l.length q,v] w (EPost (D4 l T) w)
 | .nil,v,w,h,_=>by obtain rfl:v=Zp none:=h;have O:Hid (D4 l .nil=0):=rfl;rw[O.o];go_enter func31,ntmps31;go_wp2;go_ret;exact⟨rfl,Y9 _ _⟩
 | .node a0 o0 ⟨c,Bl,k,n,t⟩ x y,v,w,h,hs=>by
   obtain⟨b,G,I,rfl,r,_,M,N⟩:=h;have d:Hid (∀W,Zb w W->Zc 31 #[Zs (some ⟨g,o,none⟩) l.length q,G] W (EPost (D4 l x) W)):=λW z=>Ws g o q l J x G W (M.up z) (hs.below z)
   have i:Hid (∀W,Zb w W->Zc 31 #[Zs (some ⟨g,o,none⟩) l.length q,I] W (EPost (D4 l y) W)):=λW z=>Ws g o q l J y I W (N.up z) (hs.below z)
   have f:=Aa (ACe g o q l b c Bl k n t G I w hs J r);have c0:w.cell? ⟨b,0,none⟩=some (Zi c):=S.cell_of_heap r 0;have c5:w.cell? ⟨b,5,none⟩=some G:=S.cell_of_heap r 5;have L:w.cell? ⟨b,6,none⟩=some I:=S.cell_of_heap r 6;have D:b<w.heap.size:=E.Ac r;clear r M N hs;unfold EPost at d i f ⊢
   by_cases j:c=9\/c=10
   ·rw[<-p9 j]
    clear f;generalize D4 l x=u at *;generalize D4 l y=V at *
    by_cases hx:u=0
    ·subst hx
     rw[N7] at d;rw[if_pos rfl]
     by_cases hy:V=0
     ·subst hy
      rw[N7] at i ⊢
      rcases j with rfl|rfl
      all_goals
       go_enter func31,ntmps31;go_wp2_with fail;refine(d.o _ (Y9 _ _)).mono ?_;rintro e s⟨rfl,a⟩;have U:=(a.cell (p:=⟨b,6,none⟩) D).trans L;go_wp2_with fail;refine(i.o _ a).mono ?_;rintro e X⟨rfl,m⟩;go_wp2;go_ret;exact⟨rfl,Ap a m⟩
     rw[Et hy] at i ⊢
     rcases j with rfl|rfl
     all_goals
      go_enter func31,ntmps31;go_wp2_with fail;refine(d.o _ (Y9 _ _)).mono ?_;rintro e s⟨rfl,a⟩;have U:=(a.cell (p:=⟨b,6,none⟩) D).trans L;go_wp2_with fail;refine(i.o _ a).mono ?_;rintro e X⟨rfl,m⟩;go_wp2;go_ret;exact⟨rfl,Ap a m⟩
    rw[Et hx] at d;rw[if_neg hx,Et hx]
    rcases j with rfl|rfl
    all_goals
     go_enter func31,ntmps31;go_wp2_with fail;refine(d.o _ (Y9 _ _)).mono ?_;rintro e s⟨rfl,a⟩;go_wp2;go_ret;exact⟨rfl,a⟩
   by_cases h11:c=11
   ·rw[<-p11 h11]
    subst h11;clear f i j;generalize D4 l x=u at *
    by_cases hx:u=0
    ·subst hx
     rw[N7] at d ⊢;go_enter func31,ntmps31;go_wp2_with fail;refine(d.o _ (Y9 _ _)).mono ?_;rintro e s⟨rfl,a⟩;go_wp2;go_ret;exact⟨rfl,a⟩
    rw[Et hx] at d ⊢;go_enter func31,ntmps31;go_wp2_with fail;refine(d.o _ (Y9 _ _)).mono ?_;rintro e s⟨rfl,a⟩;go_wp2;go_ret;exact⟨rfl,a⟩
   rw[<-p0 j h11];have Y:(c==9)=false:=by rw[beq_eq_false_iff_ne];omega
   have P:(c==10)=false:=by rw[beq_eq_false_iff_ne];omega
   have R:(c==11)=false:=by rw[beq_eq_false_iff_ne];omega
   clear d i j h11;generalize Mz l c Bl k=u at *
   by_cases hx:u=0
   ·subst hx
    rw[N7] at f ⊢;go_enter func31,ntmps31;go_wp2_with fail;refine f.o.mono ?_;rintro e s⟨rfl,a⟩;go_wp2;go_ret;exact⟨rfl,a⟩
   rw[Et hx] at f ⊢;go_enter func31,ntmps31;go_wp2_with fail;refine f.o.mono ?_;rintro e s⟨rfl,a⟩;go_wp2;go_ret;exact⟨rfl,a⟩
theorem ADv(g o c:Nat)(l:List Aj)(j:l.length<=8)(T:S.CT)(v:Tv)(w:Tw)(h:S.Gy w T v)(d:I1 w g o l):
 Zc 12 #[Zs (some ⟨g,o,none⟩) l.length c,v] w (EPost (Ex l T) w):=by
 have H1:=Aa (S.Uh T v w h);have H2:=Aa (Ws g o c l j T v w h d);clear h d;unfold EPost at H2 ⊢;cases hw:S.C9 T 24 with
 | false=>have b:Hid (Ex l T=1):=Aa (by unfold Ex;rw[if_neg (by rw[hw];simp)]);rw[b.o];rw[hw] at H1;clear hw b;go_enter func12,ntmps12;go_wp2_with fail;refine H1.o.mono ?_;rintro e f⟨rfl,rfl⟩;go_wp2;go_ret;exact⟨rfl,Y9 _ _⟩
 | true=>
   have b:Hid (Ex l T=D4 l T):=Aa (by unfold Ex;rw[if_pos hw]);rw[b.o];rw[hw] at H1;clear hw b;generalize D4 l T=i at *
   by_cases hx:i=0
   ·subst hx
    rw[N7] at H2 ⊢;go_enter func12,ntmps12;go_wp2_with fail;refine H1.o.mono ?_;rintro e f⟨rfl,rfl⟩;go_wp2_with fail;refine H2.o.mono ?_;rintro e k⟨rfl,a⟩;go_wp2;go_ret;exact⟨rfl,a⟩
   rw[Et hx] at H2 ⊢;go_enter func12,ntmps12;go_wp2_with fail;refine H1.o.mono ?_;rintro e f⟨rfl,rfl⟩;go_wp2_with fail;refine H2.o.mono ?_;rintro e k⟨rfl,a⟩;go_wp2;go_ret;exact⟨rfl,a⟩
abbrev A6:=Vc×List Aj×List (List V)
structure Gt(D:DataW Unit)(x:A6):Prop where
 has:Maps.has D (B.lit (Eh x.1.1))=true
 Gw:D.atKey (B.lit (Eh x.1.1)) (B.Gw ByteArray.empty)=B.Gw (E.str (Cq (x.2.1,Ay x.2.1 x.2.2)))
 ok:De x.2.1 x.2.2=true
 i64:K9 x.2.2
 name:x.1.1.size<=1000
 mask:x.1.2.2.length<=1000
def N9(l:List Aj)(T:S.CT)(x:A6):List Px×Nat:=Oe x.1.1 x.1.2.2 l T (By x.2.1) 0 (parts x.2.2)
def Bo(l:List Aj)(T:S.CT):List A6->List Px×Nat
 | []=>([],0)
 | x :: xs=>((N9 l T x).1++(Bo l T xs).1,(N9 l T x).2+(Bo l T xs).2)
theorem j6(l:List Aj)(T:S.CT)(x:A6):∀xs:List A6,Bo l T (xs++[x])=((Bo l T xs).1++(N9 l T x).1,(Bo l T xs).2+(N9 l T x).2)
 | []=>by simp[Bo]
 | y :: ys=>by have a:=j6 l T x ys;simp only[XZ,Bo,a,List.append_assoc];congr 1;omega
theorem oU{rows p:List (List V)}(h:Gr l rows)(g:∀r∈p,r∈rows):Gr (By l) p:=λr f=>by
 obtain⟨c,d⟩:=h r (g r f);rw[Je];refine⟨c,λi e=>?_⟩;obtain⟨a,b⟩:=d i e;exact⟨by rw[ABo ((It l).kdq i)];exact a,b⟩
theorem vH(h:Kl l):Kl (By l):=λi a=>by
 rw[Je] at a;rw[(It l).kdq i];exact h i a
theorem wH(g:Gr l p)(f:Kl l)(h:p.length<=6):∀b∈(An l p).2.2,b.length<=1000000:=λb d=>by
 simp only[An,List.mem_map,List.mem_range] at d;obtain⟨i,e,rfl⟩:=d;obtain⟨a,c⟩:=Ot g e (f i e);have:=AAr a c (by rw[Gn];omega);omega
structure AJL(fl:List Aj)(ps:List (List (List V))):Prop where
 p10:ps.length<=10
 each:∀p∈ps,Gr fl p/\1<=p.length/\p.length<=6
 kinds:Kl fl
 bytes:∀p∈ps,∀b∈(An fl p).2.2,b.length<=1000000
 one:1<=fl.length
 eight:fl.length<=8
theorem opened{rows:List (List V)}(h:De l rows=true)(i:K9 rows):AJL (By l) (parts rows)/\Ay l rows=(parts rows).map (An (By l)):=by
 obtain⟨j,n,g,e⟩:=B4.1 h;have k:=Mu e i;have m:=vH j.kinds
 have d:∀p∈parts rows,Gr (By l) p/\1<=p.length/\p.length<=6:=λp f=>by obtain⟨a,b,c⟩:=Ij f;exact⟨oU k c,a,b⟩
 refine⟨⟨by rw[Vg];exact AAB g,d,m,λp f=>wH (d p f).1 m (d p f).2.2,by rw[Je];exact j.one,by rw[Je];exact j.eight⟩,?_⟩;unfold Ay;exact Yw λp _=>(Ul (It l) p).symm
theorem X0:∀a:List (List (List V)),En a=a.flatten.length
 | []=>rfl
 | p :: a=>by simp only[En,XV,XC,X0 a]
theorem tX{x:A6}(h:Gt D x)(l:List Aj)(T:S.CT):(N9 l T x).2<=10/\(N9 l T x).1.length<=60:=by obtain⟨a,b⟩:=xP x.1.1 x.1.2.2 l T (By x.2.1) (parts x.2.2) 0;obtain⟨_,_,c,_⟩:=B4.1 h.ok;have d:=(opened h.ok h.i64).1.p10;rw[X0,V2] at b;unfold N9;omega
theorem L0{D:Td}(l:List Aj)(T:S.CT):∀xs:List A6,(∀x∈xs,Gt D x)->(Bo l T xs).2<=10*xs.length/\(Bo l T xs).1.length<=60*xs.length
 | [],_=>by simp[Bo]
 | x :: xs,h=>by
   have b:=tX (h x (Yf ..)) l T;have c:=L0 l T xs λy a=>h y (Yg _ a)
   simp only[Bo,XC,XH];omega
def qP(l:List Aj)(T:S.CT)(xs:List A6)(w:World)(e:Ending)(a:World):Prop :=
 Zb w a/\((Ex l T≠0/\e=.returned (.tuple #[.slice none 0 0,Zi 0,AEy (Ex l T)]))\/(Ex l T=0/\∃v',e=.returned (.tuple #[v',Zi ((Bo l T xs).2:Int),.nilIface])/\Fp w.heap.size w.heap.size a v' (Bo l T xs).1))
theorem AFL(bb n:Nat)(D:Td)(mv:Tv)(s:Ah)(g cp:Nat)(fa:To)(fc:Nat)(L:List Ef)(xs:List A6)(T:S.CT)(v:Tv)(w:Tw)(h:Ground w bb n D mv)(he:B.Ob w)(ao:S.Lp w)(hV:X8 w s (Zs (some ⟨g,0,none⟩) s.cols.length cp) (Zs fa L.length fc) L)(hx:xs.map (·.1)=s.files)(d:∀x∈xs,Gt D x)(cd:xs.length<=1000)(h8:s.cols.length<=8)(h1:1<=s.cols.length)(hi:S.Gy w T v):
 Zc 11 #[Zp (some ⟨bb,0,none⟩),Zg #[Zi s.Eb,Zs (some ⟨g,0,none⟩) s.cols.length cp,Zi s.next,Zs fa L.length fc],v] w (qP s.cols T xs w):=by
 have hs:I1 w g 0 s.cols:=I1.Fz hV.cols rfl
 have b6:s.cols.length<=cp:=by obtain⟨a,c,e,hc⟩:=Au hV.cols;injection e with _ _ e;omega
 have z:=Aa (λW(P:Zb w W)=>ADv g 0 cp s.cols h8 T v W (hi.up P) (hs.below P));have G:Hid (Zb w (w.alloc (Zk #[Zi s.Eb,Zs (some ⟨g,0,none⟩) s.cols.length cp,Zi s.next,Zs fa L.length fc] 42))):=Aa (Zal);have a0:=Aa (heap_alloc_new w (Zk #[Zi s.Eb,Zs (some ⟨g,0,none⟩) s.cols.length cp,Zi s.next,Zs fa L.length fc] 42));unfold qP;unfold EPost at z
 by_cases hce:Ex s.cols T=0
 rotate_left
 ·rw[Et hce] at z ⊢
  have HC:=Aa hce;clear hs hV hi h he ao d hx;generalize Ex s.cols T=ce at *;go_enter func11,ntmps11;go_wp2_with fail;refine(z.o _ G.o).mono ?_;rintro e w1⟨rfl,M⟩;go_wp2;go_ret3;exact⟨Ap G.o M,.inl ⟨HC.o,rfl⟩⟩
 rw[hce,N7] at z;obtain⟨has,a9⟩:=gP hce;go_enter func11,ntmps11;go_wp2_with fail;refine(z.o _ G.o).mono ?_;rintro e w1⟨rfl,M⟩;have am:=(M.block w.heap.size (by simp)).trans a0.o;have n3:=S.cell_of_heap am 3;simp at n3
 have hlen:L.length=xs.length:=by have:=congrArg List.length (hx.trans hV.files);simpa using this.symm
 have bw:=Aa (λ(x:A6)(b:x∈xs)W(P:Zb w W)=>AD9 bb n D mv x.1.1 W (h.up P) (he.below P) (d x b).name (λt _ ht=>by have e:=B.aS ((d x b).Gw.symm.trans ht);rw[<-e,E.Ds];have:=Vn (d x b).ok (d x b).i64;omega))
 have bv:=Aa (λ(x:A6)(b:x∈xs)(cv gv:Tv)(J:Int)(ma:To)(mn mc:Nat)W(P:Zb w W)(hF:Hm W cv gv (By x.2.1,(parts x.2.2).map (An (By x.2.1))))(hm:Ph W (Zs ma mn mc) x.1.2.2)=>
  have O:=(opened (d x b).ok (d x b).i64).1
  wE w.heap.size cv gv (By x.2.1) (parts x.2.2) x.1.1 J ma mn mc x.1.2.2 g 0 cp s.cols T v W hF O.p10 O.each O.kinds O.bytes O.one O.eight hm (d x b).mask h8 h1 b6 (hs.below P) (hi.up P) has a9 (ao.below P) P.size)
 have ax:=Aa d;have ag:=Aa hV;have bz:=Aa hx;have bk:=Aa hce;have bi:=Aa (Ap G.o M);have br:=Aa am;obtain⟨iC,bc,bd,bf,bg⟩:=info_parts AEA;have U:=Zy bc bd bf bg;clear hs hV hi h he ao d hx hce has a9 M am z G a0 bc bd bf bg;go_wp2_with fail
 go_loopw [10,11,28] (λvr vl vi wr=>∃(k:Nat)(a:To)(n c:Nat),k<=xs.length/\vi=Zi (k:Int)/\vr=Zs a n c/\n<=60*k/\vl=Zi ((Bo s.cols T (xs.take k)).2:Int)/\Hid (Fp w.heap.size w.heap.size wr (Zs a n c) (Bo s.cols T (xs.take k)).1/\n=(Bo s.cols T (xs.take k)).1.length)/\Hid (Zb w wr)/\Hid (wr.heap[w.heap.size]? = some (Zk #[Zi s.Eb,Zs (some ⟨g,0,none⟩) s.cols.length cp,Zi s.next,Zs fa L.length fc] 42))) (λ_ _ vi _=>xs.length-Ev vi)
 case atStart=>exact⟨0,none,0,0,XA _,rfl,rfl,XA _,rfl,Aa ⟨P6 _ _ _,rfl⟩,bi,br⟩
 case round=>
  obtain⟨k,a,n',c,hk,rfl,rfl,ci,rfl,HF,HB,HN⟩:=hrel
  have ch:(Bo s.cols T (xs.take k)).2<=10*1000:=by
   have:=(L0 s.cols T (xs.take k) (λy hy=>ax.o y (Yk hy))).1;have hl:(xs.take k).length<=xs.length:=by rw[X2];omega
   omega
  rcases Yc k xs.length with b8|cg
  ·obtain⟨x,ap⟩:∃x,xs[k]? = some x:=⟨_,Y' b8⟩
   obtain⟨y,Y⟩:∃y,L[k]? = some y:=⟨_,Y' (by omega)⟩
   have ah:y.1=x.1:=by
    have h1:(xs.map (·.1))[k]? = some x.1:=by simp[ap]
    rw[bz.o,ag.o.files,XN,Y] at h1;simpa using h1
   have b:=XS ap;have ba:=XS Y;obtain⟨⟨⟨f,J,mask⟩,l0,rows⟩,ex⟩:∃q,q=x:=⟨_,rfl⟩;obtain⟨ye,⟨ma,mn,mc⟩⟩:=y;have a3:ye=(f,J,mask):=by rw[<-ex] at ah;exact ah
   subst a3 ex;have m:=Aa (ax.o _ b);have bq:=Aa (Ph.Fz (ag.o.Cl _ ba));have N:=Bc ag.o.row HB.o
   obtain⟨fb,b1,cf,e0,e1,e2⟩:∃fb,fa=some ⟨fb,0,none⟩/\fb<wr.heap.size/\wr.cell? ⟨fb,k*3,none⟩=some (Zt f)/\wr.cell? ⟨fb,k*3+1,none⟩=some (Zi J)/\wr.cell? ⟨fb,k*3+2,none⟩=some (Zs ma mn mc):=by
    rcases N.2 with⟨_,h0⟩|⟨fb,b9,cb,ev,_,hh,_,_,_⟩
    ·omega
    injection ev with b0 _ _;subst b0;have hc:=N.cells (g:=fb) rfl;simp only[E.addr_add] at hc
    have ak:∀(i:Nat)u,(Lv ((f,J,mask),ma,mn,mc))[i]? = some u->wr.cell? ⟨fb,k*3+i,none⟩=some u:=λi u hu=>by have:=hc (k*3+i) u (Hi (k:=3) (enc:=Lv) (λ_=>rfl) Y hu);simpa using this
    exact⟨fb,rfl,E.Ac hh,ak 0 _ rfl,ak 1 _ rfl,ak 2 _ rfl⟩
   subst b1;have b5:(k:Int)<(L.length:Int):=by omega
   have a8:xs.take (k+1)=xs.take k++[((f,J,mask),l0,rows)]:=S.Cs ap;have I:=Aa (j6 s.cols T ((f,J,mask),l0,rows) (xs.take k));rw[<-a8] at I;have af:=Aa (tX m.o s.cols T);clear a8 ah N Y ba;have ad:Hid (Zb wr (wr.alloc (Zk #[Zt f,Zi J,Zs ma mn mc] 65))):=Aa (Zal);have au:=Aa (heap_alloc_new wr (Zk #[Zt f,Zi J,Zs ma mn mc] 65));generalize b7:(Bo s.cols T (xs.take k)).2=lk at *;go_wp2_with fail;refine(bw.o _ b _ (Ap HB.o ad.o)).mono ?_;rintro e w2 ab;unfold iB at ab
   rcases ab with⟨q,_⟩|⟨_,t,ht,a6⟩
   ·rw[m.o.has] at q;cases q
   have et:=B.aS (m.o.Gw.symm.trans ht);have a2:t.data.toList=Cq (l0,Ay l0 rows):=by rw[<-et];simp[E.str]
   rw[a2,tN m.o.ok m.o.i64] at a6;obtain⟨cv,gv,rfl,l,al⟩:=a6;rw[(opened m.o.ok m.o.i64).2] at l;obtain⟨ca,cc,ec,_⟩:=l.1.slice;obtain⟨ga,gc,eg,_⟩:=l.2.slice;dsimp only at ec eg;subst ec eg;have p:=Ap ad.o al;have ac:=Aa (Ap HB.o p);have av:=Aa (And.intro (HF.o.1.up p) HF.o.2);have V:=Aa ((p.block _ (E.Ac HN.o)).trans HN.o);have ar:=Aa ((al.block _ (by simp)).trans au.o);have bo:=Aa l;clear l al p et a2 ht ad au e0 e1 e2;generalize b2:(By l0).length=ai at *;generalize b3:((parts rows).map (An (By l0))).length=aj at *;clear b2 b3;have R:Hid (Zb w2 (w2.alloc (Zk #[Zs ca ai cc,Zs ga aj gc] 98))):=Aa (Zal);have aa:=(X4 w2 (Zk #[Zs ca ai cc,Zs ga aj gc] 98) _ (E.Ac ar.o)).trans ar.o;have z0:=S.cell_of_heap aa 0;have z1:=S.cell_of_heap aa 1;have z2:=S.cell_of_heap aa 2;have bh:=(X4 w2 (Zk #[Zs ca ai cc,Zs ga aj gc] 98) _ (E.Ac V.o)).trans V.o;have u1:=S.cell_of_heap bh 1;simp at z0 z1 z2 u1;clear aa bh;go_wp2_with fail;refine(bv.o _ b _ _ J ma mn mc _ (Ap ac.o R.o) (bo.o.up R.o) (bq.o.below (Ap ac.o R.o))).mono ?_;rintro e w3⟨v3,rfl,a5,a4⟩;have r:=Ap R.o a4;have aq:=Aa (Ap ac.o r);have aw:=Aa (And.intro (av.o.1.up r) av.o.2);have bs:=Aa ((r.block _ (E.Ac V.o)).trans V.o);obtain⟨ys,k1,k2,k3⟩:=a5;obtain⟨⟨zs,e1,e2,e3⟩,hn⟩:=aw.o;rw[<-hn] at e1 e2;obtain⟨ya,yc,rfl,_⟩:=Au k2;have a1:Hid (N9 s.cols T ((f,J,mask),l0,rows)=Oe f mask s.cols T (By l0) 0 (parts rows)):=Aa rfl;rw[a1.o] at af I;generalize Oe f mask s.cols T (By l0) 0 (parts rows)=qq at *;obtain⟨qs,qn⟩:=qq;simp only at k1 k2 k3;have cj:qn<=10:=af.o.1;have ck:qs.length<=60:=af.o.2;have bl:=Aa e1;have o:=Aa e2;have bm:=Aa e3;have ay:=Aa k1;have bp:=Aa k2;have az:=Aa k3;have bu:=Aa hn;have a7:=aq.o.size;clear e1 e2 e3 k1 k2 k3 hn aw a4 r z0 z1 z2 u1 a1;go_wp2_with (at_builtin;refine E.Ck rfl _ _ 47 rfl w.heap.size 53 iC ABC 3 48 underlying47 U.o.1 U.o.2.1 U.o.2.2.1 U.o.2.2.2 rfl (by decide) _ _ _ rfl o.o _ _ _ _ rfl bp.o (ABB ay.o az.o) ?f1 ?f2 ?f3 ?_)
   case f1=>unfold maxLen;omega
   case f2=>omega
   case f3=>omega
   intro v4 w4 an X;obtain⟨a',c',rfl,_⟩:=Au an;have hn:=bu.o;subst hn;have bx:=Aa (Fp.app bl.o o.o bm.o ay.o az.o X an);have bj:=Aa (aq.o.grown X a7 (λj hj=>Fu o.o hj));have bt:=Aa (Hq bs.o o.o (by decide) X);clear an X;go_wp2;refine⟨⟨k+1,a',_,c',by omega,rfl,rfl,by omega,by rw[I.o];simp,Aa ⟨?_,?_⟩,bj,bt⟩,by simp only[Ev];omega⟩
   ·rw[I.o]
    exact bx.o
   rw[I.o];simp
  have b5:¬((k:Int)<(L.length:Int)):=by omega
  have b4:k=xs.length:=by omega
  subst b4;have ae:=HF.o;rw[Ye] at ae ⊢;have bn:=Aa ae;clear ae;go_wp2;go_ret3;exact⟨HB.o,.inr ⟨bk.o,_,rfl,bn.o.1⟩⟩
theorem AHX(a:To)(c:Nat)(b:Tv)(w:Tw):Zc 33 #[Zs a 0 c,b] w λe d=>e=Zr (Zi (-1))/\d=w:=by go_enter func33,ntmps33;go_wp2_with fail;refine wp_loop_rounds 1 ?_;rw[rounds_succ];go_wp2;go_ret;exact⟨rfl,rfl⟩
theorem AEa(a:To)(c:Nat)(nm:Tb)(w:Tw):Zc 15 #[Zs a 0 c,Zt nm] w λe g=>e=Zr (Zi (-1))/\Zb w g:=by
 have f:∀(d:Fn)(first b:Array Tv)(w:Tw),(Instr.makeFunc d first b).run prog w=.ok (.func d first b) w:=λ_ _ _ _=>rfl
 go_enter func15,ntmps15;go_wp2_with fail;refine(AHX a c _ _).mono ?_;rintro e h⟨rfl,rfl⟩;go_wp2;go_ret;exact⟨rfl,Zal⟩
theorem AC9(c:Int)(Bl:Tb)(k:Int):Mz [] c Bl k=5:=rfl
theorem ACN(d:To)(f:Nat)(b:Nat)(c:Int)(Bl:Tb)(k n:Int)(t:Tb)(i j:Tv)(w:Tw)(g:w.heap[b]? = some (Zk #[Zi c,Zt Bl,Zi k,Zi n,Zt t,i,j] 94)):
 Zc 55 #[Zs d 0 f,Zp (some ⟨b,0,none⟩)] w (EPost (Mz [] c Bl k) w):=by
 rw[AC9];have h:=Aa (AEa d f Bl w);have c1:w.cell? ⟨b,1,none⟩=some (Zt Bl):=S.cell_of_heap g 1;clear g;go_enter func55,ntmps55;go_wp2_with fail;refine h.o.mono ?_;rintro e l⟨rfl,a⟩;go_wp2;go_ret;exact⟨rfl,a⟩
theorem Vz(m:To)(o:Nat):∀(T:S.CT)(v:Tv)(w:Tw),S.Gy w T v ->
 Zc 31 #[Zs m 0 o,v] w (EPost (D4 [] T) w)
 | .nil,v,w,h=>by obtain rfl:v=Zp none:=h;have M:Hid (D4 [] .nil=0):=rfl;rw[M.o];go_enter func31,ntmps31;go_wp2;go_ret;exact⟨rfl,Y9 _ _⟩
 | .node a0 o0 ⟨c,Bl,k,n,t⟩ x y,v,w,h=>by
   obtain⟨b,z,D,rfl,q,_,J,L⟩:=h;have d:Hid (∀W,Zb w W->Zc 31 #[Zs m 0 o,z] W (EPost (D4 [] x) W)):=λW G=>Vz m o x z W (J.up G)
   have g:Hid (∀W,Zb w W->Zc 31 #[Zs m 0 o,D] W (EPost (D4 [] y) W)):=λW G=>Vz m o y D W (L.up G)
   have f:=Aa (ACN m o b c Bl k n t z D w q);have c0:w.cell? ⟨b,0,none⟩=some (Zi c):=S.cell_of_heap q 0;have X:w.cell? ⟨b,5,none⟩=some z:=S.cell_of_heap q 5;have I:w.cell? ⟨b,6,none⟩=some D:=S.cell_of_heap q 6;have u:b<w.heap.size:=E.Ac q;clear q J L;unfold EPost at d g f ⊢
   by_cases i:c=9\/c=10
   ·rw[<-p9 (l:=[]) i]
    clear f;generalize D4 [] x=s at *;generalize D4 [] y=R at *
    by_cases hx:s=0
    ·subst hx
     rw[N7] at d;rw[if_pos rfl]
     by_cases hy:R=0
     ·subst hy
      rw[N7] at g ⊢
      rcases i with rfl|rfl
      all_goals
       go_enter func31,ntmps31;go_wp2_with fail;refine(d.o _ (Y9 _ _)).mono ?_;rintro e r⟨rfl,a⟩;have P:=(a.cell (p:=⟨b,6,none⟩) u).trans I;go_wp2_with fail;refine(g.o _ a).mono ?_;rintro e U⟨rfl,j⟩;go_wp2;go_ret;exact⟨rfl,Ap a j⟩
     rw[Et hy] at g ⊢
     rcases i with rfl|rfl
     all_goals
      go_enter func31,ntmps31;go_wp2_with fail;refine(d.o _ (Y9 _ _)).mono ?_;rintro e r⟨rfl,a⟩;have P:=(a.cell (p:=⟨b,6,none⟩) u).trans I;go_wp2_with fail;refine(g.o _ a).mono ?_;rintro e U⟨rfl,j⟩;go_wp2;go_ret;exact⟨rfl,Ap a j⟩
    rw[Et hx] at d;rw[if_neg hx,Et hx]
    rcases i with rfl|rfl
    all_goals
     go_enter func31,ntmps31;go_wp2_with fail;refine(d.o _ (Y9 _ _)).mono ?_;rintro e r⟨rfl,a⟩;go_wp2;go_ret;exact⟨rfl,a⟩
   by_cases h11:c=11
   ·rw[<-p11 (l:=[]) h11]
    subst h11;clear f g i;generalize D4 [] x=s at *
    by_cases hx:s=0
    ·subst hx
     rw[N7] at d ⊢;go_enter func31,ntmps31;go_wp2_with fail;refine(d.o _ (Y9 _ _)).mono ?_;rintro e r⟨rfl,a⟩;go_wp2;go_ret;exact⟨rfl,a⟩
    rw[Et hx] at d ⊢;go_enter func31,ntmps31;go_wp2_with fail;refine(d.o _ (Y9 _ _)).mono ?_;rintro e r⟨rfl,a⟩;go_wp2;go_ret;exact⟨rfl,a⟩
   rw[<-p0 (l:=[]) i h11];have V:(c==9)=false:=by rw[beq_eq_false_iff_ne];omega
   have N:(c==10)=false:=by rw[beq_eq_false_iff_ne];omega
   have O:(c==11)=false:=by rw[beq_eq_false_iff_ne];omega
   clear d g i h11;generalize Mz [] c Bl k=s at *
   by_cases hx:s=0
   ·subst hx
    rw[N7] at f ⊢;go_enter func31,ntmps31;go_wp2_with fail;refine f.o.mono ?_;rintro e r⟨rfl,a⟩;go_wp2;go_ret;exact⟨rfl,a⟩
   rw[Et hx] at f ⊢;go_enter func31,ntmps31;go_wp2_with fail;refine f.o.mono ?_;rintro e r⟨rfl,a⟩;go_wp2;go_ret;exact⟨rfl,a⟩
theorem ABl(c:To)(d:Nat)(T:S.CT)(v:Tv)(w:Tw)(h:S.Gy w T v):
 Zc 12 #[Zs c 0 d,v] w (EPost (Ex [] T) w):=by
 have H1:=Aa (S.Uh T v w h);have H2:=Aa (Vz c d T v w h);clear h;unfold EPost at H2 ⊢;cases hw:S.C9 T 24 with
 | false=>have b:Hid (Ex [] T=1):=Aa (by unfold Ex;rw[if_neg (by rw[hw];simp)]);rw[b.o];rw[hw] at H1;clear hw b;go_enter func12,ntmps12;go_wp2_with fail;refine H1.o.mono ?_;rintro e f⟨rfl,rfl⟩;go_wp2;go_ret;exact⟨rfl,Y9 _ _⟩
 | true=>
   have b:Hid (Ex [] T=D4 [] T):=Aa (by unfold Ex;rw[if_pos hw]);rw[b.o];rw[hw] at H1;clear hw b;generalize D4 [] T=g at *
   by_cases hx:g=0
   ·subst hx
    rw[N7] at H2 ⊢;go_enter func12,ntmps12;go_wp2_with fail;refine H1.o.mono ?_;rintro e f⟨rfl,rfl⟩;go_wp2_with fail;refine H2.o.mono ?_;rintro e i⟨rfl,a⟩;go_wp2;go_ret;exact⟨rfl,a⟩
   rw[Et hx] at H2 ⊢;go_enter func12,ntmps12;go_wp2_with fail;refine H1.o.mono ?_;rintro e f⟨rfl,rfl⟩;go_wp2_with fail;refine H2.o.mono ?_;rintro e i⟨rfl,a⟩;go_wp2;go_ret;exact⟨rfl,a⟩
theorem all_none(bb:Nat)(Eb next:Int)(d i:To)(f j:Nat)(T:S.CT)(v:Tv)(w:Tw)(k:S.Gy w T v):
 Zc 11 #[Zp (some ⟨bb,0,none⟩),Zg #[Zi Eb,Zs d 0 f,Zi next,Zs i 0 j],v] w (qP [] T [] w):=by
 have c:Hid (Zb w (w.alloc (Zk #[Zi Eb,Zs d 0 f,Zi next,Zs i 0 j] 42))):=Aa (Zal);have h:=Aa (heap_alloc_new w (Zk #[Zi Eb,Zs d 0 f,Zi next,Zs i 0 j] 42));have a:=Aa (ABl d f T v _ (k.up c.o));unfold qP;unfold EPost at a
 by_cases hce:Ex [] T=0
 rotate_left
 ·rw[Et hce] at a ⊢
  have g:=Aa hce;clear k;generalize Ex [] T=o at *;go_enter func11,ntmps11;go_wp2_with fail;refine a.o.mono ?_;rintro e n⟨rfl,b⟩;go_wp2;go_ret3;exact⟨Ap c.o b,.inl ⟨g.o,rfl⟩⟩
 rw[hce,N7] at a;have g:=Aa hce;clear k hce;go_enter func11,ntmps11;go_wp2_with fail;refine a.o.mono ?_;rintro e n⟨rfl,b⟩;have l:=(b.block w.heap.size (by simp)).trans h.o;have m:=S.cell_of_heap l 3;simp at m;go_wp2_with fail;refine wp_loop_rounds 1 ?_;rw[rounds_succ];go_wp2;go_ret3;exact⟨Ap c.o b,.inr ⟨g.o,_,rfl,P6 _ _ _⟩⟩
def Fc(l:List Aj)(xs:List A6):List (List V):=(Bo l .nil xs).1.map (·.2.2)
theorem dB(l:List Aj):Ex l .nil=0:=rfl
structure Xh(D:DataW Unit)(s:Ah)(xs:List A6):Prop where
 files:xs.map (·.1)=s.files
 each:∀x∈xs,Gt D x
 Iz:xs.length<=1000
 eight:s.cols.length<=8
 bare:s.cols=[]->s.files=[]
theorem oS(bb n:Nat)(D:Td)(mv:Tv)(s:Ah)(sv:Tv)(xs:List A6)(T:S.CT)(v:Tv)(w:Tw)(h:Ground w bb n D mv)(u:B.Ob w)(e:S.Lp w)(t:Dl w s sv)(a:Xh D s xs)(k:S.Gy w T v):
 Zc 11 #[Zp (some ⟨bb,0,none⟩),sv,v] w (qP s.cols T xs w):=by
 obtain⟨l,c1,f,i,L,rfl,d⟩:=t;cases hc:s.cols with
 | nil=>
   have j:=a.bare hc;have r:L=[]:=by have:=d.files;rw[j] at this;simpa using this.symm
   have x:xs=[]:=by have:=a.files;rw[j] at this;simpa using this
   subst r x;exact all_none bb s.Eb s.next l f c1 i T v w k
 | cons c0 l0=>
   have q:1<=s.cols.length:=by rw[hc];simp
   rw[<-hc]
   rcases d.cols.2 with⟨_,y⟩|⟨g,m,o,p,_⟩
   ·omega
   injection p with b _ c;subst b c;exact AFL bb n D mv s g c1 f i L xs T v w h u e d a.files a.each a.Iz a.eight q k
theorem Sc.base{B n:Nat}{rows:List (List V)}(h:Sc B w v rows)(d:n<=B):Sc n w v rows:=by obtain⟨e,a,b,c⟩:=h;exact⟨e,a,E.Ai b d,c⟩
theorem Sc.snoc{B:Nat}{v v':Tv}{rows:List (List V)}{X:List Tv}{x:Tv}(g:X.length=rows.length)(i:w.ownsRow B 51 1 v rows.length X)(l:∀(j:Nat)x r,X[j]? = some x->rows[j]? = some r->w.ownsRow 0 56 3 x r.length (E.A1 r))(s:w.ownsRow 0 56 3 x r.length (E.A1 r))(o:w.grownBy W v.ownBlock)(p:W.ownsRow B 51 1 v' (rows.length+1) (X++[x])):Sc B W v' (rows++[r]):=by
 have c:∀{y:Tv}{n:Nat}{h:List Tv},w.ownsRow 0 56 3 y n h->W.ownsRow 0 56 3 y n h:=λa=>Az a o λk c e=>a8 i a (by decide) k e c
 refine⟨X++[x],by simp[g],?_,λj y q a b=>?_⟩
 ·simpa using p
 rcases Yc j X.length with f|d
 ·rw[XM f] at a
  rw[XM (by omega)] at b;exact c (l j y q a b)
 rw[XK d] at a;rw[XK (by omega)] at b;rw[g] at a;cases hj:j-rows.length with
 | zero=>rw[hj] at a b;simp at a b;subst a b;exact c s
 | succ m=>rw[hj] at a;simp at a
theorem ABH(bb n:Nat)(D:Td)(mv:Tv)(H:List (Dn×Ah))(Eb:Int)(d:Nat)(xs:List A6)(w:Tw)(h:Ground w bb n D mv)(he:B.Ob w)(ab:S.Lp w)(hl:U6 D H)(hp:La H)(O5:H.length<=40)(hk:d<=H.length)(hv:(Eb<0/\d=H.length)\/Eb=d)(hT:Xh D (Ae H d) xs):
 Zc 18 #[Zp (some ⟨bb,0,none⟩),Zi Eb] w λe w'=>∃v',e=Zr (Zu #[v',Zo true])/\Sc w.heap.size w' v' (Fc (Ae H d).cols xs)/\Zb w w':=by
 have O:=Aa (Ua bb n D mv H Eb d w h hl hp O5 hk hv);have o:=Aa (λ(sv:Tv)W(hW:Zb w W)(hS:Dl W (Ae H d) sv)=>oS bb n D mv (Ae H d) sv xs .nil (Zp none) W (h.up hW) (he.below hW) (ab.below hW) hS hT rfl);have P:=Aa (L0 (Ae H d).cols .nil xs hT.each);have a0:=hT.Iz;clear h he ab hl hp hT;unfold qP at o;simp only[dB] at o;unfold Fc;generalize (Bo (Ae H d).cols .nil xs)=AR at *;obtain⟨rs,nr⟩:=AR;generalize Ae H d=sn at *;go_enter func18,ntmps18;go_wp2_with fail;refine O.o.mono ?_;rintro e w1⟨a1,n1,c1,x2,a2,n2,c2,rfl,G,U⟩;unfold K4 at G ⊢;have T:=Aa G;have t:=Aa U;clear G U;have m:Hid (Zb w1 (w1.alloc (Zk #[Zi (d:Int),Zs a1 n1 c1,Zi x2,Zs a2 n2 c2] 42))):=Aa (Zal);go_wp2_with fail;refine(o.o _ _ (Ap t.o m.o) (T.o.up m.o)).mono ?_;rintro e w2⟨V,⟨q,_⟩|⟨_,v2,rfl,ar⟩⟩
 ·exact absurd rfl q
 obtain⟨zs,e1,e2,e3⟩:=ar;obtain⟨fa,fc,rfl,_⟩:=Au e2;have aj:=Aa e1;have ak:=Aa e2;have al:=Aa e3;have L:=Aa (Ap (Ap t.o m.o) V);have a5:rs.length<=60*1000:=by have:=P.o.2;omega
 obtain⟨iC,af,ag,ah,ai⟩:=info_parts eI;have p:=Zy af ag ah ai;clear e1 e2 e3 V T t m o O P af ag ah ai;go_wp2_with fail
 go_loopw [10,11] (λvo vi wr=>∃(k:Nat)(a:To)(c:Nat),k<=rs.length/\vi=Zi (k:Int)/\vo=Zs a k c/\Hid (Sc w2.heap.size wr (Zs a k c) ((rs.take k).map (·.2.2)))/\Hid (Zb w2 wr)) (λ_ vi _=>rs.length-Ev vi)
 case atStart=>exact⟨0,none,0,XA _,rfl,rfl,Aa (ABG _ _),Aa (Y9 _ _)⟩
 case round=>
  obtain⟨k,a,c,hk,rfl,rfl,HO,J⟩:=hrel
  rcases Yc k rs.length with ax|a4
  ·obtain⟨r,hr⟩:∃r,rs[k]? = some r:=⟨_,Y' ax⟩
   obtain⟨z,hz⟩:∃z,zs[k]? = some z:=⟨_,Y' (by have:=aj.o;omega)⟩;obtain⟨_,_,s⟩:=al.o k z r hz hr;have I:=E.Ai s (XA _);clear s;obtain⟨zp,zi,zv⟩:=z;obtain⟨xa,xc,ez,_⟩:=Au I;simp only at ez;subst ez;have l:=E.Ad ak.o J.o
   obtain⟨fb,au,a3,f2⟩:∃fb,fa=some ⟨fb,0,none⟩/\fb<wr.heap.size/\wr.cell? ⟨fb,k*3+2,none⟩=some (Zs xa r.2.2.length xc):=by
    rcases l.2 with⟨_,h0⟩|⟨fb,ay,az,ev,_,hh,_,_,_⟩
    ·omega
    injection ev with aq _ _;subst aq;have hc:=l.cells (g:=fb) rfl;simp only[E.addr_add] at hc;have:=hc (k*3+2) _ (Hi (k:=3) (enc:=Og) (λ_=>rfl) hz (i:=2) rfl);exact⟨fb,rfl,E.Ac hh,by simpa using this⟩
   subst au;have aw:(k:Int)<(rs.length:Int):=by omega
   have ae:rs.take (k+1)=rs.take k++[r]:=S.Cs hr;have ap:Hid ((rs.take (k+1)).map (·.2.2)=(rs.take k).map (·.2.2)++[r.2.2]):=Aa (by rw[ae];simp);have aa:((rs.take k).map (·.2.2)).length=k:=by rw[X',X2];omega
   have HX:=Aa (E.Ad I J.o);obtain⟨vs,o1,o2,o3⟩:=HO.o;have am:=Aa o1;have y:=Aa o2;have an:=Aa o3;have N:=Aa aa;have b:Hid (Zb wr (wr.alloc (Zk #[Zs xa r.2.2.length xc] 51))):=Aa (Zal);have ad:=J.o.size;clear ae aa o1 o2 o3 I l
   go_wp2_with (first
    | (at_builtin;refine wpList_append_own _ rfl _ _ 35 rfl w2.heap.size 51 iC (.slice none 0 0) 1 24 underlying35 p.o.1 p.o.2.1 p.o.2.2.1 p.o.2.2.2 rfl (by decide) (.slice a k c) k vs rfl (by have q:=E.Ad y.o b.o;rw[N.o] at q;exact q) ⟨wr.heap.size,0,none⟩ 1 1 [.slice xa r.2.2.length xc] rfl rfl (λj u hj=>XJ (heap_alloc_new _ _) j u hj) (by intro u hu;simp at hu;subst hu;rfl) (by unfold maxLen;omega) (by omega) (XD ad b.o.size) ?_
       intro v5 w5 f Y _;have R:=Aa f;have M:=Aa Y;clear f Y))
   obtain⟨a',c',rfl,_⟩:=Au R.o;have X:=Ap J.o b.o;refine⟨⟨k+1,a',c',by omega,by simp,rfl,Aa ?_,Aa ?_⟩,by simp only[Ev];omega⟩
   ·rw[ap.o]
    refine Sc.snoc am.o (E.Ad y.o b.o) (λj x q hx hq=>E.Ad (an.o j x q hx hq) b.o) (E.Ad HX.o b.o) M.o ?_;rw[N.o];exact R.o
   exact X.grown M.o X.size (λj hj=>Fu y.o hj)
  have aw:¬((k:Int)<(rs.length:Int)):=by omega
  have av:k=rs.length:=by omega
  subst av;have v:=HO.o;rw[Ye] at v;have ao:=Aa v;have ac:=L.o.size;clear v;go_wp2;go_ret2;exact⟨_,rfl,ao.o.base ac,Ap L.o J.o⟩
def Nz(v:V):Prop:=v.1=0\/v.1=1\/v.1=2
theorem AD4(D:Gr L p)(v:Kl L)(u:∀c∈l,Nz (bP c))(z:r∈p){s:Tb}(G:Rf l s):S.AJG (I5 L p l s) (Uk l (l.map (pick L r)) s):=by
 obtain⟨j,h,g⟩:∃j:Nat,j<l.length/\Ce l s=j:=by
  rcases Gz l s with⟨g,_⟩|⟨j,h,g,_⟩
  ·unfold Rf at G;omega
  exact⟨j,h,g⟩
 unfold I5 Uk;rw[g,if_neg (by omega),XE];have f:=Y' h
 have e:((l.map (pick L r))[j]?.getD zV)=pick L r (l[j]?.getD zC):=by rw[XN,f];rfl
 rw[e];have i:(l[j]?.getD zC)∈l:=by rw[f];exact Yh h
 generalize (l[j]?.getD zC)=c at *
 have k:(∀x∈p.map (λr=>pick L r c),Nz x)/\∃o,∀x∈p.map (λr=>pick L r c),x.1=0\/x.1=o:=by
  by_cases hp:pos L c.1<L.length
  ·have b:∀x∈p.map (λr=>pick L r c),x.1=0\/x.1=kd (L[pos L c.1]?.getD zC):=λx a=>by
    obtain⟨q,n,rfl⟩:=List.mem_map.1 a;unfold pick;rw[if_pos hp];exact AEu ((D q n).2 _ hp).1
   have w:=v _ hp;refine⟨λx a=>?_,_,b⟩;have:=b x a;unfold Nz;omega
  have d:∀x∈p.map (λr=>pick L r c),x=bP c:=λx a=>by obtain⟨q,n,rfl⟩:=List.mem_map.1 a;unfold pick;rw[if_neg hp]
  refine⟨λx a=>by rw[d x a];exact u c i,(bP c).1,λx a=>.inr (by rw[d x a])⟩
 obtain⟨t,o,m⟩:=k;refine⟨p.map (λr=>pick L r c),S.AHR _ (λx a=>?_),λx a y hy hx0 hy0=>?_,List.mem_map.2 ⟨r,z,rfl⟩⟩
 ·have:=t x a;unfold Nz at this;omega
 have:=m x a;have:=m y hy;omega
theorem AB6(i:Gr L p)(d:Kl L)(b:∀c∈l,Nz (bP c))(e:r∈p)(g:S.okT T)(a:S.Kg (Rf l) T)(f:S.Bp (I5 L p l) false T=false):¬evR l (l.map (pick L r)) T=1:=λh=>by
 have:=(S.sound (Rf l) (I5 L p l) (Uk l (l.map (pick L r))) (λs j=>AD4 i d b e j) T g a).1 h;rw[f] at this;cases this
theorem AAs(l:List Aj)(r:List V):evR l r .nil=1:=rfl
theorem ABU(gs:Tb->S.St):S.Bp gs false .nil=true:=rfl
def Q9(l:List Aj)(T:S.CT)(f:Px):Bool:=decide (evR l f.2.2 T=1)
theorem lE(path:Tb)(mask:List Int)(l:List Aj)(T:S.CT):∀(rs:List (List V))(p:Int),Jw path mask l T p rs=(Jw path mask l .nil p rs).filter (Q9 l T)
 | [],_=>rfl
 | r :: rs,p=>by
   have a:=lE path mask l T rs (p+1);simp only[Jw,AAs,and_true]
   by_cases hm:(mask.any λy=>p==y)=false
   ·rw[if_pos hm]
    by_cases he:evR l r T=1
    ·rw[if_pos ⟨hm,he⟩,XP (by simp[Q9,he]),a]
    rw[if_neg (λh=>he h.2),XQ (by simp[Q9,he]),a]
   rw[if_neg hm,if_neg (λh=>hm h.1),a]
theorem AAv(path:Tb)(mask:List Int)(l:List Aj)(T:S.CT):∀(rs:List (List V))(p:Int),(∀r∈rs,¬evR l r T=1)->Jw path mask l T p rs=[]
 | [],_,_=>rfl
 | r :: rs,p,h=>by simp only[Jw];rw[if_neg (λq=>h r (Yf ..) q.2)];exact AAv path mask l T rs (p+1) λq a=>h q (Yg _ a)
theorem lJ(path:Tb)(mask:List Int)(l:List Aj)(T:S.CT)(a:List Aj)(i:Kl a)(g:∀c∈l,Nz (bP c))(j:S.okT T)(e:S.Kg (Rf l) T):∀(b:List (List (List V)))(f:Int),(∀p∈b,Gr a p)->(Oe path mask l T a f b).1=(Oe path mask l .nil a f b).1.filter (Q9 l T)/\(Oe path mask l T a f b).2<=(Oe path mask l .nil a f b).2
 | [],_,_=>⟨rfl,XB _⟩
 | p :: b,f,h=>by
   obtain⟨n,o⟩:=lJ path mask l T a i g j e b (f+p.length) λq d=>h q (Yg _ d)
   simp only[Oe,ABU,if_true];rw[XG,<-n,<-lE];cases hm:S.Bp (I5 a p l) false T with
   | true=>exact⟨by simp,by simp only[if_true];omega⟩
   | false=>
     have m:=AAv path mask l T (Cw a l p) f λr k=>by obtain⟨q,d,rfl⟩:=List.mem_map.1 k;exact AB6 (h p (Yf ..)) i g d j e hm
     rw[m];exact⟨by simp,by simp;omega⟩
theorem all_filter{D:Td}(l:List Aj)(T:S.CT)(b:∀c∈l,Nz (bP c))(d:S.okT T)(a:Ex l T=0):∀xs:List A6,(∀x∈xs,Gt D x)->(Bo l T xs).1=(Bo l .nil xs).1.filter (Q9 l T)/\(Bo l T xs).2<=(Bo l .nil xs).2
 | [],_=>⟨rfl,XB _⟩
 | x :: xs,h=>by
   obtain⟨e,g⟩:=all_filter l T b d a xs λy hy=>h y (Yg _ hy)
   have O:=(opened (h x (Yf ..)).ok (h x (Yf ..)).i64).1;obtain⟨f,i⟩:=lJ x.1.1 x.1.2.2 l T (By x.2.1) O.kinds b d (gP a).1 (parts x.2.2) 0 λp hp=>(O.each p hp).1
   simp only[Bo,N9,XG,<-e,<-f];exact⟨trivial,by omega⟩
theorem fA(path:Tb)(mask:List Int)(l:List Aj)(T:S.CT):∀(a b:List (List V))(p:Int),Jw path mask l T p (a++b)=Jw path mask l T p a++Jw path mask l T (p+a.length) b
 | [],b,p=>by simp[Jw]
 | r :: a,b,p=>by
   have c:=fA path mask l T a b (p+1);have e:p+1+(a.length:Int)=p+((r :: a).length:Int):=by simp only[XH];omega
   rw[e] at c;simp only[XZ,Jw,c];split <;> simp
theorem dP(c l:List Aj)(a b:List (List V)):Cw c l (a++b)=Cw c l a++Cw c l b:=by simp[Cw]
theorem J2(b l:List Aj)(a:List (List V)):(Cw b l a).length=a.length:=by simp[Cw]
theorem vB(path:Tb)(mask:List Int)(l b:List Aj):∀(a:List (List (List V)))(f:Int),Oe path mask l .nil b f a=(Jw path mask l .nil f (Cw b l a.flatten),a.length)
 | [],_=>rfl
 | p :: a,f=>by have c:=vB path mask l b a (f+p.length);simp only[Oe,ABU,if_true,c,XV,dP,fA,J2,XH]
def E4(l:List Aj)(x:A6):List Px:=Jw x.1.1 x.1.2.2 l .nil 0 (Cw (By x.2.1) l x.2.2)
theorem zN(l:List Aj)(x:A6):(N9 l .nil x).1=E4 l x:=by unfold N9 E4;rw[vB,V2]
theorem H9(l:List Aj):∀xs:List A6,(Bo l .nil xs).1=xs.flatMap (E4 l)
 | []=>rfl
 | x :: xs=>by simp only[Bo,zN,H9 l xs,XO]
theorem AHe(path:Tb)(mask a m:List Int)(l:List Aj)(c:∀y,y∈a↔y∈mask\/y∈m):∀(rs:List (List V))(p:Int),Jw path a l .nil p rs=(Jw path mask l .nil p rs).filter λz=>!(m.any λy=>z.2.1==y)
 | [],_=>rfl
 | r :: rs,p=>by
   have g:=AHe path mask a m l c rs (p+1)
   have b:∀q:List Int,((q.any λy=>p==y)=false)↔¬p∈q:=λq=>by
    constructor
    ·intro h d
     have:=List.any_eq_false.mp h p d;simp at this
    intro h;rw[XW];intro y f e;simp at e;subst e;exact h f
   simp only[Jw,AAs,and_true,b,g]
   by_cases h1:p∈mask
   ·rw[if_neg (λh=>h ((c p).mpr (.inl h1))),if_neg (λh=>h h1)]
   rw[if_pos h1]
   by_cases h2:p∈m
   ·rw[if_neg (λh=>h ((c p).mpr (.inr h2))),XQ (by
     have:¬((m.any λy=>p==y)=false):=λh=>(b m).mp h h2
     simpa using this)]
   rw[if_pos (λh=>by rcases (c p).mp h with h|h <;> contradiction),XP (by have:=(b m).mpr h2;simpa using this)]
theorem Pv(path:Tb)(mask:List Int)(l:List Aj)(T:S.CT):∀(rs:List (List V))(p:Int),(∀z∈Jw path mask l T p rs,z.1=path/\p<=z.2.1/\z.2.1<p+rs.length/\¬z.2.1∈mask)/\(Jw path mask l T p rs).Pairwise λa b=>a.2.1<b.2.1
 | [],_=>⟨λz e=>(by cases e),List.Pairwise.nil⟩
 | r :: rs,p=>by
   obtain⟨g,i⟩:=Pv path mask l T rs (p+1)
   have f:∀z∈Jw path mask l T (p+1) rs,z.1=path/\p<=z.2.1/\z.2.1<p+((r :: rs).length:Int)/\¬z.2.1∈mask:=λz e=>by obtain⟨a,b,c,d⟩:=g z e;simp only[XH];exact⟨a,by omega,by omega,d⟩
   simp only[Jw];split
   ·next h=>
    refine⟨λz e=>?_,List.Pairwise.cons (λz e=>?_) i⟩
    ·rcases List.mem_cons.1 e with rfl|e
     ·refine⟨rfl,Int.le_refl _,by simp only[XH];omega,λj=>?_⟩
      have:=List.any_eq_false.mp h.1 p j;simp at this
     exact f z e
    have:=(g z e).2.1;show p<z.2.1;omega
   exact⟨f,i⟩
def Ct(l:List Aj)(T:S.CT)(x:A6):List Int:=((E4 l x).filter (Q9 l T)).map (·.2.1)
def pO(l:List Aj)(T:S.CT)(x:A6):Option A6 :=
 if Ct l T x=[] then some x
 else if (Ct l T x).length=(E4 l x).length then none
 else some (N6 x.1 (Ct l T x),x.2)
theorem mD{a b:List Vc}{e:Vc}(j:((a++e :: b).map (·.1)).Nodup):Bt (a++e :: b) e.1=a.length:=by
 rcases J8 (a++e :: b) e.1 with⟨_,h⟩|⟨k,g,h,f,l⟩
 ·have:=h a.length (by simp)
  rw[getElem!_pos _ _ (by simp)] at this;simp at this
 rw[h];rw[getElem!_pos _ k g] at f;have d:k<((a++e :: b).map (·.1)).length:=by simpa using g
 have c:a.length<((a++e :: b).map (·.1)).length:=by simp
 have i:=List.pairwise_iff_getElem.mp j
 rcases XX k a.length with h|h|h
 ·exact absurd (by simp only[XR];rw[f];simp) (i k a.length d c h)
 ·omega
 exact absurd (by simp only[XR];rw[f];simp) (i a.length k c d h)
def Vm(l:List Aj)(T:S.CT)(x:A6):List A5 :=
 if Ct l T x=[] then []
 else if (Ct l T x).length=(E4 l x).length then [(2,x.1.1,0,[],[],0)]
 else [(3,x.1.1,0,Ct l T x,[],0)]
theorem O6(l:List Aj)(T:S.CT)(x:A6)(g:x.1.2.1=x.2.2.length):Ma (-1) x.1.2.1 (Ct l T x)/\aK (Ct l T x) x.1.2.2=false:=by
 obtain⟨a,d⟩:=Pv x.1.1 x.1.2.2 l .nil (Cw (By x.2.1) l x.2.2) 0;rw[J2] at a;refine⟨⟨?_,λy b=>?_⟩,?_⟩
 ·unfold Ct
  rw[List.pairwise_map];exact d.filter _
 ·obtain⟨z,c,rfl⟩:=List.mem_map.1 b
  have:=a z (List.mem_filter.1 c).1;omega
 unfold aK;rw[XW];intro y b e;obtain⟨z,c,rfl⟩:=List.mem_map.1 b;have:=(a z (List.mem_filter.1 c).1).2.2.2;rw[List.any_eq_true] at e;obtain⟨u,f,e⟩:=e;simp at e;subst e;exact this f
theorem ADz{rows:Int}(h:Ma (-1) rows m)(a:m≠[]):Dj m rows=true:=by
 unfold Dj;rw[(Mr rows m (-1)).mpr h];cases m with
 | nil=>exact absurd rfl a
 | cons=>simp
section
variable {nb : ByteArray → Bool} {cb : ByteArray → Bool} {fb : Int → Int → Int → ByteArray → Bool}
theorem Sp(l:List Aj)(T:S.CT):∀(xs:List A6)(done tail:List Vc)(s:Ah),s.files=done++xs.map (·.1)++tail->(s.files.map (·.1)).Nodup->(∀x∈xs,x.1.2.1=x.2.2.length) ->
 Il nb cb fb s (xs.flatMap (Vm l T)) ⟨s.Eb,s.cols,s.next,done++(xs.filterMap (pO l T)).map (·.1)++tail⟩
 | [],done,tail,s,hf,_,_=>by simp only[List.flatMap_nil,Il,List.filterMap_nil];rw[<-hf]
 | x :: xs,done,tail,s,hf,hn,hr=>by
   have a:s.files=done++x.1 :: (xs.map (·.1)++tail):=by rw[hf];simp
   have f:=hn;rw[a] at f;have i:Bt s.files x.1.1=done.length:=by rw[a];exact mD f
   have b:s.files[done.length]! = x.1:=by rw[a,getElem!_pos _ _ (by simp)];simp
   have m:=hr x (Yf ..);have c:∀y∈xs,y.1.2.1=y.2.2.length:=λy n=>hr y (Yg _ n)
   obtain⟨j,k⟩:=O6 l T x m;rw[XO]
   by_cases c1:Ct l T x=[]
   ·have d:Vm l T x=[]:=by unfold Vm;rw[if_pos c1]
    have e:pO l T x=some x:=by unfold pO;rw[if_pos c1]
    have g:=Sp l T xs (done++[x.1]) tail s (by rw[hf];simp) hn c;rw[d,YQ,e];simpa using g
   by_cases c2:(Ct l T x).length=(E4 l x).length
   ·have d:Vm l T x=[(2,x.1.1,0,[],[],0)]:=by unfold Vm;rw[if_neg c1,if_pos c2]
    have e:pO l T x=none:=by unfold pO;rw[if_neg c1,if_pos c2]
    have h:s.files.eraseIdx (Bt s.files x.1.1).toNat=done++xs.map (·.1)++tail:=by rw[i,XE,a,List.eraseIdx_append_of_length_le (XB _)];simp
    have g:=Sp l T xs done tail ⟨s.Eb,s.cols,s.next,done++xs.map (·.1)++tail⟩ rfl (by refine List.Sublist.nodup ?_ hn;rw[<-h];exact(YL _ _).map _) c
    rw[d,YQ,e];refine⟨_,.inr (.inl ⟨rfl,by show 0<=Bt s.files x.1.1;omega,rfl⟩),?_⟩;unfold tI;simp only;rw[h];exact g
   have d:Vm l T x=[(3,x.1.1,0,Ct l T x,[],0)]:=by unfold Vm;rw[if_neg c1,if_neg c2]
   have e:pO l T x=some (N6 x.1 (Ct l T x),x.2):=by unfold pO;rw[if_neg c1,if_neg c2]
   have h:s.files.set (Bt s.files x.1.1).toNat (N6 s.files[(Bt s.files x.1.1).toNat]! (Ct l T x))=(done++[N6 x.1 (Ct l T x)])++xs.map (·.1)++tail:=by rw[i,XE,b,a,YB _ _ (XB _)];simp
   have g:=Sp l T xs (done++[N6 x.1 (Ct l T x)]) tail ⟨s.Eb,s.cols,s.next,(done++[N6 x.1 (Ct l T x)])++xs.map (·.1)++tail⟩ rfl (by rw[a] at hn;simpa[N6] using hn) c
   rw[d,YQ,e];refine⟨_,.inr (.inr (.inl ⟨rfl,⟨by show 0<=Bt s.files x.1.1;omega,?_,?_⟩,rfl⟩)),?_⟩
   ·show Dj (Ct l T x) (s.files[(Bt s.files x.1.1).toNat]!).2.1=true
    rw[i,XE,b];exact ADz j c1
   ·show aK (Ct l T x) (s.files[(Bt s.files x.1.1).toNat]!).2.2=false
    rw[i,XE,b];exact k
   unfold gJ;simp only;rw[h];simpa using g
theorem qO:∀(es tail:List Vc)(s:Ah),s.files=es++tail->(s.files.map (·.1)).Nodup->Il nb cb fb s (es.map λe=>(2,e.1,0,[],[],0)) ⟨s.Eb,s.cols,s.next,tail⟩
 | [],tail,s,hf,_=>by simp only[XY,Il];simp at hf;rw[<-hf]
 | e :: es,tail,s,hf,hn=>by
   have d:Bt s.files e.1=0:=by have:=mD (a:=[]) (b:=es++tail) (e:=e) (by rw[hf] at hn;simpa using hn);rw[hf];simpa using this
   have c:s.files.eraseIdx (Bt s.files e.1).toNat=es++tail:=by rw[d,hf];simp
   have f:=qO es tail ⟨s.Eb,s.cols,s.next,es++tail⟩ rfl (by rw[hf] at hn;simpa using (List.nodup_cons.mp (by simpa using hn)).2);refine⟨_,.inr (.inl ⟨rfl,by show 0<=Bt s.files e.1;omega,rfl⟩),?_⟩;unfold tI;simp only;rw[c];exact f
end
def mst(c:Aj):Bool:=c.2.2.2.1
theorem jL:∀{l:List Aj}{r:List V},r.length=l.length->(Ia l r=0↔∀i,i<l.length->Lx (l[i]?.getD zC) (r[i]?.getD zV)=true/\(mst (l[i]?.getD zC)=true->(r[i]?.getD zV).1≠0))
 | [],[],_=>by simp[Ia]
 | [],_ :: _,h=>by simp at h
 | _ :: _,[],h=>by simp at h
 | c :: l,v :: r,h=>by
   have g:=jL (l:=l) (r:=r) (by simpa using h);unfold Ia;constructor
   ·intro a i b
    by_cases h1:Lx c v=false
    ·rw[if_pos h1] at a;exact absurd a (by decide)
    rw[if_neg h1] at a
    by_cases h2:(c.2.2.2.1 && v.1==0)=true
    ·rw[if_pos h2] at a;exact absurd a (by decide)
    rw[if_neg h2] at a;cases i with
    | zero=>
      refine⟨by simpa using h1,λj e=>h2 ?_⟩;simp at e;have d:c.2.2.2.1=true:=by simpa[mst] using j
      rw[d,e];rfl
    | succ i=>simpa using g.mp a i (by simpa using b)
   intro a;have f:=a 0 (by simp);simp at f
   rw[if_neg (by simp[f.1]),if_neg (λe=>by simp at e;exact f.2 e.1 e.2)]
   exact g.mpr λi b=>by simpa using a (i+1) (by simpa using b)
theorem O7:Hu l r=0↔r.length=l.length/\∀i,i<l.length->Lx (l[i]?.getD zC) (r[i]?.getD zV)=true/\(mst (l[i]?.getD zC)=true->(r[i]?.getD zV).1≠0):=by
 unfold Hu
 by_cases h:r.length=l.length
 ·rw[if_pos h,jL h];simp[h]
 rw[if_neg h];simp[h]
structure Lk(fl l:List Aj):Prop where
 same:∀c∈l,∀d∈fl,d.1=c.1->kd d=kd c/\mst d=mst c
 late:∀c∈l,(∀d∈fl,d.1≠c.1)->mst c=true->(bP c).1≠0
theorem ADh(l:List Aj):ids (By l)=ids l:=by simp[ids,By,qN]
theorem eV(a:List Aj)(r:List V)(c:Aj):pick (By a) r c=pick a r c:=by unfold pick pos;rw[ADh];simp[By]
theorem pos_at{id:Int}(h:pos l id<l.length):(l[pos l id]?.getD zC).1=id/\(l[pos l id]?.getD zC)∈l:=by
 rw[Y' h];refine⟨?_,Yh h⟩;unfold pos at h ⊢;have b:(ids l).idxOf id<(ids l).length:=by simpa[ids] using h
 have a:(ids l)[(ids l).idxOf id]=id:=List.getElem_idxOf b;simp only[ids,XR] at a;exact a
theorem AIo{id:Int}(h:¬pos l id<l.length):∀d∈l,d.1≠id:=λd a e=>h (by
 unfold pos;have:id∈ids l:=List.mem_map.2 ⟨d,a,e⟩;have:=List.idxOf_lt_length_of_mem this;simpa[ids] using this)
theorem kA(g:Lk L l)(m:Hu L r=0)(k:∀c∈l,Lx c (bP c)=true):Hu l (l.map (pick (By L) r))=0:=by
 obtain⟨p,j⟩:=O7.mp m;rw[O7];refine⟨by simp,λi f=>?_⟩;have h:=Y' f;have b:(l[i]?.getD zC)∈l:=by rw[h];exact Yh f
 have e:((l.map (pick (By L) r))[i]?.getD zV)=pick L r (l[i]?.getD zC):=by rw[XN,h];exact eV L r _
 rw[e];generalize (l[i]?.getD zC)=c at *;unfold pick
 by_cases hp:pos L c.1<L.length
 ·rw[if_pos hp]
  obtain⟨n,o⟩:=pos_at hp;obtain⟨s1,s2⟩:=g.same c b _ o n;obtain⟨a,d⟩:=j _ hp;unfold Lx at a ⊢;rw[s1] at a;rw[s2] at d;exact⟨a,d⟩
 rw[if_neg hp];exact⟨k c b,g.late c b (AIo hp)⟩
theorem Lk.self(g:l.Pairwise λa b=>a.1≠b.1):Lk l l:=by
 refine⟨λc f d n e=>?_,λc f h=>absurd rfl (h c f)⟩
 have:d=c:=by
  obtain⟨i,k,rfl⟩:=List.mem_iff_getElem.mp f;obtain⟨j,m,rfl⟩:=List.mem_iff_getElem.mp n;rw[Yv] at g
  rcases XX i j with h|h|h
  ·exact absurd e.symm (g i j k m h)
  ·subst h;rfl
  exact absurd e (g j i m k h)
 rw[this];exact⟨rfl,rfl⟩
theorem Lk.sub{L l l':List Aj}(h:Lk L l)(b:∀c∈l',c∈l):Lk L l':=⟨λc a=>h.same c (b c a),λc a=>h.late c (b c a)⟩
theorem Lk.more{c:Aj}(h:Lk L l)(g:∀d∈L,d.1≠c.1)(f:mst c=true->(bP c).1≠0):Lk L (l++[c]):=by
 refine⟨λx a d b e=>?_,λx a hz=>?_⟩
 ·rcases List.mem_append.1 a with a|a
  ·exact h.same x a d b e
  simp at a;subst a;exact absurd e (g d b)
 rcases List.mem_append.1 a with a|a
 ·exact h.late x a hz
 simp at a;subst a;exact f
theorem Lk.named{L l l':List Aj}(h:Lk L l)(i:∀c∈l',∃d∈l,d.1=c.1/\d.2.2=c.2.2):Lk L l':=by
 refine⟨λc f x j e=>?_,λc f hz=>?_⟩
 ·obtain⟨d,g,a,b⟩:=i c f
  have:=h.same d g x j (by rw[e,a]);unfold kd mst at this ⊢;rw[b] at this;exact this
 obtain⟨d,g,a,b⟩:=i c f;have:=h.late d g (λy k=>by rw[a];exact hz y k);unfold bP mst at this ⊢;rw[b] at this;exact this
section
variable {nb : ByteArray → Bool} {cb : ByteArray → Bool} {fb : Int → Int → Int → ByteArray → Bool}
end
structure C7(D:DataW Unit)(s:Ah)(xs:List A6):Prop where
 Lz:Xh D s xs
 link:∀x∈xs,Lk x.2.1 s.cols
 below:∀x∈xs,∀d∈x.2.1,d.1<s.next
 rows:∀x∈xs,x.1.2.1=x.2.2.length
def R6(D:DataW Unit)(H:List (Dn×Ah)):Prop:=∀k,k<=H.length->∃xs,C7 D (Ae H k) xs
theorem Gt.put{D:Td}{x:A6}(h:Gt D x){s:Tb}(b:Maps.has D (B.lit s)=false)(v:Td):Gt (D.put (B.lit s) v) x:=by
 have a:B.lit (Eh x.1.1)≠B.lit s:=λe=>by have:=h.has;rw[e,b] at this;cases this
 exact⟨by rw[Maps.has_put_other a];exact h.has,by rw[Maps.atKey_put_other a];exact h.Gw,h.ok,h.i64,h.name,h.mask⟩
theorem Xh.put{D:Td}{s:Ah}{xs:List A6}(h:Xh D s xs){t:Tb}(a:Maps.has D (B.lit t)=false)(v:Td):Xh (D.put (B.lit t) v) s xs :=
 ⟨h.files,λx b=>(h.each x b).put a v,h.Iz,h.eight,h.bare⟩
theorem C7.put{D:Td}{s:Ah}{xs:List A6}(h:C7 D s xs){t:Tb}(a:Maps.has D (B.lit t)=false)(v:Td):C7 (D.put (B.lit t) v) s xs :=
 ⟨h.Lz.put a v,h.link,h.below,h.rows⟩
theorem R6.put{D:Td}{H:List (Dn×Ah)}(h:R6 D H){s:Tb}(b:Maps.has D (B.lit s)=false)(v:Td):R6 (D.put (B.lit s) v) H:=λk a=>by
 obtain⟨xs,c⟩:=h k a;exact⟨xs,c.put b v⟩
theorem tG(p:Tb)(i:Nat):Eh p≠Ek i:=λe=>by
 have h:=congrArg (λb:Tb=>b.data.toList[0]?) e;simp[Eh,Ek,AAe] at h
theorem ACQ(h:U6 D H)(p:Tb)(v:Td):U6 (D.put (B.lit (Eh p)) v) H:=by
 refine⟨h.1.put _ _,λi b=>?_⟩;have a:B.lit (Ek (i+1))≠B.lit (Eh p):=λe=>tG p (i+1) (B.Jr e).symm
 rw[Maps.has_put_other a,Maps.atKey_put_other a];exact h.2 i b
theorem xA{x:Dn×Ah}{k:Nat}(a:k<=H.length):Ae (H++[x]) k=Ae H k:=by unfold Ae;rw[Yx a]
theorem AAM{x:Dn×Ah}:Ae (H++[x]) (H.length+1)=x.2:=by
 have:Ae (H++[x]) (H++[x]).length=x.2:=by rw[bR,Re]
 simpa using this
theorem R6.snoc(h:R6 D H){c:Dn}{t:Ah}{b:List A6}(f:C7 D t b):R6 D (H++[(c,t)]):=λk d=>by
 rcases Yc H.length k with a|a
 ·have e:k=H.length+1:=by simp at d;omega
  subst e;rw[AAM];exact⟨b,f⟩
 rw[xA a];exact h k a
theorem R0(h:Ma (-1) n m)(a:n<=60):m.length<=60:=by have:=fO n ((Mr n m (-1)).mpr h);omega
theorem C7.go{xs:List A6}(h:C7 D s xs)(g:Good Bv Cm s)(T:S.CT)(Eb:Int):C7 D ⟨Eb,s.cols,s.next,(xs.filterMap (pO s.cols T)).map (·.1)⟩ (xs.filterMap (pO s.cols T)):=by
 have c:∀y∈xs.filterMap (pO s.cols T),∃x∈xs,(y=x\/y=(N6 x.1 (Ct s.cols T x),x.2)):=λy b=>by
  obtain⟨x,a,e⟩:=List.mem_filterMap.1 b;refine⟨x,a,?_⟩;unfold pO at e;split at e
  ·injection e with e;exact .inl e.symm
  split at e
  ·cases e
  injection e with e;exact .inr e.symm
 refine⟨⟨rfl,λy b=>?_,XD (List.length_filterMap_le _ _) h.Lz.Iz,h.Lz.eight,λe=>?_⟩,λy b=>?_,λy b=>?_,λy b=>?_⟩
 ·obtain⟨x,a,rfl|rfl⟩:=c y b
  ·exact h.Lz.each _ a
  have f:=h.Lz.each x a;refine⟨f.has,f.Gw,f.ok,f.i64,f.name,?_⟩;show (Go.Proofs.YtbhhpheailbebaaGreatDoor.Ir (x.1.2.2++Ct s.cols T x)).length<=1000;have d:x.1∈s.files:=by rw[<-h.Lz.files];exact List.mem_map.2 ⟨x,a,rfl⟩
  have i:=R0 (g.Cl _ d) (g.rows _ d);have j:=R0 (O6 s.cols T x (h.rows x a)).1 (g.rows _ d);rw[Go.Proofs.YtbhhpheailbebaaGreatDoor.Ml,XC];omega
 ·have:xs=[]:=by
   have:=h.Lz.files;rw[h.Lz.bare e] at this;simpa using this
  subst this;rfl
 ·obtain⟨x,a,rfl|rfl⟩:=c y b
  ·exact h.link _ a
  exact h.link x a
 ·obtain⟨x,a,rfl|rfl⟩:=c y b
  ·exact h.below _ a
  exact h.below x a
 obtain⟨x,a,rfl|rfl⟩:=c y b
 ·exact h.rows _ a
 exact h.rows x a
theorem C7.add{xs:List A6}(h:C7 D s xs){path:Tb}{rows:List (List V)}(k:Gt D ((path,(rows.length:Int),[]),s.cols,rows))(o:∀d∈s.cols,d.1<s.next)(p:xs.length<1000)(Eb:Int):C7 D ⟨Eb,s.cols,s.next,s.files++[(path,(rows.length:Int),[])]⟩ (xs++[((path,(rows.length:Int),[]),s.cols,rows)]):=by
 have g:=(B4.mp k.ok).1;have f:s.cols≠[]:=λe=>by have:=g.one;simp[e] at this
 refine⟨⟨by rw[XI,h.Lz.files];rfl,λy a=>?_,by simp;omega,h.Lz.eight,λe=>absurd e f⟩,λy a=>?_,λy a=>?_,λy a=>?_⟩
 ·rcases List.mem_append.1 a with a|a
  ·exact h.Lz.each y a
  simp at a;subst a;exact k
 ·rcases List.mem_append.1 a with a|a
  ·exact h.link y a
  simp at a;subst a;refine Lk.self ?_;rw[Yv];intro i j b l c;have:=g.once i j c l;show (s.cols[i]).1≠(s.cols[j]).1;have m:(s.cols[i]?.getD zC)=s.cols[i]:=by rw[Y' b];rfl
  have n:(s.cols[j]?.getD zC)=s.cols[j]:=by rw[Y' l];rfl
  show s.cols[i].1≠s.cols[j].1
  change (s.cols[i]?.getD zC).1≠(s.cols[j]?.getD zC).1 at this
  rw[m,n] at this;exact this
 ·rcases List.mem_append.1 a with a|a
  ·exact h.below y a
  simp at a;subst a;exact o
 rcases List.mem_append.1 a with a|a
 ·exact h.rows y a
 simp at a;subst a;rfl
theorem C7.cols{xs:List A6}(h:C7 D s xs){next:Int}(a:l.length<=8)(c:l≠[])(b:∀x∈xs,Lk x.2.1 l)(f:s.next<=next)(Eb:Int):C7 D ⟨Eb,l,next,s.files⟩ xs :=
 ⟨⟨h.Lz.files,h.Lz.each,h.Lz.Iz,a,λe=>absurd e c⟩,b,λx hx d hd=>by have:=h.below x hx d hd;show d.1<next;omega,h.rows⟩
def wK(i:Nat):ByteArray:=⟨#[116,UInt8.ofNat (97+i % 26),UInt8.ofNat (97+i / 26 % 26)]⟩
theorem AAm{x:Nat}(h:x<256):((UInt8.ofNat x).toNat:Int)=(x:Int):=by rw[UInt8.toNat_ofNat'];omega
theorem AJt(i:Nat)(w:Tw):(convert 81 9 (Zs (some ⟨w.heap.size,0,none⟩) 2 2)).run prog (w.alloc (Zk #[.int .u8 (97+(i:Int) % 26),.int .u8 (97+(i:Int) / 26 % 26)] 5))=.ok (Zt ⟨#[UInt8.ofNat (97+i % 26),UInt8.ofNat (97+i / 26 % 26)]⟩) (w.alloc (Zk #[.int .u8 (97+(i:Int) % 26),.int .u8 (97+(i:Int) / 26 % 26)] 5)) :=
 run_convert_bytes_back _ 81 9 5 ⟨w.heap.size,0,none⟩ 2 [UInt8.ofNat (97+i % 26),UInt8.ofNat (97+i / 26 % 26)] underlying81 underlying5 underlying9 (λj c=>by
  have a:=AAm (x:=97+i % 26) (by omega);have b:=AAm (x:=97+i / 26 % 26) (by omega)
  match j,c with
  | 0,_=>simp[Addr.add,XT];push_cast at a;omega
  | 1,_=>simp[Addr.add,XT];push_cast at b;omega)
theorem ADi(i:Nat)(f:i<=600)(w:Tw):
 Zc 8 #[Zi (i:Int)] w λe d=>e=Zr (Zt (wK i))/\Zb w d:=by
 have c:=AJt i w;have a:Hid ((⟨#[116]⟩:Tb)++⟨#[UInt8.ofNat (97+i % 26),UInt8.ofNat (97+i / 26 % 26)]⟩=wK i):=Aa rfl;have b:(⟨#[UInt8.ofNat (97+i % 26),UInt8.ofNat (97+i / 26 % 26)]⟩:Tb).size=2:=rfl;generalize (⟨#[UInt8.ofNat (97+i % 26),UInt8.ofNat (97+i / 26 % 26)]⟩:Tb)=B at c a b;generalize wK i=C at a ⊢;go_enter func8,ntmps8;go_wp2;refine bodyPost_ret (v:=Zt (⟨#[116]⟩++B)) ?_ rfl ?_
 ·simp[results,results8,go_sem]
 exact⟨congrArg (λx=>Ending.returned (Zt x)) a.o,Zal⟩
theorem AHh(e:i<676)(f:j<676)(h:wK i=wK j):i=j:=by unfold wK at h;have d:=congrArg ByteArray.data h;have a:=congrArg Array.toList d;simp only[List.cons.injEq,and_true,true_and] at a;have b:=congrArg UInt8.toNat a.1;have c:=congrArg UInt8.toNat a.2;rw[UInt8.toNat_ofNat',UInt8.toNat_ofNat'] at b c;omega
def Bw(a:ByteArray)(k:Nat):ByteArray:=⟨(a.data.toList++95 :: Lib.itoa (k:Int)).toArray⟩
def Plain(a:ByteArray):Prop:=∀x∈a.data.toList,x≠95
theorem jV{α:Type}{c:α}:∀{a b x y:List α},(∀z∈a,z≠c)->(∀z∈b,z≠c)->a++c :: x=b++c :: y->a=b/\x=y
 | [],[],_,_,_,_,h=>by simpa using h
 | [],z :: b,_,_,_,hb,h=>by simp at h;exact absurd h.1.symm (hb z (Yf ..))
 | z :: a,[],_,_,ha,_,h=>by simp at h;exact absurd h.1 (ha z (Yf ..))
 | z :: a,u :: b,x,y,ha,hb,h=>by simp at h;obtain⟨d,e⟩:=h;obtain⟨f,g⟩:=jV (λw hw=>ha w (Yg _ hw)) (λw hw=>hb w (Yg _ hw)) e;exact⟨by rw[d,f],g⟩
theorem AHM{a b:List UInt8}(h:(⟨a.toArray⟩:Tb)=⟨b.toArray⟩):a=b:=by have:=congrArg (λx:Tb=>x.data.toList) h;simpa using this
theorem S5{t u:Tb}{k:Nat}(e:Plain t)(f:Plain u)(h:Bw t i=Bw u k):t=u/\(i<=1000000->k<=1000000->i=k):=by
 obtain⟨b,c⟩:=jV e f (AHM h);refine⟨?_,?_⟩
 ·have:t.data=u.data:=Array.toList_inj.mp b
  exact ByteArray.ext this
 intro g j;have a:=Vy (n:=(i:Int)) (by omega) (by omega);have d:=Vy (n:=(k:Int)) (by omega) (by omega);rw[c,d] at a;injection a with a;omega
theorem Uw{p q:Tb}(h:Eh p=Eh q):p=q:=by have a:=congrArg (λb:Tb=>b.data.toList) h;simp[Eh] at a;exact ByteArray.ext a
def Used(D:DataW Unit)(U:List ByteArray):Prop:=∀p,Maps.has D (B.lit (Eh p))=true->∃tx∈U,∃k,p=Bw tx k
theorem Used.nil:Used (.map []) []:=λp h=>by simp[Maps.has] at h
theorem Used.fresh(h:Used D U){s:Tb}(d:¬s∈U)(f:Plain s)(c:∀u∈U,Plain u)(k:Nat):Maps.has D (B.lit (Eh (Bw s k)))=false:=by
 cases e:Maps.has D (B.lit (Eh (Bw s k))) with
 | false=>rfl
 | true=>obtain⟨u,a,i,b⟩:=h _ e;obtain⟨rfl,_⟩:=S5 f (c u a) b;exact absurd a d
theorem Used.more{a:List Tb}(h:Used D U)(c:∀u∈U,u∈a):Used D a:=λp b=>by
 obtain⟨u,d,k,e⟩:=h p b;exact⟨u,c u d,k,e⟩
theorem Used.put{D:Td}{U:List Tb}(h:Used D U){s:Tb}(c:s∈U)(k:Nat)(v:Td):Used (D.put (B.lit (Eh (Bw s k))) v) U:=λp a=>by
 by_cases e:p=Bw s k
 ·exact⟨s,c,k,e⟩
 rw[Maps.has_put_other (λb=>e (Uw (B.Jr b)))] at a;exact h p a
theorem Used.log(h:Used D U)(i:Nat)(v:Td):Used (D.put (B.lit (Ek i)) v) U:=λp a=>by
 rw[Maps.has_put_other (λb=>tG p i (B.Jr b))] at a;exact h p a
theorem AFl(i:Nat):Plain (wK i):=λx a=>by
 simp[wK] at a
 rcases a with rfl|rfl|rfl
 ·decide
 ·intro e
  have:=congrArg UInt8.toNat e;rw[UInt8.toNat_add,UInt8.toNat_ofNat'] at this;simp at this;omega
 intro e;have:=congrArg UInt8.toNat e;rw[UInt8.toNat_add,UInt8.toNat_ofNat'] at this;simp at this;omega
def PA(w:World)(base i:Nat):Prop:=base<=i/\∃cs T,w.heap[i]? = some (.cells cs T (0,0))/\(T=116\/T=144)
structure Mv(base bb:Nat)(mv mv':Value)(w w':World):Prop where
 only:B.A0 (λi=>B.Own bb mv i\/PA w base i) w w'
 link:∀k,mv'=.map (some k)->mv=.map (some k)\/w.heap.size<=k
 stay:B.St mv mv'
theorem Mv.trans{base bb:Nat}{mv v u:Tv}{w W r:Tw}(h:Mv base bb mv v w W)(k:Mv base bb v u W r):Mv base bb mv u w r:=by
 refine⟨h.only.trans k.only λi f e=>?_,λj a=>?_,λj a=>(k.stay j ((h.stay j a).trans a)).trans (h.stay j a)⟩
 ·rcases e with(e|e)|⟨b,cs,T,c,d⟩
  ·exact .inl (.inl e)
  ·rcases h.link i e with e|e
   ·exact .inl (.inr e)
   omega
  by_cases hs:B.Own bb mv i\/PA w base i
  ·exact hs
  exact .inr ⟨b,cs,T,(h.only.block i f hs).symm.trans c,d⟩
 rcases k.link j a with e|e
 ·exact h.link j e
 exact .inr (XD h.only.size e)
theorem Mv.below{base bb:Nat}{mv:Tv}(h:Zb w W):Mv base bb mv mv w W:=⟨B.A0.Ba h,λ_ e=>.inl e,B.St.refl _⟩
theorem Mv.refl{base bb:Nat}{mv:Tv}{w:Tw}:Mv base bb mv mv w w:=Mv.below (Y9 _ _)
theorem Mv.put{base bb:Nat}{mv v:Tv}(h:B.A0 (B.Own bb mv) w W)(a:(∀k,v=.map (some k)->mv=.map (some k)\/w.heap.size<=k)/\B.St mv v):Mv base bb mv v w W:=⟨h.mono λ_ _ e=>.inl e,a.1,a.2⟩
theorem Mv.o{base bb:Nat}{mv v:Tv}(h:Mv base bb mv v w W)(a:w.heap.size<=base):B.A0 (B.Own bb mv) w W :=
 h.only.mono λi b e=>e.elim id λe=>by have:=e.1;omega
theorem Mv.ACV{base bb:Nat}{mv:Tv}(h:B.A0 (PA w base) w W):Mv base bb mv mv w W:=⟨h.mono λ_ _ e=>.inr e,λ_ e=>.inl e,B.St.refl _⟩
theorem Mv.zG{base bb n:Nat}{fs:List Int}{mv v u:Tv}(h:Mv base bb mv u w W)(g:B.Bu w bb n D fs mv v){cs:Array Tv}{T:TypeId}(a:w.heap[i]? = some (Zk cs T (0,0)))(o:T≠30)(p:T≠116)(q:T≠144):W.heap[i]? = some (Zk cs T (0,0)):=by
 refine(h.only.block i (Ac a) ?_).trans a;rintro((e|e)|⟨_,j,r,b,c⟩)
 ·subst e
  have d:w.heap[i]? = _:=g.1;rw[d] at a;injection a with a;injection a with _ a;exact o a.symm
 ·rcases g.2.1 with⟨l,_⟩|⟨m,k,es,clock,f,_⟩
  ·rw[l] at e;cases e
  rw[k] at e;cases e;rw[f] at a;cases a
 rw[a] at b;injection b with b;injection b with _ b;subst b
 rcases c with c|c
 ·exact p c
 exact q c
theorem Mv.row{base bb n:Nat}{fs:List Int}{mv u f:Tv}(h:Mv base bb mv f w W)(p:B.Bu w bb n D fs mv u){b z m:Nat}{T:TypeId}{xs:List Tv}(i:w.ownsRow b T z v m xs)(k:T≠30)(l:T≠116)(o:T≠144):W.ownsRow b T z v m xs:=by
 refine⟨i.1,?_⟩
 rcases i.2 with j|⟨g,c,a,r,d,q,e⟩
 ·exact .inl j
 exact .inr ⟨g,c,a,r,d,h.zG p q k l o,e⟩
theorem Mv.snap{base bb n:Nat}{fs:List Int}{mv u f:Tv}(h:Mv base bb mv f w W)(b:B.Bu w bb n D fs mv u)(i:Dl w s v):Dl W s v:=by obtain⟨c,c1,d,g,L,e,a⟩:=i;exact⟨c,c1,d,g,L,e,h.row b a.cols (by decide) (by decide) (by decide),a.files,h.row b a.row (by decide) (by decide) (by decide),λx j=>h.row b (a.Cl x j) (by decide) (by decide) (by decide)⟩
theorem Mv.AKi{base bb n:Nat}{fs:List Int}{mv v u:Tv}(h:Mv base bb mv u w W)(a:B.Bu w bb n D fs mv v){b:Nat}{q:Gx}(c:pC b w q):pC b W q :=
 ⟨h.row a c.1 (by decide) (by decide) (by decide),h.row a c.2 (by decide) (by decide) (by decide)⟩
theorem Mv.slO{base bb n:Nat}{fs:List Int}{mv u f:Tv}(h:Mv base bb mv f w W)(a:B.Bu w bb n D fs mv u){b:Nat}{rows:List (List V)}(g:Sc b w v rows):Sc b W v rows:=by obtain⟨l,c,d,e⟩:=g;exact⟨l,c,h.row a d (by decide) (by decide) (by decide),λj x r k i=>h.row a (e j x r k i) (by decide) (by decide) (by decide)⟩
theorem Kv{w0 w W:Tw}{k base bb n:Nat}{fs:List Int}{mv v:Tv}(h:Ey w0 w k bb n D fs mv v)(U:k<=base)(P:w0.heap.size<=base)(p:B.A0 (PA w base) w W):Ey w0 W k bb n D fs mv v:=by
 obtain⟨q,c,L⟩:=h.bu
 have s:¬PA w base bb:=by
  rintro⟨_,cs,T,b,o⟩;have r:w.heap[bb]? = _:=q;rw[r] at b;injection b with b;injection b with _ b;subst b
  rcases o with o|o <;> exact absurd o (by decide)
 refine⟨⟨q.keep (p.block bb q.lt s),c.keep λm e=>p.block m (c.lt e) ?_,?_⟩,p.below h.low h.low.size (λi hi=>XD P hi.1),h.hb,h.hm,h.er,h.nc,h.tb,h.hf⟩
 ·rintro⟨_,cs,T,b,_⟩
  rcases c with⟨J,_⟩|⟨V,G,es,clock,t,_⟩
  ·rw[J] at e;cases e
  rw[G] at e;cases e;rw[t] at b;cases b
 obtain⟨a,j,e,M,N⟩:=L;refine⟨a,j,e,M,λz=>?_⟩;obtain⟨g,off,u,d⟩:=N z;refine⟨g,off,u,λi x R=>?_⟩
 have O:g<k:=by
  cases hfs:fs with
  | nil=>exact absurd hfs z
  | cons y l=>refine h.hf g off l.length j ?_;rw[e,u,hfs];rfl
 have f:=d i x R;have I:=p.block g (Fv f) (λe=>by have:=e.1;omega);simp only[World.cell?,I] at f ⊢;exact f
structure Dv(base:Nat)(w:World)(pb:Nat)(s:Ah)(v:Int)(a1:Option Addr)(n1 c1:Nat)(x2:Int)(a2:Option Addr)(n2 c2:Nat)(tx:ByteArray)(rd:Bool)(aa:Option Addr)(ac:Nat)(L:List Gx)(rows:Int):Prop where
 box:w.heap[pb]? = some (.cells #[Zi v,.slice a1 n1 c1,Zi x2,.slice a2 n2 c2,.string tx,.bool rd,.slice aa L.length ac,Zi rows] 116 (0,0))
 snap:Dl w s (K4 v a1 n1 c1 x2 a2 n2 c2)
 row:w.ownsRow base 144 6 (.slice aa L.length ac) L.length (Ci L)
 own:∀q∈L,pC 0 w q
 Vv:∀q∈L,pM q.1
 low:base<=pb
theorem Dv.up{base:Nat}{w W:Tw}{n:Nat}{s:Ah}{v:Int}{b:To}{n1 c1:Nat}{x:Int}{c:To}{n2 k:Nat}{t:Tb}{f:Bool}{d:To}{i:Nat}{L:List Gx}{rows:Int}(h:Dv base w n s v b n1 c1 x c n2 k t f d i L rows)(a:Zb w W):Dv base W n s v b n1 c1 x c n2 k t f d i L rows :=
 ⟨(a.block _ (Ac h.box)).trans h.box,h.snap.up a,Bc h.row a,λq e=>⟨Bc (h.own q e).1 a,Bc (h.own q e).2 a⟩,h.Vv,h.low⟩
theorem Dv.put{base:Nat}{w W:Tw}{k:Nat}{s:Ah}{v:Int}{o:To}{n1 c1:Nat}{x:Int}{p:To}{n2 i:Nat}{t:Tb}{y:Bool}{r:To}{j:Nat}{L:List Gx}{rows:Int}{bb n:Nat}{D:Td}{fs:List Int}{mv u:Tv}(h:Dv base w k s v o n1 c1 x p n2 i t y r j L rows)(a:B.Bu w bb n D fs mv u)(f:B.A0 (B.Own bb mv) w W):Dv base W k s v o n1 c1 x p n2 i t y r j L rows:=by
 have m:Mv 0 bb mv mv w W:=Mv.put f ⟨λ_ e=>.inl e,B.St.refl _⟩;refine⟨Ut a f h.box (by decide),m.snap a h.snap,⟨h.row.1,?_⟩,λq I=>m.AKi a (h.own q I),h.Vv,h.low⟩
 rcases h.row.2 with z|⟨g,c,b,J,d,G,l⟩
 ·exact .inl z
 exact .inr ⟨g,c,b,J,d,Ut a f G (by decide),l⟩
theorem F2{b:Nat}{v u f a e c d g:Tv}{t:TypeId}(h:W.heap[b]? = some (Zk #[v,u,f,a,e,c,d,g] t (0,0))):
 W.cell? ⟨b,0,none⟩=some v/\W.cell? ⟨b,1,none⟩=some u/\W.cell? ⟨b,2,none⟩=some f/\W.cell? ⟨b,3,none⟩=some a/\W.cell? ⟨b,4,none⟩=some e/\W.cell? ⟨b,5,none⟩=some c/\W.cell? ⟨b,6,none⟩=some d/\W.cell? ⟨b,7,none⟩=some g/\∀i,W.frozen? ⟨b,i,none⟩=false:=by
 simp[World.cell?,World.frozen?,h]
theorem AK4{b:Nat}{u f a e c d i g:Tv}{t:TypeId}(h:W.heap[b]? = some (Zk #[u,f,a,e,c,d,i,g] t (0,0)))(v:Tv):(W.setCell ⟨b,6,none⟩ v).heap[b]? = some (Zk #[u,f,a,e,c,d,v,g] t (0,0)):=by have:=As W b 6 _ _ v h;simpa using this
theorem sN{base:Nat}{t T:TypeId}{z:Nat}{n:Nat}{xs:List Tv}{b i:Nat}{u:Tv}{cs:Array Tv}(h:W.ownsRow base t z v n xs)(f:W.heap[b]? = some (Zk cs T (0,0)))(c:t≠T):(W.setCell ⟨b,i,none⟩ u).ownsRow base t z v n xs :=
 Az h (Aq W b i u) λk g e=>by injection e with e;subst e;obtain⟨d,a⟩:=Go.Proofs.YtbhhpheailbebaaGreatDoor.Ho h g;rw[f] at a;injection a with a;injection a with _ a;exact c a.symm
theorem N3(base O:Nat)(s:Ah)(v:Int)(a1:To)(n1 c1:Nat)(x2:Int)(a2:To)(n2 c2:Nat)(tx:Tb)(rd:Bool)(aa:To)(ac:Nat)(L:List Gx)(rows:Int)(w:Tw)(hP:Dv base w O s v a1 n1 c1 x2 a2 n2 c2 tx rd aa ac L rows)(al:base<=w.heap.size)(k:Int)(p:Tb)(r:Int)(M:List Int)(C:List Aj)(d:Int)(t:To)(D y:Nat)(f:To)(n l:Nat)(o:pC 0 w ((k,p,r,M,C,d),(t,D,y),(f,n,l)))(hf:pM (k,p,r,M,C,d))(hL:L.length<=1000):
 Zc 65 #[Zp (some ⟨O,0,none⟩),Zg #[Zi k,Zt p,Zi r,Zs t D y,Zs f n l,Zi d]] w λe w'=>e=Zr (Zu #[])/\(∃U V,Dv base w' O s v a1 n1 c1 x2 a2 n2 c2 tx rd U V (L++[((k,p,r,M,C,d),(t,D,y),(f,n,l))]) rows)/\B.A0 (PA w base) w w':=by
 obtain⟨t0,t1,t2,t3⟩:=C1 w (Zk #[Zi k,Zt p,Zi r,Zs t D y,Zs f n l,Zi d] 144) (Zk #[Zi k,Zt p,Zi r,Zs t D y,Zs f n l,Zi d] 144);have HB:=Aa t3;have HX:=Aa t2;have c:=Aa hP;have HP:=Aa (hP.up t3);have HQ:=Aa o;have HF:=Aa hf;obtain⟨iA,ad,X⟩:=Option.map_eq_some_iff.1 gO;simp only[Prod.mk.injEq] at X;have N:=Aa (And.intro ad X);have ao:O<w.heap.size:=Ac hP.box;obtain⟨x0,x1,y2,x3,x4,x5,x6,x7,xf⟩:=F2 hP.box;have ak:=Aa t0;clear hP o hf t0 t1 t2 t3 ad X;have ah:Hid (((w.alloc (Zk #[Zi k,Zt p,Zi r,Zs t D y,Zs f n l,Zi d] 144)).alloc (Zk #[Zi k,Zt p,Zi r,Zs t D y,Zs f n l,Zi d] 144)).drew.ownsRow base 144 6 (Zs aa L.length ac) L.length (Ci L)):=Aa HP.o.row;have ag:Hid (((w.alloc (Zk #[Zi k,Zt p,Zi r,Zs t D y,Zs f n l,Zi d] 144)).alloc (Zk #[Zi k,Zt p,Zi r,Zs t D y,Zs f n l,Zi d] 144)).drew.heap[w.heap.size+1]? = some (Zk #[Zi k,Zt p,Zi r,Zs t D y,Zs f n l,Zi d] 144)):=Aa HX.o;have I:=Aa (HP.o.up ((Y9 _ _).drew));have Y:Hid (Zb w ((w.alloc (Zk #[Zi k,Zt p,Zi r,Zs t D y,Zs f n l,Zi d] 144)).alloc (Zk #[Zi k,Zt p,Zi r,Zs t D y,Zs f n l,Zi d] 144)).drew):=Aa (HB.o.drew)
 have af:Hid (∀(g P:Nat)(w5:Tw),w5.ownsRow base 144 6 (Zs (some ⟨g,0,none⟩) (L.length+1) P) (L.length+1) (Ci L++[Zi k,Zt p,Zi r,Zs t D y,Zs f n l,Zi d])->((w.alloc (Zk #[Zi k,Zt p,Zi r,Zs t D y,Zs f n l,Zi d] 144)).alloc (Zk #[Zi k,Zt p,Zi r,Zs t D y,Zs f n l,Zi d] 144)).drew.grownBy w5 (Value.slice aa L.length ac).ownBlock->((∃U V,Dv base (w5.setCell ⟨O,6,none⟩ (Zs (some ⟨g,0,none⟩) (L.length+1) P)) O s v a1 n1 c1 x2 a2 n2 c2 tx rd U V (L++[((k,p,r,M,C,d),(t,D,y),(f,n,l))]) rows)/\B.A0 (PA w base) w (w5.setCell ⟨O,6,none⟩ (Zs (some ⟨g,0,none⟩) (L.length+1) P)))):=Aa (λg P w5 R G=>by
  have HY:=Hq I.o.box I.o.row (by decide) G
  have a:∀{b z m:Nat}{T:TypeId}{u:Tv}{xs:List Tv},w.ownsRow b T z u m xs->T≠144->T≠116->(w5.setCell ⟨O,6,none⟩ (Zs (some ⟨g,0,none⟩) (L.length+1) P)).ownsRow b T z u m xs:=λh h1 h2=>by have h5:=j8 (Bc h Y.o) I.o.row h1 G;exact sN h5 HY h2
  refine⟨⟨some ⟨g,0,none⟩,P,?_,?_,?_,?_,?_,c.o.low⟩,?_⟩
  ·rw[XC]
   exact AK4 HY _
  ·obtain⟨b1,d1,b2,d2,E,e,hV⟩:=c.o.snap
   exact⟨b1,d1,b2,d2,E,e,a hV.cols (by decide) (by decide),hV.files,a hV.row (by decide) (by decide),λx hx=>a (hV.Cl x hx) (by decide) (by decide)⟩
  ·have h5:=sN (i:=6) (u:=Zs (some ⟨g,0,none⟩) (L.length+1) P) R HY (by decide)
   rw[XC];simpa[Ci,nU,sv] using h5
  ·intro q o
   rcases List.mem_append.1 o with o|o
   ·exact⟨a (c.o.own q o).1 (by decide) (by decide),a (c.o.own q o).2 (by decide) (by decide)⟩
   simp at o;subst o;exact⟨a HQ.o.1 (by decide) (by decide),a HQ.o.2 (by decide) (by decide)⟩
  ·intro q o
   rcases List.mem_append.1 o with o|o
   ·exact c.o.Vv q o
   simp at o;subst o;exact HF.o
  refine((B.A0.Ba Y.o).grown G λm hm am=>?_).setCell (λ_=>⟨c.o.low,_,_,c.o.box,.inl rfl⟩) _;obtain⟨ai,hc⟩:=Go.Proofs.YtbhhpheailbebaaGreatDoor.Ho c.o.row hm;exact⟨Fu c.o.row hm,ai,_,hc,.inr rfl⟩)
 have aj:Hid (base<=w.heap.size+1+1):=Aa (by omega);have an:O≠w.heap.size:=by omega
 go_enter func65,ntmps65;go_wp2_with fail
 go_region_law
  (first
    | (refine step_append_lies _ (by rfl) (.tmp 9) (.tmp 11) 84 (by rfl) base 144 iA Mi 6 88 underlying84 N.o.1 N.o.2.1 N.o.2.2.1 N.o.2.2.2 rfl (by decide) (.slice aa L.length ac) L.length _ (by rfl) ah.o ⟨w.heap.size+1,0,none⟩ 1 1 [Zi k,.string p,Zi r,.slice t D y,.slice f n l,Zi d] (by rfl) rfl (λj u hj=>XJ ag.o j u hj) (by intro u hu;simp only[List.mem_cons,List.not_mem_nil,or_false] at hu;rcases hu with rfl|rfl|rfl|rfl|rfl|rfl <;> rfl) (by omega) (by unfold maxLen;omega) (by omega) (by simp;omega) _ rfl ?_
       intro a' P w5 J W ab ae;have R:=Aa J;have G:=Aa W;have HY:=Aa (Hq I.o.box I.o.row (by decide) W);obtain⟨z0,z1,z2,z3,z4,z5,z6,z7,zf⟩:=F2 HY.o;clear J W ab ae)
    | fail)
 all_goals exact⟨rfl,Zu #[],by simp[results,results65,go_sem],rfl,af.o _ _ _ R.o G.o⟩
theorem kN(bb n:Nat)(D:Td)(mv:Tv)(H:List (Dn×Ah))(a:Tb)(w:Tw)(h:Ground w bb n D mv)(v:U6 D H)(x:La H)(O5:H.length<=40)(o:Bx a=true)(I:a.size<=12):
 Zc 62 #[Zp (some ⟨bb,0,none⟩),Zt a] w λe G=>∃y g n1 c1 p i n2 j,e=Zr (Zu #[Zp (some ⟨y,0,none⟩),Zn])/\Dv w.heap.size G y (Ae H H.length) (H.length:Int) g n1 c1 p i n2 j a false none 0 [] 0/\Zb w G:=by
 have r:=Aa (Mn a w (by unfold maxLen;omega));rw[o] at r;have d:=Aa (λW(J:Zb w W)=>Ua bb n D mv H (-1) H.length W (h.up J) v x O5 (XB _) (.inl ⟨by decide,rfl⟩));have u:¬(12:Int)<(a.size:Int):=by omega
 clear h v x o;generalize Ae H H.length=O at *;go_enter func62,ntmps62;go_wp2_with fail;refine r.o.mono ?_;rintro e P⟨rfl,l⟩;have b:=Aa l;clear l r;go_wp2_with fail;refine(d.o _ b.o).mono ?_;rintro e N⟨g,n1,c1,p,i,n2,j,rfl,k,m⟩;have f:=Aa k;have c:=Aa (Ap b.o m);clear k m d;unfold K4 at f ⊢;obtain⟨M,t1,t2,z⟩:=C1 N (Zk #[Zi (H.length:Int),Zs g n1 c1,Zi p,Zs i n2 j] 42) (Zk #[Zi (H.length:Int),Zs g n1 c1,Zi p,Zs i n2 j,Zt a,Zo false,Zs none 0 0,Zi 0] 116);have s:=Aa (And.intro t2 z);have L:=c.o.size;clear M t1 t2 z;go_wp2_with fail;go_ret2;refine⟨_,g,n1,c1,p,i,n2,j,rfl,⟨s.o.1,f.o.up s.o.2,XF _ _ _ _,(λq t=>by cases t),(λq t=>by cases t),by omega⟩,Ap c.o s.o.2⟩
theorem fH(bb n:Nat)(D:Td)(mv:Tv)(H:List (Dn×Ah))(i:Tb)(w:Tw)(h:Ground w bb n D mv)(t:U6 D H)(u:La H)(O5:H.length<=40)(g:Bx i=true)(d:i.size<=12):
 Zc 66 #[Zp (some ⟨bb,0,none⟩),Zt i] w λe v=>Zb w v/\(((Ae H H.length).cols=[]/\e=Zr (Zu #[Zp none,Zf 90 (Zi 6)]))\/((Ae H H.length).cols≠[]/\∃k m n1 c1 s o n2 p,e=Zr (Zu #[Zp (some ⟨k,0,none⟩),Zn])/\Dv w.heap.size v k (Ae H H.length) (H.length:Int) m n1 c1 s o n2 p i false none 0 [] 0)):=by
 have c:=Aa (kN bb n D mv H i w h t u O5 g d);clear h t u g d;generalize Ae H H.length=a at *;go_enter func66,ntmps66;go_wp2_with fail;refine c.o.mono ?_;rintro e y⟨k,m,n1,c1,s,o,n2,p,rfl,j,f⟩
 have r:n1=a.cols.length:=by obtain⟨_,_,_,_,_,e,_⟩:=j.snap;unfold K4 at e;simp only[Value.agg.injEq,Array.mk.injEq,List.cons.injEq,Value.int.injEq,Value.slice.injEq] at e;exact e.2.1.2.1
 subst r;have x:=Aa j;have b:=Aa f;obtain⟨z,G,I,J,L,M,N,O,P⟩:=F2 j.box;clear j f c
 by_cases hc:a.cols.length=0
 ·have l:Hid (a.cols=[]):=Aa (List.length_eq_zero_iff.1 hc)
  have q:((a.cols.length:Nat):Int)=0:=by omega
  go_wp2_with fail;go_ret2;exact⟨b.o,.inl ⟨l.o,rfl⟩⟩
 have l:Hid (a.cols≠[]):=Aa (λe=>hc (by rw[e];rfl));have q:¬((a.cols.length:Nat):Int)=0:=by omega
 go_wp2_with fail;go_ret2;exact⟨b.o,.inr ⟨l.o,k,m,_,c1,s,o,n2,p,rfl,x.o⟩⟩
theorem AGy(w:Tw):(binOp .neq 32 Zn (Zf 90 (Zi 14))).run prog w=.ok (Zo true) w:=by kernel_rfl
theorem AEO(w:Tw):(binOp .neq 32 (Zf 90 (Zi 14)) (Zf 90 (Zi 14))).run prog w=.ok (Zo false) w:=by kernel_rfl
theorem Vo{w0 w:Tw}{j bb n:Nat}{fs:List Int}{mv v:Tv}(h:Ey w0 w j bb n D fs mv v)(I:n<100000)(d:Tb)(t:d.size<=1000)(s:Tb)(y:s.size<=maxLen)(r:Int×Td×List Int)(x:B.bM D fs d s=r):
 Zc 78 #[Zp (some ⟨bb,0,none⟩),Zt d,Zt s] w λe q=>e=Zr (B.L8 r.1)/\∃a f,Ey w0 q j bb (n+1) r.2.1 r.2.2 a f/\B.A0 (B.Own bb mv) w q/\(∀k,a=.map (some k)->mv=.map (some k)\/w.heap.size<=k)/\B.St mv a:=by
 refine(B.ABa bb n D fs mv v d s w h.bu (by unfold maxLen;omega) (by unfold maxLen;omega) y).mono ?_;rw[x];rintro e q⟨rfl,a,f,m,u,g,o,p⟩;refine⟨rfl,a,f,⟨m,u.below h.low h.low.size ?_,h.hb,λk t=>?_,h.er,h.nc,h.tb,λb off l c e=>?_⟩,u,g,p⟩
 ·rintro i (rfl|e)
  ·exact h.hb
  exact h.hm i e
 ·rcases g k t with e|e
  ·exact h.hm k e
  exact XD h.low.size e
 obtain⟨G,z,c0,e0⟩:=o b off l c e;exact h.hf b G z c0 e0
def ABM(w0 w:World)(g bb n:Nat)(D:DataW Unit)(fs:List Int)(mv:Value)(d s:ByteArray)(e:Ending)(f:World):Prop :=
 ∃a c b,Ey w0 f g bb (n+1) b fs.tail a c/\B.A0 (B.Own bb mv) w f/\((∀k,a=.map (some k)->mv=.map (some k)\/w.heap.size<=k)/\B.St mv a) /\
  ((fs.headD 0≠1/\e=.returned .nilIface/\b=D.put (B.lit d) (B.Gw s))\/(fs.headD 0=1/\e=.returned (.iface 90 (.int .i64 14))/\b=D))
theorem oD(w0:Tw)(M bb n:Nat)(D:Td)(fs:List Int)(mv T:Tv)(a s:Tb)(w:Tw)(h:Ey w0 w M bb n D fs mv T)(J:n<100000)(N:Maps.IsMap D)(u:B.Wz a=true)(f:Maps.has D (B.lit a)=false)(L:s.size<=maxLen):
 Zc 110 #[Zp (some ⟨bb,0,none⟩),Zt a,Zt s] w (ABM w0 w M bb n D fs mv a s):=by
 have O:a.size<=60:=by simp[B.Wz] at u;exact u.2
 have b:B.bM D fs a s=if fs.headD 0=1 then (14,D,fs.tail) else if fs.headD 0=2 then (14,D.put (B.lit a) (B.Gw s),fs.tail) else (0,D.put (B.lit a) (B.Gw s),fs.tail):=by unfold B.bM;rw[u,f];rfl
 have V:=AGy;have W:=AEO
 by_cases h1:fs.headD 0=1
 ·rw[if_pos h1] at b
  have c:=Aa (Vo h J a (by omega) s L _ b);rw[show B.L8 ((14:Int),D,fs.tail).1=Value.iface 90 (Zi 14) from rfl] at c;have x:=Aa h1;have I:=Aa f;clear h b f h1 u;go_enter func110,ntmps110;go_wp2_with fail;refine c.o.mono ?_;rintro e z⟨rfl,j,o,d,i,g⟩;have m:=Aa (B.aP bb (n+1) D j a z d.ground.c0 d.ground.th (by unfold maxLen;omega));unfold B.Um at m;rw[if_neg (by rw[I.o];decide)] at m;rw[show B.L8 7=Value.iface 90 (Zi 7) from rfl] at m;have k:=Aa (And.intro d (And.intro i g));clear d i g c;go_wp2_with fail;refine m.o.mono ?_;rintro e U⟨t,rfl,_,_,p⟩;have l:=Aa p;clear p m;go_wp2_with fail;go_ret;exact⟨j,o,D,k.o.1.up l.o,k.o.2.1.trans (B.A0.Ba (S:=λ_=>False) l.o) (λ_ _ h=>h.elim),k.o.2.2,.inr ⟨x.o,rfl,rfl⟩⟩
 rw[if_neg h1] at b
 by_cases h2:fs.headD 0=2
 ·rw[if_pos h2] at b
  have c:=Aa (Vo h J a (by omega) s L _ b);rw[show B.L8 ((14:Int),D.put (B.lit a) (B.Gw s),fs.tail).1=Value.iface 90 (.int .i64 14) from rfl] at c;have x:=Aa h1;have q:Hid (Maps.has (D.put (B.lit a) (B.Gw s)) (B.lit a)=true/\(D.put (B.lit a) (B.Gw s)).atKey (B.lit a) (B.Gw ByteArray.empty)=B.Gw s):=Aa ⟨Maps.has_put_same N L4 _,Maps.atKey_put_same N L4 _ _⟩;clear h b f h1 h2 u;have v:Hid (∃y,D.put (B.lit a) (B.Gw s)=y):=Aa ⟨_,rfl⟩;obtain⟨y,r⟩:=v.o;rw[r] at c q;have G:=Aa r;clear r v;go_enter func110,ntmps110;go_wp2_with fail;refine c.o.mono ?_;rintro e z⟨rfl,j,o,d,i,g⟩;have m:=Aa (B.aP bb (n+1) y j a z d.ground.c0 d.ground.th (by unfold maxLen;omega));unfold B.Um at m;rw[if_pos q.o.1] at m;rw[show B.L8 0=Value.nilIface from rfl] at m;have k:=Aa (And.intro d (And.intro i g));clear d i g c;go_wp2_with fail;refine m.o.mono ?_;rintro e U⟨t,rfl,P,_,p⟩;have R:t=s:=B.aS ((P q.o.1).symm.trans q.o.2);subst R;have l:=Aa p;clear p m P;go_wp2_with fail;go_ret;exact⟨j,o,y,k.o.1.up l.o,k.o.2.1.trans (B.A0.Ba (S:=λ_=>False) l.o) (λ_ _ h=>h.elim),k.o.2.2,.inl ⟨x.o,rfl,G.o.symm⟩⟩
 rw[if_neg h2] at b;have c:=Aa (Vo h J a (by omega) s L _ b);rw[show B.L8 ((0:Int),D.put (B.lit a) (B.Gw s),fs.tail).1=Value.nilIface from rfl] at c;have x:=Aa h1;clear h b f h1 h2 u;go_enter func110,ntmps110;go_wp2_with fail;refine c.o.mono ?_;rintro e z⟨rfl,j,o,d,i,g⟩;have k:=Aa (And.intro d (And.intro i g));clear d i g c;go_wp2_with fail;go_ret;exact⟨j,o,_,k.o.1,k.o.2.1,k.o.2.2,.inl ⟨x.o,rfl,rfl⟩⟩
end F
variable{W:Tw}{a:Act}
def S7(W:World)(b:Nat)(a c d e f g h:Value):Prop:=W.cell? ⟨b,0,none⟩=some a/\W.cell? ⟨b,1,none⟩=some c/\W.cell? ⟨b,2,none⟩=some d/\W.cell? ⟨b,3,none⟩=some e/\W.cell? ⟨b,4,none⟩=some f/\W.cell? ⟨b,5,none⟩=some g/\W.cell? ⟨b,6,none⟩=some h
theorem s7{b:Nat}{v u f a e c d:Tv}(h:W.heap[b]? = some (Zk #[v,u,f,a,e,c,d] 72)):S7 W b v u f a e c d:=by refine⟨?_,?_,?_,?_,?_,?_,?_⟩ <;> simp[World.cell?,h]
theorem heap_alloc_new(w:Tw)(o:Obj):(w.alloc o).heap[w.heap.size]? = some o:=by show (w.heap.push o)[w.heap.size]? = some o;simp
theorem P2{q:Array Oper}{o:Oper}{K:Act->Tw->Prop}{Q:Exit->Act->Tw->Prop}{E:Prop}(i:o.guard=none)(s x:Operand)(y:o.op=.call { callee:=.builtin .append,args:=#[s,x],argTypes:=#[34,34] })(base n:Nat)(v:Tv)(xs:List Tv)(e:W.ownsRow base 72 7 v n xs)(b:Nat)(cs:List Tv)(t:W.heap[b]? = some (Zk cs.toArray 72))(z:a.eval s=v)(D:a.eval x=Zs (some ⟨b,0,none⟩) 1 1)(I:cs.length=7)(r:∀u∈cs,u.oneCell'=true)(J:n<=1000)(d:base<=W.heap.size)(h:∀g c f,Hid (f.ownsRow base 72 7 (Zs (some ⟨g,0,none⟩) (n+1) c) (n+1) (xs++cs)/\W.grownBy f v.ownBlock)->K (a.put o.dst (Zs (some ⟨g,0,none⟩) (n+1) c)) f):
 if Region.wanted o (yielded q a.tmps)=true then Oper.wp prog o a W K Q else E:=by
 obtain⟨G,k,l,m,p⟩:=info_parts Kh;exact step_append_lies W i s x 34 y base 72 G L6 7 72 underlying34 k l m p rfl (by omega) v n xs z e ⟨b,0,none⟩ 1 1 cs D (by omega) (λj u w=>XJ t j u (by simpa using w)) r (by omega) (by unfold maxLen;omega) (by omega) d _ rfl (λg c f h2 h3 _ _=>h g c f ⟨h2,h3⟩)
theorem AFQ(g o T:Nat)(l:List Aj)(next i:Int)(nm:Tb)(k:Int)(mu:Bool)(r u:Int)(v:Tb)(w:Tw)(h:I1 w g o l)(h8:l.length<8)(hf:Ce l nm = -1)(J:Ko (next,nm,k,mu,r,u,v)=true)(aa:(mu && r==0)=false)(ad:1<=next)(ae:next<=1000000000000000)(hw:Lw w):
 Zc 106 #[Zs (some ⟨g,o,none⟩) l.length T,Zi next,Zg #[Zi i,Zt nm,Zi k,Zo mu,Zi r,Zi u,Zt v]] w λe c=>∃s t,e=Zr (Zu #[Zs (some ⟨s,0,none⟩) (l.length+1) t,Zi (next+1),Zn])/\c.ownsRow w.heap.size 72 7 (Zs (some ⟨s,0,none⟩) (l.length+1) t) (l.length+1) (Av (l++[(next,nm,k,mu,r,u,v)]))/\Zb w c:=by
 have hm:=(Ou _).1 J;have ac:¬(8:Int)<=(l.length:Int):=by omega
 have HW:Hid (IntKind.i64.wrap (next+1)=next+1):=by rw[show IntKind.i64.wrap (next+1)=next+1 by rw[IntKind.wrap_i64];omega];exact rfl
 have HF:Hid (∀W,Zb w W->Zc 15 #[Zs (some ⟨g,o,none⟩) l.length T,Zt nm] W λe c=>e=Zr (Zi (-1))/\Zb W c):=λW n=>by have:=E8 g o T l nm W (h.below n) (by omega);rwa[hf] at this
 have HM:Hid (∀W,Zb w W->Zc 104 #[Zg #[Zi next,Zt nm,Zi k,Zo mu,Zi r,Zi u,Zt v]] W λe c=>e=Zr (Zo true)/\Zb W c):=λW n=>by have:=I8 next nm k mu r u v W (jU hm.2.2.1) (kU hm.2.2.2) (hw.below n);rwa[J] at this
 have HC:Hid (∀W,Zb w W->Zc 103 #[Zs (some ⟨g,o,none⟩) l.length T] W λe c=>∃s t,e=Zr (Zs (some ⟨s,0,none⟩) l.length t)/\c.ownsRow W.heap.size 72 7 (Zs (some ⟨s,0,none⟩) l.length t) l.length (Av l)/\Zb W c):=λW n=>Rb g o T l W (h.below n) (by omega)
 have B1:Hid (∀X:Obj,Zb w (w.alloc X)):=λX=>Zal
 clear h hf J hm hw;cases mu with
 | false=>
   go_enter func106,ntmps106
   go_wp2_with (first
    | (go_at_call 15;refine(HF.o _ (B1.o _)).mono ?_;rintro e w1⟨rfl,b⟩;have z:∀o,w1.cell? ⟨w.heap.size,o,none⟩=_:=λo=>b.cell (p:=⟨w.heap.size,o,none⟩) (by simp))
    | (go_at_call 104;refine(HM.o _ (Below.Ap (B1.o _) b)).mono ?_;rintro e m⟨rfl,f⟩;have D:∀o,m.cell? ⟨w.heap.size,o,none⟩=_:=λo=>f.cell (p:=⟨w.heap.size,o,none⟩) (Ya (by simp) b.size)))
   have Y:Hid (m.heap[w.heap.size]? = some (Zk #[Zi next,Zt nm,Zi k,Zo false,Zi r,Zi u,Zt v] 72)):=by have e1:=b.block w.heap.size (by simp);have e2:=f.block w.heap.size (Ya (by simp) b.size);exact e2.trans (e1.trans (heap_alloc_new _ _))
   have x:Hid (Zb w m):=Below.Ap (Below.Ap (B1.o _) b) f;have I:w.heap.size<m.heap.size:=Ya (Ya (by simp) b.size) f.size;clear z D b f;have HX:Hid (∀W,Zb m W->Zc 103 #[Zs (some ⟨g,o,none⟩) l.length T] W λe c=>∃s t,e=Zr (Zs (some ⟨s,0,none⟩) l.length t)/\c.ownsRow w.heap.size 72 7 (Zs (some ⟨s,0,none⟩) l.length t) l.length (Av l)/\m.heap.size<=s/\Zb W c/\Zb m c):=λW n=>(HC.o W (Below.Ap x.o n)).mono λe c⟨s,t,he,ho,hb'⟩=>⟨s,t,he,ownsRow_le ho (XD (YD I) n.size),XD n.size (ho.lt _ rfl).1,hb',Below.Ap n hb'⟩
   have P:Hid (∀W:Tw,Zb m W->S7 W w.heap.size (Zi next) (Zt nm) (Zi k) (Zo false) (Zi r) (Zi u) (Zt v)):=λW n=>s7 ((n.block _ I).trans Y.o)
   obtain⟨i0,G,M,N,O⟩:=info_parts Kh;have HI:=Zy G M N O;clear G M N O;obtain⟨q0,q1,q2,q3,q4,q5,q6⟩:=P.o m (Y9 _ _)
   go_region_held3 (λc=>c.cell? ⟨w.heap.size,0,none⟩=some (Zi next)/\c.cell? ⟨w.heap.size,1,none⟩=some (Zt nm)/\c.cell? ⟨w.heap.size,2,none⟩=some (Zi k)/\c.cell? ⟨w.heap.size,3,none⟩=some (Zo false)/\c.cell? ⟨w.heap.size,4,none⟩=some (Zi r)/\c.cell? ⟨w.heap.size,5,none⟩=some (Zi u)/\c.cell? ⟨w.heap.size,6,none⟩=some (Zt v))
    (first
      | (go_keep;done)
      | exact P.o _ a
      | exact P.o _ ((a.alloc a.size _).grown d.o.2 (by have:=a.size;simp;omega) (λj y=>by cases y;exact q))
      | exact P.o _ (a.grown d.o.2 a.size (λj y=>by cases y;exact q))
      | fail)
    (first
      | (go_at_call 103;refine(HX.o _ ?_).mono ?_;(first|exact(Y9 _ _).drew|exact(Y9 _ _).drew.alloc (by simp) _|exact(Zal).drew);rintro e w3⟨g3,c3,rfl,L,q,V,a⟩)
      | (refine P2 (by rfl) (.tmp 37) (.tmp 39) (by rfl) w.heap.size l.length (Zs (some ⟨g3,0,none⟩) l.length c3) (Av l) (L.alloc _) w3.heap.size [Zi next,Zt nm,Zi k,Zo false,Zi r,Zi u,Zt v] (heap_alloc_new _ _) (by rfl) (by rfl) rfl (by simp[Value.oneCell']) (by omega) (by have:=a.size;simp;omega) ?_;intro U R w4 d)
      | (refine P2 (by rfl) (.tmp 37) (.tmp 39) (by rfl) w.heap.size l.length (Zs (some ⟨g3,0,none⟩) l.length c3) (Av l) L m.heap.size [Zi next,Zt nm,Zi k,Zo false,Zi r,Zi u,Zt v] ((V.block _ (by simp)).trans (heap_alloc_new _ _)) (by rfl) (by rfl) rfl (by simp[Value.oneCell']) (by omega) (by have:=a.size;simp;omega) ?_;intro U R w4 d)
      | fail)
   ·go_wp2
    go_ret3;refine⟨U,R,by simp[HW.o],?_,Below.Ap x.o ((a.alloc a.size _).grown d.o.2 (by have:=a.size;simp;omega) (λj y=>by cases y;exact q))⟩;rw[Hs];exact d.o.1
   go_wp2;go_ret3;refine⟨U,R,by simp[HW.o],?_,Below.Ap x.o (a.grown d.o.2 a.size (λj y=>by cases y;exact q))⟩;rw[Hs];exact d.o.1
 | true=>
   have ab:(r==0)=false:=by simpa using aa
   go_enter func106,ntmps106
   go_wp2_with (first
    | (go_at_call 15;refine(HF.o _ (B1.o _)).mono ?_;rintro e w1⟨rfl,b⟩;have z:∀o,w1.cell? ⟨w.heap.size,o,none⟩=_:=λo=>b.cell (p:=⟨w.heap.size,o,none⟩) (by simp))
    | (go_at_call 104;refine(HM.o _ (Below.Ap (B1.o _) b)).mono ?_;rintro e m⟨rfl,f⟩;have D:∀o,m.cell? ⟨w.heap.size,o,none⟩=_:=λo=>f.cell (p:=⟨w.heap.size,o,none⟩) (Ya (by simp) b.size)))
   have Y:Hid (m.heap[w.heap.size]? = some (Zk #[Zi next,Zt nm,Zi k,Zo true,Zi r,Zi u,Zt v] 72)):=by have e1:=b.block w.heap.size (by simp);have e2:=f.block w.heap.size (Ya (by simp) b.size);exact e2.trans (e1.trans (heap_alloc_new _ _))
   have x:Hid (Zb w m):=Below.Ap (Below.Ap (B1.o _) b) f;have I:w.heap.size<m.heap.size:=Ya (Ya (by simp) b.size) f.size;clear z D b f;have HX:Hid (∀W,Zb m W->Zc 103 #[Zs (some ⟨g,o,none⟩) l.length T] W λe c=>∃s t,e=Zr (Zs (some ⟨s,0,none⟩) l.length t)/\c.ownsRow w.heap.size 72 7 (Zs (some ⟨s,0,none⟩) l.length t) l.length (Av l)/\m.heap.size<=s/\Zb W c/\Zb m c):=λW n=>(HC.o W (Below.Ap x.o n)).mono λe c⟨s,t,he,ho,hb'⟩=>⟨s,t,he,ownsRow_le ho (XD (YD I) n.size),XD n.size (ho.lt _ rfl).1,hb',Below.Ap n hb'⟩
   have P:Hid (∀W:Tw,Zb m W->S7 W w.heap.size (Zi next) (Zt nm) (Zi k) (Zo true) (Zi r) (Zi u) (Zt v)):=λW n=>s7 ((n.block _ I).trans Y.o)
   obtain⟨i0,G,M,N,O⟩:=info_parts Kh;have HI:=Zy G M N O;clear G M N O;obtain⟨q0,q1,q2,q3,q4,q5,q6⟩:=P.o m (Y9 _ _)
   go_region_held3 (λc=>c.cell? ⟨w.heap.size,0,none⟩=some (Zi next)/\c.cell? ⟨w.heap.size,1,none⟩=some (Zt nm)/\c.cell? ⟨w.heap.size,2,none⟩=some (Zi k)/\c.cell? ⟨w.heap.size,3,none⟩=some (Zo true)/\c.cell? ⟨w.heap.size,4,none⟩=some (Zi r)/\c.cell? ⟨w.heap.size,5,none⟩=some (Zi u)/\c.cell? ⟨w.heap.size,6,none⟩=some (Zt v))
    (first
      | (go_keep;done)
      | exact P.o _ a
      | exact P.o _ ((a.alloc a.size _).grown d.o.2 (by have:=a.size;simp;omega) (λj y=>by cases y;exact q))
      | exact P.o _ (a.grown d.o.2 a.size (λj y=>by cases y;exact q))
      | fail)
    (first
      | (go_at_call 103;refine(HX.o _ ?_).mono ?_;(first|exact(Y9 _ _).drew|exact(Y9 _ _).drew.alloc (by simp) _|exact(Zal).drew);rintro e w3⟨g3,c3,rfl,L,q,V,a⟩)
      | (refine P2 (by rfl) (.tmp 37) (.tmp 39) (by rfl) w.heap.size l.length (Zs (some ⟨g3,0,none⟩) l.length c3) (Av l) (L.alloc _) w3.heap.size [Zi next,Zt nm,Zi k,Zo true,Zi r,Zi u,Zt v] (heap_alloc_new _ _) (by rfl) (by rfl) rfl (by simp[Value.oneCell']) (by omega) (by have:=a.size;simp;omega) ?_;intro U R w4 d)
      | (refine P2 (by rfl) (.tmp 37) (.tmp 39) (by rfl) w.heap.size l.length (Zs (some ⟨g3,0,none⟩) l.length c3) (Av l) L m.heap.size [Zi next,Zt nm,Zi k,Zo true,Zi r,Zi u,Zt v] ((V.block _ (by simp)).trans (heap_alloc_new _ _)) (by rfl) (by rfl) rfl (by simp[Value.oneCell']) (by omega) (by have:=a.size;simp;omega) ?_;intro U R w4 d)
      | fail)
   ·go_wp2
    go_ret3;refine⟨U,R,by simp[HW.o],?_,Below.Ap x.o ((a.alloc a.size _).grown d.o.2 (by have:=a.size;simp;omega) (λj y=>by cases y;exact q))⟩;rw[Hs];exact d.o.1
   go_wp2;go_ret3;refine⟨U,R,by simp[HW.o],?_,Below.Ap x.o (a.grown d.o.2 a.size (λj y=>by cases y;exact q))⟩;rw[Hs];exact d.o.1
def AAg(l:List Aj)(c:Aj):Prop:=Ce l c.2.1 = -1/\l.length<8/\Ko c=true/\(c.2.2.2.1 && c.2.2.2.2.1==0)=false
theorem AHP(g o L:Nat)(l:List Aj)(next i:Int)(nm:Tb)(k:Int)(mu:Bool)(q u:Int)(r:Tb)(w:Tw)(h:I1 w g o l)(T:l.length<=8)(D:nm.size<=maxLen)(z:r.size<=maxLen)(m:¬AAg l (next,nm,k,mu,q,u,r))(O:Lw w):
 Zc 106 #[Zs (some ⟨g,o,none⟩) l.length L,Zi next,Zg #[Zi i,Zt nm,Zi k,Zo mu,Zi q,Zi u,Zt r]] w λe G=>∃x,e=Zr (Zu #[Zs none 0 0,Zi 0,Zf 90 (Zi x)])/\Zb w G:=by
 have s:Hid (∀W,Zb w W->Zc 15 #[Zs (some ⟨g,o,none⟩) l.length L,Zt nm] W λe G=>e=Zr (Zi (Ce l nm))/\Zb W G):=λW hb=>E8 g o L l nm W (h.below hb) T
 have t:Hid (∀W,Zb w W->Zc 104 #[Zg #[Zi next,Zt nm,Zi k,Zo mu,Zi q,Zi u,Zt r]] W λe G=>e=Zr (Zo (Ko (next,nm,k,mu,q,u,r)))/\Zb W G):=λW hb=>I8 next nm k mu q u r W D z (O.below hb)
 have n:Hid (∀X:Obj,Zb w (w.alloc X)):=λX=>Zal
 clear h O D z
 by_cases J:0<=Ce l nm
 ·generalize Ce l nm=f at s J
  clear t m;go_enter func106,ntmps106
  go_wp2_with (first
   | (go_at_call 15;refine(s.o _ (n.o _)).mono ?_;rintro e I⟨rfl,a⟩))
  go_ret3;exact⟨_,rfl,Below.Ap (n.o _) a⟩
 have c:Ce l nm = -1:=by
  rcases Gz l nm with⟨e,_⟩|⟨j,_,e,_⟩
  ·exact e
  omega
 rw[c] at s
 by_cases h7:l.length<8
 ·have M:¬(8:Int)<=(l.length:Int):=by omega
  cases hm:Ko (next,nm,k,mu,q,u,r) with
  | false=>
    rw[hm] at t;clear m J c hm;go_enter func106,ntmps106
    go_wp2_with (first
     | (go_at_call 15;refine(s.o _ (n.o _)).mono ?_;rintro e I⟨rfl,a⟩;have v:∀o,I.cell? ⟨w.heap.size,o,none⟩=_:=λo=>a.cell (p:=⟨w.heap.size,o,none⟩) (by simp))
     | (go_at_call 104;refine(t.o _ (Below.Ap (n.o _) a)).mono ?_;rintro e N⟨rfl,b⟩;have y:∀o,N.cell? ⟨w.heap.size,o,none⟩=_:=λo=>b.cell (p:=⟨w.heap.size,o,none⟩) (Ya (by simp) a.size)))
    go_ret3;exact⟨_,rfl,Below.Ap (Below.Ap (n.o _) a) b⟩
  | true=>
    rw[hm] at t
    have d:(mu && q==0)=true:=by
     cases hq:(mu && q==0) with
     | true=>rfl
     | false=>exact(m ⟨c,h7,hm,hq⟩).elim
    have P:mu=true:=by simp at d;exact d.1
    have R:q=0:=by simp at d;exact d.2
    subst P R;clear m J c hm d;go_enter func106,ntmps106
    go_wp2_with (first
     | (go_at_call 15;refine(s.o _ (n.o _)).mono ?_;rintro e I⟨rfl,a⟩;have v:∀o,I.cell? ⟨w.heap.size,o,none⟩=_:=λo=>a.cell (p:=⟨w.heap.size,o,none⟩) (by simp))
     | (go_at_call 104;refine(t.o _ (Below.Ap (n.o _) a)).mono ?_;rintro e N⟨rfl,b⟩;have y:∀o,N.cell? ⟨w.heap.size,o,none⟩=_:=λo=>b.cell (p:=⟨w.heap.size,o,none⟩) (Ya (by simp) a.size)))
    go_ret3;exact⟨_,rfl,Below.Ap (Below.Ap (n.o _) a) b⟩
 have M:(8:Int)<=(l.length:Int):=by omega
 clear t m J c;go_enter func106,ntmps106
 go_wp2_with (first
  | (go_at_call 15;refine(s.o _ (n.o _)).mono ?_;rintro e I⟨rfl,a⟩))
 go_ret3;exact⟨_,rfl,Below.Ap (n.o _) a⟩
theorem tR(w:Tw)(o:Obj):w.heap.size<(w.alloc o).heap.size:=by simp
theorem fX(n:Nat):(Builtin.zeroCells L6.cells n).size=n*7:=by simp[Builtin.zeroCells,show L6.cells.size=7 from rfl]
theorem AFw(n:Nat)(w:Tw)(m:1<=n)(o:n<=8):
 Zc 211 #[Zs none 0 0,Zi n] w λe h=>∃j i,e=Zr (Zs (some ⟨j,0,none⟩) 0 i)/\h.ownsRow w.heap.size 72 7 (Zs (some ⟨j,0,none⟩) 0 i) 0 (Av [])/\Zb w h:=by
 obtain⟨l,d,f,k,g⟩:=info_parts Kh;refine(Any8.slices_Grow_grow layGro l L6 d f (by omega) none 0 0 n [] w (XB _) (by omega) (by rw[g];omega) (by omega) (by simp) (λ_=>rfl) (λa ha=>by cases ha)).mono ?_;rintro e h⟨rfl,rfl⟩;have c:0+n<=grownCap w (0+n) 0 72:=grownCap_ge w _ _ _;have b:grownCap w (0+n) 0 72<=maxLen:=grownCap_le_maxLen w (0+n) 0 72 (by unfold maxLen;omega);refine⟨_,_,rfl,?_,((Y9 _ _).drew).alloc (XB _) _⟩
 change (w.drew.alloc (Zk (#[]++Builtin.zeroCells L6.cells (0+n-0)++Builtin.zeroCells L6.cells (grownCap w (0+n) 0 72-(0+n))) 72)).ownsRow w.heap.size 72 7 (Zs (some ⟨w.heap.size,0,none⟩) 0 (grownCap w (0+n) 0 72)) 0 []
 generalize grownCap w (0+n) 0 72=G at c b;exact YS (w:=w.drew) _ G (XB _) b (by simp only[Array.size_append,fX,Array.size_empty];omega)
theorem Oc{f:Array Oper}{rest:List Oper}{o:Oper}{Q:Exit->Act->Tw->Prop}(q:o.guard=none)(s x:Operand)(N:o.op=.call { callee:=.builtin .append,args:=#[s,x],argTypes:=#[34,34] })(base g c:Nat)(l:List Aj)(O:a.eval s=Zs (some ⟨g,0,none⟩) l.length c)(e:W.ownsRow base 72 7 (Zs (some ⟨g,0,none⟩) l.length c) l.length (Av l))(p y z:Nat)(m:List Aj)(P:a.eval x=Zs (some ⟨p,y,none⟩) m.length z)(M:I1 W p y m)(T:l.length+m.length<=1000)(b:base<=W.heap.size)(h:∀k d i,Hid (i.ownsRow base 72 7 (Zs (some ⟨k,0,none⟩) (l.length+m.length) d) (l.length+m.length) (Av (l++m))/\W.grownBy i (some g))->wpList prog f Q rest (a.put o.dst (Zs (some ⟨k,0,none⟩) (l.length+m.length) d)) i):wpList prog f Q (o :: rest) a W:=by
 obtain⟨R,r,t,v,w⟩:=info_parts Kh;refine wpList_append_own W q s x 34 N base 72 R L6 7 72 underlying34 r t v w rfl (by omega) _ _ _ O e ⟨p,y,none⟩ m.length z (Av m) P (Hy m) (λj u L=>by rw[Addr.add_lit];exact M.flat j u L) (Ni m) (by unfold maxLen;omega) (by omega) b ?_;intro v' i D I J
 rcases ownsRow_forms D with⟨n,_⟩|⟨k,G,n⟩
 ·exact absurd (J.1 n).1 (by simp)
 subst n;exact h k G i ⟨by rw[Hs];exact D,I⟩
theorem vO(p g o c m r t:Nat)(a b:List Aj)(w:Tw)(v:w.cell? ⟨p,0,none⟩=some (Zs (some ⟨g,o,none⟩) a.length c))(x:w.cell? ⟨p,1,none⟩=some (Zs (some ⟨m,r,none⟩) b.length t))(L:p<w.heap.size)(I:I1 w g o a)(J:I1 w m r b)(X:1<=a.length+b.length)(Y:a.length+b.length<=8):
 Zc 163 #[Zs (some ⟨p,0,none⟩) 2 2] w λe s=>∃l k,e=Zr (Zs (some ⟨l,0,none⟩) (a.length+b.length) k)/\s.ownsRow w.heap.size 72 7 (Zs (some ⟨l,0,none⟩) (a.length+b.length) k) (a.length+b.length) (Av (a++b))/\Zb w s:=by
 have P:Hid (Zc 211 #[Zs none 0 0,Zi ((a.length:Int)+(b.length:Int))] w λe s=>∃l k,e=Zr (Zs (some ⟨l,0,none⟩) 0 k)/\s.ownsRow w.heap.size 72 7 (Zs (some ⟨l,0,none⟩) 0 k) 0 (Av [])/\Zb w s):=by have:=AFw (a.length+b.length) w X Y;rwa[show ((a.length+b.length:Nat):Int)=(a.length:Int)+(b.length:Int) by omega] at this
 have N:Hid (I1 w g o a):=I;have O:Hid (I1 w m r b):=J;have y:Hid (∀W,Zb w W->W.cell? ⟨p,0,none⟩=some (Zs (some ⟨g,o,none⟩) a.length c)/\W.cell? ⟨p,1,none⟩=some (Zs (some ⟨m,r,none⟩) b.length t)):=λW G=>⟨(G.cell (p:=⟨p,0,none⟩) L).trans v,(G.cell (p:=⟨p,1,none⟩) L).trans x⟩
 clear I J;have n1:¬(a.length:Int)<0:=by omega
 have n2:¬(a.length:Int)+(b.length:Int)<0:=by omega
 have n3:IntKind.i64.wrap ((a.length:Int)+(b.length:Int))=(a.length:Int)+(b.length:Int):=by rw[IntKind.wrap_i64];omega
 have n4:IntKind.i64.wrap (a.length:Int)=(a.length:Int):=by rw[IntKind.wrap_i64];omega
 go_enter func163,ntmps163;go_wp2;refine wp_loop_rounds 3 ?_;rw[rounds_succ];go_wp2;rw[rounds_succ];go_wp2;rw[rounds_succ]
 go_wp2_with (first
  | (go_at_call 211;refine P.o.mono ?_;rintro e w1⟨U,R,rfl,n,d⟩;obtain⟨r0,r1⟩:=y.o _ d))
 refine wp_loop_rounds 3 ?_;rw[rounds_succ];go_wp2_with (at_builtin;refine Oc rfl _ _ rfl w.heap.size U R [] rfl n g o c a rfl (N.o.below d) (by simp;omega) d.size ?_;intro D z M h;have f:Zb w M:=d.grown h.o.2 d.size (λj hj=>by cases hj;exact(n.lt _ rfl).1);obtain⟨s0,s1⟩:=y.o _ f;have i:Hid (M.ownsRow w.heap.size 72 7 (Zs (some ⟨D,0,none⟩) a.length z) a.length (Av a)):=Aa (by have:=h.o.1;simpa using this);clear h);rw[rounds_succ];go_wp2_with (at_builtin;refine Oc rfl _ _ rfl w.heap.size D z a rfl i.o m r t b rfl (O.o.below f) (by omega) f.size ?_;intro V T w5 q;have u:Zb w w5:=f.grown q.o.2 f.size (λj hj=>by cases hj;exact(i.o.lt _ rfl).1));rw[rounds_succ];go_wp2;go_ret;exact⟨V,T,rfl,q.o.1,u⟩
theorem AFn(g o b:Nat)(l:List Aj)(nm:Tb)(k:Nat)(w:Tw)(h:I1 w g o l)(T:Ce l nm=k)(hk:k<l.length)(h1:l.length≠1)(h8:l.length<=8)(P:l.length<=b):
 Zc 107 #[Zs (some ⟨g,o,none⟩) l.length b,Zt nm] w λe d=>∃q n,e=Zr (Zu #[Zs (some ⟨q,0,none⟩) (l.take k++l.drop (k+1)).length n,Zn])/\d.ownsRow w.heap.size 72 7 (Zs (some ⟨q,0,none⟩) (l.take k++l.drop (k+1)).length n) (l.take k++l.drop (k+1)).length (Av (l.take k++l.drop (k+1)))/\Zb w d:=by
 have N:Hid (∀W,Zb w W->Zc 15 #[Zs (some ⟨g,o,none⟩) l.length b,Zt nm] W λe d=>e=Zr (Zi k)/\Zb W d):=λW r=>by have:=E8 g o b l nm W (h.below r) h8;rwa[T] at this
 have V:(l.take k).length=k:=by simp;omega
 have lb:(l.drop (k+1)).length=l.length-(k+1):=by simp
 obtain⟨m,I⟩:∃m,m=k+1:=⟨_,rfl⟩;rw[<-I] at lb ⊢
 have L:Hid (∀W p u y nb,Zb w W->p<W.heap.size->nb=(l.drop m).length->W.heap[p]? = some (Zk #[Zs (some ⟨g,o,none⟩) k b,Zs (some ⟨g,u,none⟩) nb y] 34)->I1 W g u (l.drop m)->Zc 163 #[Zs (some ⟨p,0,none⟩) 2 2] W λe d=>∃q n,e=Zr (Zs (some ⟨q,0,none⟩) (l.take k++l.drop m).length n)/\d.ownsRow W.heap.size 72 7 (Zs (some ⟨q,0,none⟩) (l.take k++l.drop m).length n) (l.take k++l.drop m).length (Av (l.take k++l.drop m))/\Zb W d):=λW p u y nb r hp hnb hh hs=>by rw[XC];exact vO p g o b g u y (l.take k) (l.drop m) W (by rw[V];simp[World.cell?,hh]) (by rw[<-hnb];simp[World.cell?,hh]) hp ((h.below r).take k) hs (by omega) (by omega)
 have t:Hid (I1 w g o l):=h;have Y:∃x,l[0]! = x:=⟨_,rfl⟩;obtain⟨⟨J,x2,x3,x4,x5,x6,x7⟩,U⟩:=Y;have s:Hid (∀W,Zb w W->W.cell? ⟨g,o,none⟩=some (Zi J)):=λW r=>by have:=((h.below r).cells (k:=0) (by omega) U).1;simpa using this
 clear U;generalize hM:l.take k++l.drop m=M at *
 have ad:((l.length:Int)==1)=false:=by
  have:¬(l.length:Int)=1:=by omega
  simpa using this
 have aa:(0:Int)<=(k:Int):=by omega
 have ab:IntKind.i64.wrap ((k:Int)+1)=(m:Int):=by rw[IntKind.wrap_i64];omega
 have ac:(k:Int)<=(b:Int):=by omega
 have af:(0:Int)<=(m:Int):=by omega
 have ah:(m:Int)<=(l.length:Int):=by omega
 have ag:(m:Int)<=(b:Int):=by omega
 have ae:(l.length:Int)<=(b:Int):=by omega
 have X:Hid (l.length-m=(l.drop m).length):=by rw[lb,I];exact rfl
 have v:Hid (b=m->l.drop m=[]):=λe=>YK (by omega)
 clear h T V lb I
 by_cases hcc:b=m
 ·have O:Hid (l.drop m=[]):=v.o hcc
  subst hcc;clear v;go_enter func107,ntmps107
  go_wp2_with (first
   | (go_at_call 15;refine(N.o _ (Y9 _ _)).mono ?_;rintro e f⟨rfl,a⟩))
  have q0:=s.o f a;have G:g<f.heap.size:=Ya t.o.1 a.size
  go_region_held3 (λd=>d.cell? ⟨g,o,none⟩=some (Zi J)) (first|(go_keep;done)|exact s.o _ (Below.Ap (a.alloc a.size _).drew c))
   (first
     | (go_at_call 163;refine(L.o _ f.heap.size o 0 0 ?_ ?_ ?_ ?_ ?_).mono ?_;exact(a.alloc a.size _).drew;exact tR f _;(rw[O.o];rfl);exact heap_alloc_new f _;(rw[O.o];exact⟨Ya t.o.1 (a.alloc a.size _).size,λj hj=>by simp at hj⟩);rintro e w3⟨D,z,rfl,i,c⟩)
     | fail)
  go_wp2;go_ret2;exact⟨D,z,rfl,ownsRow_le i (a.alloc a.size _).size,Below.Ap (a.alloc a.size _).drew c⟩
 clear v;have R:¬(b:Int)=(m:Int):=by omega
 go_enter func107,ntmps107
 go_wp2_with (first
  | (go_at_call 15;refine(N.o _ (Y9 _ _)).mono ?_;rintro e f⟨rfl,a⟩))
 have q0:=s.o f a;have G:g<f.heap.size:=Ya t.o.1 a.size
 go_region_held3 (λd=>d.cell? ⟨g,o,none⟩=some (Zi J)) (first|(go_keep;done)|exact s.o _ (Below.Ap (a.alloc a.size _).drew c))
  (first
    | (go_at_call 163;refine(L.o _ f.heap.size (o+m*7) (b-m) (l.length-m) ?_ ?_ ?_ ?_ ?_).mono ?_;exact(a.alloc a.size _).drew;exact tR f _;exact X.o;exact heap_alloc_new f _;(have:=(t.o.below (a.alloc a.size (Zk #[Zs (some ⟨g,o,none⟩) k b,Zs (some ⟨g,o+m*7,none⟩) (l.length-m) (b-m)] 34)).drew).drop m;exact this);rintro e w3⟨D,z,rfl,i,c⟩)
    | fail)
 go_wp2;go_ret2;exact⟨D,z,rfl,ownsRow_le i (a.alloc a.size _).size,Below.Ap (a.alloc a.size _).drew c⟩
theorem AG7(g o c:Nat)(l:List Aj)(nm:Tb)(w:Tw)(h:I1 w g o l)(b:Ce l nm = -1\/l.length=1)(d:l.length<=8):
 Zc 107 #[Zs (some ⟨g,o,none⟩) l.length c,Zt nm] w λe i=>(∃x,e=Zr (Zu #[Zs none 0 0,Zf 90 (Zi x)])/\(0<=Ce l nm->x=6))/\Zb w i:=by
 have j:Hid (∀W,Zb w W->Zc 15 #[Zs (some ⟨g,o,none⟩) l.length c,Zt nm] W λe i=>e=Zr (Zi (Ce l nm))/\Zb W i):=λW hb=>E8 g o c l nm W (h.below hb) d
 clear h
 by_cases hf:Ce l nm<0
 ·generalize Ce l nm=f at *
  clear b d;go_enter func107,ntmps107
  go_wp2_with (first
   | (go_at_call 15;refine(j.o _ (Y9 _ _)).mono ?_;rintro e p⟨rfl,a⟩))
  go_ret2;exact⟨⟨_,rfl,λh=>by omega⟩,a⟩
 have k:l.length=1:=by rcases b with h|h <;> omega
 have m:((l.length:Int)==1)=true:=by rw[k];rfl
 generalize Ce l nm=f at *;generalize l.length=n at *;clear b d k;go_enter func107,ntmps107
 go_wp2_with (first
  | (go_at_call 15;refine(j.o _ (Y9 _ _)).mono ?_;rintro e p⟨rfl,a⟩))
 go_ret2;exact⟨⟨_,rfl,λ_=>rfl⟩,a⟩
theorem eF(a:Tb):∀(l:List Aj)(k:Nat),k<l.length->(Av l).set (k*7+1) (Zt a)=Av (l.set k (rR l[k]! a))
 | [],k,h=>absurd h (Ym _)
 | c :: l,0,_=>rfl
 | c :: l,k+1,h=>by
   have d:=eF a l k (by simpa using h);have e:Av (c :: l)=Cc c++Av l:=rfl;have b:(c :: l)[k+1]! = l[k]! := by simp
   rw[e,b,XL,show Av (c :: l.set k (rR l[k]! a))=Cc c++Av (l.set k (rR l[k]! a)) from rfl,<-d];rw[YB _ _ (by rw[Gl];omega),Gl,show (k+1)*7+1-7=k*7+1 by omega]
theorem yL(g o d:Nat)(l:List Aj)(nm c:ByteArray)(k:Nat)(w:World)(h:I1 w g o l)(z:Ce l nm=k)(P:k<l.length)(j:Bv c=true)(q:Ce l c = -1)(t:l.length<=8)(D:Lw w):
 Zc 108 #[.slice (some ⟨g,o,none⟩) l.length d,.string nm,.string c] w λe a=>∃b i,e=.returned (.tuple #[.slice (some ⟨b,0,none⟩) l.length i,.nilIface])/\a.ownsRow w.heap.size 72 7 (.slice (some ⟨b,0,none⟩) l.length i) l.length (Av (l.set k (rR l[k]! c)))/\Zb w a:=by
 have I:Hid (∀W,Zb w W->Zc 15 #[.slice (some ⟨g,o,none⟩) l.length d,.string nm] W λe a=>e=.returned (.int .i64 k)/\Zb W a):=λW hb=>by have:=E8 g o d l nm W (h.below hb) t;rwa[z] at this
 have M:Hid (∀W,Zb w W->Zc 15 #[.slice (some ⟨g,o,none⟩) l.length d,.string c] W λe a=>e=.returned (.int .i64 (-1))/\Zb W a):=λW hb=>by have:=E8 g o d l c W (h.below hb) t;rwa[q] at this
 have J:Hid (∀W,Zb w W->Zc 160 #[.string c] W λe a=>e=.returned (.bool true)/\Zb W a):=λW hb=>by have:=Li c W (jU j) (D.below hb);rwa[j] at this
 have G:Hid (∀W,Zb w W->Zc 103 #[.slice (some ⟨g,o,none⟩) l.length d] W λe a=>∃b i,e=.returned (.slice (some ⟨b,0,none⟩) l.length i)/\a.ownsRow w.heap.size 72 7 (.slice (some ⟨b,0,none⟩) l.length i) l.length (Av l)/\(∃u,a.cell? ⟨b,k*7+1,none⟩=some u)/\a.frozen? ⟨b,k*7+1,none⟩=false/\Zb w a):=λW hb=>(Rb g o d l W (h.below hb) t).mono λe a⟨b,i,he,ho,hb'⟩=>⟨b,i,he,ownsRow_le ho hb.size,by rw[ho.cellAt (k*7+1) (by omega)];exact⟨_,Y' (by rw[Hy];omega)⟩,ho.frozenAt _,Below.Ap hb hb'⟩
 have L:=Aa (eF c l k P);have R:¬(k:Int)<0:=by omega
 have T:(k:Int)<(l.length:Int):=by omega
 have U:(0:Int)<=(k:Int):=by omega
 clear h z j q D;go_enter func108,ntmps108
 go_wp2_with (first
  | (go_at_call_of 15 (#[.slice (some ⟨g,o,none⟩) l.length d,.string nm]:Array Value);refine(I.o _ (Y9 _ _)).mono ?_;rintro e Y⟨rfl,m⟩)
  | (go_at_call 160;refine(J.o _ m).mono ?_;rintro e w2⟨rfl,v⟩;have f:=Below.Ap m v)
  | (go_at_call 15;refine(M.o _ f).mono ?_;rintro e w3⟨rfl,x⟩;have n:=Below.Ap f x)
  | (go_at_call 103;refine(G.o _ n).mono ?_;rintro e w4⟨s,N,rfl,r,⟨X,V⟩,O,y⟩))
 go_ret2;refine⟨s,N,rfl,?_,Wb (p:=⟨s,k*7+1,none⟩) y (r.lt s rfl).1 _⟩;rw[<-L.o];exact(r.stored _ _).1
theorem ACv(g o q:Nat)(l:List Aj)(nm c:ByteArray)(w:World)(h:I1 w g o l)(j:Ce l nm = -1\/Bv c=false\/0<=Ce l c)(s:c.size<=maxLen)(u:l.length<=8)(y:Lw w):
 Zc 108 #[.slice (some ⟨g,o,none⟩) l.length q,.string nm,.string c] w λe n=>∃x,e=.returned (.tuple #[.slice none 0 0,.iface 90 (.int .i64 x)])/\Zb w n:=by
 have t:Hid (∀W,Zb w W->Zc 15 #[.slice (some ⟨g,o,none⟩) l.length q,.string nm] W λe n=>e=.returned (.int .i64 (Ce l nm))/\Zb W n):=λW hb=>E8 g o q l nm W (h.below hb) u
 have r:Hid (∀W,Zb w W->Zc 15 #[.slice (some ⟨g,o,none⟩) l.length q,.string c] W λe n=>e=.returned (.int .i64 (Ce l c))/\Zb W n):=λW hb=>E8 g o q l c W (h.below hb) u
 have p:Hid (∀W,Zb w W->Zc 160 #[.string c] W λe n=>e=.returned (.bool (Bv c))/\Zb W n):=λW hb=>Li c W s (y.below hb)
 clear h y s u
 by_cases hf:Ce l nm<0
 ·generalize Ce l nm=f at *
  clear j r p;go_enter func108,ntmps108
  go_wp2_with (first
   | (go_at_call 15;refine(t.o _ (Y9 _ _)).mono ?_;rintro e v⟨rfl,b⟩))
  go_ret2;exact⟨_,rfl,b⟩
 have m:¬Ce l nm = -1:=by omega
 cases hc:Bv c with
 | false=>
   rw[hc] at p;generalize Ce l nm=f at *;clear j r m;go_enter func108,ntmps108
   go_wp2_with (first
    | (go_at_call 15;refine(t.o _ (Y9 _ _)).mono ?_;rintro e v⟨rfl,b⟩)
    | (go_at_call 160;refine(p.o _ b).mono ?_;rintro e z⟨rfl,d⟩;have a:=Below.Ap b d))
   go_ret2;exact⟨_,rfl,a⟩
 | true=>
   rw[hc] at p
   have I:0<=Ce l c:=by
    rcases j with h|h|h
    ·exact(m h).elim
    ·rw[hc] at h;cases h
    exact h
   clear j m
   by_cases hnt:nm=c
   ·subst hnt
    generalize Ce l nm=f at *;clear t;go_enter func108,ntmps108;go_wp2_with fail;refine(r.o _ (Y9 _ _)).mono ?_;rintro e v⟨rfl,b⟩
    go_wp2_with (first
     | (go_at_call 160;refine(p.o _ b).mono ?_;rintro e z⟨rfl,d⟩;have a:=Below.Ap b d)
     | (go_at_call 15;refine(r.o _ a).mono ?_;rintro e D⟨rfl,k⟩;have i:=Below.Ap a k))
    go_ret2;exact⟨_,rfl,i⟩
   generalize Ce l nm=f at *;generalize Ce l c=G at *;clear hnt;go_enter func108,ntmps108
   go_wp2_with (first
    | (go_at_call_of 15 (#[.slice (some ⟨g,o,none⟩) l.length q,.string nm]:Array Value);refine(t.o _ (Y9 _ _)).mono ?_;rintro e v⟨rfl,b⟩)
    | (go_at_call 160;refine(p.o _ b).mono ?_;rintro e z⟨rfl,d⟩;have a:=Below.Ap b d)
    | (go_at_call 15;refine(r.o _ a).mono ?_;rintro e D⟨rfl,k⟩;have i:=Below.Ap a k))
   go_ret2;exact⟨_,rfl,i⟩
namespace F
variable{D:Td}{H:List (Dn×Ah)}{U:List Tb}{s:Ah}{l:List Aj}{x:A6}{c:Aj}{W:Tw}{n:Int}{p:Tb}{T:S.CT}
structure Inv(D:DataW Unit)(H:List (Dn×Ah))(U:List ByteArray):Prop where
 Lm:U6 D H
 past:La H
 wU:R6 D H
 used:Used D U
 plain:∀u∈U,Plain u
 next:∀k,k<=H.length->(Ae H k).next<=10+k
theorem vA(D:Td):C7 D F6 [] :=
 ⟨⟨rfl,(λx a=>by cases a),XA _,XA _,λ_=>rfl⟩,(λx a=>by cases a),(λx a=>by cases a),(λx a=>by cases a)⟩
theorem Inv.nil:Inv (.map []) [] []:=by
 refine⟨AGO,trivial,λk a=>⟨[],?_⟩,Used.nil,(λu hu=>by cases hu),λk a=>?_⟩
 ·have:k=0:=by simpa using a
  subst this;exact vA _
 have:k=0:=by simpa using a
 subst this;show (0:Int)<=_;omega
theorem Inv.user(h:Inv D H U){s:Tb}(b:Plain s):Inv D H (s :: U) :=
 ⟨h.Lm,h.past,h.wU,h.used.more λu a=>Yg _ a,λu a=>by
  rcases List.mem_cons.1 a with rfl|a
  ·exact b
  exact h.plain u a,h.next⟩
theorem Inv.put{D:Td}{H:List (Dn×Ah)}{U:List Tb}(h:Inv D H U){s:Tb}(b:s∈U)(k:Nat)(v:Td)(a:Maps.has D (B.lit (Eh (Bw s k)))=false):Inv (D.put (B.lit (Eh (Bw s k))) v) H U :=
 ⟨ACQ h.Lm _ _,h.past,h.wU.put a v,h.used.put b k v,h.plain,h.next⟩
theorem Inv.AJO(h:Inv D H U)(O5:H.length<90){C:Dn}{t:Ah}(b:Bi (Ae H H.length) C t)(f:Lay C){i:List A6}(g:C7 D t i)(j:t.next<=11+H.length):Inv (D.put (B.lit (Ek (H.length+1))) (B.Gw (C6 C))) (H++[(C,t)]) U:=by
 have c:=(h.Lm.2 H.length (by omega)).2 (XB _);refine⟨AFI h.Lm O5 C t,ADc h.past b f,(h.wU.snoc g).put c _,h.used.log _ _,h.plain,λk d=>?_⟩
 rcases Yc H.length k with a|a
 ·have e:k=H.length+1:=by simp at d;omega
  subst e;rw[rJ];show t.next<=_;omega
 rw[qV a];exact h.next k a
structure J4 where
 Qk:Int
 cols:List Aj
 rows:List (List V)
 A3:List (ByteArray×V)
 change:Int
 name:ByteArray
 tw:ByteArray
 tree:S.CT->Prop
def Nl:Nat->List Aj->List Aj
 | _,[]=>[]
 | k,c :: l=>((k:Int),c.2) :: Nl (k+1) l
theorem dK:∀(k:Nat)(l:List Aj),(Nl k l).length=l.length
 | _,[]=>rfl
 | k,c :: l=>by simp[Nl,dK (k+1) l]
def cI(l:List Aj)(next:Int)(a:Int)(c:Aj)(nm b:ByteArray)(l':List Aj)(next':Int):Prop :=
 (a=1/\AAg l (next,c.2)/\l'=l++[(next,c.2)]/\next'=next+1) \/
 (a=2/\∃k:Nat,Ce l nm=k/\k<l.length/\l.length≠1/\l'=l.take k++l.drop (k+1)/\next'=next) \/
 (a=3/\∃k:Nat,Ce l nm=k/\k<l.length/\Bv b=true/\Ce l b = -1/\l'=l.set k (rR l[k]! b)/\next'=next)
def Pa(l:List Aj)(rows:List (List V)):DataW Unit:=B.Gw (E.str (Cq (l,Ay l rows)))
theorem bD(b:Maps.IsMap D){path:Tb}{rows:List (List V)}(c:De l rows=true)(a:K9 rows)(d:path.size<=1000):Gt (D.put (B.lit (Eh path)) (Pa l rows)) ((path,(rows.length:Int),[]),l,rows) :=
 ⟨Maps.has_put_same b L4 _,Maps.atKey_put_same b L4 _ _,c,a,d,XA _⟩
theorem Gt.AFx(h:Gt D x){path:Tb}(b:path≠x.1.1)(v:Td):Gt (D.put (B.lit (Eh path)) v) x:=by
 have a:B.lit (Eh x.1.1)≠B.lit (Eh path):=λe=>b (Uw (B.Jr e)).symm
 exact⟨by rw[Maps.has_put_other a];exact h.has,by rw[Maps.atKey_put_other a];exact h.Gw,h.ok,h.i64,h.name,h.mask⟩
theorem AJb{L l l':List Aj}{next next' y:Int}{nm s:Tb}(h:cI l next y c nm s l' next')(f:Lk L l)(i:∀d∈L,d.1<next):Lk L l':=by
 rcases h with⟨_,g,rfl,_⟩|⟨_,k,_,b,_,rfl,_⟩|⟨_,k,_,b,_,_,rfl,_⟩
 ·refine f.more (λd j e=>?_) (λhm e=>?_)
  ·have:=i d j
   simp at e;omega
  have:=g.2.2.2;simp only[mst,bP] at hm e;simp[hm,e] at this
 ·refine f.sub λx a=>?_
  rcases List.mem_append.1 a with a|a
  ·exact Yk a
  exact XU a
 refine f.named λx a=>?_
 rcases Yt a with a|rfl
 ·exact⟨x,a,rfl,rfl⟩
 exact⟨l[k]!,Jj b,rfl,rfl⟩
theorem rQ{l l':List Aj}{next next' x:Int}{nm s:Tb}(h:cI l next x c nm s l' next'):next<=next'/\next'<=next+1:=by rcases h with⟨_,_,_,rfl⟩|⟨_,k,_,_,_,_,rfl⟩|⟨_,k,_,_,_,_,_,rfl⟩ <;> omega
theorem AA6(a:Tb)(k:Nat):a++⟨#[95]⟩++Bm (k:Int)=Bw a k:=by apply ByteArray.ext;apply Array.toList_inj.mp;simp[Bw,Bm]
theorem Vu(a:Tb)(k:Nat)(b:k<=1000):(Bw a k).size<=a.size+22:=by have h:=Dw (n:=(k:Int)) ⟨by omega,by omega⟩;rw[<-AA6,ByteArray.size_append,ByteArray.size_append];have e:(⟨#[95]⟩:Tb).size=1:=rfl;omega
theorem fB(h:Good Bv Cm s):∀x∈s.cols,x.2.1.size<=maxLen/\x.2.2.2.2.2.2.size<=maxLen:=λx a=>by
 rcases h.cols with e|e
 ·rw[e] at a;cases a
 have d:=(e.2.2.1 x a).1;have b:=d.2.2.1;have c:=d.2.2.2;simp only[Bv,X6] at b;simp only[Cm,X6] at c;have:=Hh b.2;have:=gA c.1;unfold maxLen;omega
def noA(path:ByteArray)(n:Int):Gx:=((1,path,n,[],[],0),(none,0,0),(none,0,0))
def AIr(w0 w:World)(h base bb n:Nat)(D:DataW Unit)(fs:List Int)(mv:Value)(o:Nat)(s:Ah)(v:Int)(i:Option Addr)(n1 c1:Nat)(q:Int)(j:Option Addr)(n2 m:Nat)(f:ByteArray)(p:Bool)(L:List Gx)(rows:Int)(R:List (List V))(e:Ending)(g:World):Prop :=
 ∃n' c a b d,Ey w0 g h bb n' c a b d/\n'<=n+1/\Mv base bb mv b w g /\
  ((e=.returned .nilIface/\De s.cols R=true/\fs.headD 0≠1/\a=fs.tail/\c=D.put (B.lit (Eh (Bw f L.length))) (Pa s.cols R)/\∃k l,Dv base g o s v i n1 c1 q j n2 m f p k l (L++[noA (Bw f L.length) R.length]) rows) \/
   (∃T x,e=.returned (.iface T x)/\c=D/\((De s.cols R=false/\a=fs)\/(De s.cols R=true/\fs.headD 0=1/\a=fs.tail))))
theorem bK(w0:Tw)(NF base bb n:Nat)(D:Td)(fs:List Int)(mv fv:Tv)(P:Nat)(s:Ah)(v:Int)(a1:To)(n1 c1:Nat)(x2:Int)(a2:To)(n2 c2:Nat)(o:Tb)(rd:Bool)(aa:To)(ac:Nat)(L:List Gx)(rows:Int)(rv:Tv)(R:List (List V))(w:Tw)(h:Ey w0 w NF bb n D fs mv fv)(hN:NF<=base)(a8:w0.heap.size<=base)(hn:n<100000)(hD:Maps.IsMap D)(hP:Dv base w P s v a1 n1 c1 x2 a2 n2 c2 o rd aa ac L rows)(az:base<=w.heap.size)(hg:Good Bv Cm s)(he:B.Ob w0)(hR:iJ w rv R)(ay:R.length<=100000)(Y:∀r∈R,∀v∈r,v.2.2.size<=maxLen)(l:K9 R)(ba:o.size<=12)(hL:L.length<=100)(f:Maps.has D (B.lit (Eh (Bw o L.length)))=false):
 Zc 68 #[Zp (some ⟨bb,0,none⟩),Zp (some ⟨P,0,none⟩),rv] w (AIr w0 w NF base bb n D fs mv P s v a1 n1 c1 x2 a2 n2 c2 o rd L rows R):=by
 have a0:s.cols.length<=8:=by
  rcases hg.cols with e|e
  ·rw[e];exact XA _
  exact e.2.1
 obtain⟨b1,d1,b2,d2,Ls,ev,hV⟩:=hP.snap;unfold K4 at ev;simp only[Value.agg.injEq,Array.mk.injEq,List.cons.injEq,Value.int.injEq,Value.slice.injEq] at ev;obtain⟨⟨_,_⟩,⟨e1,e2,e3⟩,_⟩:=ev;subst e1 e2 e3;have d:F7 7 Cc w (Zs a1 s.cols.length c1) s.cols:=F7.Fz (k:=7) (enc:=Cc) (λ_=>rfl) (show w.ownsRow 0 72 7 (Zs a1 s.cols.length c1) s.cols.length (s.cols.flatMap Cc) from hV.cols) rfl;have c:=Aa (rW (Zs a1 s.cols.length c1) rv s.cols R w d hR (by omega) ay (fB hg) Y l (AHr h.ground.nc) (AJI (he.below h.low)));obtain⟨ra,rc,rfl,_⟩:=hR.slice;obtain⟨x0,x1,y2,x3,x4,x5,x6,x7,xf⟩:=F2 hP.box;have HP:=Aa hP;have ae:=Aa h;have a6:=Vu o L.length (by omega);have a5:(0:Int)<=(L.length:Int):=by omega
 cases hm:De s.cols R with
 | false=>rw[Ss hm] at c;have HM:=Aa hm;clear hm d hV hP h hg f hR Y l;unfold gK at c;go_enter func68,ntmps68;go_wp2_with fail;refine c.o.mono ?_;rintro e w1⟨T,u,rfl,t⟩;have i:Hid (Zb w (w1.alloc (Zk #[Zs none 0 0,Zs none 0 0] 98))):=Aa (Ap t (Zal));clear t c;go_wp2_with fail;go_ret;exact⟨n,D,fs,mv,fv,ae.o.up i.o,by omega,Mv.below i.o,.inr ⟨_,_,rfl,rfl,.inl ⟨HM.o,rfl⟩⟩⟩
 | true=>
   rw[lG hm] at c;have HM:=Aa hm;have hG:=opened hm l
   have X:=Aa (λcv gv W(N:Zb w W)(hF:Hm W cv gv (s.cols,Ay s.cols R))=>lH cv gv s.cols (Ay s.cols R) W hF a0 (by rw[hG.2];intro g hg b hb;obtain⟨p,hp,rfl⟩:=List.mem_map.1 hg;exact hG.1.bytes p hp b hb) (by rw[hG.2,X'];have:=hG.1.p10;omega) (AHr (h.ground.nc.below N)) (AJI ((he.below h.low).below N)))
   rw[show Jn (s.cols,Ay s.cols R)=some (Cq (s.cols,Ay s.cols R)) by unfold Jn;rw[if_pos (o8 hm ⟨rfl,rfl⟩ l)]] at X;have M:Hid (∀(cv gv:Tv)(W:Tw),Zb w W->Hm W cv gv (s.cols,Ay s.cols R)->Zc 92 #[Zg #[cv,gv]] W λe w'=>e=Zr (Zu #[Zt (E.str (Cq (s.cols,Ay s.cols R))),Zn])/\Zb W w'):=Aa X.o;clear X;have a9:=Vn hm l;have ag:=Aa (λW(N:Zb w W)=>Mx (L.length:Int) W ⟨by omega,by omega⟩ (h.ground.tb.below N));have a4:=Dw (n:=(L.length:Int)) ⟨by omega,by omega⟩;have ai:=Aa (AA6 o L.length);have ah:=Aa (λW=>tC (Bw o L.length) W (by omega));have q:=Aa (λW(N:Zb w W)=>oD w0 NF bb n D fs mv fv (Eh (Bw o L.length)) (E.str (Cq (s.cols,Ay s.cols R))) W (h.up N) hn hD (by simp[B.Wz,lS];omega) f (by rw[E.Ds];unfold maxLen;omega));unfold ABM at q;have ap:(⟨#[95]⟩:Tb).size=1:=rfl;have a7:(o++⟨#[95]⟩:Tb).size<=13:=by rw[ByteArray.size_append,ap];omega
   have au:Hid (B.Gw (E.str (Cq (s.cols,Ay s.cols R)))=Pa s.cols R):=Aa rfl;have ak:=Aa (And.intro hN a8);clear hm d hV hP h hg f hR Y l hG;unfold gK at c;generalize a3:Ay s.cols R=gs at *;generalize E.str (Cq (s.cols,gs))=tt at *;obtain⟨ar,y⟩:∃p,Bw o L.length=p:=⟨_,rfl⟩;rw[y] at ai ah q a6;have aj:=Aa y;clear y;generalize Bm (L.length:Int)=it at *;clear a3;go_enter func68,ntmps68;go_wp2_with fail;refine c.o.mono ?_;rintro e w1⟨cv,gv,rfl,I,t⟩;obtain⟨ca,cc,ec,_⟩:=I.1.slice;obtain⟨ga,gc,eg,_⟩:=I.2.slice;simp only at ec eg;subst ec eg;have af:=Aa I;have i:=Aa t;have z:Hid (Zb w1 (w1.alloc (Zk #[Zs ca s.cols.length cc,Zs ga gs.length gc] 98))):=Aa (Zal);clear I t c x0 x1 y2 x3 x4 x5 x6 x7 xf;go_wp2_with fail;refine(M.o _ _ _ (Ap i.o z.o) (af.o.up z.o)).mono ?_;rintro e w2⟨rfl,an⟩;have U:=Aa (Ap (Ap i.o z.o) an);clear an M af z i
   have HK:Hid (∀W,Zb w W->W.cell? ⟨P,4,none⟩=some (Zt o)/\W.cell? ⟨P,6,none⟩=some (Zs aa L.length ac)):=Aa λW N=>by obtain⟨_,_,_,_,x4,_,x6,_⟩:=F2 (HP.o.up N).box;exact⟨x4,x6⟩
   obtain⟨x4,x6⟩:=HK.o _ U.o;go_wp2_with fail
   go_region_held (λw'=>w'.cell? ⟨P,4,none⟩=some (Zt o)/\w'.cell? ⟨P,6,none⟩=some (Zs aa L.length ac))
    (first
      | (go_keep;done)
      | exact HK.o _ ab
      | fail)
    (first
      | (go_at_call 81;refine(ag.o _ U.o.drew).mono ?_;rintro e w3⟨rfl,O⟩
         have ab:=Ap U.o.drew O;clear O)
      | fail)
   all_goals
    have j:=Aa ab;clear ab ag x4 x6 ap a7 a9 a4;go_wp2_with fail;rw[ai.o];refine(ah.o _).mono ?_;rintro e w4⟨rfl,rfl⟩;go_wp2_with fail;refine(q.o _ j.o).mono ?_;rintro e w5⟨aq,al,D5,G,m,J,⟨hh,rfl,rfl⟩|⟨hh,rfl,rfl⟩⟩
    ·have a:=Zy G m J hh
     have av:=Aa ((HP.o.up j.o).put (ae.o.up j.o).bu m);have ad:=Aa (N3 base P s v a1 _ c1 x2 a2 n2 c2 o rd aa ac L rows w5 av.o (XD (XD az j.o.size) m.size) 1 ar (R.length:Int) [] [] 0 none 0 0 none 0 0 ⟨XF _ _ _ _,XF _ _ _ _⟩ ⟨by unfold maxLen;show ar.size<=_;omega,XA _,(λx hx=>by cases hx)⟩ (by omega));clear G m J hh q;go_wp2_with fail;refine ad.o.mono ?_;rintro e w6⟨rfl,⟨aw,ax,am⟩,ao⟩;have H6:=Aa (And.intro am ao);clear am ao ad;go_wp2_with fail;go_ret;refine⟨n+1,_,_,aq,al,Kv a.o.1 ak.o.1 ak.o.2 H6.o.2,by omega,((Mv.below j.o).trans (Mv.put a.o.2.1 a.o.2.2.1)).trans (Mv.ACV H6.o.2),.inl ⟨rfl,HM.o,a.o.2.2.2,rfl,by rw[au.o,aj.o],aw,ax,by rw[aj.o];exact H6.o.1⟩⟩
    have a:=Zy G m J hh;clear G m J hh q;go_wp2_with fail;go_ret;exact⟨n+1,_,_,aq,al,a.o.1,by omega,(Mv.below j.o).trans (Mv.put a.o.2.1 a.o.2.2.1),.inr ⟨_,_,rfl,rfl,.inr ⟨HM.o,a.o.2.2.2,rfl⟩⟩⟩
inductive Grown (tx:ByteArray) (D:DataW Unit):DataW Unit->Prop
 | refl:Grown tx D D
 | put {D':DataW Unit} (k:Nat) (v:DataW Unit):Grown tx D D'->Maps.has D' (B.lit (Eh (Bw tx k)))=false->Grown tx D (D'.put (B.lit (Eh (Bw tx k))) v)
theorem Inv.grown{a:Td}{s:Tb}(h:Inv D H U)(c:s∈U)(b:Grown s D a):Inv a H U:=by
 induction b with
 | refl=>exact h
 | put k v _ hf ih=>exact ih.put c k v hf
def Kd(w0 w:World)(l bb n:Nat)(D:DataW Unit)(mv:Value)(H:List (Dn×Ah))(i:ByteArray)(j:Prop)(Ok:DataW Unit->Bool->List A5->Int->Prop)(e:Ending)(f:World):Prop :=
 ∃n' b c a d,Ey w0 f l bb n' b c a d/\n'<=n+50/\B.A0 (B.Own bb mv) w f/\(∀k,a=.map (some k)->mv=.map (some k)\/w.heap.size<=k)/\Grown i D b /\
  ((∃g L h rows m n1 c1 s o n2 r p q,e=.returned (.tuple #[.pointer (some ⟨g,0,none⟩),.nilIface])/\Dv w.heap.size f g (Ae H H.length) (H.length:Int) m n1 c1 s o n2 r i h p q L rows/\Ok b h (L.map (·.1)) rows) \/
   (j/\∃T x,e=.returned (.tuple #[.pointer none,.iface T x])))
structure iK(w0 w:World)(NF bb n:Nat)(D:DataW Unit)(fs:List Int)(mv fv:Value)(H:List (Dn×Ah))(U:List ByteArray)(tx:ByteArray):Prop where
 base:Ey w0 w NF bb n D fs mv fv
 inv:Inv D H U
 et:B.Ob w0
 Pw:S.Lp w0
 nf:NF<=w.heap.size
 Iz:n<=80000
 O5:H.length<=40
 name:Bx tx=true
 short:tx.size<=12
 plain:Plain tx
 new:¬tx∈U
theorem iK.free{w0 w:Tw}{i bb n:Nat}{fs:List Int}{mv v:Tv}{s:Tb}(h:iK w0 w i bb n D fs mv v H U s)(k:Nat):Maps.has D (B.lit (Eh (Bw s k)))=false:=h.inv.used.fresh h.new h.plain h.inv.plain k
theorem iK.Of{w0 w:Tw}{k bb n:Nat}{fs:List Int}{mv v:Tv}{s:Tb}(h:iK w0 w k bb n D fs mv v H U s):Good Bv Cm (Ae H H.length):=(Jb h.inv.past (XB _)).1
def AIO(D:DataW Unit)(s:Ah)(a:ByteArray)(R:List (List V))(b:DataW Unit)(c:Bool)(A:List A5)(rows:Int):Prop :=
 s.cols≠[]/\De s.cols R=true/\b=D.put (B.lit (Eh (Bw a 0))) (Pa s.cols R)/\c=false/\A=[(1,Bw a 0,(R.length:Int),[],[],0)]/\rows=R.length
def AGF(s:Ah)(fs:List Int)(R:List (List V)):Prop:=s.cols=[]\/De s.cols R=false\/fs.headD 0=1
theorem AK7{b:Nat}{u f a e c d g j:Tv}{t:TypeId}(h:W.heap[b]? = some (Zk #[u,f,a,e,c,d,g,j] t (0,0)))(v:Tv):(W.setCell ⟨b,7,none⟩ v).heap[b]? = some (Zk #[u,f,a,e,c,d,g,v] t (0,0)):=by have i:=As W b 7 _ _ v h;simpa using i
theorem Dv.set{base:Nat}{w:Tw}{n:Nat}{v:Int}{g:To}{n1 c1:Nat}{y:Int}{j:To}{n2 k:Nat}{t:Tb}{R d:Bool}{l:To}{i:Nat}{L:List Gx}{rows a:Int}(h:Dv base w n s v g n1 c1 y j n2 k t R l i L rows)(N:w.grownBy W (some n))(M:W.heap[n]? = some (Zk #[Zi v,Zs g n1 c1,Zi y,Zs j n2 k,Zt t,Zo d,Zs l L.length i,Zi a] 116 (0,0))):Dv base W n s v g n1 c1 y j n2 k t d l i L a:=by
 have c:∀{b z m:Nat}{T:TypeId}{u:Tv}{xs:List Tv},w.ownsRow b T z u m xs->T≠116->W.ownsRow b T z u m xs:=λO J=>Mk O h.box (λe=>J e.symm) N
 refine⟨M,?_,c h.row (by decide),λq o=>⟨c (h.own q o).1 (by decide),c (h.own q o).2 (by decide)⟩,h.Vv,h.low⟩;obtain⟨r,G,D,I,p,e,f⟩:=h.snap;exact⟨r,G,D,I,p,e,c f.cols (by decide),f.files,c f.row (by decide),λx P=>c (f.Cl x P) (by decide)⟩
theorem wV(w0:Tw)(Y bb n:Nat)(D:Td)(fs:List Int)(mv fv:Tv)(H:List (Dn×Ah))(U:List Tb)(i:Tb)(rv:Tv)(R:List (List V))(w:Tw)(h:iK w0 w Y bb n D fs mv fv H U i)(hR:iJ w rv R)(ab:R.length<=100000)(u:∀r∈R,∀v∈r,v.2.2.size<=maxLen)(q:K9 R):
 Zc 38 #[Zp (some ⟨bb,0,none⟩),Zt i,rv] w (Kd w0 w Y bb n D mv H i (AGF (Ae H H.length) fs R) (AIO D (Ae H H.length) i R)):=by
 have HS:=Aa h;have g:=Aa (fH bb n D mv H i w h.base.ground h.inv.Lm h.inv.past h.O5 h.name h.short)
 have P:=Aa (λ(f:Nat)(k:To)(n1 c1:Nat)(J:Int)(l:To)(n2 m:Nat)W(hW:Zb w W)(s:Dv w.heap.size W f (Ae H H.length) (H.length:Int) k n1 c1 J l n2 m i false none 0 [] (R.length:Int))=>bK w0 Y w.heap.size bb n D fs mv fv f (Ae H H.length) (H.length:Int) k n1 c1 J l n2 m i false none 0 [] (R.length:Int) rv R W (h.base.up hW) h.nf h.base.low.size (by have:=h.Iz;omega) h.inv.Lm.1 s hW.size h.Of h.et (hR.up hW) ab u q h.short (XA _) (h.free 0))
 obtain⟨ra,rc,rfl,_⟩:=hR.slice;clear h hR u q;generalize G:Ae H H.length=sn at *;have X:=Aa G;clear G;go_enter func38,ntmps38;go_wp2_with fail;refine g.o.mono ?_;rintro e w1⟨d,⟨y,rfl⟩|⟨y,f,k,n1,c1,J,l,n2,m,rfl,s⟩⟩
 ·have j:=Aa (And.intro y d)
  clear y d g;go_wp2_with fail;go_ret2;exact⟨n,D,fs,mv,fv,HS.o.base.up j.o.2,by omega,B.A0.Ba j.o.2,λ_ e=>.inl e,.refl,.inr ⟨.inl j.o.1,_,_,rfl⟩⟩
 have L:=Aa d;have j:=Aa y;have N:=Aa s;obtain⟨y0,y1,y2,y3,y4,y5,y6,y7,yf⟩:=F2 s.box;clear d y s g;have HG:Hid (w1.grownBy (w1.setCell ⟨f,7,none⟩ (Zi (R.length:Int))) (some f)):=Aa (Aq _ _ _ _);have O:=Aa (N.o.set HG.o (AK7 N.o.box _));have a:Hid (Zb w (w1.setCell ⟨f,7,none⟩ (Zi (R.length:Int)))):=Aa (L.o.setCell (p:=⟨f,7,none⟩) N.o.low _);go_wp2_with fail;refine(P.o f k n1 c1 J l n2 m _ a.o O.o).mono ?_;rintro e w3⟨n3,D3,ad,I,o,b,ae,c,⟨rfl,hm,hf,rfl,rfl,aa,ac,t⟩|⟨T,x,rfl,rfl,z⟩⟩
 ·have H3:=Zy b c hm t
  clear b c hm t hf;go_wp2_with fail;go_ret2;refine⟨n3,_,_,I,o,H3.o.1,by omega,((Mv.below a.o).trans H3.o.2.1).o (XB _),((Mv.below (base:=w.heap.size) a.o).trans H3.o.2.1).link,.put 0 _ .refl (HS.o.free 0),.inl ⟨f,_,false,_,k,n1,c1,J,l,n2,m,aa,ac,rfl,by rw[X.o];exact H3.o.2.2.2,j.o,H3.o.2.2.1,rfl,rfl,rfl,rfl⟩⟩
 have H3:=Aa (And.intro b c);have M:Hid (AGF sn fs R):=Aa (z.elim (λh=>.inr (.inl h.1)) (λh=>.inr (.inr h.2.1)));clear b c z;go_wp2_with fail;go_ret2;exact⟨n3,_,_,I,o,H3.o.1,by omega,((Mv.below a.o).trans H3.o.2).o (XB _),((Mv.below (base:=w.heap.size) a.o).trans H3.o.2).link,.refl,.inr ⟨M.o,_,_,rfl⟩⟩
theorem k9(x:Int):∀(l:List Aj)(k:Nat),k<l.length->(Av l).set (k*7) (Zi x)=Av (l.set k (x,l[k]!.2))
 | [],k,h=>absurd h (Ym _)
 | c :: l,0,_=>rfl
 | c :: l,k+1,h=>by
   have b:=k9 x l k (by simpa using h);have e:Av (c :: l)=Cc c++Av l:=rfl;have a:(c :: l)[k+1]! = l[k]! := by simp
   rw[e,a,XL,show Av (c :: l.set k (x,l[k]!.2))=Cc c++Av (l.set k (x,l[k]!.2)) from rfl,<-b];rw[YB _ _ (by rw[Gl];omega),Gl,show (k+1)*7-7=k*7 by omega]
def Qj:Nat->Nat->List Aj->List Aj
 | _,0,l=>l
 | _,_+1,[]=>[]
 | i,k+1,c :: l=>((i:Int),c.2) :: Qj (i+1) k l
theorem gN:∀(i k:Nat)(l:List Aj),(Qj i k l).length=l.length
 | _,0,l=>rfl
 | _,_+1,[]=>rfl
 | i,k+1,c :: l=>by simp[Qj,gN (i+1) k l]
theorem tM:∀(i:Nat)(l:List Aj),Qj i l.length l=Nl i l
 | _,[]=>rfl
 | i,c :: l=>by simp[Qj,Nl,tM (i+1) l]
theorem jO:∀(i k:Nat)(l:List Aj),k<l.length->Qj i (k+1) l=(Qj i k l).set k (((i+k:Nat):Int),(Qj i k l)[k]!.2)
 | i,0,c :: l,_=>by simp[Qj]
 | i,k+1,c :: l,h=>by
   have a:=jO (i+1) k l (by simpa using h);rw[show Qj i (k+1+1) (c :: l)=((i:Int),c.2) :: Qj (i+1) (k+1) l from rfl,a,show Qj i (k+1) (c :: l)=((i:Int),c.2) :: Qj (i+1) k l from rfl,XL];have e:i+1+k=i+(k+1):=by omega
   rw[e];simp
 | _,_,[],h=>absurd h (Ym _)
theorem Rh:∀(i:Nat)(l:List Aj),(∀x∈l,x.2.1.size<=maxLen/\x.2.2.2.2.2.2.size<=maxLen)->∀x∈Nl i l,x.2.1.size<=maxLen/\x.2.2.2.2.2.2.size<=maxLen
 | _,[],_,x,a=>by cases a
 | i,c :: l,h,x,a=>by
   rcases List.mem_cons.1 a with rfl|a
   ·exact h c (Yf ..)
   exact Rh (i+1) l (λy b=>h y (Yg _ b)) x a
theorem qK(o:To)(d:Nat)(w:Tw):
 Zc 103 #[Zs o 0 d] w λe x=>∃a c,e=Zr (Zs a 0 c)/\Zb w x:=by
 have v:∀(w:Tw)(a:To)(n c n' h:Nat),(binOp .eql 34 (.slice a n c) (.slice none n' h)).run prog w=.ok (.bool a.isNone) w:=λw a n c n' h=>Lib.run_eql_slice_nil w _ _ a n c n' h underlying34
 obtain⟨u,r,j,l,m⟩:=info_parts Kh;cases o with
 | none=>go_enter func103,ntmps103;go_wp2;go_ret;exact⟨_,_,rfl,Y9 _ _⟩
 | some a=>
   go_enter func103,ntmps103;go_wp2_with (at_builtin;refine wpList_append_own _ rfl _ _ 34 rfl w.heap.size 72 u L6 7 72 underlying34 r j l m rfl (by decide) _ _ _ rfl (YS w #[] 0 (XB _) (XA _) (by simp)) a 0 d [] rfl (by simp) (by simp) (by simp) (by decide) (by decide) (by simp) ?_);intro v' y f b p
   have t:∃g c,v'=Zs g 0 c:=by
    obtain⟨_,⟨i,_⟩|⟨g,c,q,i,_⟩⟩:=f
    ·exact⟨_,_,i⟩
    exact⟨_,_,i⟩
   obtain⟨g,c,rfl⟩:=t;go_wp2;go_ret;exact⟨_,_,rfl,((Y9 _ w).alloc (XB _) _).grown b (by simp) (by intro k s;simp[Value.ownBlock] at s;omega)⟩
theorem pD(a:To)(c:Nat)(l:List Aj)(w:Tw)(h:bH w (Zs a l.length c) l)(Y:l.length<=100):
 Zc 63 #[Zs a l.length c] w λe N=>∃J z,e=Zr (Zu #[Zs J l.length z,Zi (l.length+1:Nat)])/\Zb w N/\(l=[]\/N.ownsRow w.heap.size 72 7 (Zs J l.length z) l.length (Av (Nl 1 l))):=by
 cases b:l with
 | nil=>
   have j:=Aa (qK a c w);go_enter func63,ntmps63;go_wp2_with fail;refine j.o.mono ?_;rintro e O⟨P,c1,rfl,d⟩;have f:=Aa d;clear d j h b;go_wp2_with fail
   go_loopw [10] (λv wr=>v=Zi 0/\wr=O) (λ_ _=>0)
   case atStart=>exact⟨rfl,rfl⟩
   case round=>obtain⟨rfl,rfl⟩:=hrel;go_wp2;go_ret2;exact⟨P,c1,by simp,f.o,by simp⟩
 | cons c0 l0=>
   rw[<-b];have L:0<l.length:=by rw[b];simp
   rcases h with⟨_,e0⟩|⟨g,o,z,e,U,M⟩
   ·rw[e0] at L;simp at L
   injection e with R _ T;subst R T;have j:=Aa (P9 g o c l w M Y);clear b M U;go_enter func63,ntmps63;go_wp2_with fail;refine j.o.mono ?_;rintro e O⟨x,c1,rfl,t,d⟩;have f:=Aa d;have r:=Aa t;clear d t j;go_wp2_with fail
   go_loopw [10] (λv wr=>∃k:Nat,k<=l.length/\v=Zi (k:Int)/\Hid (wr.ownsRow w.heap.size 72 7 (Zs (some ⟨x,0,none⟩) l.length c1) l.length (Av (Qj 1 k l)))/\Hid (Zb w wr)) (λv _=>l.length-Ev v)
   case atStart=>exact⟨0,XA _,rfl,r,f⟩
   case round=>
    clear r f;obtain⟨k,hk,rfl,q,I⟩:=hrel
    rcases Yc k l.length with s|W
    ·have G:(k:Int)<(l.length:Int):=by omega
     have X:(0:Int)<=(k:Int):=by omega
     have hlen:(Av (Qj 1 k l)).length=l.length*7:=by rw[Hy,gN]
     obtain⟨u,hu⟩:∃u,wr.cell? ⟨x,k*7,none⟩=some u:=by rw[q.o.cellAt (k*7) (by omega)];exact⟨_,Y' (by omega)⟩
     have V:=q.o.frozenAt (k*7);have n:=Aa (jO 1 k l s);have m:=Aa (k9 ((1+k:Nat):Int) (Qj 1 k l) k (by rw[gN];exact s));have b:((1+k:Nat):Int)=(k:Int)+1:=by omega
     rw[b] at n m;clear hlen b;go_wp2;refine⟨⟨k+1,by omega,by simp,Aa ?_,Aa (Wb (p:=⟨x,k*7,none⟩) I.o (q.o.lt x rfl).1 _)⟩,by simp only[Ev];omega⟩;rw[n.o,<-m.o];exact(q.o.stored _ _).1
    have G:¬(k:Int)<(l.length:Int):=by omega
    have D:k=l.length:=by omega
    subst D;have i:=q.o;rw[tM] at i;have y:=Aa i;clear i;have aa:IntKind.i64.wrap ((l.length:Int)+1)=(l.length:Int)+1:=by rw[IntKind.wrap_i64];omega
    go_wp2;go_ret2;exact⟨_,_,rfl,I.o,.inr y.o⟩
def AIP(D:DataW Unit)(s:Ah)(l:List Aj)(a:DataW Unit)(b:Bool)(A:List A5)(rows:Int):Prop :=
 s.cols=[]/\Go.Proofs.YtbhhpheailbebaaGreatDoor.Be (Nl 1 l) (l.length+1:Nat)=true/\a=D/\b=false/\A=([(4,⟨#[]⟩,0,[],Nl 1 l,((l.length+1:Nat):Int))]:List A5)/\rows=0
def AIU(s:Ah)(l:List Aj):Prop:=Go.Proofs.YtbhhpheailbebaaGreatDoor.Be (Nl 1 l) (l.length+1:Nat)=false\/s.cols≠[]
theorem AHG{b c:Nat}{a:To}(h:l=[]\/W.ownsRow b 72 7 (Zs a l.length c) l.length (Av l)):bH W (Zs a l.length c) l:=by
 rcases h with h|h
 ·subst h;exact .inl ⟨⟨a,c,rfl⟩,rfl⟩
 exact p8 (gL (k:=7) (en:=Cc) (λ_=>rfl) h)
theorem zI(w0:Tw)(NF bb n:Nat)(D:Td)(fs:List Int)(mv Y:Tv)(H:List (Dn×Ah))(U:List Tb)(X:Tb)(la:To)(lc:Nat)(l:List Aj)(w:Tw)(h:iK w0 w NF bb n D fs mv Y H U X)(hl:bH w (Zs la l.length lc) l)(ah:l.length<=100)(m:∀x∈l,x.2.1.size<=maxLen/\x.2.2.2.2.2.2.size<=maxLen):
 Zc 36 #[Zp (some ⟨bb,0,none⟩),Zt X,Zs la l.length lc] w (Kd w0 w NF bb n D mv H X (AIU (Ae H H.length) l) (AIP D (Ae H H.length) l)):=by
 have J:=Aa h;have t:=Aa (kN bb n D mv H X w h.base.ground h.inv.Lm h.inv.past h.O5 h.name h.short);have v:=Aa (λW(hW:Zb w W)=>pD la lc l W (hl.below hW) ah);have I:=Aa (λ(a:To)(c:Nat)W(hW:Zb w W)(hL:bH W (Zs a l.length c) (Nl 1 l))=>Vs a l.length c (Nl 1 l) (l.length+1:Nat) W hL (h.base.ground.nc.below hW) (Rh 1 l m));have i:=Aa (dK 1 l);have af:=Aa (Rh 1 l m);clear h hl m;generalize V:Ae H H.length=sn at *;have ae:=Aa V;clear V;go_enter func36,ntmps36;go_wp2_with fail;refine t.o.mono ?_;rintro e w1⟨pb,a1,n1,c1,x2,a2,n2,c2,rfl,hP,O⟩
 have ai:n1=sn.cols.length:=by obtain⟨_,_,_,_,_,e,_⟩:=hP.snap;unfold K4 at e;simp only[Value.agg.injEq,Array.mk.injEq,List.cons.injEq,Value.int.injEq,Value.slice.injEq] at e;exact e.2.1.2.1
 subst ai;have HP:=Aa hP;have r:=Aa O;clear hP O t;go_wp2_with fail;refine(v.o _ r.o).mono ?_;rintro e w2⟨L,M,rfl,k,p⟩;have s:=Aa (Ap r.o k);have z:=Aa (HP.o.up k)
 have u:Hid (bH w2 (Zs L l.length M) (Nl 1 l)):=Aa (by
  have:=AHG (W:=w2) (b:=w1.heap.size) (a:=L) (c:=M) (l:=Nl 1 l) (by
   rw[i.o]
   rcases p with e|e
   ·left;rw[e];rfl
   exact .inr e)
  rw[i.o] at this;exact this)
 have y:=Aa p;clear k p v HP;generalize R:((l.length+1:Nat):Int)=nx at *;have j:=Aa R;clear R;go_wp2_with fail;refine(I.o L M _ s.o u.o).mono ?_;rintro e w3⟨rfl,f⟩;have d:=Aa (Ap s.o f);have G:=Aa (z.o.up f);have ab:Hid (l=[]\/w3.ownsRow w1.heap.size 72 7 (Zs L l.length M) l.length (Av (Nl 1 l))):=Aa (y.o.imp id λo=>Bc o f);clear f I z y u;cases hrb:Go.Proofs.YtbhhpheailbebaaGreatDoor.Be (Nl 1 l) nx with
 | false=>have HN:=Aa hrb;clear hrb;go_wp2_with fail;go_ret2;exact⟨n,D,fs,mv,Y,J.o.base.up d.o,by omega,B.A0.Ba d.o,λ_ e=>.inl e,.refl,.inr ⟨.inl (by rw[j.o];exact HN.o),_,_,rfl⟩⟩
 | true=>
   have ad:=Aa hrb
   have P:l≠[]:=by intro e;rw[e] at hrb;have:=((Go.Proofs.YtbhhpheailbebaaGreatDoor.I9 _ _).1 hrb).1;simp[Nl] at this
   clear hrb;obtain⟨y0,y1,y2,y3,y4,y5,y6,y7,yf⟩:=F2 G.o.box
   by_cases hcc:sn.cols.length=0
   ·have HC:Hid (sn.cols=[]):=Aa (List.length_eq_zero_iff.1 hcc)
    have ag:¬(0:Int)<((sn.cols.length:Nat):Int):=by omega
    have g:=ab.o.resolve_left P;have q:=Aa (N3 w.heap.size pb sn (H.length:Int) a1 _ c1 x2 a2 n2 c2 X false none 0 [] 0 w3 G.o d.o.size 4 ⟨#[]⟩ 0 [] (Nl 1 l) nx none 0 0 L l.length M ⟨XF _ _ _ _,by rw[i.o];exact E.Ai g (XA _)⟩ ⟨XA _,XA _,af.o⟩ (XA _));clear hcc g P;go_wp2_with fail;refine q.o.mono ?_;rintro e w4⟨rfl,⟨aa,ac,N⟩,T⟩;have H4:=Aa (And.intro N T);clear N T q y0 y1 y2 y3 y4 y5 y6 y7 yf;go_wp2_with fail;go_ret2;have hm:=(Mv.below (base:=w.heap.size) (bb:=bb) (mv:=mv) d.o).trans (Mv.ACV H4.o.2);exact⟨n,D,fs,mv,Y,Kv (J.o.base.up d.o) J.o.nf J.o.base.low.size H4.o.2,by omega,hm.o (XB _),hm.link,.refl,.inl ⟨pb,_,false,_,a1,_,c1,x2,a2,n2,c2,aa,ac,rfl,by rw[ae.o];exact H4.o.1,HC.o,by rw[j.o];exact ad.o,rfl,rfl,by rw[j.o];rfl,rfl⟩⟩
   have ag:(0:Int)<((sn.cols.length:Nat):Int):=by omega
   have HN:Hid (sn.cols≠[]):=Aa (λe=>hcc (by rw[e];rfl));clear hcc;go_wp2_with fail;go_ret2;exact⟨n,D,fs,mv,Y,J.o.base.up d.o,by omega,B.A0.Ba d.o,λ_ e=>.inl e,.refl,.inr ⟨.inr HN.o,_,_,rfl⟩⟩
theorem Ry{s t:Ah}{n:Tb}{f:Bool}{r:Int}{m:List Int}{next:Int}(h:Bi s (n,f,[(4,p,r,m,l,next)]) t):t=⟨s.Eb+1,l,next,s.files⟩/\Wc Bv Cm l next/\s.next<=next:=by
 obtain⟨_,u,d,e⟩:=h;simp only[Il] at e;subst e
 rcases d with⟨a,_⟩|⟨a,_⟩|⟨a,_⟩|⟨_,b,c⟩
 ·exact absurd a (by simp)
 ·exact absurd a (by simp)
 ·exact absurd a (by simp)
 exact⟨c,b.1,b.2⟩
theorem pH{nb:Tb->Bool}{cb:Tb->Bool}{fb:Int->Int->Int->Tb->Bool}:∀{es:List (Tb×Int)}{s t:Ah},Il nb cb fb s (es.map λe=>(1,e.1,e.2,[],[],0)) t->t=⟨s.Eb,s.cols,s.next,s.files++es.map λe=>(e.1,e.2,[])⟩
 | [],s,t,h=>by simp only[XY,Il] at h;subst h;simp
 | e :: es,s,t,h=>by
   obtain⟨u,b,c⟩:=h
   rcases b with⟨_,_,rfl⟩|⟨a,_⟩|⟨a,_⟩|⟨a,_⟩
   ·rw[pH c]
    simp[oE]
   ·exact absurd a (by simp)
   ·exact absurd a (by simp)
   exact absurd a (by simp)
theorem eH{s t:Ah}{b:Tb}{a:Bool}(h:Bi s (b,a,[(1,p,n,[],[],0)]) t):t=⟨s.Eb+1,s.cols,s.next,s.files++[(p,n,[])]⟩:=by have:=pH (es:=[(p,n)]) h.2;simpa[bump] using this
theorem zU{s t:Ah}{f:Bool}{xs:List A6}(c:xs.map (·.1)=s.files)(d:(s.files.map (·.1)).Nodup)(e:∀x∈xs,x.1.2.1=x.2.2.length)(h:Bi s (p,f,xs.flatMap (Vm s.cols T)) t):t=⟨s.Eb+1,s.cols,s.next,(xs.filterMap (pO s.cols T)).map (·.1)⟩:=by have a:=h.2;have b:=Sp (nb:=Bx) (cb:=Bv) (fb:=Cm) s.cols T xs [] [] (bump s) (by simp[bump,c]) d e;have:=K6 a b;rw[this];simp[bump]
theorem AAO{s t:Ah}{v:Tb}{r:Bool}{xs:List A6}(k:xs.map (·.1)=s.files)(o:∀x∈xs,x.1.2.1=x.2.2.length)(m:¬p∈s.files.map (·.1))(l:(s.files.map (·.1)).Nodup)(h:Bi s (v,r,(1,p,n,[],[],0) :: xs.flatMap (Vm s.cols T)) t):t=⟨s.Eb+1,s.cols,s.next,(xs.filterMap (pO s.cols T)).map (·.1)++[(p,n,[])]⟩:=by
 obtain⟨_,u,j,d⟩:=h
 have q:u=⟨s.Eb+1,s.cols,s.next,s.files++[(p,n,[])]⟩:=by
  rcases j with⟨_,_,rfl⟩|⟨c,_⟩|⟨c,_⟩|⟨c,_⟩
  ·rfl
  ·exact absurd c (by simp)
  ·exact absurd c (by simp)
  exact absurd c (by simp)
 subst q
 have g:=Sp (nb:=Bx) (cb:=Bv) (fb:=Cm) s.cols T xs [] [(p,n,[])] ⟨s.Eb+1,s.cols,s.next,s.files++[(p,n,[])]⟩ (by simp[k]) (by simp only[XI,WA,XY];rw[YT];refine⟨l,by simp,λa i b f e=>?_⟩;simp at f;subst e f;exact m i) o
 have:=K6 d g;rw[this];simp
theorem tW{s t:Ah}{f:Bool}{es:List (Tb×Int)}(d:(s.files.map (·.1)).Nodup)(h:Bi s (p,f,(s.files.map λe=>(2,e.1,0,[],[],0))++es.map λe=>(1,e.1,e.2,[],[],0)) t):t=⟨s.Eb+1,s.cols,s.next,es.map λe=>(e.1,e.2,[])⟩:=by obtain⟨u,a,b⟩:=Go.Proofs.YtbhhpheailbebaaGreatDoor.cE h.2;have c:=qO (nb:=Bx) (cb:=Bv) (fb:=Cm) s.files [] (bump s) (by simp[bump]) d;have:=K6 a c;subst this;have:=pH b;rw[this];simp[bump]
theorem AHL{cols:List Aj}{next:Int}(g:cols.length<=8)(i:∀d∈cols,d.1<next)(Eb:Int):∀(f:List A6),(∀y∈f,Gt D y/\y.2.1=cols/\y.1.2=((y.2.2.length:Int),[]))->f.length<=1000->cols≠[]->cols.Pairwise (λa b=>a.1≠b.1)->C7 D ⟨Eb,cols,next,f.map (·.1)⟩ f:=λf h hl hc hp=>
 ⟨⟨rfl,λy c=>(h y c).1,hl,g,λe=>absurd e hc⟩,λy c=>by rw[(h y c).2.1];exact Lk.self hp,λy c=>by rw[(h y c).2.1];exact i,λy c=>by rw[(h y c).2.2]⟩
theorem ADC(h:Good Bv Cm s):s.cols.Pairwise (λa b=>a.1≠b.1):=by
 rcases h.cols with e|e
 ·rw[e];exact List.Pairwise.nil
 exact e.2.2.2.imp λx=>x.1
theorem We(h:Good Bv Cm s):∀d∈s.cols,d.1<s.next:=λd a=>by
 rcases h.cols with e|e
 ·rw[e] at a;cases a
 exact(e.2.2.1 d a).2
theorem M9(h:Good Bv Cm s):s.cols.length<=8:=by
 rcases h.cols with e|e
 ·rw[e];exact XA _
 exact e.2.1
theorem sM(h:Good Bv Cm s):∀c∈s.cols,Lx c (bP c)=true:=λc a=>by
 rcases h.cols with e|e
 ·rw[e] at a;cases a
 exact(e.2.2.1 c a).1.2.2.2
theorem rB{nm:Tb}(h:¬Ce l nm = -1):∃k:Nat,Ce l nm=k/\k<l.length:=by
 rcases Gz l nm with⟨e,_⟩|⟨k,a,e,_⟩
 ·exact absurd e h
 exact⟨k,e,a⟩
def ChP(w:World)(s:Ah)(f:Int)(c:Aj)(nm g:ByteArray)(e:Ending)(d:World):Prop :=
 Zb w d/\((∃l' next' a b,cI s.cols s.next f c nm g l' next'/\e=.returned (.tuple #[.slice a l'.length b,Zi next',.nilIface])/\d.ownsRow w.heap.size 72 7 (.slice a l'.length b) l'.length (Av l'))\/(∃a n' b x T y,e=.returned (.tuple #[.slice a n' b,Zi x,.iface T y])))
theorem qB(s:Ah)(v:Int)(a1:To)(n1 c1:Nat)(x2:Int)(a2:To)(n2 c2:Nat)(L i:Int)(y:Tb)(k:Int)(mu:Bool)(M N:Int)(z:Tb)(nm m:Tb)(w:Tw)(hS:Dl w s (K4 v a1 n1 c1 x2 a2 n2 c2))(hg:Good Bv Cm s)(U:s.cols≠[])(ad:s.next<=1000000000000000)(hz:y.size<=maxLen/\z.size<=maxLen/\m.size<=maxLen)(hw:Lw w):
 Zc 67 #[Zg #[Zi v,Zs a1 n1 c1,Zi x2,Zs a2 n2 c2],Zg #[Zi L,Zi i,Zt y,Zi k,Zo mu,Zi M,Zi N,Zt z,Zt nm,Zt m]] w (ChP w s L (i,y,k,mu,M,N,z) nm m):=by
 obtain⟨b1,d1,b2,d2,Ls,P,W⟩:=hS;unfold K4 at P;simp only[Value.agg.injEq,Array.mk.injEq,List.cons.injEq,Value.int.injEq,Value.slice.injEq] at P;obtain⟨⟨-,-⟩,⟨e1,e2,e3⟩,⟨-,e4⟩,-⟩:=P;subst e1 e2 e3 e4;have R:=M9 hg;have h1:0<s.cols.length:=List.length_pos_iff.2 U
 obtain⟨g,ab⟩:∃g,a1=some ⟨g,0,none⟩:=by
  rcases W.cols.2 with⟨_,h0⟩|⟨g,ae,af,P,_⟩
  ·omega
  injection P with aa _ _;exact⟨g,aa⟩
 subst ab
 have T:s.cols.length<=c1:=by obtain⟨a,c,e,hc⟩:=Au W.cols;injection e with _ _ e;omega
 have ac:1<=s.next:=by
  rcases hg.cols with e|e
  ·exact absurd e U
  have:=e.2.2.1 s.cols[0] (Yh h1);have:=this.1.2.1;omega
 have hs:I1 w g 0 s.cols:=I1.Fz W.cols rfl;obtain⟨t0,t1,t2,X⟩:=C1 w (Zk #[Zi v,Zs (some ⟨g,0,none⟩) s.cols.length c1,Zi s.next,Zs a2 n2 c2] 42) (Zk #[Zi L,Zi i,Zt y,Zi k,Zo mu,Zi M,Zi N,Zt z,Zt nm,Zt m] 110);have b:=Aa X;have h:=Aa t1;have n:=hs.below X;have p:Lw _:=AHr (hw.below X);unfold ChP;clear t0 t1 t2 X W hg hs hw
 by_cases c1':L=1
 ·subst c1'
  by_cases hok:AAg s.cols (s.next,y,k,mu,M,N,z)
  ·have f:=Aa (AFQ g 0 c1 s.cols s.next i y k mu M N z _ n hok.2.1 hok.1 hok.2.2.1 hok.2.2.2 ac ad p)
   have Y:=Aa hok;clear hok;go_enter func67,ntmps67;go_wp2_with fail;refine f.o.mono ?_;rintro e V⟨g',c',rfl,t,d⟩;have H1:=Aa (And.intro t d);clear t d f;go_wp2_with fail;go_ret3;exact⟨Ap b.o H1.o.2,.inl ⟨_,_,some ⟨g',0,none⟩,c',.inl ⟨rfl,Y.o,rfl,rfl⟩,by rw[XC];rfl,by rw[XC];exact E.Ai H1.o.1 b.o.size⟩⟩
  have f:=Aa (AHP g 0 c1 s.cols s.next i y k mu M N z _ n R hz.1 hz.2.1 hok p);clear hok;go_enter func67,ntmps67;go_wp2_with fail;refine f.o.mono ?_;rintro e V⟨x,rfl,d⟩;have H1:=Aa d;clear d f;go_wp2_with fail;go_ret3;exact⟨Ap b.o H1.o,.inr ⟨_,_,_,_,_,_,rfl⟩⟩
 by_cases c2':L=2
 ·subst c2'
  by_cases hf:Ce s.cols nm = -1\/s.cols.length=1
  ·have f:=Aa (AG7 g 0 c1 s.cols nm _ n hf R)
   clear hf c1';go_enter func67,ntmps67;go_wp2_with fail;refine f.o.mono ?_;rintro e V⟨⟨x,rfl,_⟩,d⟩;have H1:=Aa d;obtain⟨_,_,z2,_,_⟩:=Go.Proofs.YtbhhpheailbebaaGreatDoor.B3 ((d.block _ (Ac h.o)).trans h.o);clear d f;go_wp2_with fail
   go_region
   go_wp2;go_ret3;exact⟨Ap b.o H1.o.drew,.inr ⟨_,_,_,_,_,_,rfl⟩⟩
  obtain⟨j,I,l⟩:=rB (λe=>hf (.inl e));have J:s.cols.length≠1:=λe=>hf (.inr e)
  have f:=Aa (AFn g 0 c1 s.cols nm j _ n I l J R T);have r:=Aa (And.intro I (And.intro l J));clear hf I l J c1';generalize o:s.cols.take j++s.cols.drop (j+1)=l' at *;have u:=Aa o;clear o;go_enter func67,ntmps67;go_wp2_with fail;refine f.o.mono ?_;rintro e V⟨g',c',rfl,t,d⟩;have H1:=Aa (And.intro t d);obtain⟨_,_,z2,_,_⟩:=Go.Proofs.YtbhhpheailbebaaGreatDoor.B3 ((d.block _ (Ac h.o)).trans h.o);clear t d f;go_wp2_with fail
  go_region
  go_wp2;go_ret3;exact⟨Ap b.o H1.o.2.drew,.inl ⟨l',_,_,_,.inr (.inl ⟨rfl,j,r.o.1,r.o.2.1,r.o.2.2,u.o.symm,rfl⟩),rfl,E.Ai (Bc H1.o.1 ((Y9 _ _).drew)) b.o.size⟩⟩
 by_cases c3':L=3
 ·subst c3'
  by_cases hf:Ce s.cols nm = -1\/Bv m=false\/0<=Ce s.cols m
  ·have f:=Aa (ACv g 0 c1 s.cols nm m _ n hf hz.2.2 R p)
   clear hf c1' c2';go_enter func67,ntmps67;go_wp2_with fail;refine f.o.mono ?_;rintro e V⟨x,rfl,d⟩;have H1:=Aa d;obtain⟨_,_,z2,_,_⟩:=Go.Proofs.YtbhhpheailbebaaGreatDoor.B3 ((d.block _ (Ac h.o)).trans h.o);clear d f;go_wp2_with fail
   go_region
   go_wp2;go_ret3;exact⟨Ap b.o H1.o.drew,.inr ⟨_,_,_,_,_,_,rfl⟩⟩
  obtain⟨j,I,l⟩:=rB (λe=>hf (.inl e))
  have D:Bv m=true:=by
   cases e:Bv m with
   | true=>rfl
   | false=>exact absurd (.inr (.inl e)) hf
  have G:Ce s.cols m = -1:=by
   rcases Gz s.cols m with⟨e,_⟩|⟨q,_,e,_⟩
   ·exact e
   exact absurd (.inr (.inr (by omega))) hf
  have f:=Aa (yL g 0 c1 s.cols nm m j _ n I l D G R p);have r:=Zy I l D G;clear hf I l D G c1' c2';have O:Hid ((s.cols.set j (rR s.cols[j]! m)).length=s.cols.length):=Aa (List.length_set ..);generalize o:s.cols.set j (rR s.cols[j]! m)=l' at *;have u:=Aa o;clear o;go_enter func67,ntmps67;go_wp2_with fail;refine f.o.mono ?_;rintro e V⟨g',c',rfl,t,d⟩;have H1:=Aa (And.intro t d);obtain⟨_,_,z2,_,_⟩:=Go.Proofs.YtbhhpheailbebaaGreatDoor.B3 ((d.block _ (Ac h.o)).trans h.o);clear t d f;go_wp2_with fail
  go_region
  go_wp2;go_ret3;exact⟨Ap b.o H1.o.2.drew,.inl ⟨l',_,_,_,.inr (.inr ⟨rfl,j,r.o.1,r.o.2.1,r.o.2.2.1,r.o.2.2.2,u.o.symm,rfl⟩),by rw[O.o];rfl,by rw[O.o];exact E.Ai (Bc H1.o.1 ((Y9 _ _).drew)) b.o.size⟩⟩
 go_enter func67,ntmps67;go_wp2_with fail;go_ret3;exact⟨b.o,.inr ⟨_,_,_,_,_,_,rfl⟩⟩
theorem AHI{b:Nat}{v u f a e c d g i j:Tv}{t:TypeId}(h:W.heap[b]? = some (Zk #[v,u,f,a,e,c,d,g,i,j] t (0,0))):
 W.cell? ⟨b,0,none⟩=some v/\W.cell? ⟨b,1,none⟩=some u/\W.cell? ⟨b,2,none⟩=some f/\W.cell? ⟨b,3,none⟩=some a/\W.cell? ⟨b,4,none⟩=some e/\W.cell? ⟨b,5,none⟩=some c/\W.cell? ⟨b,6,none⟩=some d/\W.cell? ⟨b,7,none⟩=some g/\W.cell? ⟨b,8,none⟩=some i/\W.cell? ⟨b,9,none⟩=some j:=by
 simp[World.cell?,h]
theorem ADB{l l':List Aj}{next next' y i:Int}{s:Tb}{k:Int}{mu:Bool}{z t:Int}{p nm n:Tb}(b:∀x∈l,x.2.1.size<=maxLen/\x.2.2.2.2.2.2.size<=maxLen)(c:s.size<=maxLen/\p.size<=maxLen/\n.size<=maxLen)(h:cI l next y (i,s,k,mu,z,t,p) nm n l' next'):∀x∈l',x.2.1.size<=maxLen/\x.2.2.2.2.2.2.size<=maxLen:=λx a=>by
 rcases h with⟨_,_,rfl,_⟩|⟨_,j,_,_,_,rfl,_⟩|⟨_,j,_,d,_,_,rfl,_⟩
 ·rcases List.mem_append.1 a with a|a
  ·exact b x a
  simp at a;subst a;exact⟨c.1,c.2.1⟩
 ·rcases List.mem_append.1 a with a|a
  ·exact b x (Yk a)
  exact b x (XU a)
 rcases Yt a with a|rfl
 ·exact b x a
 exact⟨c.2.2,(b _ (Jj d)).2⟩
def AId(D:DataW Unit)(s:Ah)(b:Int)(c:Aj)(nm e:ByteArray)(a:DataW Unit)(d:Bool)(A:List A5)(rows:Int):Prop :=
 s.cols≠[]/\(∃l' next',cI s.cols s.next b c nm e l' next'/\A=([(4,⟨#[]⟩,0,[],l',next')]:List A5))/\a=D/\d=false/\rows=0
theorem kP(w0:Tw)(NF bb n:Nat)(D:Td)(fs:List Int)(mv fv:Tv)(H:List (Dn×Ah))(U:List Tb)(tx:Tb)(r i:Int)(l:Tb)(k:Int)(mu:Bool)(s t:Int)(m nm p:Tb)(w:Tw)(h:iK w0 w NF bb n D fs mv fv H U tx)(hz:l.size<=maxLen/\m.size<=maxLen/\p.size<=maxLen):
 Zc 37 #[Zp (some ⟨bb,0,none⟩),Zt tx,Zg #[Zi r,Zi i,Zt l,Zi k,Zo mu,Zi s,Zi t,Zt m,Zt nm,Zt p]] w (Kd w0 w NF bb n D mv H tx True (AId D (Ae H H.length) r (i,l,k,mu,s,t,m) nm p)):=by
 have Y:=Aa h;have N:Zb w (w.alloc (Zk #[Zi r,Zi i,Zt l,Zi k,Zo mu,Zi s,Zi t,Zt m,Zt nm,Zt p] 110)):=Zal;have M:=Aa (heap_alloc_new w (Zk #[Zi r,Zi i,Zt l,Zi k,Zo mu,Zi s,Zi t,Zt m,Zt nm,Zt p] 110));have I:=Aa N;have L:=Aa (fH bb n D mv H tx _ (h.base.ground.up N) h.inv.Lm h.inv.past h.O5 h.name h.short);have ad:(Ae H H.length).next<=1000000000000000:=by have:=h.inv.next H.length (XB _);have:=h.O5;omega
 have V:=Aa (λ(b:To)(n1 c1:Nat)(f:Int)(c:To)(n2 d:Nat)W(hW:Zb w W)(o:(Ae H H.length).cols≠[])(hS:Dl W (Ae H H.length) (K4 (H.length:Int) b n1 c1 f c n2 d))=>qB (Ae H H.length) (H.length:Int) b n1 c1 f c n2 d r i l k mu s t m nm p W hS h.Of o ad hz (h.base.ground.nc.below hW))
 have ak:=Aa (λl' next'(o:cI (Ae H H.length).cols (Ae H H.length).next r (i,l,k,mu,s,t,m) nm p l' next')=>ADB (fB h.Of) hz o);clear h N ad hz
 have u:Hid (∀(b:To)(n1 c1:Nat)(f:Int)(c:To)(n2 d:Nat)W,Zb w W->(Ae H H.length).cols≠[]->Dl W (Ae H H.length) (K4 (H.length:Int) b n1 c1 f c n2 d)->Zc 67 #[Zg #[Zi (H.length:Int),Zs b n1 c1,Zi f,Zs c n2 d],Zg #[Zi r,Zi i,Zt l,Zi k,Zo mu,Zi s,Zi t,Zt m,Zt nm,Zt p]] W λe w'=>∃z n' G x er,e=Zr (Zu #[Zs z n' G,Zi x,er])/\Hid (Zb W w'/\((er=Zn/\∃l',n'=l'.length/\cI (Ae H H.length).cols (Ae H H.length).next r (i,l,k,mu,s,t,m) nm p l' x/\w'.ownsRow W.heap.size 72 7 (Zs z n' G) l'.length (Av l'))\/∃T y,er=Zf T y))):=Aa λb n1 c1 f c n2 d W hW o hS=>(V.o b n1 c1 f c n2 d W hW o hS).mono (by
  rintro e w'⟨hb,⟨l',al,z,G,h1,rfl,h2⟩|⟨z,n',G,x,T,y,rfl⟩⟩
  ·exact⟨z,l'.length,G,al,_,rfl,Aa ⟨hb,.inl ⟨rfl,l',rfl,h1,h2⟩⟩⟩
  exact⟨z,n',G,x,_,rfl,Aa ⟨hb,.inr ⟨T,y,rfl⟩⟩⟩)
 clear V;generalize af:Ae H H.length=sn at *;have aj:=Aa af;clear af;go_enter func37,ntmps37;go_wp2_with fail;refine L.o.mono ?_;rintro e w1⟨g,⟨o,rfl⟩|⟨o,pb,b,n1,c1,f,c,n2,d,rfl,hP⟩⟩
 ·have R:=Aa (Ap I.o g)
  clear o g L;go_wp2_with fail;go_ret2;exact⟨n,D,fs,mv,fv,Y.o.base.up R.o,by omega,B.A0.Ba R.o,λ_ e=>.inl e,.refl,.inr ⟨trivial,_,_,rfl⟩⟩
 have J:=Aa (Ap I.o g);have R:=Aa o;have HP:=Aa hP;have ai:=Aa ((g.block _ (Ac M.o)).trans M.o);obtain⟨y0,y1,y2,y3,y4,y5,y6,y7,yf⟩:=F2 hP.box;obtain⟨z0,z1,z2,z3,z4,z5,z6,z7,z8,z9⟩:=AHI ai.o;clear g o hP L M;have X:Hid (∀args w,(callFunc 67 args).run prog w=.ok (.enter 67 args) w):=Aa (enters_of func67 (by kernel_rfl) rfl);have v:=Aa (u.o b n1 c1 f c n2 d w1.drew J.o.drew R.o (HP.o.snap.up ((Y9 _ _).drew)));clear u;go_wp2_with fail
 go_region_law
  (first
    | (refine Gc (by rfl) 67 (.tmp 25) (.tmp 26) 42 110 (by rfl) (Zg #[Zi (H.length:Int),Zs b n1 c1,Zi f,Zs c n2 d]) (Zg #[Zi r,Zi i,Zt l,Zi k,Zo mu,Zi s,Zi t,Zt m,Zt nm,Zt p]) (by rfl) (by rfl) X.o _ v.o ?_
       rintro e w2⟨z,n',G,x,er,rfl,H2⟩;refine⟨_,rfl,?_⟩)
    | fail)
 all_goals
  clear v X y0 y1 y2 y3 y4 y5 y6 y7 yf z0 z1 z2 z3 z4 z5 z6 z7 z8 z9;obtain⟨j,⟨rfl,l',rfl,O,ho⟩|⟨T,y,rfl⟩⟩:=H2.o
  ·have ah:=Aa O
   have a:=Aa (Ap J.o.drew j);have q:=Aa ((HP.o.up ((Y9 _ _).drew)).up j);have ag:=XD I.o.size HP.o.low;have P:=Aa (N3 w.heap.size pb sn (H.length:Int) b n1 c1 f c n2 d tx false none 0 [] 0 w2 ⟨q.o.box,q.o.snap,XF _ _ _ _,q.o.own,q.o.Vv,ag⟩ a.o.size 4 ⟨#[]⟩ 0 [] l' x none 0 0 z l'.length G ⟨XF _ _ _ _,E.Ai ho (XA _)⟩ ⟨XA _,XA _,ak.o l' x O⟩ (XA _));clear O j ho ag H2;go_wp2_with fail;refine P.o.mono ?_;rintro e w4⟨rfl,⟨aa,ac,ab⟩,ae⟩;have H4:=Aa (And.intro ab ae);clear ab ae P;go_wp2_with fail;go_ret2;have hm:=(Mv.below (base:=w.heap.size) (bb:=bb) (mv:=mv) a.o).trans (Mv.ACV H4.o.2);exact⟨n,D,fs,mv,fv,Kv (Y.o.base.up a.o) Y.o.nf Y.o.base.low.size H4.o.2,by omega,hm.o (XB _),hm.link,.refl,.inl ⟨pb,_,false,_,b,n1,c1,f,c,n2,d,aa,ac,rfl,by rw[aj.o];exact H4.o.1,R.o,⟨l',x,ah.o,rfl⟩,rfl,rfl,rfl⟩⟩
  have a:=Aa (Ap J.o.drew j);clear j H2;go_wp2_with fail;go_ret2;exact⟨n,D,fs,mv,fv,Y.o.base.up a.o,by omega,B.A0.Ba a.o,λ_ e=>.inl e,.refl,.inr ⟨trivial,_,_,rfl⟩⟩
def aJ(rs:List Px)(p:ByteArray):List Int:=(rs.filter λz=>decide (z.1=p)).map (·.2.1)
theorem AEw(rs:List Px)(z:Px)(p:Tb):aJ (rs++[z]) p=aJ rs p++if z.1=p then [z.2.1] else []:=by
 unfold aJ;rw[XG,XI];congr 1
 by_cases h:z.1=p
 ·simp[h]
 simp[h]
theorem yW(a b:List Px)(p:Tb):aJ (a++b) p=aJ a p++aJ b p:=by unfold aJ;rw[XG,XI]
theorem uP{rs:List Px}(h:∀z∈rs,z.1≠p):aJ rs p=[]:=by unfold aJ;rw[List.filter_eq_nil_iff.2 (λz a=>by simpa using h z a)];rfl
theorem AHm{rs:List Px}(h:∀z∈rs,z.1=p):aJ rs p=rs.map (·.2.1):=by unfold aJ;rw[List.filter_eq_self.2 (λz a=>by simpa using h z a)]
theorem N2:∀z∈E4 l x,z.1=x.1.1:=λz a=>((Pv x.1.1 x.1.2.2 l .nil (Cw (By x.2.1) l x.2.2) 0).1 z a).1
theorem Wm(l:List Aj)(q:Px->Bool):∀(xs:List A6),(xs.map (·.1.1)).Nodup->∀x∈xs,aJ ((xs.flatMap (E4 l)).filter q) x.1.1=((E4 l x).filter q).map (·.2.1)
 | [],_,x,a=>by cases a
 | y :: xs,hn,x,a=>by
   rw[WA,List.nodup_cons] at hn;rw[XO,XG,yW]
   rcases List.mem_cons.1 a with rfl|a
   ·rw[AHm (λz b=>N2 z (List.mem_filter.1 b).1),uP (λz b e=>?_),List.append_nil]
    obtain⟨u,d,c⟩:=List.mem_flatMap.1 (List.mem_filter.1 b).1;have:=N2 z c;exact hn.1 (List.mem_map.2 ⟨u,d,by rw[<-this,e]⟩)
   rw[uP (rs:=(E4 l y).filter q) (λz b e=>?_),Wm l q xs hn.2 x a,List.nil_append];have:=N2 z (List.mem_filter.1 b).1;exact hn.1 (List.mem_map.2 ⟨x,a,by rw[<-e,this]⟩)
theorem ADn(l:List Aj){xs:List A6}(a:(xs.map (·.1.1)).Nodup)(b:x∈xs):aJ (Bo l .nil xs).1 x.1.1=(E4 l x).map (·.2.1):=by have:=Wm l (λ_=>true) xs a x b;rw[List.filter_eq_self.2 (λ_ _=>rfl),List.filter_eq_self.2 (λ_ _=>rfl)] at this;rw[H9];exact this
