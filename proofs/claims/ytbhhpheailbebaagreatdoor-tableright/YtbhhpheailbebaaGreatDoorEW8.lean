import Derived.Test.YtbhhpheailbebaaGreatDoorRX
import Derived.Stop.Asserts
import Derived.Lib.VarintDec
import Derived.Lib.VarintMem
import Derived.Lib.VarintBits
import Derived.Lib.Zigzag
import Derived.Laws.AppendOwnNone
set_option maxHeartbeats 40000000
set_option maxRecDepth 100000
open List renaming length_append->Y8,length_cons->XD,getElem?_eq_getElem->XF,mem_of_getElem?->XJ,append_assoc->XK,mem_of_mem_drop->XN,take_succ_cons->XO
open Nat renaming le_refl->Y9,le_trans->XA,zero_le->XI,add_assoc->XP
open Go.RowKit.Below renaming refl->Y',heap_alloc->XE,heap_setCell->XQ
open Array renaming getElem?_eq_none->XB,getElem?_modify->XL
open Go.World renaming ownsRow_nil->XC,block_lt_of_cell?->XG,cell?_drewN->XR
open Bool renaming and_eq_true->XH,and_eq_false_iff->XM
namespace Go.Proofs.YtbhhpheailbebaaGreatDoor
open Tryz RowKit Lib Joins Maps Extern.Stop Stop Extern Go.Sort Shelf
def AAe(i:Nat):List UInt8:=[108,111,103,47,48,48,48,48,UInt8.ofNat (48+i / 10),UInt8.ofNat (48+i % 10)]
def Ek(i:Nat):ByteArray:=⟨(AAe i).toArray⟩
theorem AGt:((List.range 100).all λi=>(List.range 100).all λj=>!(AAe i==AAe j) || (i==j))=true:=by kernel_rfl
theorem key_inj{i j:Nat}(c:i<100)(d:j<100)(h:Ek i=Ek j):i=j:=by
 have a:=List.all_eq_true.1 (List.all_eq_true.1 AGt i (List.mem_range.2 c)) j (List.mem_range.2 d)
 have e:AAe i=AAe j:=by have:=congrArg (λb:Tb=>b.data.toList) h;simpa[Ek] using this
 rw[e] at a;simpa using a
theorem qI(i:Nat):(Ek i).size=10:=rfl
theorem AEp(i:Nat):itoa (i:Int)=decDigits i:=by unfold itoa;rw[if_neg (by omega)];simp
def AJl(i:Int):ByteArray:=⟨#[108,111,103,47]⟩++⟨(Lib.repeatL [48] (6-(Bm i).size)).toArray⟩++Bm i
theorem AD1{i:Nat}(h:i<100):AJl (i:Int)=Ek i/\(Bm (i:Int)).size<=2:=by
 unfold AJl Bm;rw[AEp]
 by_cases h1:i<10
 ·rw[decDigits_one h1]
  have a:i / 10=0:=by omega
  have b:i % 10=i:=by omega
  unfold Ek AAe;rw[a,b];exact⟨rfl,by show Array.size _<=2;simp⟩
 rw[decDigits_two h1 h];exact⟨rfl,by show Array.size _<=2;simp⟩
theorem ABK(i:Nat)(w:Tw)(h:i<100)(o:Jp w):Zc 45 #[Zi i] w λe q=>e=Zr (Zt (Ek i))/\Zb w q:=by
 have d:=Aa (Mx (i:Int) w ⟨by omega,by omega⟩ o);obtain⟨g,n⟩:=AD1 h;have a:=Aa g;unfold AJl at a;obtain⟨r,j⟩:∃r:Nat,r=6-(Bm (i:Int)).size:=⟨_,rfl⟩;rw[<-j] at a;have l:(6:Int)-((Bm (i:Int)).size:Int)=(r:Int):=by omega
 have m:(0:Int)<=(r:Int):=by omega
 have f:=Aa (λW=>strings_Repeat ⟨#[48]⟩ r W (by omega) (by show 1*r<=_;omega));clear j g;generalize Bm (i:Int)=x at *;have s:x.size<=2:=n;go_enter func45,ntmps45;go_wp2_with fail;refine d.out.mono ?_;rintro e u⟨rfl,b⟩;go_wp2_with fail;refine(f.out _).mono ?_;rintro e v⟨rfl,c⟩
 have t:(⟨(Lib.repeatL [48] r).toArray⟩:Tb).size<=6:=by show Array.size _<=6;rw[List.size_toArray,Lib.repeatL_length];simp;omega
 have k:(⟨#[108,111,103,47]⟩:Tb).size=4:=rfl;generalize (⟨(Lib.repeatL [48] r).toArray⟩:Tb)=z at *;have p:(⟨#[108,111,103,47]⟩++z:Tb).size<=10:=by rw[Ea,k];omega
 clear d f;go_wp2_with fail;go_ret;exact⟨by rw[a.out];rfl,Below.Ap b c⟩
namespace B
variable{W w:Tw}{n:Nat}{D:Td}
structure A0(S:Nat->Prop)(w w':World):Prop where
 os:w'.os=w.os
 tape:w'.tape=w.tape
 output:w'.output=w.output
 size:w.heap.size<=w'.heap.size
 block:∀k,k<w.heap.size->¬S k->w'.heap[k]? = w.heap[k]?
theorem A0.refl(S:Nat->Prop)(w:Tw):A0 S w w:=⟨rfl,rfl,rfl,Y9 _,λ_ _ _=>rfl⟩
theorem A0.trans{S T:Nat->Prop}{a b c:Tw}(h:A0 S a b)(k:A0 T b c)(f:∀i,i<a.heap.size->T i->S i):A0 S a c :=
 ⟨k.os.trans h.os,k.tape.trans h.tape,k.output.trans h.output,XA h.size k.size,λi d e=>(k.block i (Ya d h.size) (λht=>e (f i d ht))).trans (h.block i d e)⟩
theorem A0.mono{S T:Nat->Prop}{a b:Tw}(h:A0 S a b)(e:∀i,i<a.heap.size->S i->T i):A0 T a b :=
 ⟨h.os,h.tape,h.output,h.size,λi c d=>h.block i c (λhs=>d (e i c hs))⟩
theorem A0.Ba{S:Nat->Prop}{a b:Tw}(h:Zb a b):A0 S a b:=⟨h.os,h.tape,h.output,h.size,λi c _=>h.block i c⟩
theorem A0.below{S:Nat->Prop}{B:Nat}{w0 a b:Tw}(c:Below B w0 a)(h:A0 S a b)(e:B<=a.heap.size)(d:∀i,S i->B<=i):Below B w0 b :=
 c.trans ⟨h.os,h.tape,h.output,h.size,λi f=>h.block i (by omega) (λhs=>by have:=d i hs;omega)⟩
theorem A0.cell{S:Nat->Prop}{a b:Tw}(h:A0 S a b){p:Addr}{v:Tv}(c:a.cell? p=some v)(d:¬S p.block):b.cell? p=some v :=
 (World.cell?_of_block (h.block p.block (XG a p c) d)).trans c
theorem A0.alloc{S:Nat->Prop}{a b:Tw}(h:A0 S a b)(o:Obj):A0 S a (b.alloc o) :=
 h.trans (T:=λ_=>False) ⟨rfl,rfl,rfl,by simp,λk hk _=>XE _ _ _ hk⟩ (λ_ _ h=>h.elim)
theorem A0.setCell{S:Nat->Prop}{a b:Tw}(h:A0 S a b){p:Addr}(c:p.block<a.heap.size->S p.block)(u:Tv):A0 S a (b.setCell p u) :=
 h.trans (T:=λk=>k=p.block) ⟨rfl,rfl,rfl,by simp[World.setCell],λk _ hk=>XQ _ _ _ _ hk⟩ (λ_ hi e=>e ▸ c (e ▸ hi))
theorem A0.AFb{S:Nat->Prop}{a b c:Tw}{m:Nat}(h:A0 S a b)(g:b.mapTurned c m)(f:m<a.heap.size->S m):A0 S a c:=by have d:=g.grown;exact h.trans (T:=λk=>k=m) ⟨d.os,d.tape,d.output,d.size,λk hk hn=>d.block k hk (λe=>hn (Yu e))⟩ (λi hi e=>e ▸ f (e ▸ hi))
theorem A0.grown{S:Nat->Prop}{a b c:Tw}{row:Option Nat}(h:A0 S a b)(d:b.grownBy c row)(f:∀m,row=some m->m<a.heap.size->S m):A0 S a c :=
 h.trans (T:=λk=>row=some k) ⟨d.os,d.tape,d.output,d.size,λk hk hn=>d.block k hk (λe=>hn e.symm)⟩ (λi hi e=>f i e hi)
def Jd(v:Value):Option (DataW Unit×List MemPlace) :=
 match v with
 | .agg cs=>match cs.toList with
   | [.string s]=>if s.size<=maxLen then some (.lit (.string s.data.toList),[]) else none
   | _=>none
 | _=>none
theorem Wt{s:Tb}(h:s.size<=maxLen):Jd (.agg #[.string s])=some (.lit (.string s.data.toList),[]):=by simp[Jd,h]
theorem wC{v:Tv}{z:Td×List MemPlace}(h:Jd v=some z):∃s:Tb,v=.agg #[.string s]/\z=(.lit (.string s.data.toList),[])/\s.size<=maxLen:=by
 unfold Jd at h;split at h
 ·rename_i cs
  split at h
  ·rename_i s hs
   split at h
   ·rename_i hl
    cases h;exact⟨s,by rw[<-Array.toArray_toList (xs:=cs),hs],rfl,hl⟩
   cases h
  cases h
 cases h
def lit(b:ByteArray):Lit:=.string b.data.toList
def Gw(b:ByteArray):DataW Unit:=.lit (.string b.data.toList)
theorem aS{a b:Tb}(h:Gw a=Gw b):a=b:=by unfold Gw at h;injection h with h;injection h with h;cases a;cases b;simp at h;simp[h]
theorem Jr{a b:Tb}(h:lit a=lit b):a=b:=by unfold lit at h;injection h with h;cases a;cases b;simp at h;simp[h]
theorem Wl:Keyed prog 9:=string_keyed underlying9
theorem Mh{b:Tb}(h:b.size<=maxLen):keyOf prog 9 (.string b)=some (lit b):=WideMaps.keyOf_string_mk underlying9 h
def Th(w:World)(mv:Value)(n:Nat)(D:DataW Unit):Prop:=(mv=.map none/\D=.map [])\/∃m,mv=.map (some m)/\w.ownsMap prog 9 Jd m n D
def Fs(w:World)(d:Value)(fs:List Int):Prop:=∃a c,d=.slice a fs.length c/\fs.length<=c/\(fs≠[]->∃b off,a=some ⟨b,off,none⟩/\∀(j:Nat)x,fs[j]? = some x->w.cell? ⟨b,off+j,none⟩=some (Zi x))
def Bk(w:World)(bb:Nat)(mv a:Value):Prop:=w.heap[bb]? = some (.cells #[mv,a] 30 (0,0))
theorem Bk.c0{bb:Nat}{mv v:Tv}(h:Bk w bb mv v):w.cell? ⟨bb,0,none⟩=some mv:=by unfold Bk at h;simp[World.cell?,h]
theorem Bk.c1{bb:Nat}{mv v:Tv}(h:Bk w bb mv v):w.cell? ⟨bb,1,none⟩=some v:=by unfold Bk at h;simp[World.cell?,h]
theorem Bk.f{bb:Nat}{mv v:Tv}(h:Bk w bb mv v)(i:Nat):w.frozen? ⟨bb,i,none⟩=false:=by unfold Bk at h;simp[World.frozen?,h]
theorem Bk.lt{bb:Nat}{mv v:Tv}(h:Bk w bb mv v):bb<w.heap.size:=XG w ⟨bb,0,none⟩ h.c0
theorem Bk.keep{bb:Nat}{mv v:Tv}(h:Bk w bb mv v)(a:W.heap[bb]? = w.heap[bb]?):Bk W bb mv v:=a.trans h
theorem Bk.AKp{bb:Nat}{mv v:Tv}(h:Bk w bb mv v)(u:Tv):Bk (w.setCell ⟨bb,0,none⟩ u) bb u v:=by unfold Bk at h ⊢;simp[World.setCell,XL,h]
theorem Bk.AEs{bb:Nat}{mv v:Tv}(h:Bk w bb mv v)(u:Tv):Bk (w.setCell ⟨bb,1,none⟩ u) bb mv u:=by unfold Bk at h ⊢;simp[World.setCell,XL,h]
theorem Bk.alloc{w:Tw}{bb:Nat}{mv v:Tv}(h:Bk w bb mv v)(o:Obj):Bk (w.alloc o) bb mv v:=h.keep (XE _ _ _ h.lt)
theorem Fs.keep{u:Tv}{fs:List Int}(h:Fs w u fs)(i:∀p v,(∃x,v=Value.int .i64 x)->w.cell? p=some v->W.cell? p=some v):Fs W u fs:=by obtain⟨a,d,e,g,k⟩:=h;refine⟨a,d,e,g,λl=>?_⟩;obtain⟨b,off,f,c⟩:=k l;exact⟨b,off,f,λj x m=>i _ _ ⟨x,rfl⟩ (c j x m)⟩
theorem Fs.alloc{w:Tw}{v:Tv}{fs:List Int}(h:Fs w v fs)(o:Obj):Fs (w.alloc o) v fs:=h.keep λp _ _ a=>(Yo _ _ p (XG w p a)).trans a
theorem Th.alloc{w:Tw}{mv:Tv}{n:Nat}{D:Td}(h:Th w mv n D)(o:Obj):Th (w.alloc o) mv n D:=by
 rcases h with h|⟨m,e,a⟩
 ·exact .inl h
 exact .inr ⟨m,e,a.alloc _⟩
theorem Th.mono{w:Tw}{mv:Tv}{n n':Nat}{D:Td}(h:Th w mv n D)(b:n<=n'):Th w mv n' D:=by
 rcases h with h|⟨m,e,a⟩
 ·exact .inl h
 exact .inr ⟨m,e,a.mono b⟩
theorem Th.keep{mv:Tv}(h:Th w mv n D)(b:∀m,mv=.map (some m)->W.heap[m]? = w.heap[m]?):Th W mv n D:=by
 rcases h with h|⟨m,e,c⟩
 ·exact .inl h
 obtain⟨es,clock,a,r⟩:=c;exact .inr ⟨m,e,es,clock,(b m e).trans a,r⟩
theorem Th.lt{w:Tw}{mv:Tv}{n:Nat}{D:Td}(h:Th w mv n D){m:Nat}(e:mv=.map (some m)):m<w.heap.size:=by
 rcases h with⟨h,_⟩|⟨c,a,b⟩
 ·rw[e] at h;cases h
 rw[e] at a;cases a;exact b.lt
theorem Th.ne{w:Tw}{mv:Tv}{n:Nat}{D:Td}(h:Th w mv n D){p:Addr}{v:Tv}(c:w.cell? p=some v):mv≠.map (some p.block):=by
 rcases h with⟨h,_⟩|⟨m,e,es,clock,b,_⟩
 ·rw[h];intro e;cases e
 rw[e];intro a;cases a;simp[World.cell?,b] at c
theorem Th.look{mv:Tv}(h:Th w mv n D){p:Tb}(b:p.size<=maxLen):
 ∃t:Tb,(Instr.lookup 27 mv (Zt p) true).run prog w=.ok (Zu #[Zg #[Zt t],Zo (Maps.has D (lit p))]) w/\D.atKey (lit p) (Gw ByteArray.empty)=Gw t:=by
 have c:∀W,(zeroValue 164).run prog W=.ok (Zg #[Zt ⟨#[]⟩]) W:=λW=>by kernel_rfl
 rcases h with⟨rfl,rfl⟩|⟨m,rfl,d⟩
 ·refine⟨⟨#[]⟩,?_,rfl⟩
  have:=Maps.look_nil (w:=w) true Wl underlying27 (c w) (Mh b);simpa[Maps.has] using this
 obtain⟨v,g,a,f⟩:=d.look_ok Wl underlying27 (c w) (zd:=Gw ByteArray.empty) (Wt (by decide)) (Mh b);obtain⟨s,rfl,e,_⟩:=wC f;exact⟨s,a,congrArg Prod.fst e⟩
section
variable (w : World) {ops : Array Oper} {rest : List Oper} {o : Oper} {a : Act} {Q : Exit → Act → World → Prop}
theorem Wv(h:o.guard=none)(m x:Operand)(f:o.op=Op.lookup 27 m x true)(n:Nat)(D:Td)(mv:Tv)(b:Tb)(j:a.eval m=mv)(k:a.eval x=Zt b)(g:Th w mv n D)(i:b.size<=maxLen)(hK:∀t:Tb,D.atKey (lit b) (Gw ByteArray.empty)=Gw t->wpList prog ops Q rest (a.put o.dst (Zu #[Zg #[Zt t],Zo (Maps.has D (lit b))])) w):
 wpList prog ops Q (o :: rest) a w:=by
 refine wpList_plain h λl d=>?_
 obtain⟨t,c,e⟩:=g.look i;unfold Oper.wp;simp[execOp,f,j,k,c,Result.andThen];exact d _ _ (hK t e)
end
theorem ABJ(bb:Nat)(mv:Tv)(w:Tw)(b:w.cell? ⟨bb,0,none⟩=some mv):
 Zc 80 #[Zp (some ⟨bb,0,none⟩)] w λe a=>e=Zr mv/\a=w:=by
 go_enter func80,ntmps80;go_wp2;go_ret;exact⟨rfl,rfl⟩
theorem AGP(bb:Nat)(b:To)(a:Nat)(w:Tw)(d:w.cell? ⟨bb,1,none⟩=some (Zs b 0 a)):
 Zc 121 #[Zp (some ⟨bb,0,none⟩)] w λe c=>e=Zr (Zi 0)/\c=w:=by
 go_enter func121,ntmps121;go_wp2;go_ret;exact⟨rfl,rfl⟩
theorem ADR(bb b off n a:Nat)(x:Int)(w:Tw)(g:w.cell? ⟨bb,1,none⟩=some (Zs (some ⟨b,off,none⟩) (n+1) a))(i:w.frozen? ⟨bb,1,none⟩=false)(j:n+1<=a)(h:w.cell? ⟨b,off,none⟩=some (Zi x)):
 Zc 121 #[Zp (some ⟨bb,0,none⟩)] w λe f=>e=Zr (Zi x)/\∃c,(n≠0->c=some ⟨b,off+1,none⟩)/\f=w.setCell ⟨bb,1,none⟩ (Zs c n (a-1)):=by
 go_enter func121,ntmps121;go_wp2
 ·go_ret
  exact⟨rfl,some ⟨b,off,none⟩,λd=>by omega,rfl⟩
 go_ret;exact⟨rfl,some ⟨b,off+1,none⟩,λ_=>rfl,rfl⟩
def Own(bb:Nat)(mv:Value)(k:Nat):Prop:=k=bb\/mv=.map (some k)
def Bu(w:World)(bb n:Nat)(D:DataW Unit)(fs:List Int)(mv a:Value):Prop:=Bk w bb mv a/\Th w mv n D/\Fs w a fs
theorem Fs.far{w:Tw}{bb:Nat}{mv v:Tv}{n:Nat}{D:Td}{fs:List Int}(f:Bk w bb mv v)(j:Th w mv n D)(i:Fs w v fs){p:Addr}{x:Int}(b:w.cell? p=some (Zi x)):p.block≠bb:=by
 intro e;unfold Bk at f;obtain⟨a,g,rfl,_⟩:=i
 have c:∀x,mv≠Zi x:=λx d=>by rcases j with⟨h,_⟩|⟨m,h,_⟩ <;> rw[h] at d <;> cases d
 obtain⟨r,o,q⟩:=p;have l:q=none:=World.cell?_spot b;subst l;simp only at e;subst e;simp only[World.cell?,f] at b
 match o with
 | 0=>simp at b;exact c _ b
 | 1=>simp at b
 | k+2=>simp at b
def Ur(e d:Value):Prop:=∀b off l c,d=.slice (some ⟨b,off,none⟩) (l+1) c->∃a f c0,e=.slice (some ⟨b,a,none⟩) (f+1) c0
theorem Ur.refl(a:Tv):Ur a a:=λ_ off l c e=>⟨off,l,c,e⟩
theorem AFS(bb n:Nat)(D:Td)(fs:List Int)(mv i:Tv)(w:Tw)(g:Bk w bb mv i)(t:Th w mv n D)(s:Fs w i fs):
 Zc 121 #[Zp (some ⟨bb,0,none⟩)] w λe u=>e=Zr (Zi (fs.headD 0))/\∃o,Bu u bb n D fs.tail mv o/\A0 (λk=>k=bb) w u/\Ur i o:=by
 cases fs with
 | nil=>have v:=s;obtain⟨a,c,e,z,I⟩:=v;refine(AGP bb a c w (by have:=g.c1;rw[e] at this;exact this)).mono ?_;rintro e u⟨rfl,rfl⟩;exact⟨rfl,i,⟨g,t,s⟩,A0.refl _ _,Ur.refl _⟩
 | cons x fs=>
   have r:=@Fs.far w bb mv i n D (x :: fs) g t s;obtain⟨a,c,rfl,z,I⟩:=s;obtain⟨b,off,rfl,d⟩:=I (by simp);refine(ADR bb b off fs.length c x w g.c1 (g.f 1) z (by simpa using d 0 x rfl)).mono ?_;rintro e u⟨rfl,J,q,rfl⟩;refine⟨rfl,_,⟨g.AEs _,t.keep λm L=>XQ _ _ _ _ ?_,J,c-1,rfl,by simp at z ⊢;omega,λhn=>⟨b,off+1,q (by cases fs with|nil=>exact absurd rfl hn|cons y l=>simp),λj y hy=>?_⟩⟩,(A0.refl (λk=>k=bb) w).setCell (p:=⟨bb,1,none⟩) (λ_=>rfl) _,λb1 off1 l1 c1 e=>?_⟩
   rotate_right
   ·injection e with h M
    have:=q (by omega);rw[this] at h;injection h with h;injection h with h;subst h;exact⟨off,fs.length,c,rfl⟩
   ·intro e
    exact t.ne (g.c0) (by rw[L,e])
   have G:=d (j+1) y (by simpa using hy);rw[show off+1+j=off+(j+1) by omega,YN _ _ _ _ (by intro e;exact r G (congrArg Addr.block e).symm)];exact G
theorem AGN(w:Tw)(a:Option Nat):(binOp .eql 27 (.map a) (.map none)).run prog w=.ok (Zo a.isNone) w:=by cases a <;> kernel_rfl
theorem AH6(bb:Nat)(i:Tv)(c s:Tb)(w:Tw)(d:Bk w bb (.map none) i)(t:c.size<=maxLen)(x:s.size<=maxLen):
 Zc 122 #[Zp (some ⟨bb,0,none⟩),Zt c,Zt s] w λe l=>e=Zr (Zu #[])/\∃m,w.heap.size<=m/\Bk l bb (.map (some m)) i/\l.ownsMap prog 9 Jd m 1 (DataW.put (.map []) (lit c) (Gw s))/\A0 (λk=>k=bb) w l:=by
 have v:=@run_makeMap prog;have z:=AGN;have c0:=d.c0;have y:=d.f 0;have j:w.heap.size≠bb:=Nat.ne_of_gt d.lt;have g:(w.setCell ⟨bb,0,none⟩ (.map (some w.heap.size))).heap.size=w.heap.size:=by simp[World.setCell]
 have q:Hid (((w.setCell ⟨bb,0,none⟩ (.map (some w.heap.size))).alloc (.map #[] 0)).ownsMap prog 9 Jd w.heap.size 0 (.map [])):=by have:=World.ownsMap_made (w.setCell ⟨bb,0,none⟩ (.map (some w.heap.size))) prog 9 Jd;rw[g] at this;exact this
 have n:Hid (Bk ((w.setCell ⟨bb,0,none⟩ (.map (some w.heap.size))).alloc (.map #[] 0)) bb (.map (some w.heap.size)) i):=(d.AKp _).alloc _;have o:Hid (A0 (λk=>k=bb) w ((w.setCell ⟨bb,0,none⟩ (.map (some w.heap.size))).alloc (.map #[] 0))):=((A0.refl (λk=>k=bb) w).setCell (p:=⟨bb,0,none⟩) (λ_=>rfl) _).alloc _;clear g;have u:=d.lt;clear d j;go_enter func122,ntmps122
 go_wp2_with (first
  | (at_mapUpdate;(refine wpList_mapUpdate_in _ rfl _ _ _ 27 rfl 9 164 Wl underlying27 Jd w.heap.size 0 (.map []) rfl q.out (by decide) _ _ _ rfl rfl (Mh t) _ [] (Wt x) ?_);intro D b a))
 go_end0
 have r:=a.grown;exact⟨rfl,w.heap.size,Y9 _,n.out.keep (r.block bb (n.out.lt) (by intro e;cases e;omega)),b,o.out.AFb a (λh=>absurd h (YF _))⟩
theorem AFc(bb m n:Nat)(D:Td)(i:Tv)(c s:Tb)(w:Tw)(d:Bk w bb (.map (some m)) i)(f:w.ownsMap prog 9 Jd m n D)(k:n<maxLen)(j:c.size<=maxLen)(l:s.size<=maxLen):
 Zc 122 #[Zp (some ⟨bb,0,none⟩),Zt c,Zt s] w λe g=>e=Zr (Zu #[])/\g.ownsMap prog 9 Jd m (n+1) (D.put (lit c) (Gw s))/\w.mapTurned g m:=by
 have o:=AGN;have c0:=d.c0;have h:Hid (w.ownsMap prog 9 Jd m n D):=f;clear d f;go_enter func122,ntmps122
 go_wp2_with (first
  | (at_mapUpdate;(refine wpList_mapUpdate_in _ rfl _ _ _ 27 rfl 9 164 Wl underlying27 Jd m n D rfl h.out k _ _ _ rfl rfl (Mh j) _ [] (Wt l) ?_);intro p b a))
 go_end0
 exact⟨rfl,b,a⟩
def St(mv a:Value):Prop:=∀k,mv=.map (some k)->a=mv
theorem St.refl(mv:Tv):St mv mv:=λ_ _=>rfl
theorem oD(bb n:Nat)(D:Td)(fs:List Int)(mv l:Tv)(c s:Tb)(w:Tw)(h:Bu w bb n D fs mv l)(L:n<maxLen)(g:c.size<=maxLen)(G:s.size<=maxLen):
 Zc 122 #[Zp (some ⟨bb,0,none⟩),Zt c,Zt s] w λe d=>e=Zr (Zu #[])/\∃j,Bu d bb (n+1) (D.put (lit c) (Gw s)) fs j l/\A0 (Own bb mv) w d/\(∀k,j=.map (some k)->mv=.map (some k)\/w.heap.size<=k)/\St mv j:=by
 obtain⟨o,t,z⟩:=h;have q:=@Fs.far w bb mv l n D fs o t z;have f:=@Th.ne w mv n D t
 have a:∀d,A0 (Own bb mv) w d->Fs d l fs:=λd y=>z.keep λp v⟨x,hx⟩hc=>y.cell hc (by
  rintro(e|e)
  ·exact q (hc.trans (congrArg some hx)) e
  exact f hc e)
 rcases t with⟨rfl,rfl⟩|⟨m,rfl,J⟩
 ·refine(AH6 bb l c s w o g G).mono ?_
  rintro e d⟨rfl,m,u,r,i,y⟩;have b:A0 (Own bb (.map none)) w d:=y.mono λ_ _ e=>.inl e
  exact⟨rfl,_,⟨r,.inr ⟨m,rfl,i.mono (by omega)⟩,a _ b⟩,b,λk g=>.inr (by cases g;exact u),λk g=>by cases g⟩
 refine(AFc bb m n D l c s w o J L g G).mono ?_;rintro e d⟨rfl,i,I⟩;have b:A0 (Own bb (.map (some m))) w d:=(A0.refl _ w).AFb I (λ_=>.inr rfl);refine⟨rfl,_,⟨o.keep (I.grown.block bb o.lt ?_),.inr ⟨m,rfl,i⟩,a _ b⟩,b,λk g=>.inl g,St.refl _⟩;intro e;cases e;exact f o.c0 rfl
def Wz(a:ByteArray):Bool:=decide (1<=a.size) && decide (a.size<=60)
def bM(D:DataW Unit)(fs:List Int)(a s:ByteArray):Int×DataW Unit×List Int :=
 if Wz a=false then (1,D,fs) else if Maps.has D (lit a)=true then (9,D,fs) else if fs.headD 0=1 then (14,D,fs.tail) else if fs.headD 0=2 then (14,D.put (lit a) (Gw s),fs.tail) else (0,D.put (lit a) (Gw s),fs.tail)
def L8(x:Int):Value:=if x=0 then .nilIface else .iface 90 (Zi x)
def Um(D:DataW Unit)(a:ByteArray)(w:World)(e:Ending)(b:World):Prop:=∃t:ByteArray,e=.returned (.tuple #[.string t,L8 (if Maps.has D (lit a)=true then 0 else 7)])/\(Maps.has D (lit a)=true->D.atKey (lit a) (Gw ByteArray.empty)=Gw t)/\(Maps.has D (lit a)=false->t=ByteArray.empty)/\Zb w b
theorem aP(bb n:Nat)(D:Td)(mv:Tv)(a:Tb)(w:Tw)(i:w.cell? ⟨bb,0,none⟩=some mv)(f:Th w mv n D)(j:a.size<=maxLen):
 Zc 44 #[Zp (some ⟨bb,0,none⟩),Zt a] w (Um D a w):=by
 have b:=ABJ bb mv w i;have g:Hid (Th w mv n D):=f;clear f;go_enter func44,ntmps44
 go_wp2_with (first
  | (go_at_call 80;refine b.mono ?_;rintro e k⟨rfl,rfl⟩)
  | (at_lookup;refine Wv _ rfl _ _ rfl n D mv a rfl rfl g.out j ?_;intro t d))
 ·rename_i hh
  have c:=nt hh;go_ret2;exact⟨ByteArray.empty,by rw[c];rfl,λh=>(by rw[c] at h;cases h),λ_=>rfl,Zal⟩
 rename_i hh;have c:=nf hh;go_ret2;exact⟨t,by rw[c];rfl,λ_=>d,λh=>(by rw[c] at h;cases h),Zal⟩
theorem Bu.only{S:Nat->Prop}{bb n:Nat}{fs:List Int}{mv u:Tv}(h:Bu w bb n D fs mv u)(a:A0 S w W)(f:¬S bb)(i:∀m,mv=.map (some m)->¬S m)(g:∀p x,w.cell? p=some (Zi x)->¬S p.block):Bu W bb n D fs mv u:=by obtain⟨b,c,d⟩:=h;exact⟨b.keep (a.block bb b.lt f),c.keep λm e=>a.block m (c.lt e) (i m e),d.keep λp v⟨x,hx⟩hc=>a.cell hc (g p x (hc.trans (congrArg some hx)))⟩
theorem Bu.below{bb n:Nat}{fs:List Int}{mv v:Tv}(h:Bu w bb n D fs mv v)(a:Zb w W):Bu W bb n D fs mv v :=
 h.only (S:=λ_=>False) (A0.Ba a) (λh=>h) (λ_ _ h=>h) (λ_ _ _ h=>h)
theorem Bu.mono{w:Tw}{bb n n':Nat}{D:Td}{fs:List Int}{mv v:Tv}(h:Bu w bb n D fs mv v)(a:n<=n'):Bu w bb n' D fs mv v:=⟨h.1,h.2.1.mono a,h.2.2⟩
def AHf(bb n:Nat)(r:Int×DataW Unit×List Int)(mv d:Value)(w:World)(e:Ending)(c:World):Prop:=e=.returned (L8 r.1)/\∃a b,Bu c bb (n+1) r.2.1 r.2.2 a b/\A0 (Own bb mv) w c/\(∀k,a=.map (some k)->mv=.map (some k)\/w.heap.size<=k)/\Ur d b/\St mv a
theorem ABa(bb n:Nat)(D:Td)(fs:List Int)(mv m:Tv)(a s:Tb)(w:Tw)(h:Bu w bb n D fs mv m)(W:n<maxLen)(c:a.size<=maxLen)(hs:s.size<=maxLen):
 Zc 78 #[Zp (some ⟨bb,0,none⟩),Zt a,Zt s] w (AHf bb n (bM D fs a s) mv m w):=by
 have H:Hid (Bu w bb n D fs mv m):=h;have c0:=h.1.c0;have q:=ABJ bb mv w c0;have R:Hid (∀o,Zc 121 #[Zp (some ⟨bb,0,none⟩)] (w.alloc o) λe P=>e=Zr (Zi (fs.headD 0))/\∃b,Bu P bb n D fs.tail mv b/\A0 (λk=>k=bb) (w.alloc o) P/\Ur m b):=λo=>AFS bb n D fs mv m _ (h.1.alloc _) (h.2.1.alloc _) (h.2.2.alloc _)
 have U:Hid (∀G b,Bu G bb n D fs.tail mv b->Zc 122 #[Zp (some ⟨bb,0,none⟩),Zt a,Zt s] G λe P=>e=Zr (Zu #[])/\∃y,Bu P bb (n+1) (D.put (lit a) (Gw s)) fs.tail y b/\A0 (Own bb mv) G P/\(∀k,y=.map (some k)->mv=.map (some k)\/G.heap.size<=k)/\St mv y):=λG b hb=>oD bb n D fs.tail mv b a s G hb W c hs
 have l:Hid (bM D fs a s=if Wz a=false then (1,D,fs) else if Maps.has D (lit a)=true then (9,D,fs) else if fs.headD 0=1 then (14,D,fs.tail) else if fs.headD 0=2 then (14,D.put (lit a) (Gw s),fs.tail) else (0,D.put (lit a) (Gw s),fs.tail)):=rfl;have T:Hid (Wz a=(decide (1<=a.size) && decide (a.size<=60))):=rfl;clear h c0 W;generalize bM D fs a s=r at l ⊢;generalize fs.headD 0=f at R l;generalize fs.tail=V at R l U
 rcases Yc 0 a.size with p|p
 ·rcases Yc 60 a.size with I|I
  ·go_enter func78,ntmps78
   go_wp2;go_ret;have g:r=(1,D,fs):=by rw[l.out,if_pos (by rw[T.out];simp only[XM,decide_eq_false_iff_not];omega)]
   rw[g];exact⟨rfl,mv,m,H.out.mono (by omega),A0.refl _ _,λk c=>.inl c,Ur.refl _,St.refl _⟩
  have X:1<=a.size:=p;have j:Hid (Wz a=true):=Aa (by rw[T.out];simp only[XH,decide_eq_true_eq];omega);go_enter func78,ntmps78
  go_wp2_with (first
   | (go_at_call 80;refine q.mono ?_;rintro e G⟨rfl,rfl⟩)
   | (at_lookup;refine Wv _ rfl _ _ rfl n D mv a rfl rfl H.out.2.1 c ?_;intro t Y)
   | (go_at_call 121;refine(R.out _).mono ?_;rintro e w2⟨rfl,v,M,d,z⟩)
   | (go_at_call 122;refine(U.out _ _ M).mono ?_;rintro e w3⟨rfl,O,N,L,J,u⟩))
  all_goals clear R U q
  ·rename_i x
   go_ret;have g:r=(9,D,fs):=by rw[l.out,if_neg (by rw[j.out];simp),if_pos x]
   rw[g];exact⟨rfl,mv,m,(H.out.below (Zal)).mono (by omega),(A0.refl _ _).alloc _,λk c=>.inl c,Ur.refl _,St.refl _⟩
  ·have x:Maps.has D (lit a)=false:=by assumption
   have p:(f==1)=true:=by assumption
   go_ret;have g:r=(14,D,V):=by rw[l.out,if_neg (by rw[j.out];simp),if_neg (by rw[x];simp),if_pos (by simpa using p)]
   rw[g];exact⟨rfl,mv,v,M.mono (by omega),((A0.refl _ _).alloc _).trans d (λi _ e=>.inl e),λk c=>.inl c,z,St.refl _⟩
  ·have x:Maps.has D (lit a)=false:=by assumption
   have p:(f==1)=false:=by assumption
   have I:(f==2)=true:=by assumption
   go_ret;have g:r=(14,D.put (lit a) (Gw s),V):=by rw[l.out,if_neg (by rw[j.out];simp),if_neg (by rw[x];simp),if_neg (by simpa using p),if_pos (by simpa using I)]
   rw[g];exact⟨rfl,O,v,N,(((A0.refl _ _).alloc _).trans d (λi _ e=>.inl e)).trans L (λi _ e=>e),λk c=>(J k c).imp id (λh=>XA (XA (by simp) d.size) h),z,u⟩
  have x:Maps.has D (lit a)=false:=by assumption
  have p:(f==1)=false:=by assumption
  have I:(f==2)=false:=by assumption
  go_ret;have g:r=(0,D.put (lit a) (Gw s),V):=by rw[l.out,if_neg (by rw[j.out];simp),if_neg (by rw[x];simp),if_neg (by simpa using p),if_neg (by simpa using I)]
  rw[g];exact⟨rfl,O,v,N,(((A0.refl _ _).alloc _).trans d (λi _ e=>.inl e)).trans L (λi _ e=>e),λk c=>(J k c).imp id (λh=>XA (XA (by simp) d.size) h),z,u⟩
 go_enter func78,ntmps78;go_wp2;go_ret;have g:r=(1,D,fs):=by rw[l.out,if_pos (by rw[T.out];simp only[XM,decide_eq_false_iff_not];omega)]
 rw[g];exact⟨rfl,mv,m,H.out.mono (by omega),A0.refl _ _,λk c=>.inl c,Ur.refl _,St.refl _⟩
def Ob(w:World):Prop:=w.cell? ⟨1,0,none⟩=some (.iface 369 (.agg #[.pointer (some ⟨11,32,none⟩)]))
theorem Ob.lt{w:Tw}(h:Ob w):1<w.heap.size:=by
 rcases Yc 1 w.heap.size with a|a
 ·exact a
 unfold Ob at h;simp[World.cell?,XB a] at h
theorem Ob.below{w W:Tw}(h:Ob w)(a:Zb w W):Ob W:=(a.cell (p:=⟨1,0,none⟩) h.lt).trans h
theorem AJj(w:Tw):Bu (w.alloc (Zk #[.map none,Zs none 0 0] 30)) w.heap.size 0 (.map []) [] (.map none) (Zs none 0 0) :=
 ⟨heap_alloc_new w _,.inl ⟨rfl,rfl⟩,_,_,rfl,Y9 _,λh=>absurd rfl h⟩
def Z(w0:World)(bb n:Nat)(D:DataW Unit)(fs:List Int)(w:World):Prop:=∃mv a,Bu w bb n D fs mv a/\Zb w0 w/\w0.heap.size<=bb/\∀k,mv=.map (some k)->w0.heap.size<=k
end B
variable{H:List (Dn×Ah)}{i j m n:Nat}{x:Dn×Ah}{c:Dn}{D:Td}{W Y w:Tw}{T:TypeId}{v:Tv}{s:Ah}
structure Lay(c:Dn):Prop where
 ok:Cv c=true
 lines:∀a∈c.2.2,Fh a
 Iz:c.2.2.length<=100
 len:0<(C6 c).size/\(C6 c).size<=1000000
def Xv:Ah->List (Dn×Ah)->Prop
 | _,[]=>True
 | s,x :: l=>Bi s x.1 x.2/\Lay x.1/\Xv x.2 l
def Ic:Ah->List (Dn×Ah)->Ah
 | s,[]=>s
 | _,x :: l=>Ic x.2 l
def Ae(H:List (Dn×Ah))(i:Nat):Ah:=Ic F6 (H.take i)
theorem fF:∀{s:Ah}{H:List (Dn×Ah)}{c:Dn}{t:Ah},Xv s H->Bi (Ic s H) c t->Lay c->Xv s (H++[(c,t)])
 | _,[],_,_,_,h,hl=>⟨h,hl,trivial⟩
 | _,_ :: _,_,_,hc,h,hl=>⟨hc.1,hc.2.1,fF hc.2.2 h hl⟩
theorem Re:∀{s:Ah}{H:List (Dn×Ah)}{x:Dn×Ah},Ic s (H++[x])=x.2
 | _,[],_=>rfl
 | _,y :: l,_=>Re (s:=y.2) (H:=l)
theorem rO:∀{s:Ah}{H:List (Dn×Ah)},Xv s H->∀i,i<H.length->∃c t,H[i]? = some (c,t)/\Bi (Ic s (H.take i)) c t/\Lay c/\Ic s (H.take (i+1))=t
 | _,x :: _,h,0,_=>⟨x.1,x.2,rfl,h.1,h.2.1,rfl⟩
 | _,x :: l,h,i+1,hi=>by obtain⟨c,t,a,b,d,e⟩:=rO (s:=x.2) (H:=l) h.2.2 i (by simpa using hi);exact⟨c,t,by simpa using a,by simpa[Ic] using b,d,by simpa[Ic] using e⟩
theorem fR:∀{s:Ah}{H:List (Dn×Ah)},Xv s H->Good Bv Cm s->Q7 s->0<=s.Eb->∀i,i<=H.length->Good Bv Cm (Ic s (H.take i))/\Q7 (Ic s (H.take i))/\(Ic s (H.take i)).Eb=s.Eb+i
 | _,_,_,g,n,_,0,_=>by simpa[Ic] using ⟨g,n⟩
 | _,x :: l,h,g,n,hv,i+1,hi=>by have e:=aB h.1;have:=fR (s:=x.2) (H:=l) h.2.2 (mP h.1 g) (iX h.1 n) (by omega) i (by simpa using hi);simp only[XO,Ic];exact⟨this.1,this.2.1,by rw[this.2.2,e];omega⟩
def La(H:List (Dn×Ah)):Prop:=Xv F6 H
theorem AA8(h:La H)(f:i<H.length):∃c,(H[i]?).map (·.1)=some c/\Bi (Ae H i) c (Ae H (i+1))/\Lay c:=by obtain⟨c,t,a,b,d,e⟩:=rO h i f;exact⟨c,by rw[a];rfl,by unfold Ae;rw[e];exact b,d⟩
theorem yJ:Q7 F6:=by intro e a;cases a
theorem Jb(h:La H)(a:i<=H.length):Good Bv Cm (Ae H i)/\Q7 (Ae H i)/\(Ae H i).Eb=i:=by have:=fR h ABq yJ (by show (0:Int)<=0;omega) i a;refine⟨this.1,this.2.1,?_⟩;have e:=this.2.2;have e0:F6.Eb=0:=rfl;rw[e0] at e;unfold Ae;omega
theorem qV(a:i<=H.length):Ae (H++[x]) i=Ae H i:=by unfold Ae;rw[Yx a]
theorem rJ:Ae (H++[x]) (H.length+1)=x.2:=by unfold Ae;rw[Yd (by simp)];exact Re
theorem bR:Ae H H.length=Ic F6 H:=by unfold Ae;rw[Ye]
theorem ADc(h:La H){t:Ah}(a:Bi (Ae H H.length) c t)(b:Lay c):La (H++[(c,t)]):=by rw[bR] at a;exact fF h a b
def U6(D:DataW Unit)(H:List (Dn×Ah)):Prop:=Maps.IsMap D/\∀i,i<99->(∀c,(H[i]?).map (·.1)=some c->Maps.has D (B.lit (Ek (i+1)))=true/\D.atKey (B.lit (Ek (i+1))) (B.Gw ByteArray.empty)=B.Gw (C6 c))/\(H.length<=i->Maps.has D (B.lit (Ek (i+1)))=false)
theorem AGO:U6 (.map []) []:=⟨Maps.isMap_empty,λi _=>⟨λc h=>by simp at h,λ_=>rfl⟩⟩
theorem L4{b:Tb}:WideAt.IsKeyLit (B.lit b):=by simp[B.lit,WideAt.IsKeyLit]
theorem AFI(h:U6 D H)(l:H.length<90)(c:Dn)(t:Ah):U6 (D.put (B.lit (Ek (H.length+1))) (B.Gw (C6 c))) (H++[(c,t)]):=by
 refine⟨?_,λi g=>?_⟩
 ·exact h.1.put _ _
 by_cases e:i=H.length
 ·subst e
  refine⟨λd a=>?_,λhle=>by simp at hle;omega⟩;have:d=c:=by simpa using a.symm
  subst this;exact⟨Maps.has_put_same h.1 L4 _,Maps.atKey_put_same h.1 L4 _ _⟩
 have b:B.lit (Ek (i+1))≠B.lit (Ek (H.length+1)):=λj=>by have:=key_inj (by omega) (by omega) (B.Jr j);omega
 rw[Maps.has_put_other b,Maps.atKey_put_other b];refine⟨λd a=>(h.2 i g).1 d ?_,λhle=>(h.2 i g).2 (by simp at hle;omega)⟩
 rcases Yc i H.length with f|k
 ·rwa[List.getElem?_append_left f] at a
 rw[Yb (by simp;omega)] at a;cases a
structure G3(W Y:World):Prop where
 size:W.heap.size<=Y.heap.size
 same:∀g o x,W.cell? ⟨g,o,none⟩=some (Zi x)->Y.heap[g]? = W.heap[g]?
theorem G3.Ba(h:Zb W Y):G3 W Y:=⟨h.size,λg _ _ a=>h.block g (Fv a)⟩
theorem G3.cell{W Y:Tw}(h:G3 W Y){g o n:Nat}{x:Int}{v:Tv}(b:W.cell? ⟨g,o,none⟩=some (Zi x))(a:W.cell? ⟨g,n,none⟩=some v):Y.cell? ⟨g,n,none⟩=some v:=by have e:=h.same g o x b;simp only[World.cell?,e] at a ⊢;exact a
theorem G3.trans{W X Y:Tw}(h:G3 W X)(k:G3 X Y):G3 W Y :=
 ⟨XA h.size k.size,λg o x a=>(k.same g o x (h.cell a a)).trans (h.same g o x a)⟩
theorem G3.grown{b:Nat}{cs:Array Tv}(f:W.heap[b]? = some (Zk cs T (0,0)))(c:∀(i:Nat)x,cs[i]? ≠some (Zi x))(d:W.grownBy Y (some b)):G3 W Y :=
 ⟨d.size,λg o x a=>d.block g (Fv a) (λe=>by injection e with e;subst e;simp only[World.cell?,f] at a;exact c o x (by simpa using a))⟩
theorem Ph.stays{l:List Int}(h:Ph W v l)(k:G3 W Y):Ph Y v l:=by
 rcases h with h|⟨g,o,c,d,e,f,a⟩
 ·exact .inl h
 exact .inr ⟨g,o,c,d,Ya e k.size,f,λj b=>k.cell (a j b) (a j b)⟩
theorem bH.stays{l:List Aj}(h:bH W v l)(k:G3 W Y):bH Y v l:=by
 rcases h with h|⟨g,o,c,d,e,f,a⟩
 ·exact .inl h
 exact .inr ⟨g,o,c,d,e,Ya f k.size,λj b i u m=>k.cell (a j b 0 _ rfl) (a j b i u m)⟩
theorem Om.stays{W Y:Tw}{a:A5}{c:To}{n i:Nat}{b:To}{j m:Nat}(h:Om W a c n i b j m)(k:G3 W Y):Om Y a c n i b j m :=
 ⟨h.mask.stays k,h.cols.stays k,h.path,h.Iz,h.texts⟩
theorem M6.stays{g o:Nat}{a:A5}{c:To}{b:To}(h:M6 W g o a c n i b j m)(k:G3 W Y):M6 Y g o a c n i b j m :=
 ⟨k.cell h.1 h.1,k.cell h.1 h.2.1,k.cell h.1 h.2.2.1,k.cell h.1 h.2.2.2.1,k.cell h.1 h.2.2.2.2.1,k.cell h.1 h.2.2.2.2.2⟩
theorem Dt.stays{W Y:Tw}{v:Tv}{l:List A5}(h:Dt W v l)(k:G3 W Y):Dt Y v l:=by
 rcases h with h|⟨g,o,c,e,f,i,m⟩
 ·exact .inl h
 refine .inr ⟨g,o,c,e,f,Ya i k.size,λj q=>?_⟩;obtain⟨r,t,s,a,d,b,n,p⟩:=m j q;exact⟨r,t,s,a,d,b,n.stays k,p.stays k⟩
theorem G3.put{bb n:Nat}{fs:List Int}{mv v:Tv}(h:B.Bu W bb n D fs mv v)(b:B.A0 (B.Own bb mv) W Y):G3 W Y :=
 ⟨b.size,λg _ _ a=>b.block g (Fv a) (by
  rintro(e|e)
  ·exact B.Fs.far h.1 h.2.1 h.2.2 a e
  exact h.2.1.ne a e)⟩
theorem Dl.only{bb n:Nat}{fs:List Int}{mv f:Tv}(N:Dl W s v)(h:B.Bu W bb n D fs mv f)(M:B.A0 (B.Own bb mv) W Y):Dl Y s v:=by
 have keep:∀{base:Nat}{t:TypeId}{z:Nat}{u:Tv}{k:Nat}{xs:List Tv},t≠30->W.ownsRow base t z u k xs->Y.ownsRow base t z u k xs:=λl p=>by
  refine⟨p.1,?_⟩
  rcases p.2 with G|⟨g,c,d,O,i,a,o⟩
  ·exact .inl G
  refine .inr ⟨g,c,d,O,i,(M.block g (Ac a) ?_).trans a,o⟩;rintro(e|e)
  ·subst e
   have J:W.heap[g]? = _:=h.1;rw[J] at a;injection a with a;injection a with _ a;exact l a.symm
  rcases h.2.1 with⟨I,_⟩|⟨m,y,es,clock,j,_⟩
  ·rw[I] at e;cases e
  rw[y] at e;cases e;rw[j] at a;cases a
 obtain⟨q,c1,r,w,L,e,b⟩:=N;exact⟨q,c1,r,w,L,e,keep (by decide) b.cols,b.files,keep (by decide) b.row,λx P=>keep (by decide) (b.Cl x P)⟩
theorem mM(bb:Nat)(w:Tw):
 Zc 25 #[Zp (some ⟨bb,0,none⟩)] w λe a=>e=Zr (.func (.func 43) #[] #[Zp (some ⟨w.heap.size,0,none⟩)])/\a=w.alloc (Zk #[Zp (some ⟨bb,0,none⟩)] 26):=by
 go_enter func25,ntmps25;go_wp2;go_ret;exact⟨rfl,rfl⟩
structure Ground(w:World)(bb n:Nat)(D:DataW Unit)(mv:Value):Prop where
 c0:w.cell? ⟨bb,0,none⟩=some mv
 th:B.Th w mv n D
 er:Ik w
 nc:Lw w
 tb:Jp w
theorem Ground.up{bb n:Nat}{mv:Tv}(h:Ground w bb n D mv)(a:Zb w W):Ground W bb n D mv :=
 ⟨(a.cell (p:=⟨bb,0,none⟩) (Fv h.c0)).trans h.c0,h.th.keep λm e=>a.block m (h.th.lt e),h.er.below a,h.nc.below a,h.tb.below a⟩
theorem AAW{bb n:Nat}{mv:Tv}(h:Ground w bb n D mv)(i:Nat):Zc 44 #[Zp (some ⟨bb,0,none⟩),Zt (Ek i)] w (B.Um D (Ek i) w) :=
 B.aP bb n D mv (Ek i) w h.c0 h.th (by rw[qI];decide)
theorem uV(a:i<100)(b:Jp w):Hid (∀W,Zb w W->Zc 45 #[Zi i] W λe c=>e=Zr (Zt (Ek i))/\Zb w c) :=
 Aa (λW h=>(ABK i W a (b.below h)).mono λ_ _⟨he,hb⟩=>⟨he,Below.Ap h hb⟩)
theorem qR{bb n:Nat}{mv:Tv}(h:Ground w bb n D mv)(i:Nat)(t:Tb)(b:Tv)(k:(Maps.has D (B.lit (Ek i))=true/\D.atKey (B.lit (Ek i)) (B.Gw ByteArray.empty)=B.Gw t/\b=.nilIface)\/(Maps.has D (B.lit (Ek i))=false/\t=⟨#[]⟩/\b=.iface 90 (.int .i64 7))):
 Hid (∀W,Zb w W->Zc 44 #[Zp (some ⟨bb,0,none⟩),Zt (Ek i)] W λe d=>e=Zr (Zu #[Zt t,b])/\Zb w d) :=
 Aa (λW c=>(AAW (h.up c) i).mono (by
  rintro e d⟨t',rfl,f,g,j⟩;refine⟨?_,Below.Ap c j⟩
  rcases k with⟨a,l,rfl⟩|⟨a,rfl,rfl⟩
  ·have:t'=t:=B.aS ((f a).symm.trans l)
   subst this;rw[a];rfl
  rw[a,g a];rfl))
theorem kC{n bb:Nat}(a:w.heap[n]? = some (Zk #[Zp (some ⟨bb,0,none⟩)] 26 (0,0)))(b:Zb w W):W.cell? ⟨n,0,none⟩=some (Zp (some ⟨bb,0,none⟩)) :=
 (I2 ((b.block _ (Ac a)).trans a)).1
theorem AIL(bb q n:Nat)(D:Td)(mv:Tv)(i:Nat)(w:Tw)(t:i<100)(h:Ground w bb n D mv)(p:w.heap[q]? = some (.cells #[.pointer (some ⟨bb,0,none⟩)] 26 (0,0)))(s:Maps.has D (B.lit (Ek i))=false):
 Zc 43 #[Zi i,Zp (some ⟨q,0,none⟩)] w λe r=>e=Zr (Zu #[Zg #[Zt ⟨#[]⟩,Zt ⟨#[]⟩,Zo false,Zs none 0 0],Zf 90 (Zi 7)])/\Zb w r:=by
 have f:Hid (Zb w (w.alloc (Zk #[Zt ⟨#[]⟩,Zt ⟨#[]⟩,Zo false,Zs none 0 0] 88))):=Aa (Zal);have l:=Aa (heap_alloc_new w (Zk #[Zt ⟨#[]⟩,Zt ⟨#[]⟩,Zo false,Zs none 0 0] 88));have g:=h.up f.out;have d:=(f.out.block _ (Ac p)).trans p;have k:=uV t g.tb;have j:=qR g i ⟨#[]⟩ (Zf 90 (Zi 7)) (.inr ⟨s,rfl,rfl⟩);have a:=Aa d;clear h s p t g d;go_enter func43,ntmps43;go_wp2_with fail;generalize Ek i=y at *;generalize w.alloc (Zk #[Zt ⟨#[]⟩,Zt ⟨#[]⟩,Zo false,Zs none 0 0] 88)=T at *;have d:=kC a.out (Y' _ _)
 go_region_held3 (λr=>r.cell? ⟨q,0,none⟩=some (Zp (some ⟨bb,0,none⟩))) (go_keep)
  (first
    | (go_at_call 45;refine(k.out _ (by first|exact Y' _ _|exact(Y' _ _).drew)).mono ?_;rintro e P⟨rfl,b⟩;have u:=kC a.out b)
    | (go_at_call 44;refine(j.out _ (by first|exact b|exact b.drew)).mono ?_;rintro e R⟨rfl,c⟩;have x:=kC a.out c))
 have o:=Aa (Below.Ap f.out c);have m:=Aa ((c.block _ (Ac l.out)).trans l.out);clear k j a d u x b c;obtain⟨_,_,_,_,gf⟩:=B3 m.out;have L:=gf 0;have M:=gf 1;have N:=gf 2;have O:=gf 3;go_wp2_with fail;obtain⟨z,G,I,J,_⟩:=B3 (sF _ _ _ _ _ _ (Zt ⟨#[]⟩) (Zt ⟨#[]⟩) (Zo false) (Zs none 0 0) _ m.out).1;refine bodyPost_ret (v:=Zu #[Zg #[Zt ⟨#[]⟩,Zt ⟨#[]⟩,Zo false,Zs none 0 0],Zf 90 (Zi 7)]) (by simp[results,results43,go_sem,z,G,I,J]) rfl ⟨rfl,?_⟩;exact Hx o.out (Y9 _) _ _ _ _
theorem ABr(f:Lay c)(r:Ik w)(t:Lw w)(s:Jp w):Hid (∀W,Zb w W->Zc 46 #[Zt (C6 c)] W λe o=>∃a d b,e=Zr (Zu #[Zg #[Zt c.1,Zo c.2.1,Zs a d b],Zn])/\Dt o (Zs a d b) c.2.2/\Zb w o):=Aa (λW h=>by
 obtain⟨i,g,A⟩:=c;have m:=f.len;refine(ADU (C6 (i,g,A)) W m.2 (r.below h) (t.below h) (s.below h)).mono ?_;have e:(C6 (i,g,A)).data.toList=Nn (i,g,A):=rfl;have q:=n9 f.ok f.lines;rintro v o⟨k,⟨t',x,u,a,d,b,n,rfl,j⟩|⟨l,_⟩⟩
 ·have p:=n.1
  rw[e,q] at p;cases p;exact⟨a,d,b,rfl,j,Below.Ap h k⟩
 exact absurd ⟨by rw[e];exact q,f.ok,rfl⟩ (l (i,g,A)))
theorem AAJ(bb R n:Nat)(D:Td)(mv:Tv)(i:Nat)(c:Dn)(w:Tw)(W:i<100)(h:Ground w bb n D mv)(P:w.heap[R]? = some (.cells #[.pointer (some ⟨bb,0,none⟩)] 26 (0,0)))(V:Maps.has D (B.lit (Ek i))=true)(T:D.atKey (B.lit (Ek i)) (B.Gw ByteArray.empty)=B.Gw (C6 c))(U:Lay c):
 Zc 43 #[Zi i,Zp (some ⟨R,0,none⟩)] w λe L=>∃d g f,e=Zr (Zu #[Zg #[Zt (C6 c),Zt c.1,Zo c.2.1,Zs d g f],Zn])/\Dt L (Zs d g f) c.2.2/\Zb w L:=by
 have l:Hid (Zb w (w.alloc (Zk #[Zt ⟨#[]⟩,Zt ⟨#[]⟩,Zo false,Zs none 0 0] 88))):=Aa (Zal);have G:=Aa (heap_alloc_new w (Zk #[Zt ⟨#[]⟩,Zt ⟨#[]⟩,Zo false,Zs none 0 0] 88));have a:=h.up l.out;have k:=(l.out.block _ (Ac P)).trans P;have z:=uV W a.tb;have y:=qR a i (C6 c) Zn (.inl ⟨V,T,rfl⟩);have m:=ABr U a.er a.nc a.tb;have b:=Aa k;obtain⟨t,s,A⟩:=c;simp only at m;generalize C6 (t,s,A)=X at *;clear h V P W a k U T;go_enter func43,ntmps43;go_wp2_with fail;generalize Ek i=aa at *;generalize w.alloc (Zk #[Zt ⟨#[]⟩,Zt ⟨#[]⟩,Zo false,Zs none 0 0] 88)=wa at *;have k:=kC b.out (Y' _ _)
 go_region_held3 (λL=>L.cell? ⟨R,0,none⟩=some (Zp (some ⟨bb,0,none⟩))) (go_keep)
  (first
    | (go_at_call 45;refine(z.out _ (by first|exact Y' _ _|exact(Y' _ _).drew)).mono ?_;rintro e w1⟨rfl,j⟩;have k1:=kC b.out j)
    | (go_at_call 44;refine(y.out _ (by first|exact j|exact j.drew)).mono ?_;rintro e w2⟨rfl,q⟩;have k2:=kC b.out q))
 have N:=Aa q;clear z y b k k1 k2 j q;go_wp2_with fail;refine(m.out _ N.out).mono ?_;rintro e Y⟨d,g,f,rfl,I,r⟩;have u:=Aa (Below.Ap l.out r);have o:=Aa ((r.block _ (Ac G.out)).trans G.out);have p:=Aa ((XE Y (Zk #[Zt t,Zo s,Zs d g f] 86) _ (Ac o.out)).trans o.out);have O:Hid (Zb w (Y.alloc (Zk #[Zt t,Zo s,Zs d g f] 86))):=Aa (Below.Ap u.out (Zal));have M:=Aa (I.below ((Y' _ _).alloc (Y9 _) (Zk #[Zt t,Zo s,Zs d g f] 86)));obtain⟨_,_,_,_,gf⟩:=B3 p.out;have g0:=gf 0;have g1:=gf 1;have g2:=gf 2;have g3:=gf 3;clear I r u o m gf;go_wp2_with fail;clear g0 g1 g2 g3;obtain⟨hP,hG⟩:=sF _ _ _ _ _ _ (Zt X) (Zt t) (Zo s) (Zs d g f) _ p.out;obtain⟨z0,z1,z2,z3,_⟩:=B3 hP;refine bodyPost_ret (v:=Zu #[Zg #[Zt X,Zt t,Zo s,Zs d g f],Zn]) (by simp[results,results43,go_sem,z0,z1,z2,z3]) rfl ⟨d,g,f,rfl,M.out.stays (G3.grown p.out ?_ hG),?_⟩
 ·intro i x J
  match i with
  | 0=>simp at J
  | 1=>simp at J
  | 2=>simp at J
  | 3=>simp at J
  | i+4=>simp at J
 exact Hx O.out (Y9 _) _ _ _ _
def K4(d:Int)(a:Option Addr)(n1 c1:Nat)(e:Int)(b:Option Addr)(n2 c:Nat):Value:=.agg #[Zi d,.slice a n1 c1,Zi e,.slice b n2 c]
theorem Nv(h:Dl W s v):∃a n1 c1 d b n2 c,v=K4 s.Eb a n1 c1 d b n2 c:=by obtain⟨a,c1,b,c,L,e,f⟩:=h;exact⟨_,_,_,_,_,_,_,e⟩
theorem bN(s t:Ah)(P:Int)(u:To)(N y:Nat)(T:Int)(x:To)(O z:Nat)(l:Tb)(q:Bool)(Bz:List A5)(n:To)(p o:Nat)(w:Tw)(h:Dl w s (K4 P u N y T x O z))(hg:Good Bv Cm s)(L:0<=s.Eb)(M:s.Eb<=1000)(ha:Dt w (Zs n p o) Bz)(D:Bz.length<=1000)(J:l.size<=maxLen)(hw:Lw w)(j:Bi s (l,q,Bz) t):
 Zc 26 #[K4 P u N y T x O z,Zg #[Zt l,Zo q,Zs n p o]] w λe m=>∃d a n1 c1 f b n2 c,e=Zr (Zu #[K4 d a n1 c1 f b n2 c,Zn])/\Dl m t (K4 d a n1 c1 f b n2 c)/\Zb w m:=by
 unfold K4 at h ⊢;obtain⟨R,Y,ab,U,g⟩:=On w (Zk #[Zi P,Zs u N y,Zi T,Zs x O z] 42) (Zk #[Zt l,Zo q,Zs n p o] 86) (Zk #[Zi 0,Zs none 0 0,Zi 0,Zs none 0 0] 42)
 have r:Hid (Zc 47 #[Zg #[Zi P,Zs u N y,Zi T,Zs x O z],Zg #[Zt l,Zo q,Zs n p o]] (((w.alloc (Zk #[Zi P,Zs u N y,Zi T,Zs x O z] 42)).alloc (Zk #[Zt l,Zo q,Zs n p o] 86)).alloc (Zk #[Zi 0,Zs none 0 0,Zi 0,Zs none 0 0] 42)) λe m=>∃d a n1 c1 f b n2 c,e=Zr (Zu #[Zg #[Zi d,Zs a n1 c1,Zi f,Zs b n2 c],Zn])/\Dl m t (Zg #[Zi d,Zs a n1 c1,Zi f,Zs b n2 c])/\Zb w m/\m.heap[w.heap.size+2]? = some (Zk #[Zi 0,Zs none 0 0,Zi 0,Zs none 0 0] 42 (0,0))):=Aa ((kJ s _ l q Bz n p o _ (h.up g) hg L M (ha.below g) D J (hw.below g)).mono (by
  rintro e m⟨d,a,n1,c1,f,b,n2,c,er,rfl,hb,⟨rfl,t',h1,h2⟩|⟨_,_,_,X⟩⟩
  ·have:=qX h1 j
   subst this;exact⟨d,a,n1,c1,f,b,n2,c,rfl,h2,Below.Ap g hb,(hb.block _ (by rw[R];omega)).trans U⟩
  exact absurd j (X t)))
 clear h hg L M ha D J hw j R Y ab U g;go_enter func26,ntmps26;go_wp2_with fail;refine r.out.mono ?_;rintro e w2⟨d,a,n1,c1,f,b,n2,c,rfl,I,G,k⟩;have V:Hid (Zb w (w2.alloc (Zk #[Zi d,Zs a n1 c1,Zi f,Zs b n2 c] 42))):=Aa (Below.Ap G (Zal));have i:=Aa ((XE w2 (Zk #[Zi d,Zs a n1 c1,Zi f,Zs b n2 c] 42) _ (Ac k)).trans k);have W:=Aa (I.up ((Y' _ _).alloc (Y9 _) (Zk #[Zi d,Zs a n1 c1,Zi f,Zs b n2 c] 42)));obtain⟨_,_,_,_,gf⟩:=B3 i.out;have g0:=gf 0;have g1:=gf 1;have g2:=gf 2;have g3:=gf 3;clear I G k r gf;go_wp2_with fail;clear g0 g1 g2 g3;obtain⟨hP,hG⟩:=sF _ _ _ _ _ _ (Zi d) (Zs a n1 c1) (Zi f) (Zs b n2 c) _ i.out;obtain⟨z0,z1,z2,z3,_⟩:=B3 hP;refine bodyPost_ret (v:=Zu #[Zg #[Zi d,Zs a n1 c1,Zi f,Zs b n2 c],Zn]) (by simp[results,results26,go_sem,z0,z1,z2,z3]) rfl ⟨d,a,n1,c1,f,b,n2,c,rfl,W.out.put i.out hG,?_⟩;exact Hx V.out (by omega) _ _ _ _
theorem AFH(w:Tw):(binOp .eql 32 Zn (Zf 90 (Zi 7))).run prog w=.ok (Zo false) w:=by kernel_rfl
theorem AEV(w:Tw):(binOp .eql 32 (Zf 90 (Zi 7)) (Zf 90 (Zi 7))).run prog w=.ok (Zo true) w:=by kernel_rfl
structure LdI(w:World)(bb:Nat)(H:List (Dn×Ah))(W:World)(k:Nat)(a1:Option Addr)(n1 c1:Nat)(x2:Int)(a2:Option Addr)(n2 c2:Nat):Prop where
 box:W.heap[w.heap.size+2]? = some (.cells #[Zi k,.slice a1 n1 c1,Zi x2,.slice a2 n2 c2] 42 (0,0))
 snap:Dl W (Ae H k) (K4 k a1 n1 c1 x2 a2 n2 c2)
 res:W.heap[w.heap.size]? = some (.cells #[Zi 0,.slice none 0 0,Zi 0,.slice none 0 0] 42 (0,0))
 kb:W.heap[w.heap.size+1]? = some (.cells #[.pointer (some ⟨bb,0,none⟩)] 26 (0,0))
 low:Zb w W
def ABf(b:Nat)(w:World):Nat:=match w.cell? ⟨b,0,none⟩ with
 | some (.int _ v)=>v.toNat
 | _=>0
theorem Pm{b k:Nat}(h:w.cell? ⟨b,0,none⟩=some (Zi k)):ABf b w=k:=by unfold ABf;rw[h];simp
theorem Ua(bb n:Nat)(D:Td)(mv:Tv)(H:List (Dn×Ah))(Eb:Int)(P:Nat)(w:Tw)(h:Ground w bb n D mv)(hl:U6 D H)(hp:La H)(O5:H.length<=40)(hk:P<=H.length)(hv:(Eb<0/\P=H.length)\/Eb=P):
 Zc 9 #[Zp (some ⟨bb,0,none⟩),Zi Eb] w λe w'=>∃j n1 c1 o l n2 m,e=Zr (Zu #[K4 P j n1 c1 o l n2 m,Zn])/\Dl w' (Ae H P) (K4 P j n1 c1 o l n2 m)/\Zb w w':=by
 obtain⟨t0,t1,t2,t3,t4⟩:=On w (Zk #[Zi 0,Zs none 0 0,Zi 0,Zs none 0 0] 42) (Zk #[Zp (some ⟨bb,0,none⟩)] 26) (Zk #[Zi 0,Zs none 0 0,Zi 0,Zs none 0 0] 42)
 have ah:Hid (∃j n1 c1 o l n2 m,LdI w bb H (((w.alloc (Zk #[Zi 0,Zs none 0 0,Zi 0,Zs none 0 0] 42)).alloc (Zk #[Zp (some ⟨bb,0,none⟩)] 26)).alloc (Zk #[Zi 0,Zs none 0 0,Zi 0,Zs none 0 0] 42)) 0 j n1 c1 o l n2 m) :=
  Aa ⟨none,0,0,0,none,0,0,t3,AAK _,t1,t2,t4⟩
 have HG:=Aa h;have HL:=Aa hl;have HP:=Aa hp;have q1:=AFH;have q2:=AEV;clear h hl hp t0 t1 t2 t3 t4;go_enter func9,ntmps9;go_wp2_with (go_at_call 25;refine(mM _ _).mono ?_;rintro e w1⟨rfl,rfl⟩);generalize ((w.alloc (Zk #[Zi 0,Zs none 0 0,Zi 0,Zs none 0 0] 42)).alloc (Zk #[Zp (some ⟨bb,0,none⟩)] 26)).alloc (Zk #[Zi 0,Zs none 0 0,Zi 0,Zs none 0 0] 42)=wa at *
 go_loopw [8,9] (λ_ _ wr=>∃k j n1 c1 o l n2 m,k<=P/\Hid (LdI w bb H wr k j n1 c1 o l n2 m)) (λ_ _ wr=>P-ABf (w.heap.size+2) wr)
 case atStart=>obtain⟨j,n1,c1,o,l,n2,m,hI⟩:=ah.out;exact⟨0,j,n1,c1,o,l,n2,m,XI _,Aa hI⟩
 case round=>
  obtain⟨k,j,n1,c1,o,l,n2,m,au,a⟩:=hrel;clear ah;obtain⟨z,U,V,X,Y⟩:=B3 a.out.box;have an:=Pm z
  by_cases hlt:k<P
  ·obtain⟨c,hc,ak,t⟩:=AA8 HP.out (Ya hlt hk)
   obtain⟨hh,al⟩:=(HL.out.2 k (by omega)).1 c hc;obtain⟨gg,nn,vv⟩:=Jb HP.out (i:=k) (by omega);have f:=Aa (AAJ bb (w.heap.size+1) n D mv (k+1) c wr (by omega) (HG.out.up a.out.low) a.out.kb hh al t);obtain⟨tx,rd,A⟩:=c;have e1:((k+1:Nat):Int)=(k:Int)+1:=by omega
   rw[e1] at f;simp only at f;have ax:A.length<=100:=t.Iz
   have am:tx.size<=maxLen:=by have h:=t.ok;simp only[Cv,XH] at h;have:=Hh h.1;unfold maxLen;omega
   have aa:Hid (∀W J M L,Zb wr W->Dt W (Zs J M L) A->Zc 26 #[Zg #[Zi k,Zs j n1 c1,Zi o,Zs l n2 m],Zg #[Zt tx,Zo rd,Zs J M L]] W λe w'=>∃y0 G R N y2 I T O,e=Zr (Zu #[K4 y0 G R N y2 I T O,Zn])/\Dl w' (Ae H (k+1)) (K4 y0 G R N y2 I T O)/\Zb wr w'):=Aa (λW J M L hb hA=>(bN _ _ k j n1 c1 o l n2 m tx rd A J M L W (a.out.snap.up hb) gg (by rw[vv];omega) (by rw[vv];omega) hA (by omega) am ((HG.out.nc.below a.out.low).below hb) ak).mono (by rintro e w'⟨y0,G,R,N,y2,I,T,O,he,h1,h2⟩;exact⟨y0,G,R,N,y2,I,T,O,he,h1,Below.Ap hb h2⟩))
   have ai:Hid ((Ae H (k+1)).Eb=(k+1:Nat)):=Aa (Jb HP.out (i:=k+1) (by omega)).2.2;clear ak t hh al hc gg nn vv am;clear e1;have aw:(k:Int)+1<=41:=by omega
   have ao:(0:Int)<=(k:Int):=by omega
   have ae:Eb<0\/(¬Eb<0/\(k:Int)<Eb):=by rcases hv with⟨h,_⟩|h <;> omega
   generalize C6 (tx,rd,A)=pb at *
   rcases ae with ab|⟨ab,ay⟩
   ·go_wp2_with fail
    refine f.out.mono ?_;rintro e w2⟨J,M,L,rfl,x,p⟩;have b:Hid (Zb wr (w2.alloc (Zk #[Zt pb,Zt tx,Zo rd,Zs J M L] 88))):=Aa (Below.Ap p (Zal));have u:=Aa (x.below ((Y' _ _).alloc (Y9 _) (Zk #[Zt pb,Zt tx,Zo rd,Zs J M L] 88)));have q:=Aa ((b.out.block _ (Ac a.out.box)).trans a.out.box);clear z U V X Y x p f;obtain⟨z,U,V,X,Y⟩:=B3 q.out;go_wp2_with fail;refine(aa.out _ _ _ _ b.out u.out).mono ?_;rintro e w4⟨y0,G,R,N,y2,I,T,O,rfl,g,s⟩;have r:=Aa ((s.block _ (Ac a.out.box)).trans a.out.box);have d:=Aa s;obtain⟨_,_,_,_,_,_,_,ev⟩:=Nv g;unfold K4 at ev g ⊢;simp only[Value.agg.injEq,Array.mk.injEq,List.cons.injEq,Value.int.injEq,Value.slice.injEq] at ev;have ag:y0=((k+1:Nat):Int):=by rw[ev.1.2,ai.out]
    clear ev;subst ag;have ad:=Aa g;clear z U V X Y g s aa u b q;obtain⟨_,_,_,_,gf⟩:=B3 r.out;have g0:=gf 0;have g1:=gf 1;have g2:=gf 2;have g3:=gf 3;clear gf;generalize af:((k+1:Nat):Int)=ki at *;go_wp2_with fail;subst af;obtain⟨hP,y⟩:=sF _ _ _ _ _ _ (Zi ((k+1:Nat):Int)) (Zs G R N) (Zi y2) (Zs I T O) _ r.out;refine⟨⟨k+1,G,R,N,y2,I,T,O,by omega,Aa ⟨hP,ad.out.put r.out y,?_,?_,Hx (Below.Ap a.out.low d.out) (by omega) _ _ _ _⟩⟩,?_⟩
    ·exact(y.block _ (Ya (Ac a.out.res) d.out.size) (λe=>by injection e with e;omega)).trans ((d.out.block _ (Ac a.out.res)).trans a.out.res)
    ·exact(y.block _ (Ya (Ac a.out.kb) d.out.size) (λe=>by injection e with e;omega)).trans ((d.out.block _ (Ac a.out.kb)).trans a.out.kb)
    have e1:=Pm (B3 hP).1;have e2:w.heap.size+1+1=w.heap.size+2:=rfl;rw[an,e2,e1];omega
   go_wp2_with fail;refine f.out.mono ?_;rintro e w2⟨J,M,L,rfl,x,p⟩;have b:Hid (Zb wr (w2.alloc (Zk #[Zt pb,Zt tx,Zo rd,Zs J M L] 88))):=Aa (Below.Ap p (Zal));have u:=Aa (x.below ((Y' _ _).alloc (Y9 _) (Zk #[Zt pb,Zt tx,Zo rd,Zs J M L] 88)));have q:=Aa ((b.out.block _ (Ac a.out.box)).trans a.out.box);clear z U V X Y x p f;obtain⟨z,U,V,X,Y⟩:=B3 q.out;go_wp2_with fail;refine(aa.out _ _ _ _ b.out u.out).mono ?_;rintro e w4⟨y0,G,R,N,y2,I,T,O,rfl,g,s⟩;have r:=Aa ((s.block _ (Ac a.out.box)).trans a.out.box);have d:=Aa s;obtain⟨_,_,_,_,_,_,_,ev⟩:=Nv g;unfold K4 at ev g ⊢;simp only[Value.agg.injEq,Array.mk.injEq,List.cons.injEq,Value.int.injEq,Value.slice.injEq] at ev;have ag:y0=((k+1:Nat):Int):=by rw[ev.1.2,ai.out]
   clear ev;subst ag;have ad:=Aa g;clear z U V X Y g s aa u b q;obtain⟨_,_,_,_,gf⟩:=B3 r.out;have g0:=gf 0;have g1:=gf 1;have g2:=gf 2;have g3:=gf 3;clear gf;generalize af:((k+1:Nat):Int)=ki at *;go_wp2_with fail;subst af;obtain⟨hP,y⟩:=sF _ _ _ _ _ _ (Zi ((k+1:Nat):Int)) (Zs G R N) (Zi y2) (Zs I T O) _ r.out;refine⟨⟨k+1,G,R,N,y2,I,T,O,by omega,Aa ⟨hP,ad.out.put r.out y,?_,?_,Hx (Below.Ap a.out.low d.out) (by omega) _ _ _ _⟩⟩,?_⟩
   ·exact(y.block _ (Ya (Ac a.out.res) d.out.size) (λe=>by injection e with e;omega)).trans ((d.out.block _ (Ac a.out.res)).trans a.out.res)
   ·exact(y.block _ (Ya (Ac a.out.kb) d.out.size) (λe=>by injection e with e;omega)).trans ((d.out.block _ (Ac a.out.kb)).trans a.out.kb)
   have e1:=Pm (B3 hP).1;have e2:w.heap.size+1+1=w.heap.size+2:=rfl;rw[an,e2,e1];omega
  have ar:k=P:=by omega
  subst ar;clear au hlt;have aj:∀(W:Tw)(S:Act),LdI w bb H W k j n1 c1 o l n2 m->True:=λ_ _ _=>trivial
  rcases hv with⟨ab,aq⟩|av
  ·have f:=Aa (AIL bb (w.heap.size+1) n D mv (k+1) wr (by omega) (HG.out.up a.out.low) a.out.kb ((HL.out.2 k (by omega)).2 (by omega)))
   have e1:((k+1:Nat):Int)=(k:Int)+1:=by omega
   rw[e1] at f;have aw:(k:Int)+1<=41:=by omega
   have ao:(0:Int)<=(k:Int):=by omega
   clear e1 aj aq;go_wp2_with fail;refine f.out.mono ?_;rintro e w2⟨rfl,p⟩;have b:Hid (Zb wr (w2.alloc (Zk #[Zt ⟨#[]⟩,Zt ⟨#[]⟩,Zo false,Zs none 0 0] 88))):=Aa (Below.Ap p (Zal));have q:=Aa ((b.out.block _ (Ac a.out.box)).trans a.out.box);have ac:=Aa ((b.out.block _ (Ac a.out.res)).trans a.out.res);have ap:=Aa (a.out.snap.up b.out);clear z U V X Y p f;obtain⟨z,U,V,X,Y⟩:=B3 q.out;obtain⟨_,_,_,_,gf⟩:=B3 ac.out;have g0:=gf 0;have g1:=gf 1;have g2:=gf 2;have g3:=gf 3;clear gf;go_wp2_with fail;clear g0 g1 g2 g3 z U V X Y;obtain⟨hP,y⟩:=sF _ _ _ _ _ _ (Zi (k:Int)) (Zs j n1 c1) (Zi o) (Zs l n2 m) _ ac.out;obtain⟨z0,z1,z2,z3,_⟩:=B3 hP;refine bodyPost_ret (v:=Zu #[K4 k j n1 c1 o l n2 m,Zn]) (by simp[results,results9,go_sem,z0,z1,z2,z3,K4]) rfl ⟨j,n1,c1,o,l,n2,m,rfl,ap.out.put ac.out y,Hx (Below.Ap a.out.low b.out) (Y9 _) _ _ _ _⟩
  subst av;clear aj;have ao:¬(k:Int)<0:=by omega
  obtain⟨_,_,_,_,gf⟩:=B3 a.out.res;have g0:=gf 0;have g1:=gf 1;have g2:=gf 2;have g3:=gf 3;clear gf;go_wp2_with fail;clear g0 g1 g2 g3 z U V X Y;obtain⟨hP,y⟩:=sF _ _ _ _ _ _ (Zi (k:Int)) (Zs j n1 c1) (Zi o) (Zs l n2 m) _ a.out.res;obtain⟨z0,z1,z2,z3,_⟩:=B3 hP;refine bodyPost_ret (v:=Zu #[K4 k j n1 c1 o l n2 m,Zn]) (by simp[results,results9,go_sem,z0,z1,z2,z3,K4]) rfl ⟨j,n1,c1,o,l,n2,m,rfl,a.out.snap.put a.out.res y,Hx a.out.low (Y9 _) _ _ _ _⟩
structure Ey(w0 w:World)(NF bb n:Nat)(D:DataW Unit)(fs:List Int)(mv fv:Value):Prop where
 bu:B.Bu w bb n D fs mv fv
 low:Zb w0 w
 hb:w0.heap.size<=bb
 hm:∀k,mv=.map (some k)->w0.heap.size<=k
 er:Ik w0
 nc:Lw w0
 tb:Jp w0
 hf:∀b off l c,fv=.slice (some ⟨b,off,none⟩) (l+1) c->b<NF
theorem Ey.ground{w0 w:Tw}{k bb n:Nat}{fs:List Int}{mv v:Tv}(h:Ey w0 w k bb n D fs mv v):Ground w bb n D mv :=
 ⟨h.bu.1.c0,h.bu.2.1,h.er.below h.low,h.nc.below h.low,h.tb.below h.low⟩
theorem Ey.up{w0 w W:Tw}{k bb n:Nat}{fs:List Int}{mv v:Tv}(h:Ey w0 w k bb n D fs mv v)(a:Zb w W):Ey w0 W k bb n D fs mv v :=
 ⟨h.bu.below a,Below.Ap h.low a,h.hb,h.hm,h.er,h.nc,h.tb,h.hf⟩
theorem Ut{bb n:Nat}{fs:List Int}{mv v:Tv}{b:Nat}{cs:Array Tv}(h:B.Bu W bb n D fs mv v)(j:B.A0 (B.Own bb mv) W Y)(a:W.heap[b]? = some (Zk cs T (0,0)))(i:T≠30):Y.heap[b]? = some (Zk cs T (0,0)):=by
 refine(j.block b (Ac a) ?_).trans a;rintro(e|e)
 ·subst e
  have g:W.heap[b]? = _:=h.1;rw[g] at a;injection a with a;injection a with _ a;exact i a.symm
 rcases h.2.1 with⟨f,_⟩|⟨m,d,es,clock,c,_⟩
 ·rw[f] at e;cases e
 rw[d] at e;cases e;rw[c] at a;cases a
theorem Ub{w0 w:Tw}{j bb n:Nat}{fs:List Int}{mv v:Tv}(h:Ey w0 w j bb n D fs mv v)(z:n<100000)(i:Nat)(s:Tb)(u:s.size<=maxLen)(r:Int×Td×List Int)(t:B.bM D fs (Ek i) s=r):
 Zc 78 #[Zp (some ⟨bb,0,none⟩),Zt (Ek i),Zt s] w λe o=>e=Zr (B.L8 r.1)/\∃a d,Ey w0 o j bb (n+1) r.2.1 r.2.2 a d/\B.A0 (B.Own bb mv) w o/\∀k,a=.map (some k)->mv=.map (some k)\/w.heap.size<=k:=by
 refine(B.ABa bb n D fs mv v (Ek i) s w h.bu (by unfold maxLen;omega) (by rw[qI];decide) u).mono ?_;rw[t];rintro e o⟨rfl,a,d,g,p,f,m,_⟩;refine⟨rfl,a,d,⟨g,p.below h.low h.low.size ?_,h.hb,λk q=>?_,h.er,h.nc,h.tb,λb off l c e=>?_⟩,p,f⟩
 ·rintro i (rfl|e)
  ·exact h.hb
  exact h.hm i e
 ·rcases f k q with e|e
  ·exact h.hm k e
  exact XA h.low.size e
 obtain⟨y,x,c0,e0⟩:=m b off l c e;exact h.hf b y x c0 e0
theorem AE4(i:Nat):B.Wz (Ek i)=true:=rfl
theorem wF{fs:List Int}{s:Tb}(h:Maps.has D (B.lit (Ek i))=true):B.bM D fs (Ek i) s=(9,D,fs):=by unfold B.bM;rw[AE4,h];rfl
theorem AEG{fs:List Int}{s:Tb}(h:Maps.has D (B.lit (Ek i))=false):B.bM D fs (Ek i) s=if fs.headD 0=1 then (14,D,fs.tail) else if fs.headD 0=2 then (14,D.put (B.lit (Ek i)) (B.Gw s),fs.tail) else (0,D.put (B.lit (Ek i)) (B.Gw s),fs.tail):=by unfold B.bM;rw[AE4,h];rfl
def Nj(C:Dn)(H:List (Dn×Ah))(j i:Nat):Prop:=∀x c,j<=x->x<i->(H[x]?).map (·.1)=some c->Nt C c=false
theorem oR{C:Dn}(h:Nj C H j i)(f:(H[i]?).map (·.1)=some c)(g:Nt C c=false):Nj C H j (i+1):=λx d e l a=>by
 rcases Yc x i with b|k
 ·exact h x d e b a
 have:x=i:=by omega
 subst this;rw[f] at a;cases a;exact g
def AD8(C:Dn)(H:List (Dn×Ah))(fs:List Int)(j:Nat)(a:Value):Prop :=
 Cv C=false\/(∃i,j<=i/\i<=H.length/\Nj C H j i/\∀t,¬Bi (Ae H i) C t)\/(∃i c,j<=i/\(H[i]?).map (·.1)=some c/\Nt C c=true/\a=.iface 90 (Zi 6))\/(Nj C H j H.length/\fs.headD 0=1)
def Jy(w0 w:World)(h bb n:Nat)(D:DataW Unit)(fs:List Int)(mv:Value)(C:Dn)(H:List (Dn×Ah))(j:Nat)(e:Ending)(g:World):Prop :=
 ∃n' b c a d,Ey w0 g h bb n' b c a d/\n'<=n+50/\B.A0 (B.Own bb mv) w g/\(∀k,a=.map (some k)->mv=.map (some k)\/w.heap.size<=k) /\
  ((∃t,e=.returned (.tuple #[.int .i64 (H.length+1:Nat),.nilIface])/\Bi (Ae H H.length) C t/\Cv C=true/\Nj C H j H.length/\b=D.put (B.lit (Ek (H.length+1))) (B.Gw (C6 C))) \/
   (∃f x,e=.returned (.tuple #[Zi 0,.iface f x])/\b=D/\AD8 C H fs j (.iface f x)))
structure TrI(w0 w:World)(NF bb n:Nat)(D:DataW Unit)(fs:List Int)(mv:Value)(C:Dn)(aa:Option Addr)(an ac:Nat)(H:List (Dn×Ah))(j kb:Nat)(W:World)(k:Nat)(a1:Option Addr)(n1 c1:Nat)(x2:Int)(a2:Option Addr)(n2 c2:Nat)(mv' fv':Value):Prop where
 base:Ey w0 W NF bb (n+(k-j)) D fs mv' fv'
 only:B.A0 (B.Own bb mv) w W
 link:∀k,mv'=.map (some k)->mv=.map (some k)\/w.heap.size<=k
 box:W.heap[w.heap.size]? = some (.cells #[Zi k,.slice a1 n1 c1,Zi x2,.slice a2 n2 c2] 42 (0,0))
 snap:Dl W (Ae H k) (K4 k a1 n1 c1 x2 a2 n2 c2)
 com:W.heap[w.heap.size+1]? = some (.cells #[.string C.1,.bool C.2.1,.slice aa an ac] 86 (0,0))
 kb:W.heap[kb]? = some (.cells #[.pointer (some ⟨bb,0,none⟩)] 26 (0,0))
 st:G3 w W
 quiet:Nj C H j k
theorem TrI.up{w0 w:Tw}{i bb n:Nat}{D:Td}{fs:List Int}{mv:Tv}{C:Dn}{e:To}{m d:Nat}{H:List (Dn×Ah)}{j q:Nat}{W Y:Tw}{k:Nat}{b:To}{n1 c1:Nat}{x:Int}{c:To}{n2 p:Nat}{v u:Tv}(h:TrI w0 w i bb n D fs mv C e m d H j q W k b n1 c1 x c n2 p v u)(a:Zb W Y):TrI w0 w i bb n D fs mv C e m d H j q Y k b n1 c1 x c n2 p v u :=
 ⟨h.base.up a,h.only.trans (B.A0.Ba (S:=λ_=>False) a) (λ_ _ h=>h.elim),h.link,(a.block _ (Ac h.box)).trans h.box,h.snap.up a,(a.block _ (Ac h.com)).trans h.com,(a.block _ (Ac h.kb)).trans h.kb,h.st.trans (G3.Ba a),h.quiet⟩
theorem TrI.put{w0 w:Tw}{m bb n n':Nat}{D r:Td}{fs z:List Int}{mv:Tv}{C:Dn}{o:To}{d q:Nat}{H:List (Dn×Ah)}{j p:Nat}{W Y:Tw}{k:Nat}{c:To}{n1 c1:Nat}{x:Int}{l:To}{n2 g:Nat}{v u f a:Tv}(h:TrI w0 w m bb n D fs mv C o d q H j p W k c n1 c1 x l n2 g v u)(_hB:Ey w0 Y m bb n' r z f a)(b:B.A0 (B.Own bb v) W Y)(t:∀k,f=.map (some k)->v=.map (some k)\/W.heap.size<=k):
 B.A0 (B.Own bb mv) w Y/\(∀k,f=.map (some k)->mv=.map (some k)\/w.heap.size<=k)/\Y.heap[w.heap.size]? = some (Zk #[Zi k,Zs c n1 c1,Zi x,Zs l n2 g] 42 (0,0))/\Dl Y (Ae H k) (K4 k c n1 c1 x l n2 g)/\Y.heap[w.heap.size+1]? = some (Zk #[Zt C.1,Zo C.2.1,Zs o d q] 86 (0,0))/\Y.heap[p]? = some (Zk #[Zp (some ⟨bb,0,none⟩)] 26 (0,0))/\G3 w Y:=by
 refine⟨h.only.trans b (λi y e=>?_),λk s=>?_,Ut h.base.bu b h.box (by decide),h.snap.only h.base.bu b,Ut h.base.bu b h.com (by decide),Ut h.base.bu b h.kb (by decide),h.st.trans (G3.put h.base.bu b)⟩
 ·rcases e with e|e
  ·exact .inl e
  rcases h.link i e with e|e
  ·exact .inr e
  omega
 rcases t k s with e|e
 ·exact h.link k e
 exact .inr (XA h.only.size e)
theorem Ey.store{w0 W Y:Tw}{k bb n:Nat}{fs:List Int}{mv v:Tv}{b:Nat}{cs:Array Tv}(h:Ey w0 W k bb n D fs mv v)(c:W.heap[b]? = some (Zk cs T (0,0)))(N:T≠30)(V:k<=b)(X:w0.heap.size<=b)(q:W.grownBy Y (some b)):Ey w0 Y k bb n D fs mv v:=by
 obtain⟨s,d,M⟩:=h.bu
 have w:b≠bb:=λe=>by subst e;have t:W.heap[b]? = _:=s;rw[t] at c;injection c with c;injection c with _ c;exact N c.symm
 refine⟨⟨s.keep (q.block bb s.lt (λe=>by injection e with e;exact w e.symm)),d.keep λm e=>q.block m (d.lt e) (λr=>?_),?_⟩,h.low.grown q h.low.size (λj hj=>by injection hj with hj;omega),h.hb,h.hm,h.er,h.nc,h.tb,h.hf⟩
 ·injection r with r
  subst r
  rcases d with⟨L,_⟩|⟨m',I,es,clock,u,_⟩
  ·rw[L] at e;cases e
  rw[I] at e;cases e;rw[u] at c;cases c
 obtain⟨a,p,e,O,P⟩:=M;refine⟨a,p,e,O,λG=>?_⟩;obtain⟨g,off,z,f⟩:=P G;refine⟨g,off,z,λi x U=>?_⟩
 have R:g<k:=by
  cases hfs:fs with
  | nil=>exact absurd hfs G
  | cons y l=>refine h.hf g off l.length p ?_;rw[e,z,hfs];rfl
 have o:=f i x U;have J:=q.block g (Fv o) (λe=>by injection e with e;omega);simp only[World.cell?,J] at o ⊢;exact o
theorem AIC{b q:Nat}{cs c:Array Tv}{U:TypeId}(h:W.heap[b]? = some (Zk cs T (0,0)))(a:W.heap[q]? = some (Zk c U (0,0)))(d:T≠U)(f:W.grownBy Y (some q)):Y.heap[b]? = some (Zk cs T (0,0)) :=
 (f.block b (Ac h) (λe=>by injection e with e;subst e;rw[h] at a;injection a with a;injection a with _ a;exact d a)).trans h
theorem AJa(w:Tw):(binOp .eql 32 (Zf 90 (Zi 9)) (Zf 90 (Zi 14))).run prog w=.ok (Zo false) w:=by kernel_rfl
theorem AFK(w:Tw):(binOp .eql 32 (Zf 90 (Zi 14)) (Zf 90 (Zi 14))).run prog w=.ok (Zo true) w:=by kernel_rfl
theorem AE7{y:Int}{G:To}{k:Nat}{z:Int}{I:To}{C:Dn}{l:To}{d:Nat}(h:Dl w s (K4 y G n k z I i j))(P:Good Bv Cm s)(u:0<=s.Eb)(v:s.Eb<=1000)(O:Dt w (Zs l m d) C.2.2)(p:C.2.2.length<=1000)(r:C.1.size<=maxLen)(R:Lw w):
 Zc 47 #[Zg #[Zi y,Zs G n k,Zi z,Zs I i j],Zg #[Zt C.1,Zo C.2.1,Zs l m d]] w λe M=>Zb w M/\((∃t a n1 c1 f b n2 c,e=Zr (Zu #[Zg #[Zi (s.Eb+1),Zs a n1 c1,Zi f,Zs b n2 c],Zn])/\Bi s C t)\/(∃g a n1 c1 f b n2 c D x,e=Zr (Zu #[Zg #[Zi g,Zs a n1 c1,Zi f,Zs b n2 c],Zf D x])/\∀t,¬Bi s C t)):=by
 obtain⟨V,U,A⟩:=C;refine(kJ s _ V U A l m d w h P u v O p r R).mono ?_;rintro e M⟨g,a,n1,c1,f,b,n2,c,W,rfl,L,⟨rfl,t,J,N⟩|⟨D,x,rfl,q⟩⟩
 ·obtain⟨_,_,_,_,_,_,_,o⟩:=Nv N
  unfold K4 at o;simp only[Value.agg.injEq,Array.mk.injEq,List.cons.injEq,Value.int.injEq,Value.slice.injEq] at o;have T:g=s.Eb+1:=by rw[o.1.2,aB J]
  subst T;exact⟨L,.inl ⟨t,a,n1,c1,f,b,n2,c,rfl,J⟩⟩
 exact⟨L,.inr ⟨g,a,n1,c1,f,b,n2,c,D,x,rfl,q⟩⟩
theorem AHx(w0:Tw)(NF bb n:Nat)(D:Td)(fs:List Int)(mv fv:Tv)(p:Tb)(r:Bool)(A:List A5)(aa:To)(an ac:Nat)(H:List (Dn×Ah))(j:Nat)(a1:To)(n1 c1:Nat)(x2:Int)(a2:To)(n2 c2:Nat)(w:Tw)(h:Ey w0 w NF bb n D fs mv fv)(ce:NF<=w.heap.size)(hn:n<=90000)(hl:U6 D H)(hp:La H)(O5:H.length<=40)(hj:j<=H.length)(hs:Dl w (Ae H j) (K4 j a1 n1 c1 x2 a2 n2 c2))(hA:Dt w (Zs aa an ac) A)(cd:A.length<=100)(bz:Cv (p,r,A)=true->0<(C6 (p,r,A)).size/\(C6 (p,r,A)).size<=1000000)(cr:p.size<=60)(ap:∀a∈A,Ch a=true->Fh a):
 Zc 42 #[Zp (some ⟨bb,0,none⟩),K4 j a1 n1 c1 x2 a2 n2 c2,Zg #[Zt p,Zo r,Zs aa an ac]] w (Jy w0 w NF bb n D fs mv (p,r,A) H j):=by
 have b3:p.size<=maxLen:=by unfold maxLen;omega
 obtain⟨t0,t1,t2,t3⟩:=C1 w (Zk #[Zi j,Zs a1 n1 c1,Zi x2,Zs a2 n2 c2] 42) (Zk #[Zt p,Zo r,Zs aa an ac] 86);have M:=Aa (lW p r A aa an ac _ (hA.below t3) (by omega) b3 ap (h.ground.nc.below t3) (h.ground.tb.below t3));unfold K4;cases hpo:Cv (p,r,A) with
 | false=>unfold Hz at M;rw[hpo] at M;have b9:Hid (∀W,Below w.heap.size w W->Jy w0 w NF bb n D fs mv (p,r,A) H j (Zr (Zu #[Zi 0,Zf 90 (Zi 1)])) W):=Aa (λW hb=>⟨n,D,fs,mv,fv,h.up hb,by omega,B.A0.Ba hb,λk hk=>.inl hk,.inr ⟨_,_,rfl,rfl,.inl hpo⟩⟩);have cb:=Aa t3;clear h hl hp hs hA ap hpo t0 t1 t2 t3;go_enter func42,ntmps42;go_wp2_with fail;refine M.out.mono ?_;rintro e w1⟨rfl,al⟩;clear M;go_wp2_with fail;go_ret2;exact b9.out _ (Below.Ap cb.out al)
 | true=>
   unfold Hz at M;rw[hpo] at M
   have ax:Hid (Lay (p,r,A)):=Aa ⟨hpo,λa ha=>by simp only[Cv,XH,List.all_eq_true] at hpo;exact ap a ha (hpo.2 a ha),cd,bz hpo⟩
   have cq:=bz hpo
   have bi:Hid (∀W,Below ((w.alloc (Zk #[Zi j,Zs a1 n1 c1,Zi x2,Zs a2 n2 c2] 42)).alloc (Zk #[Zt p,Zo r,Zs aa an ac] 86)).heap.size ((w.alloc (Zk #[Zi j,Zs a1 n1 c1,Zi x2,Zs a2 n2 c2] 42)).alloc (Zk #[Zt p,Zo r,Zs aa an ac] 86)) W->TrI w0 w NF bb n D fs mv (p,r,A) aa an ac H j W.heap.size (W.alloc (Zk #[Zp (some ⟨bb,0,none⟩)] 26)) j a1 n1 c1 x2 a2 n2 c2 mv fv):=Aa (λW hb=>by have ak:=Below.Ap (Below.Ap t3 hb) ((Y' _ W).alloc (Y9 _) (Zk #[Zp (some ⟨bb,0,none⟩)] 26));have U:=Below.Ap hb ((Y' _ W).alloc (Y9 _) (Zk #[Zp (some ⟨bb,0,none⟩)] 26));refine⟨by rw[Y0];exact h.up ak,B.A0.Ba ak,λk hk=>.inl hk,(U.block _ (Ac t1)).trans t1,hs.up ak,(U.block _ (Ac t2)).trans t2,heap_alloc_new _ _,G3.Ba ak,λx c h1 h2=>by omega⟩)
   have HL:=Aa hl;have HP:=Aa hp;have b7:=Aa h.low.size;have a7:=Aa hA;clear h hl hp hs hA ap t0 t1 t2 t3 hpo;have q1:=AFH;have q2:=AEV;have q3:=AJa;have q4:=AFK;go_enter func42,ntmps42;go_wp2_with fail;refine M.out.mono ?_;rintro e w1⟨rfl,al⟩;have bj:=Aa (bi.out w1 al);clear M bi al;go_wp2_with (go_at_call 25;refine(mM _ _).mono ?_;rintro e w2⟨rfl,rfl⟩);generalize w1.alloc (Zk #[Zp (some ⟨bb,0,none⟩)] 26)=wa at *;generalize w1.heap.size=kb at *;generalize bw:C6 (p,r,A)=pb at *;have az:=Aa bw;clear bw
   go_loopw [11,12,13,14] (λ_ _ _ _ wr=>∃k a1 n1 c1 x2 a2 n2 c2 b4 bm,k<=H.length/\j<=k/\Hid (TrI w0 w NF bb n D fs mv (p,r,A) aa an ac H j kb wr k a1 n1 c1 x2 a2 n2 c2 b4 bm)) (λ_ _ _ _ wr=>H.length-ABf w.heap.size wr)
   case atStart=>exact⟨j,a1,n1,c1,x2,a2,n2,c2,mv,fv,hj,Y9 _,bj⟩
   case round=>
    obtain⟨k,a1,n1,c1,x2,a2,n2,c2,b4,bm,bs,br,HI⟩:=hrel;clear bj;obtain⟨a5,cf,af⟩:=Jb HP.out (i:=k) bs;have ab:=Aa (AE7 (C:=(p,r,A)) HI.out.snap a5 (by rw[af];omega) (by rw[af];omega) (a7.out.stays HI.out.st) (by show A.length<=1000;omega) b3 HI.out.base.ground.nc);rw[af] at ab;simp only at ab;have HG:=Aa (And.intro a5 af);have cs:(k:Int)+1<=41:=by omega
    have ct:(0:Int)<=(k:Int):=by omega
    have cu:¬(200:Int)<=(k:Int):=by omega
    clear a5 cf af;obtain⟨X,Y,x3,x4,xf⟩:=B3 HI.out.box;have ci:=Aa (Pm X);obtain⟨y0,y1,y2,yf⟩:=Db HI.out.com;go_wp2_with fail;refine ab.out.mono ?_;rintro e w2⟨U,⟨t,b1,m1,d1,z2,b2,m2,d2,rfl,bo⟩|⟨z0,b1,m1,d1,z2,b2,m2,d2,ty,x,rfl,bv⟩⟩
    ·have bd:Hid (Below wr.heap.size wr (w2.alloc (Zk #[Zi ((k:Int)+1),Zs b1 m1 d1,Zi z2,Zs b2 m2 d2] 42))):=Aa (Below.Ap U (Zal))
     have ah:=Aa (HI.out.up bd.out);have ay:=Aa (heap_alloc_new w2 (Zk #[Zi ((k:Int)+1),Zs b1 m1 d1,Zi z2,Zs b2 m2 d2] 42));have HT:=Aa bo;have aw:=Aa (ABK (k+1) (w2.alloc (Zk #[Zi ((k:Int)+1),Zs b1 m1 d1,Zi z2,Zs b2 m2 d2] 42)) (by omega) ah.out.base.ground.tb);have e1:((k+1:Nat):Int)=(k:Int)+1:=by omega
     rw[e1] at aw;have X2:=Aa ah.out.box;clear X Y x3 x4 xf y0 y1 y2 yf U bo ab;obtain⟨X,Y,x3,x4,xf⟩:=B3 X2.out;go_wp2_with fail;refine aw.out.mono ?_;rintro e w3⟨rfl,a4⟩;have b:=Aa (ah.out.up a4);have L:=Aa ((a4.block _ (Ac ay.out)).trans ay.out);clear X Y x3 x4 xf a4 aw ah ay bd X2
     by_cases bt:k<H.length
     ·obtain⟨c,hc,aq,ag⟩:=AA8 HP.out bt
      obtain⟨hh,bp⟩:=(HL.out.2 k (by omega)).1 c hc;have f:=Aa (Ub b.out.base (by omega) (k+1) pb (by unfold maxLen;omega) (9,D,fs) (wF hh));rw[show B.L8 ((9:Int),D,fs).1=Value.iface 90 (Zi 9) from rfl] at f;go_wp2_with fail;refine f.out.mono ?_;rintro e R⟨rfl,P,ae,d,l,z⟩;obtain⟨o1,l1,bx,sn,cm,G,N⟩:=b.out.put d l z;have y:=Aa (Ut b.out.base.bu l L.out (by decide));have en:n+(k-j)+1=n+1+(k-j):=by omega
      have bk:Hid (TrI w0 w NF bb (n+1) D fs mv (p,r,A) aa an ac H j kb R k a1 n1 c1 x2 a2 n2 c2 P ae):=Aa ⟨en ▸ d,o1,l1,bx,sn,cm,G,N,b.out.quiet⟩;have u:=Aa (AAJ bb kb _ D P (k+1) c R (by omega) d.ground G hh bp ag);rw[e1] at u;obtain⟨O,T,cA⟩:=c;simp only at u;have HC:=Aa (And.intro hc (And.intro aq ag));clear d l z o1 l1 bx sn cm G N f hh bp aq ag hc b L;obtain⟨X,Y,x3,x4,xf⟩:=B3 y.out;go_wp2_with fail;refine u.out.mono ?_;rintro e w5⟨ba,bn,bc,rfl,aj,V⟩;generalize C6 (O,T,cA)=a3 at *;have ad:Hid (Below R.heap.size R (w5.alloc (Zk #[Zt a3,Zt O,Zo T,Zs ba bn bc] 88))):=Aa (Below.Ap V (Zal));have ai:=Aa (bk.out.up ad.out);have ar:=Aa (aj.below ((Y' _ _).alloc (Y9 _) (Zk #[Zt a3,Zt O,Zo T,Zs ba bn bc] 88)));have av:=Aa (heap_alloc_new w5 (Zk #[Zt a3,Zt O,Zo T,Zs ba bn bc] 88));have ck:cA.length<=100:=HC.out.2.2.Iz;have bh:=Aa (v8 p r aa an ac A O T ba bn bc cA _ (a7.out.stays ai.out.st) ar.out (by omega) (by omega));clear X Y x3 x4 xf aj V u y;obtain⟨y0,y1,y2,yf⟩:=Db ai.out.com;go_wp2_with fail;refine bh.out.mono ?_;rintro e w6⟨rfl,am⟩;have I:=Aa (ai.out.up am);have a8:=Aa (ar.out.below am);have bf:=Aa ((am.block _ (Ac av.out)).trans av.out);clear y0 y1 y2 yf am bh ai ar av ad bk;cases hf:Nt (p,r,A) (O,T,cA) with
      | true=>have J:Hid (Jy w0 w NF bb n D fs mv (p,r,A) H j (Zr (Zu #[Zi 0,Zf 90 (Zi 6)])) w6):=Aa ⟨_,_,_,_,_,I.out.base,by omega,I.out.only,I.out.link,.inr ⟨_,_,rfl,rfl,.inr (.inr (.inl ⟨k,_,br,HC.out.1,hf,rfl⟩))⟩⟩;clear hf;go_wp2_with fail;go_ret2;exact J.out
      | false=>
        have b0:O.size<=maxLen:=by have hh:=HC.out.2.2.ok;simp only[Cv,XH] at hh;have:=Hh hh.1;unfold maxLen;omega
        have au:=Aa (bN _ _ k a1 n1 c1 x2 a2 n2 c2 O T cA ba bn bc w6 I.out.snap HG.out.1 (by rw[HG.out.2];omega) (by rw[HG.out.2];omega) a8.out (by omega) b0 I.out.base.ground.nc HC.out.2.1);have HQ:=Aa (oR I.out.quiet HC.out.1 hf);have cc:Hid ((Ae H (k+1)).Eb=(k+1:Nat)):=Aa (Jb HP.out (i:=k+1) (by omega)).2.2;unfold K4 at au;obtain⟨X,Y,x3,x4,xf⟩:=B3 I.out.box;obtain⟨y0,y1,y2,y3,yf⟩:=B3 bf.out;clear hf b0;go_wp2_with fail;refine au.out.mono ?_;rintro e w7⟨u0,g1,p1,b5,u2,g2,p2,b6,rfl,a6,bq⟩;obtain⟨_,_,_,_,_,_,_,ev⟩:=Nv a6;unfold K4 at ev;simp only[Value.agg.injEq,Array.mk.injEq,List.cons.injEq,Value.int.injEq,Value.slice.injEq] at ev;have ch:u0=((k+1:Nat):Int):=by rw[ev.1.2,cc.out]
        clear ev;subst ch;have ca:=Aa a6;have q:=Aa (I.out.up bq);clear X Y x3 x4 xf y0 y1 y2 y3 yf a6 bq au I a8 bf;obtain⟨_,_,_,_,gf⟩:=B3 q.out.box;have cl:=gf 0;have cn:=gf 1;have co:=gf 2;have cp:=gf 3;clear gf e1;generalize cg:((k+1:Nat):Int)=ki at *;go_wp2_with fail;subst cg;obtain⟨hP,hG⟩:=sF _ _ _ _ _ _ (Zi ((k+1:Nat):Int)) (Zs g1 p1 b5) (Zi u2) (Zs g2 p2 b6) _ q.out.box;have cj:w0.heap.size<=w.heap.size:=b7.out;have en:n+1+(k-j)=n+(k+1-j):=by omega
        refine⟨⟨k+1,g1,p1,b5,u2,g2,p2,b6,P,ae,by omega,by omega,Aa ⟨en ▸ q.out.base.store q.out.box (by decide) ce cj hG,q.out.only.grown hG (λm hm bt=>by injection hm with hm;omega),q.out.link,hP,ca.out.put q.out.box hG,?_,?_,?_,HQ.out⟩⟩,?_⟩
        ·exact(hG.block _ (Ac q.out.com) (λe=>by injection e with e;omega)).trans q.out.com
        ·exact AIC q.out.kb q.out.box (by decide) hG
        ·exact⟨XA q.out.st.size hG.size,λg o x hc=>(hG.block g (Ya (Fv hc) q.out.st.size) (λe=>by injection e with e;have:=Fv hc;omega)).trans (q.out.st.same g o x hc)⟩
        have e1:=Pm (B3 hP).1;rw[ci.out,e1];omega
     have ao:k=H.length:=by omega
     have hh:=(HL.out.2 k (by omega)).2 (by omega);have v:=AEG (fs:=fs) (s:=pb) hh;have a9:Hid (Bi (Ae H H.length) (p,r,A) t):=Aa (ao ▸ HT.out);have a0:Hid (Nj (p,r,A) H j H.length):=Aa (ao ▸ b.out.quiet);have bg:Hid (((H.length+1:Nat):Int)=(k:Int)+1):=Aa (by omega);have bl:Hid (D.put (B.lit (Ek (k+1))) (B.Gw pb)=D.put (B.lit (Ek (H.length+1))) (B.Gw (C6 (p,r,A)))):=Aa (by rw[az.out,ao]);clear ao
     by_cases f1:fs.headD 0=1
     ·have f:=Aa (Ub b.out.base (by omega) (k+1) pb (by unfold maxLen;omega) (14,D,fs.tail) (by rw[v,if_pos f1]))
      rw[show B.L8 ((14:Int),D,fs.tail).1=Value.iface 90 (Zi 14) from rfl] at f;have F1:=Aa f1;clear f1 v;go_wp2_with fail;refine f.out.mono ?_;rintro e R⟨rfl,P,ae,d,l,z⟩;obtain⟨o1,l1,bx,sn,cm,G,N⟩:=b.out.put d l z;have y:=Aa (Ut b.out.base.bu l L.out (by decide));have u:=Aa (AIL bb kb _ D P (k+1) R (by omega) d.ground G hh);rw[e1] at u;have J:Hid (∀W,Below R.heap.size R W->Jy w0 w NF bb n D fs mv (p,r,A) H j (Zr (Zu #[Zi 0,Zf 90 (Zi 14)])) W):=Aa (λW hb=>⟨_,_,_,_,_,d.up hb,by omega,o1.trans (B.A0.Ba (S:=λ_=>False) hb) (λ_ _ h=>h.elim),l1,.inr ⟨_,_,rfl,rfl,.inr (.inr (.inr ⟨a0.out,F1.out⟩))⟩⟩);clear d l z o1 l1 bx sn cm G N f hh b L;obtain⟨X,Y,x3,x4,xf⟩:=B3 y.out;go_wp2_with fail;refine u.out.mono ?_;rintro e w5⟨rfl,V⟩;clear u;go_wp2_with fail;go_ret2;exact J.out _ (Below.Ap V (Zal))
     by_cases f2:fs.headD 0=2
     ·have f:=Aa (Ub b.out.base (by omega) (k+1) pb (by unfold maxLen;omega) (14,D.put (B.lit (Ek (k+1))) (B.Gw pb),fs.tail) (by rw[v,if_neg f1,if_pos f2]))
      rw[show B.L8 ((14:Int),D.put (B.lit (Ek (k+1))) (B.Gw pb),fs.tail).1=Value.iface 90 (.int .i64 14) from rfl] at f;clear f1 f2 v;go_wp2_with fail;refine f.out.mono ?_;rintro e R⟨rfl,P,ae,d,l,z⟩;obtain⟨o1,l1,bx,sn,cm,G,N⟩:=b.out.put d l z;have y:=Aa (Ut b.out.base.bu l L.out (by decide));have u:=Aa (AAJ bb kb _ _ P (k+1) (p,r,A) R (by omega) d.ground G (Maps.has_put_same HL.out.1 L4 _) (by rw[Maps.atKey_put_same HL.out.1 L4,az.out]) ax.out);rw[e1,az.out] at u;simp only at u;have J:Hid (∀W,Below R.heap.size R W->Jy w0 w NF bb n D fs mv (p,r,A) H j (Zr (Zu #[Zi ((k:Int)+1),Zn])) W):=Aa (λW hb=>⟨_,_,_,_,_,d.up hb,by omega,o1.trans (B.A0.Ba (S:=λ_=>False) hb) (λ_ _ h=>h.elim),l1,.inl ⟨t,by rw[bg.out],a9.out,ax.out.ok,a0.out,bl.out⟩⟩);clear d l z o1 l1 bx sn cm G N f hh b L;obtain⟨X,Y,x3,x4,xf⟩:=B3 y.out;go_wp2_with fail;refine u.out.mono ?_;rintro e w5⟨ba,bn,bc,rfl,aj,V⟩;have ad:Hid (Below R.heap.size R (w5.alloc (Zk #[Zt pb,Zt p,Zo r,Zs ba bn bc] 88))):=Aa (Below.Ap V (Zal));have b8:=Aa ((ad.out.block _ (Ac y.out)).trans y.out);clear u X Y x3 x4 xf aj V y;obtain⟨X,Y,x3,x4,xf⟩:=B3 b8.out;go_wp2_with fail;go_ret2;exact J.out _ ad.out
     have f:=Aa (Ub b.out.base (by omega) (k+1) pb (by unfold maxLen;omega) (0,D.put (B.lit (Ek (k+1))) (B.Gw pb),fs.tail) (by rw[v,if_neg f1,if_neg f2]));rw[show B.L8 ((0:Int),D.put (B.lit (Ek (k+1))) (B.Gw pb),fs.tail).1=Value.nilIface from rfl] at f;clear f1 f2 v;go_wp2_with fail;refine f.out.mono ?_;rintro e R⟨rfl,P,ae,d,l,z⟩;obtain⟨o1,l1,bx,sn,cm,G,N⟩:=b.out.put d l z;have y:=Aa (Ut b.out.base.bu l L.out (by decide));have J:Hid (Jy w0 w NF bb n D fs mv (p,r,A) H j (Zr (Zu #[Zi ((k:Int)+1),Zn])) R):=Aa ⟨_,_,_,_,_,d,by omega,o1,l1,.inl ⟨t,by rw[bg.out],a9.out,ax.out.ok,a0.out,bl.out⟩⟩;clear d l z o1 l1 bx sn cm G N f hh b L;obtain⟨X,Y,x3,x4,xf⟩:=B3 y.out;go_wp2_with fail;go_ret2;exact J.out
    have J:Hid (Jy w0 w NF bb n D fs mv (p,r,A) H j (Zr (Zu #[Zi 0,Zf ty x])) (w2.alloc (Zk #[Zi z0,Zs b1 m1 d1,Zi z2,Zs b2 m2 d2] 42))):=by have hI:=HI.out.up (Below.Ap U ((Y' _ _).alloc (Y9 _) (Zk #[Zi z0,Zs b1 m1 d1,Zi z2,Zs b2 m2 d2] 42)));exact Aa ⟨_,_,_,_,_,hI.base,by omega,hI.only,hI.link,.inr ⟨_,_,rfl,rfl,.inr (.inl ⟨k,br,bs,hI.quiet,bv⟩)⟩⟩
    clear X Y x3 x4 xf y0 y1 y2 yf U bv ab;go_wp2_with fail;go_ret2;exact J.out
namespace E
abbrev V:Type:=Int×Int×ByteArray
def str(l:List UInt8):ByteArray:=⟨l.toArray⟩
theorem Ux(s:Tb):str s.data.toList=s:=by cases s;simp[str]
theorem Eo(l:List UInt8):(str l).data.toList=l:=by simp[str]
theorem Ds(l:List UInt8):(str l).size=l.length:=by show (str l).data.size=_;simp[str]
def Pp(x:Int):Int:=(x+9223372036854775808) % 18446744073709551616-9223372036854775808
def J3(v:V):List UInt8:=if v.1=1 then uvarint (zigzag v.2.1) else uvarint v.2.2.size++v.2.2.data.toList
def Fx(l:List V):List UInt8:=l.flatMap J3
def same(v:V):List V->Nat
 | []=>0
 | x :: l=>if x=v then same v l+1 else 0
theorem Ue(v:V):∀l,same v l<=l.length
 | []=>Y9 _
 | x :: l=>by unfold same;split <;> simp;exact Ue v l
def El:Nat->List V->List UInt8
 | 0,_=>[]
 | _+1,[]=>[]
 | f+1,v :: l=>uvarint (same v l+1)++J3 v++El f (l.drop (same v l))
def place(v:V):List V->Nat
 | []=>0
 | x :: l=>if x=v then 0 else place v l+1
def Ff(s:List V×List UInt8)(v:V):List V×List UInt8 :=
 (if place v s.1<s.1.length then s.1 else s.1++[v],s.2++uvarint (place v s.1))
def Pd(l:List V):List UInt8 :=
 uvarint (l.foldl Ff ([],[])).1.length++Fx (l.foldl Ff ([],[])).1++(l.foldl Ff ([],[])).2
def G5(a:Int):List V->List UInt8
 | []=>[]
 | v :: l=>uvarint (zigzag (Pp (v.2.1-a)))++G5 v.2.1 l
def I0(a:Nat)(l:List V):List UInt8:=if a=1 then El l.length l else if a=2 then Pd l else if a=3 then G5 0 l else Fx l
def better(a b:List UInt8):List UInt8:=if b.length<a.length then b else a
def Hp(kind:Int)(l:List V):Nat->List UInt8
 | 0=>[]
 | 1=>0 :: I0 0 l
 | w+2=>if w+1=3/\kind≠1 then Hp kind l (w+1) else better (Hp kind l (w+1)) ((w+1).toUInt8 :: I0 (w+1) l)
def AEn(kind:Int)(l:List V):List UInt8:=Hp kind l 4
def Qi(v:V):Bool:=v.1==0
def Cb(l:List V)(m:Nat):Nat->List Nat
 | 0=>List.replicate m 0
 | k+1=>if (l[k]?.map Qi)=some true then (Cb l m k).set (k / 8) (((Cb l m k)[k / 8]?.getD 0)+2 ^ (k % 8)) else Cb l m k
def Q8(l:List V):List Nat:=Cb l ((l.length+7) / 8) l.length
def Gq(l:List V):List UInt8:=(Q8 l).map Nat.toUInt8
def known(l:List V):List V:=l.filter λv=>!Qi v
def Hv(kind:Int)(l:List V):List UInt8:=uvarint l.length++Gq l++AEn kind (known l)
abbrev St:Type:=List UInt8×Bool
def Nu(full:List UInt8):Nat->List UInt8->Nat->Nat×List UInt8×Bool
 | _,[],_=>(0,full,false)
 | i,c :: r,acc=>
   if i=10 then (0,full,false)
   else if c.toNat<128 then (acc+c.toNat % 128*2 ^ (7*i) % 18446744073709551616,r,decide (uvarint (acc+c.toNat % 128*2 ^ (7*i) % 18446744073709551616)=full.take (i+1)))
   else Nu full (i+1) r (acc+c.toNat % 128*2 ^ (7*i) % 18446744073709551616)
def rdNum(l:List UInt8):Nat×List UInt8×Bool:=Nu l 0 l 0
def Fg(s:St):Nat×St:=((rdNum s.1).1,((rdNum s.1).2.1,s.2 || !(rdNum s.1).2.2))
def Ra(most:Int)(s:St):Bool:=(Fg s).2.2 || decide (most<0) || decide (most<((Fg s).1:Int))
def Am(most:Int)(s:St):Nat×St:=if Ra most s then (0,((Fg s).2.1,true)) else Fg s
def C8(n:Nat)(s:St):List UInt8×St:=if s.1.length<n then ([],(s.1,true)) else (s.1.take n,(s.1.drop n,s.2))
def Dy(kind:Int)(s:St):V×St :=
 if kind=1 then ((1,unzigzag (Fg s).1,str []),(Fg s).2)
 else ((2,0,str (C8 (Am 40 s).1 (Am 40 s).2).1),(C8 (Am 40 s).1 (Am 40 s).2).2)
def Cn(kind:Int):Nat->St->List V×St
 | 0,s=>([],s)
 | n+1,s=>((Dy kind s).1 :: (Cn kind n (Dy kind s).2).1,(Cn kind n (Dy kind s).2).2)
def Qy(kind:Int)(n:Nat)(l:List V)(s:St):St:=(Dy kind (Am (n-l.length:Nat) s).2).2
def rM(kind:Int)(n:Nat)(l:List V)(s:St):List V:=l++List.replicate (Am (n-l.length:Nat) s).1 (Dy kind (Am (n-l.length:Nat) s).2).1
def G7(kind:Int)(n:Nat):Nat->List V->St->List V×St
 | 0,l,s=>(l,s)
 | f+1,l,s=>if l.length<n/\s.2=false then G7 kind n f (rM kind n l s) (Qy kind n l s) else (l,s)
def Ec(d:List V):Nat->List V->St->List V×St
 | 0,a,s=>(a,s)
 | n+1,a,s=>
   if (Am ((d.length:Int)-1) s).2.2 then ([],(Am ((d.length:Int)-1) s).2)
   else Ec d n (a++[d[(Am ((d.length:Int)-1) s).1]?.getD (0,0,str [])]) (Am ((d.length:Int)-1) s).2
def Nw(kind:Int)(n:Nat)(s:St):List V×St :=
 Ec (Cn kind (Am n s).1 (Am n s).2).1 n [] (Cn kind (Am n s).1 (Am n s).2).2
def E5:Nat->Int->St->List V×St
 | 0,_,s=>([],s)
 | n+1,a,s=>((1,Pp (a+unzigzag (Fg s).1),str []) :: (E5 n (Pp (a+unzigzag (Fg s).1)) (Fg s).2).1,(E5 n (Pp (a+unzigzag (Fg s).1)) (Fg s).2).2)
def Gs(kind:Int)(a:Nat)(n:Nat)(s:St):List V×St :=
 if a=0 then Cn kind n s else if a=1 then G7 kind n (s.1.length+2) [] s else if a=2 then Nw kind n s
 else if a=3 then E5 n 0 s else ([],(s.1,true))
def gF(b:List UInt8)(i:Nat):Nat:=(b[i / 8]?.getD 0).toNat / 2 ^ (i % 8) % 2
def B8(b:List UInt8):Nat->List Nat
 | 0=>[]
 | k+1=>if gF b k=0 then B8 b k++[k] else B8 b k
def F0(l:List V):List Nat->List V->List V
 | p :: ps,v :: vs=>F0 (l.set p v) ps vs
 | _,_=>l
def V6(s:List UInt8):Nat×St:=Am 60 (s,false)
def Bv(s:List UInt8):List UInt8×St:=C8 (((V6 s).1+7) / 8) (V6 s).2
def cB(s:List UInt8):List UInt8×St:=C8 1 (Bv s).2
def xX(s:List UInt8):List Nat:=B8 (Bv s).1 (V6 s).1
def nS(kind:Int)(s:List UInt8):List V×St:=Gs kind ((cB s).1[0]?.getD 0).toNat (xX s).length (cB s).2
def Lr(kind:Int)(s:List UInt8):List V×Bool :=
 if (cB s).2.2 then ([],true) else if (nS kind s).2.2 then ([],true)
 else (F0 (List.replicate (V6 s).1 (0,0,str [])) (xX s) (nS kind s).1,false)
variable{k:Nat}{W w:Tw}{T:TypeId}{v:Tv}{l:List V}{x:V}
theorem Ab{p:Prop}(h:p):Hid p:=h
theorem Bd{k:IntKind}{a b:Int}(h:a=b):Ending.returned (.int k a)=Zr (.int k b):=by rw[h]
theorem Af{a b:Bool}(h:a=b):Ending.returned (Zo a)=Zr (Zo b):=by rw[h]
theorem bX:(prog.info? 5).map (λi=>(i.zero,i.size,i.bytes))=some (some (.int .u8 0),1,1):=by kernel_rfl
def Wr(B:Nat)(w b:World):Prop:=Below B w b/\∀k,k<w.heap.size->(∀a fr,w.heap[k]? ≠some (.cells a 5 fr))->b.heap[k]? = w.heap[k]?
theorem Wr.refl(B:Nat)(w:Tw):Wr B w w:=⟨Y' _ _,λ_ _ _=>rfl⟩
theorem Wr.trans{B:Nat}{a b c:Tw}(h:Wr B a b)(k:Wr B b c):Wr B a c :=
 ⟨h.1.trans k.1,λi f g=>by have e:=h.2 i f g;exact(k.2 i (Ya f h.1.size) (λd fr=>by rw[e];exact g d fr)).trans e⟩
theorem Wr.Ba{B:Nat}(h:Zb w W)(a:B<=w.heap.size):Wr B w W:=⟨h.mono a,λk b _=>h.block k b⟩
theorem Wr.alloc{B:Nat}{a w:Tw}(h:Wr B a w)(b:B<=w.heap.size)(o:Obj):Wr B a (w.alloc o) :=
 h.trans (Wr.Ba (Zal) b)
theorem Wr.drew{B:Nat}{a w:Tw}(h:Wr B a w):Wr B a w.drew:=⟨h.1.drew,h.2⟩
theorem Wr.grown{B n:Nat}{a w W:Tw}{v:Tv}{xs:List Tv}(h:Wr B a w)(d:w.ownsRow B 5 1 v n xs)(c:w.grownBy W v.ownBlock)(j:B<=w.heap.size):Wr B a W :=
 h.trans ⟨(Y' _ _).grown c j (λk b=>(d.lt k b).1),λk b hn=>c.block k b (λe=>by
  rcases d.2 with⟨rfl,_⟩|⟨g,f,i,rfl,_,l,_⟩
  ·cases e
  cases e;exact hn _ _ l)⟩
theorem Dq(B n x:Nat)(O:x<18446744073709551616)(sv:Tv)(xs:List Tv)(w:Tw)(k:w.ownsRow B 5 1 sv n xs)(J:B<=w.heap.size)(v:n+10<=140737488355328):
 Zc 147 #[sv,.int .u64 x] w λe D=>∃v',e=Zr v'/\D.ownsRow B 5 1 v' (n+(Lib.uvarint x).length) (xs++Lib.byteCells (Lib.uvarint x))/\Wr B w D:=by
 obtain⟨z,t,m,o,p⟩:=info_parts bX;have hlen:=Lib.uvarint_length64 O;go_enter func147,ntmps147;go_wp2
 go_loopw [0,1] (λvb r wr=>∃(y:Nat)(pre:List UInt8),r=.int .u64 y/\y<=x/\Lib.uvarint x=pre++Lib.uvarint y/\wr.ownsRow B 5 1 vb (n+pre.length) (xs++Lib.byteCells pre)/\Wr B w wr)
  (λ_ r _=>(intOf r).toNat)
 case atStart=>exact⟨x,[],rfl,Y9 _,rfl,by simpa[Lib.byteCells] using k,Wr.refl _ _⟩
 case round=>
  obtain⟨y,pre,rfl,R,b,a,h⟩:=hrel
  have M:pre.length+(Lib.uvarint y).length<=10:=by have I:=congrArg List.length b;rw[Y8] at I;omega
  have P:=Lib.uvarint_pos y;have N:=h.1.size;have i:B<=wr.heap.size:=by omega
  by_cases h128:128<=y
  ·have L:bits .or .u8 ((y:Int) % 256) 128=((y % 128+128:Nat):Int):=by
    rw[Lib.u8_or128_any _ (by omega) (by omega)];omega
   go_wp2_with (at_builtin;refine wpList_append_own _ rfl _ _ 81 rfl B 5 z (.int .u8 0) 1 1 underlying81 t m o p rfl (by decide) _ _ _ rfl (a.alloc _) ⟨wr.heap.size,0,none⟩ 1 1 [Value.int .u8 ((y % 128+128:Nat):Int)] rfl rfl ?c1 ?c2 ?c3 ?c4 ?c5 ?_)
   case c1=>
    intro j u g
    match j,g with
    | 0,g=>simp at g;subst g;simp[Addr.add]
   case c2=>intro u l;simp at l;subst l;rfl
   case c3=>unfold maxLen;omega
   case c4=>omega
   case c5=>simp;omega
   intro v' s d c _;have f:Wr B w s:=(h.alloc i _).grown (a.alloc _) c (by simp;omega);go_wp2
   go_roundw
   case rel=>
    refine⟨y / 128,pre++[(y % 128+128).toUInt8],by go_num,by omega,by rw[b,Lib.uvarint_big h128];simp,?_,f⟩;have G:((y % 128+128:Nat):Int)=(y:Int) % 128+128:=by omega
    rw[Lib.byteCells_snoc pre (by omega),Y8,YC,<-XP,G];exact d
   case measure=>simp[intOf];omega
  have q:Lib.uvarint y=[y.toUInt8]:=Lib.uvarint_small (by omega);go_wp2_with (at_builtin;refine wpList_append_own _ rfl _ _ 81 rfl B 5 z (.int .u8 0) 1 1 underlying81 t m o p rfl (by decide) _ _ _ rfl (a.alloc _) ⟨wr.heap.size,0,none⟩ 1 1 [Value.int .u8 (y:Int)] rfl rfl ?c1 ?c2 ?c3 ?c4 ?c5 ?_)
  case c1=>
   intro j u g
   match j,g with
   | 0,g=>simp at g;subst g;simp[Addr.add]
  case c2=>intro u l;simp at l;subst l;rfl
  case c3=>unfold maxLen;omega
  case c4=>omega
  case c5=>simp;omega
  intro v' s d c _;have f:Wr B w s:=(h.alloc i _).grown (a.alloc _) c (by simp;omega);go_wp2;go_ret;refine⟨v',rfl,?_,f⟩;rw[b,q,Lib.byteCells_snoc pre (by omega),Y8,YC,<-XP];exact d
theorem oG(a b:Int):bits .xor .i64 a b=bits .xor .i64 b a:=by show IntKind.i64.wrap ((BitVec.ofInt 64 a ^^^ BitVec.ofInt 64 b).toNat:Int)=IntKind.i64.wrap ((BitVec.ofInt 64 b ^^^ BitVec.ofInt 64 a).toNat:Int);rw[BitVec.xor_comm]
theorem pB(a b:Int):bits .xor .u64 a b=bits .xor .u64 b a:=by show IntKind.u64.wrap ((BitVec.ofInt 64 a ^^^ BitVec.ofInt 64 b).toNat:Int)=IntKind.u64.wrap ((BitVec.ofInt 64 b ^^^ BitVec.ofInt 64 a).toNat:Int);rw[BitVec.xor_comm]
theorem oM(x:Nat)(c:x<9223372036854775808):bits .xor .i64 (x:Int) 0=x:=by
 show IntKind.i64.wrap ((BitVec.ofInt 64 (x:Int) ^^^ BitVec.ofInt 64 0).toNat:Int)=_
 have b:(BitVec.ofInt 64 (x:Int)).toNat=x:=by rw[BitVec.ofInt_natCast,BitVec.toNat_ofNat];exact YU (by omega)
 have a:(BitVec.ofInt 64 0).toNat=0:=by decide
 rw[BitVec.toNat_xor,a,b,Nat.xor_zero,IntKind.wrap_i64];omega
theorem mU(x:Nat)(a:x<18446744073709551616):bits .xor .u64 (x:Int) 0=x:=by have:=bits_xor_u64_nat x 0 (by simpa using a) (by decide);simpa using this
theorem Ms(B n:Nat)(x:Int)(c : -9223372036854775808<=x)(h:x<=9223372036854775807)(sv:Tv)(xs:List Tv)(w:Tw)(b:w.ownsRow B 5 1 sv n xs)(d:B<=w.heap.size)(a:n+10<=140737488355328):
 Zc 329 #[sv,Zi x] w λe j=>∃v',e=Zr v'/\j.ownsRow B 5 1 v' (n+(Lib.uvarint (Lib.zigzag x)).length) (xs++Lib.byteCells (Lib.uvarint (Lib.zigzag x)))/\Wr B w j:=by
 have i:=Ab (Dq B n (Lib.zigzag x) (Lib.zigzag_lt c h) sv xs w b d a)
 by_cases hneg:x<0
 ·have E:Hid (bits .xor .u64 (IntKind.u64.wrap (IntKind.u64.wrap x*2)) (IntKind.u64.wrap (x / 9223372036854775808))=((Lib.zigzag x:Nat):Int)):=by
   have e:x / 9223372036854775808 = -1:=by omega
   rw[e,pB,<-Lib.zigzag_neg c hneg];rfl
  go_enter func329,ntmps329;go_wp2_with fail;rw[E.out];refine i.out.mono ?_;rintro e l⟨v',rfl,g,f⟩;go_wp2;go_ret;exact⟨v',rfl,g,f⟩
 have E:Hid (bits .xor .u64 (x*2) (x / 9223372036854775808)=((Lib.zigzag x:Nat):Int)):=by
  have e:x / 9223372036854775808=0:=by omega
  have k:x*2=((Lib.zigzag x:Nat):Int):=(Lib.zigzag_nonneg (by omega)).symm;rw[e,k];exact mU _ (Lib.zigzag_lt c h)
 go_enter func329,ntmps329;go_wp2_with fail;rw[E.out];refine i.out.mono ?_;rintro e l⟨v',rfl,g,f⟩;go_wp2;go_ret;exact⟨v',rfl,g,f⟩
theorem gV(x:Nat)(c:x<18446744073709551616)(w:Tw):
 Zc 312 #[.int .u64 x] w λe b=>e=Zr (Zi (Lib.unzigzag x))/\b=w:=by
 have H:Hid (bits .xor .i64 ((x:Int) / 2) (wrap64 (-wrap64 (bits .and .u64 (x:Int) 1)))=Lib.unzigzag x):=by
  rw[Lib.u64_and1 _ (by omega) (by omega)];have a:((x:Int) / 2)=((x / 2:Nat):Int):=by omega
  rw[a];unfold Lib.unzigzag
  by_cases h:x % 2=0
  ·rw[if_pos h,show ((x:Int) % 2)=0 by omega]
   rw[show wrap64 (-wrap64 0)=0 by unfold wrap64;omega];exact oM (x / 2) (by omega)
  rw[if_neg h,show ((x:Int) % 2)=1 by omega,oG];rw[show wrap64 (-wrap64 1) = -1 by unfold wrap64;omega];exact Lib.i64_not (x / 2) (by omega)
 go_enter func312,ntmps312;go_wp2;go_ret;exact⟨Bd H.out,rfl⟩
theorem aH{P:Program}{g:Array Oper}{o:Oper}{a:Act}{K:Act->Tw->Prop}{Q:Exit->Act->Tw->Prop}{E:Prop}(m:o.guard=none)(p x:Operand)(t u:TypeId)(z:o.op=.call { callee:=.builtin .append,args:=#[p,x],argTypes:=#[t,u] })(base:Nat)(e:TypeId)(i:TypeInfo)(I:P.underlying t=some (.slice e))(J:P.underlying u=some .string)(y:P.info? e=some i)(N:i.zero=some (.int .u8 0))(d:i.size=1)(l:i.bytes=1)(v:Tv)(n:Nat)(xs:List Tv)(G:a.eval p=v)(f:w.ownsRow base e 1 v n xs)(s:Tb)(M:a.eval x=Zt s)(k:n+s.size<=maxLen)(b:n+s.size<=140737488355328)(c:base<=w.heap.size)(h:∀v' j,j.ownsRow base e 1 v' (n+s.size) (xs++Lib.strCells s)->w.grownBy j v.ownBlock->K (a.put o.dst v') j):
 if Region.wanted o (yielded g a.tmps)=true then Oper.wp P o a w K Q else E:=by
 have L:Region.wanted o (yielded g a.tmps)=true:=by simp[Region.wanted,m]
 rw[if_pos L];obtain⟨v',j,D,q,r,O⟩:=Lib.run_append_own_string (P:=P) w base t u o.type e i I J y N d l v n xs f s k b c;unfold Oper.wp execOp;simp only[z,resolve,invoke,builtin,Sem.run_bind,Sem.run_pure,Result.andThen_ok,List.map_toArray,List.map_cons,List.map_nil,G,M,D];exact h v' j q r
theorem Bg(a b:List UInt8):Lib.byteCells (a++b)=Lib.byteCells a++Lib.byteCells b:=Lib.byteCells_append a b
theorem fU(t:Tb):Lib.strCells t=Lib.byteCells t.data.toList:=rfl
theorem Hw{B:Nat}(h:Wr B w W){b:Nat}{cs:Array Tv}{fr:Nat×Nat}(a:w.heap[b]? = some (Zk cs T fr))(g:T≠5):W.heap[b]? = some (Zk cs T fr):=by
 rw[h.2 b (by
  rcases Yc b w.heap.size with c|c
  ·exact c
  rw[XB c] at a;cases a) (λd f e=>by rw[a] at e;injection e with e;injection e with _ e;exact g e)]
 exact a
theorem ADw{B n b:Nat}{xs:List Tv}{cs:Array Tv}{fr:Nat×Nat}(j:w.grownBy W v.ownBlock)(c:w.heap[b]? = some (Zk cs T fr))(k:w.ownsRow B 5 1 v n xs)(i:T≠5:=by decide):W.heap[b]? = some (Zk cs T fr):=by
 rw[j.block b (by
  rcases Yc b w.heap.size with d|d
  ·exact d
  ·rw[XB d] at c;cases c) (λe=>by
  rcases k.2 with⟨rfl,_⟩|⟨g,f,h,rfl,_,a,_⟩
  ·cases e
  cases e;rw[c] at a;injection a with a;injection a with _ a;exact i a)]
 exact c
theorem N8(B n:Nat)(k x:Int)(t:Tb)(N : -9223372036854775808<=x)(O:x<=9223372036854775807)(X:t.size<=1000000)(sv:Tv)(xs:List Tv)(w:Tw)(b:w.ownsRow B 5 1 sv n xs)(i:B<=w.heap.size)(M:n<=1000000):
 Zc 327 #[sv,Zg #[Zi k,Zi x,Zt t]] w λe a=>∃v',e=Zr v'/\a.ownsRow B 5 1 v' (n+(J3 (k,x,t)).length) (xs++Lib.byteCells (J3 (k,x,t)))/\Wr B w a:=by
 obtain⟨R,L,l,m,p⟩:=info_parts bX;have q:=Zy L l m p;clear L l m p;have J:=Ab b;clear b
 by_cases hk:k=1
 ·have u:Hid (J3 (k,x,t)=Lib.uvarint (Lib.zigzag x)):=by unfold J3;rw[if_pos hk];exact rfl
  have y:(k==1)=true:=by simpa using hk
  have s:Hid (∀o,Zc 329 #[sv,Zi x] (w.alloc o) λe a=>∃v',e=Zr v'/\a.ownsRow B 5 1 v' (n+(Lib.uvarint (Lib.zigzag x)).length) (xs++Lib.byteCells (Lib.uvarint (Lib.zigzag x)))/\Wr B w a):=λo=>(Ms B n x N O sv xs (w.alloc o) (J.out.alloc o) (by simp;omega) (by omega)).mono λe a⟨v',z,v,r⟩=>⟨v',z,v,((Wr.refl B w).alloc i o).trans r⟩
  clear hk;rw[u.out];go_enter func327,ntmps327;go_wp2_with (go_at_call 329;refine(s.out _).mono ?_;rintro e V⟨v',rfl,D,y⟩);go_ret;exact⟨v',rfl,D,y⟩
 have u:Hid (J3 (k,x,t)=Lib.uvarint t.size++t.data.toList):=by unfold J3;rw[if_neg hk];exact rfl
 have y:(k==1)=false:=by simpa using hk
 have s:Hid (∀W,W.heap[w.heap.size]? = some (Zk #[Zi k,Zi x,Zt t] 56)->Wr B w W->W.ownsRow B 5 1 sv n xs->Zc 147 #[sv,.int .u64 (IntKind.u64.wrap (t.size:Int))] W λe a=>∃v',e=Zr v'/\a.ownsRow B 5 1 v' (n+(Lib.uvarint t.size).length) (xs++Lib.byteCells (Lib.uvarint t.size))/\Wr B w a/\a.heap[w.heap.size]? = some (Zk #[Zi k,Zi x,Zt t] 56)):=λW hh hw D=>by rw[show IntKind.u64.wrap (t.size:Int)=((t.size:Nat):Int) by rw[IntKind.wrap_u64];omega];exact(Dq B n t.size (by omega) sv xs W D (by have:=hw.1.size;omega) (by omega)).mono λe a⟨v',z,v,r⟩=>⟨v',z,v,hw.trans r,Hw r hh (by decide)⟩
 have I:Hid (∀W:Tw,W.heap[w.heap.size]? = some (Zk #[Zi k,Zi x,Zt t] 56)->W.cell? ⟨w.heap.size,2,none⟩=some (Zt t)):=λW h=>by simp[World.cell?,h]
 have P:(Lib.uvarint t.size).length<=10:=Lib.uvarint_length64 (by omega);clear hk;rw[u.out];go_enter func327,ntmps327;go_wp2_with fail
 go_region_held3 (λa=>a.cell? ⟨w.heap.size,2,none⟩=some (Zt t))
  (first
    | (go_keep;done)
    | exact I.out _ f
    | exact I.out _ (g))
  (first
    | (go_at_call 147;refine(s.out _ ?_ ?_ ?_).mono ?_;exact heap_alloc_new _ _;exact((Wr.refl B w).alloc i _).drew;exact J.out.alloc _;rintro e V⟨T,rfl,c,d,f⟩)
    | (refine aH (by rfl) (.tmp 17) (.tmp 19) 81 9 (by rfl) B 5 R underlying81 underlying9 q.out.1 q.out.2.1 q.out.2.2.1 q.out.2.2.2 T _ _ (by rfl) c t (by rfl) (by unfold maxLen;omega) (by omega) (by have:=d.1.size;omega) ?_;intro U Y G j;have g:=ADw j f c))
 go_wp2;go_ret;rw[Y8,<-XP,Bg,<-XK];exact⟨U,rfl,G,d.grown c j (by have:=d.1.size;omega)⟩
def Sl(w:World)(v:Value)(l:List V):Prop :=
 ∃a c,v=.slice a l.length c/\l.length<=c/\(l≠[]->∃b off,a=some ⟨b,off,none⟩/\b<w.heap.size /\
  ∀j x,l[j]? = some x->w.cell? ⟨b,off+j*3,none⟩=some (Zi x.1)/\w.cell? ⟨b,off+j*3+1,none⟩=some (Zi x.2.1)/\w.cell? ⟨b,off+j*3+2,none⟩=some (.string x.2.2))
theorem Sl.up(h:Sl w v l)(f:Zb w W):Sl W v l:=by obtain⟨a,c,e,g,s⟩:=h;refine⟨a,c,e,g,λi=>?_⟩;obtain⟨b,off,k,d,q⟩:=s i;refine⟨b,off,k,Ya d f.size,λj x r=>?_⟩;obtain⟨m,n,o⟩:=q j x r;exact⟨(f.cell (p:=⟨b,off+j*3,none⟩) d).trans m,(f.cell (p:=⟨b,off+j*3+1,none⟩) d).trans n,(f.cell (p:=⟨b,off+j*3+2,none⟩) d).trans o⟩
def Vd(l:List V):Prop:=l.length<=60/\∀x∈l,-9223372036854775808<=x.2.1/\x.2.1<=9223372036854775807/\x.2.2.size<=40
theorem Vd.get(h:Vd l){j:Nat}(a:l[j]? = some x):-9223372036854775808<=x.2.1/\x.2.1<=9223372036854775807/\x.2.2.size<=40:=h.2 x (XJ a)
theorem rL(h : -9223372036854775808<=x.2.1/\x.2.1<=9223372036854775807/\x.2.2.size<=40):(J3 x).length<=50:=by
 unfold J3;split
 ·have:=Lib.uvarint_length64 (Lib.zigzag_lt h.1 h.2.1);omega
 have:=Lib.uvarint_length64 (x:=x.2.2.size) (by omega);have e:x.2.2.data.toList.length=x.2.2.size:=by rw[Array.length_toList];rfl
 rw[Y8,e];omega
theorem Br{α:Type}{l:List α}{x:α}(h:l[k]? = some x):l.take (k+1)=l.take k++[x]:=by
 have b:k<l.length:=by
  rcases Yc k l.length with a|a
  ·exact a
  rw[Yb a] at h;cases h
 rw[Yr b];rw[XF b] at h;injection h with h;rw[h]
theorem pP(h:l[k]? = some x):Fx (l.take (k+1))=Fx (l.take k)++J3 x:=by rw[Br h];simp[Fx]
theorem N0(h:∀x∈l,-9223372036854775808<=x.2.1/\x.2.1<=9223372036854775807/\x.2.2.size<=40):(Fx l).length<=l.length*50:=by
 induction l with
 | nil=>simp[Fx]
 | cons v l ih=>have b:=rL (h v (by simp));have c:=ih (λx a=>h x (by simp[a]));have e:Fx (v :: l)=J3 v++Fx l:=rfl;rw[e,Y8,XD];omega
theorem Vd.take{l:List V}(h:Vd l)(k:Nat):Vd (l.take k):=⟨by have:=h.1;simp;omega,λx a=>h.2 x (Yi a)⟩
theorem Hk{α:Type}{l:List α}(h:k<l.length):∃x,l[k]? = some x:=⟨_,XF h⟩
theorem Xm(v:Tv)(l:List V)(w:Tw)(U:Sl w v l)(j:Vd l):
 Zc 317 #[v] w λe f=>∃v',e=Zr v'/\f.ownsRow w.heap.size 5 1 v' (Fx l).length (Lib.byteCells (Fx l))/\Wr w.heap.size w f:=by
 obtain⟨a,c,rfl,_,L⟩:=U;have N:=Ab L;have h:=Ab j;have R:=j.1;clear L j;go_enter func317,ntmps317;go_wp2
 go_loopw [3,8] (λvb y wr=>∃k:Nat,k<=l.length/\y=Zi k/\Hid (wr.ownsRow w.heap.size 5 1 vb (Fx (l.take k)).length (Lib.byteCells (Fx (l.take k))))/\Hid (Wr w.heap.size w wr)) (λ_ y _=>l.length-(intOf y).toNat)
 case atStart=>exact⟨0,XI _,rfl,XC _ _ _ _,Wr.refl _ _⟩
 case round=>
  obtain⟨k,Y,rfl,m,d⟩:=hrel
  by_cases hlt:k<l.length
  ·obtain⟨b,off,rfl,i,J⟩:=N.out (by intro e;rw[e] at hlt;simp at hlt)
   obtain⟨⟨t,u,x⟩,s⟩:=Hk hlt;obtain⟨z,D,G⟩:=J k _ s;have c0:wr.cell? ⟨b,off+k*3,none⟩=some (Zi t):=(d.out.1.cell (p:=⟨b,off+k*3,none⟩) i).trans z;have c1:wr.cell? ⟨b,off+k*3+1,none⟩=some (Zi u):=(d.out.1.cell (p:=⟨b,off+k*3+1,none⟩) i).trans D;have W:wr.cell? ⟨b,off+k*3+2,none⟩=some (Zt x):=(d.out.1.cell (p:=⟨b,off+k*3+2,none⟩) i).trans G;have g:=h.out.get s;have q:=d.out.1.size;have O:=Ab (pP s)
   have M:Hid (∀o,Zc 327 #[_,Zg #[Zi t,Zi u,Zt x]] (wr.alloc o) λe f=>∃v',e=Zr v'/\f.ownsRow w.heap.size 5 1 v' _ _/\Wr w.heap.size w f):=λo=>(N8 w.heap.size _ t u x g.1 g.2.1 (by have:=g.2.2;simp at this;omega) _ _ (wr.alloc o) (m.out.alloc o) (by simp;omega) (by have X:=N0 (h.out.take k).2;have I:=(h.out.take k).1;omega)).mono λe f⟨v',T,I,P⟩=>⟨v',T,I,(d.out.alloc q o).trans P⟩
   clear z D G J g;go_wp2_with (go_at_call 327;refine(M.out _).mono ?_;rintro e w1⟨v1,rfl,n,r⟩)
   go_roundw
   case rel=>exact⟨k+1,by omega,by go_num,Ab (by rw[O.out,Y8,Bg];exact n),Ab r⟩
   case measure=>simp[intOf];omega
  have e:l.take k=l:=Yd (by omega);rw[e] at m;go_wp2;go_ret;exact⟨_,rfl,m.out,d.out⟩
theorem Ww{a:Int}:∀{l:List V}{k:Nat}{x:V},l[k]? = some x->G5 a (l.take (k+1))=G5 a (l.take k)++Lib.uvarint (Lib.zigzag (Pp (x.2.1-(if k=0 then a else (l[k-1]?.map (·.2.1)).getD 0))))
 | [],k,x,h=>by simp at h
 | v :: l,0,x,h=>by simp at h;subst h;simp[G5]
 | v :: l,k+1,x,h=>by
   have b:l[k]? = some x:=by simpa using h
   have c:=Ww (a:=v.2.1) b;simp only[XO,G5,c,XK];congr 3;cases k with
   | zero=>simp
   | succ k=>simp
theorem N1(x:Int):-9223372036854775808<=Pp x/\Pp x<=9223372036854775807:=by unfold Pp;omega
theorem bQ{a:Int}:(G5 a l).length<=l.length*10:=by
 induction l generalizing a with
 | nil=>simp[G5]
 | cons v l ih=>have b:=Lib.uvarint_length64 (Lib.zigzag_lt (N1 (v.2.1-a)).1 (N1 (v.2.1-a)).2);have c:=ih (a:=v.2.1);simp only[G5,Y8,XD];omega
theorem AAw(x:Int):wrap64 x=Pp x:=by unfold wrap64 Pp;rfl
def P7(l:List V)(k:Nat):Int:=if k=0 then 0 else (l[k-1]?.map (·.2.1)).getD 0
theorem rD(v:Tv)(l:List V)(w:Tw)(W:Sl w v l)(j:Vd l):
 Zc 316 #[v] w λe f=>∃v',e=Zr v'/\f.ownsRow w.heap.size 5 1 v' (G5 0 l).length (Lib.byteCells (G5 0 l))/\Wr w.heap.size w f:=by
 obtain⟨a,c,rfl,_,L⟩:=W;have P:=Ab L;have O:=Ab j;have R:=j.1;clear L j;go_enter func316,ntmps316;go_wp2
 go_loopw [3,4,9] (λvb X u wr=>∃k:Nat,k<=l.length/\u=Zi k/\X=Zi (P7 l k)/\Hid (wr.ownsRow w.heap.size 5 1 vb (G5 0 (l.take k)).length (Lib.byteCells (G5 0 (l.take k))))/\Hid (Wr w.heap.size w wr)) (λ_ _ u _=>l.length-(intOf u).toNat)
 case atStart=>exact⟨0,XI _,rfl,rfl,XC _ _ _ _,Wr.refl _ _⟩
 case round=>
  obtain⟨k,hk,rfl,rfl,m,h⟩:=hrel
  by_cases hlt:k<l.length
  ·obtain⟨b,off,rfl,i,J⟩:=P.out (by intro e;rw[e] at hlt;simp at hlt)
   obtain⟨⟨s,d,t⟩,r⟩:=Hk hlt;obtain⟨y,z,D⟩:=J k _ r;have c0:wr.cell? ⟨b,off+k*3,none⟩=some (Zi s):=(h.out.1.cell (p:=⟨b,off+k*3,none⟩) i).trans y;have c1:wr.cell? ⟨b,off+k*3+1,none⟩=some (Zi d):=(h.out.1.cell (p:=⟨b,off+k*3+1,none⟩) i).trans z;have Y:wr.cell? ⟨b,off+k*3+2,none⟩=some (Zt t):=(h.out.1.cell (p:=⟨b,off+k*3+2,none⟩) i).trans D;have o:=h.out.1.size;have x:Hid (G5 0 (l.take (k+1))=G5 0 (l.take k)++Lib.uvarint (Lib.zigzag (Pp (d-P7 l k)))):=Ww r
   have M:Hid (P7 l (k+1)=d):=by show P7 l (k+1)=d;unfold P7;rw[if_neg (by omega),Nat.add_sub_cancel,r];rfl
   generalize P7 l k=g at x
   have N:Hid (Zc 329 #[_,Zi (wrap64 (d-g))] (wr.alloc (Zk #[Zi s,Zi d,Zt t] 56)) λe f=>∃v',e=Zr v'/\f.ownsRow w.heap.size 5 1 v' _ _/\Wr w.heap.size w f/\f.cell? ⟨wr.heap.size,1,none⟩=some (Zi d)) :=
    (Ms w.heap.size _ (wrap64 (d-g)) (AAw (d-g) ▸ (N1 (d-g)).1) (AAw (d-g) ▸ (N1 (d-g)).2) _ _ (wr.alloc (.cells #[.int .i64 s,.int .i64 d,.string t] 56)) (m.out.alloc _) (by simp;omega) (by have h1:=bQ (a:=0) (l:=l.take k);have G:=(O.out.take k).1;omega)).mono λe f⟨v',U,G,I⟩=>⟨v',U,G,(h.out.alloc o _).trans I,by have:=Hw I (heap_alloc_new _ _) (by decide);simp[World.cell?,this]⟩
   clear y z D J;go_wp2_with (go_at_call 329;refine N.out.mono ?_;rintro e w1⟨v1,rfl,n,q,T⟩)
   go_roundw
   case rel=>exact⟨k+1,by omega,by go_num,by rw[M.out],Ab (by rw[x.out,Y8,Bg,<-AAw];exact n),Ab q⟩
   case measure=>simp[intOf];omega
  have e:l.take k=l:=Yd (by omega);rw[e] at m;go_wp2;go_ret;exact⟨_,rfl,m.out,h.out⟩
variable{k:Nat}{W w:Tw}{u v:Tv}{l:List V}{X Y:List Tv}{x:V}{s:List V×List UInt8}
abbrev ADW(x:V):Value:=.agg #[Zi x.1,Zi x.2.1,.string x.2.2]
def B7(p:V->Bool):List V->Nat
 | []=>0
 | x :: l=>if p x then 0 else B7 p l+1
def Kk(p:V->Bool)(l:List V):Int:=if B7 p l<l.length then (B7 p l:Int) else -1
theorem ABD{α:Type}{l:List α}{x:α}(h:l[k]? = some x):l.drop k=x :: l.drop (k+1):=by
 have b:k<l.length:=by
  rcases Yc k l.length with a|a
  ·exact a
  rw[Yb a] at h;cases h
 rw[Yq b];rw[XF b] at h;injection h with h;rw[h]
def Pr(g:Nat)(lb:Array Value)(p:V->Bool)(l:List V)(w:World):Prop :=
 ∀(W:World)(x:V),x∈l->Zb w W->Zc g (#[ADW x]++lb) W λe a=>e=.returned (.bool (p x))/\Zb w a
theorem Md(g:Nat)(lb:Array Tv)(p:V->Bool)(P:∀args w,(callFunc g args).run prog w=.ok (.enter g args) w)(v:Tv)(l:List V)(w:Tw)(N:Sl w v l)(M:l.length<=1000)(I:Pr g lb p l w):
 Zc 313 #[v,.func (.func g) #[] lb] w λe t=>e=Zr (Zi (Kk p l))/\Zb w t:=by
 obtain⟨a,c,rfl,_,G⟩:=N;have J:=Ab G;have L:=Ab I;clear G I;go_enter func313,ntmps313;go_wp2
 go_loopw [8] (λs wr=>∃k:Nat,k<=l.length/\s=Zi k/\Hid (B7 p l=k+B7 p (l.drop k))/\Hid (Zb w wr)) (λs _=>l.length-(intOf s).toNat)
 case atStart=>exact⟨0,XI _,rfl,Ab (by simp),Y' _ _⟩
 case round=>
  obtain⟨k,R,rfl,m,i⟩:=hrel
  by_cases hlt:k<l.length
  ·obtain⟨b,off,rfl,j,D⟩:=J.out (by intro e;rw[e] at hlt;simp at hlt)
   obtain⟨⟨o,q,r⟩,n⟩:=Hk hlt;obtain⟨x,y,z⟩:=D k _ n;have c0:wr.cell? ⟨b,off+k*3,none⟩=some (Zi o):=(i.out.cell (p:=⟨b,off+k*3,none⟩) j).trans x;have c1:wr.cell? ⟨b,off+k*3+1,none⟩=some (Zi q):=(i.out.cell (p:=⟨b,off+k*3+1,none⟩) j).trans y;have O:wr.cell? ⟨b,off+k*3+2,none⟩=some (Zt r):=(i.out.cell (p:=⟨b,off+k*3+2,none⟩) j).trans z;have d:=L.out wr (o,q,r) (XJ n) i.out;have u:=Ab (ABD n);clear x y z D;cases hq:p (o,q,r) with
   | true=>
     rw[hq] at d
     have h:Hid ((k:Int)=Kk p l):=by
      have:B7 p l=k:=by rw[m.out,u.out];simp[B7,hq]
      show (k:Int)=Kk p l;unfold Kk;rw[this,if_pos hlt]
     go_wp2_with (go_at_fn g;refine d.mono ?_;rintro e t⟨rfl,f⟩);go_ret;exact⟨Bd h.out,f⟩
   | false=>
     rw[hq] at d
     have h:Hid (B7 p l=k+1+B7 p (l.drop (k+1))):=by show B7 p l=k+1+B7 p (l.drop (k+1));rw[m.out,u.out];simp[B7,hq];omega
     go_wp2_with (go_at_fn g;refine d.mono ?_;rintro e t⟨rfl,f⟩)
     go_roundw
     case rel=>exact⟨k+1,by omega,by go_num,h,Ab f⟩
     case measure=>simp[intOf];omega
  have h:Hid (-1=Kk p l):=by
   have:B7 p l=l.length:=by rw[m.out,YK (by omega)];simp[B7];omega
   show -1=Kk p l;unfold Kk;rw[if_neg (by omega)]
  go_wp2;go_ret;exact⟨Bd h.out,i.out⟩
theorem l7(p:V->Bool):∀l,l.any p=decide (B7 p l<l.length)
 | []=>by simp[B7]
 | x :: l=>by
   by_cases h:p x=true
   ·simp[B7,h]
   simp[B7,h,l7 p l]
theorem AIB(p:V->Bool)(l:List V):decide (0<=Kk p l)=l.any p:=by
 rw[l7];unfold Kk
 by_cases h:B7 p l<l.length
 ·rw[if_pos h];simp[h]
 rw[if_neg h];simp[h]
theorem Wp(g:Nat)(lb:Array Tv)(p:V->Bool)(j:∀args w,(callFunc g args).run prog w=.ok (.enter g args) w)(v:Tv)(l:List V)(w:Tw)(d:Sl w v l)(a:l.length<=1000)(c:Pr g lb p l w):
 Zc 287 #[v,.func (.func g) #[] lb] w λe f=>e=Zr (Zo (l.any p))/\Zb w f:=by
 have h:=Ab (Md g lb p j v l w d a c);have i:=Ab (AIB p l);clear d c;go_enter func287,ntmps287;go_wp2_with (go_at_call 313;refine h.out.mono ?_;rintro e f⟨rfl,b⟩);go_ret;exact⟨Af i.out,b⟩
theorem AH0(x y:V)(w:Tw):(Op.equalIn 10000 56 (ADW x) (ADW y)).run prog w=.ok (decide (x=y)) w:=by
 have c:prog.underlying 56=some (.struct (prog.fieldsOf 56)):=by kernel_rfl
 rw[show (10000:Nat)=9999+1 from rfl,run_equalIn_agg w 9999 56 _ _ c (by kernel_rfl)];simp only[Program.fieldsOf,underlying56];go_simp;obtain⟨d,g,a⟩:=x;obtain⟨f,nb,b⟩:=y;have e:(a.toList=b.toList)↔a=b:=⟨λh=>by simp[ByteArray.toList_eq] at h;exact ByteArray.ext h,λh=>by rw[h]⟩
 by_cases h1:d=f <;> by_cases h2:g=nb <;> by_cases h3:a.toList=b.toList <;> simp[h1,h2,h3,Prod.ext_iff,e.symm]
theorem zL(a c b d:Int)(e f:Tb)(w:Tw):(Op.equalIn 10000 56 (Zg #[Zi a,Zi c,Zt e]) (Zg #[Zi b,Zi d,Zt f])).run prog w=.ok (decide (((a,c,e):V)=(b,d,f))) w:=AH0 (a,c,e) (b,d,f) w
theorem ADg(v:Tv)(l:List V)(d f:Int)(g:Tb)(w:Tw)(U:Sl w v l)(P:l.length<=1000):
 Zc 328 #[v,Zg #[Zi d,Zi f,Zt g]] w λe X=>e=Zr (Zi (Kk (λx=>decide (((d,f,g):V)=x)) l))/\Zb w X:=by
 obtain⟨a,c,rfl,_,M⟩:=U;have O:=Ab M;clear M;go_enter func328,ntmps328;go_wp2
 go_loopw [8] (λz wr=>∃k q:Nat,k<=l.length/\z=Zi k/\Hid (B7 (λx=>decide (((d,f,g):V)=x)) l=k+B7 (λx=>decide (((d,f,g):V)=x)) (l.drop k))/\Hid (wr=(w.alloc (Zk #[Zi d,Zi f,Zt g] 56)).drewN q)) (λz _=>l.length-(intOf z).toNat)
 case atStart=>exact⟨0,0,XI _,rfl,Ab (by simp),Ab rfl⟩
 case round=>
  obtain⟨k,q,hk,rfl,h,y⟩:=hrel
  have j:Hid (∀m,Zb w (wr.drewN m)):=λm=>by rw[y.out];exact⟨rfl,rfl,rfl,by show _<=(w.alloc _).heap.size;simp,λi R=>XE _ _ _ R⟩
  have t:Hid (∀m i,(wr.drewN m).cell? ⟨w.heap.size,i,none⟩=(#[Zi d,Zi f,Zt g]:Array Tv)[i]?):=λm i=>by rw[y.out,XR,XR];exact World.cell?_alloc_mark w _ 56 (0,0) i
  by_cases hlt:k<l.length
  ·obtain⟨b,off,rfl,u,L⟩:=O.out (by intro e;rw[e] at hlt;simp at hlt)
   obtain⟨⟨o,r,s⟩,N⟩:=Hk hlt;obtain⟨G,I,J⟩:=L k _ N;have c0:∀m,(wr.drewN m).cell? ⟨b,off+k*3,none⟩=some (Zi o):=λm=>((j.out m).cell (p:=⟨b,off+k*3,none⟩) u).trans G
   have c1:∀m,(wr.drewN m).cell? ⟨b,off+k*3+1,none⟩=some (Zi r):=λm=>((j.out m).cell (p:=⟨b,off+k*3+1,none⟩) u).trans I
   have Y:∀m,(wr.drewN m).cell? ⟨b,off+k*3+2,none⟩=some (Zt s):=λm=>((j.out m).cell (p:=⟨b,off+k*3+2,none⟩) u).trans J
   have d0:∀m,(wr.drewN m).cell? ⟨w.heap.size,0,none⟩=some (Zi d):=λm=>t.out m 0
   have d1:∀m,(wr.drewN m).cell? ⟨w.heap.size,1,none⟩=some (Zi f):=λm=>t.out m 1
   have d2:∀m,(wr.drewN m).cell? ⟨w.heap.size,2,none⟩=some (Zt g):=λm=>t.out m 2
   have D:=Ab (ABD N);clear G I J L
   by_cases hq:((d,f,g):V)=(o,r,s)
   ·have T:∀W,(Op.equalIn 10000 56 (Zg #[Zi d,Zi f,Zt g]) (Zg #[Zi o,Zi r,Zt s])).run prog W=.ok true W:=λW=>by rw[zL];simp[hq]
    have n:Hid ((k:Int)=Kk (λx=>decide (((d,f,g):V)=x)) l):=by
     have:B7 (λx=>decide (((d,f,g):V)=x)) l=k:=by rw[h.out,D.out];simp[B7,hq]
     show (k:Int)=Kk _ l;unfold Kk;rw[this,if_pos hlt]
    clear hq h;go_wp2_with fail
    go_quiet (fail)
    go_wp2;go_ret;exact⟨Bd n.out,j.out _⟩
   have T:∀W,(Op.equalIn 10000 56 (Zg #[Zi d,Zi f,Zt g]) (Zg #[Zi o,Zi r,Zt s])).run prog W=.ok false W:=λW=>by rw[zL];simp[hq]
   have n:Hid (B7 (λx=>decide (((d,f,g):V)=x)) l=k+1+B7 (λx=>decide (((d,f,g):V)=x)) (l.drop (k+1))):=by show B7 _ l=k+1+B7 _ (l.drop (k+1));rw[h.out,D.out];simp[B7,hq];omega
   clear hq h;go_wp2_with fail
   go_quiet (fail)
   go_wp2
   go_roundw
   case rel=>exact⟨k+1,q+nq,by omega,by go_num,n,Ab (by rw[y.out,World.drewN_drewN])⟩
   case measure=>simp[intOf];omega
  have n:Hid (-1=Kk (λx=>decide (((d,f,g):V)=x)) l):=by
   have:B7 (λx=>decide (((d,f,g):V)=x)) l=l.length:=by rw[h.out,YK (by omega)];simp[B7];omega
   show -1=Kk _ l;unfold Kk;rw[if_neg (by omega)]
  clear h;go_wp2;go_ret;exact⟨Bd n.out,j.out 0⟩
theorem jH(a c b d:Int)(f g:Tb)(bx:Nat)(w:Tw)(n:bx<w.heap.size)(k:w.cell? ⟨bx,0,none⟩=some (Zi b))(l:w.cell? ⟨bx,1,none⟩=some (Zi d))(m:w.cell? ⟨bx,2,none⟩=some (Zt g)):
 Zc 326 #[Zg #[Zi a,Zi c,Zt f],Zp (some ⟨bx,0,none⟩)] w λe j=>e=Zr (Zo (!decide (((a,c,f):V)=(b,d,g))))/\Zb w j:=by
 have h:¬w.heap.size=bx:=by omega
 have i:=zL a c b d f g;generalize decide (((a,c,f):V)=(b,d,g))=q at i;go_enter func326,ntmps326;go_wp2;go_ret;exact⟨rfl,Zal⟩
def lenOf:Value->Nat
 | .slice _ n _=>n
 | _=>0
theorem Ro:∀(f:Nat)(l:List V),l.length<=f->El f l=El l.length l
 | 0,[],_=>rfl
 | 0,_ :: _,h=>by simp at h
 | f+1,[],_=>rfl
 | f+1,v :: l,h=>by
   have c:=Ue v l;have a:(l.drop (same v l)).length<=f:=by simp at h ⊢;omega
   have b:(l.drop (same v l)).length<=l.length:=by simp
   simp only[XD,El];rw[Ro f _ a,Ro l.length _ b]
theorem mG(v:V):∀l:List V,B7 (λy=>!decide (y=v)) l=same v l
 | []=>rfl
 | x :: l=>by
   unfold B7 same
   by_cases h:x=v
   ·simp[h,mG v l]
   simp[h]
theorem cC(v:V)(l:List V):El (v :: l).length (v :: l)=Lib.uvarint (same v l+1)++J3 v++El (l.drop (same v l)).length (l.drop (same v l)):=by simp only[XD,El];rw[Ro _ _ (by simp)]
theorem AC7(v:V)(l:List V):same v (v :: l)=same v l+1:=by simp[same]
theorem Ad{B e z n:Nat}{xs:List Tv}(h:w.ownsRow B e z v n xs)(k:Zb w W):W.ownsRow B e z v n xs:=by
 refine⟨h.1,?_⟩
 rcases h.2 with a|⟨g,b,c,f,i,d,j⟩
 ·exact .inl a
 refine .inr ⟨g,b,c,f,i,?_,j⟩
 rw[k.block g (by
  rcases Yc g w.heap.size with a|a
  ·exact a
  rw[XB a] at d;cases d)]
 exact d
theorem Ai{B k e z n:Nat}{xs:List Tv}(h:w.ownsRow B e z v n xs)(j:k<=B):w.ownsRow k e z v n xs:=by
 refine⟨h.1,?_⟩
 rcases h.2 with i|⟨g,a,b,c,d,f⟩
 ·exact .inl i
 exact .inr ⟨g,a,b,c,XA j d,f⟩
theorem Vd.drop{l:List V}(h:Vd l)(k:Nat):Vd (l.drop k):=⟨by have:=h.1;simp;omega,λx a=>h.2 x (XN a)⟩
theorem Ac{b:Nat}{o:Obj}(h:w.heap[b]? = some o):b<w.heap.size:=by
 rcases Yc b w.heap.size with a|a
 ·exact a
 rw[XB a] at h;cases h
theorem Wf{b:Nat}{o:Obj}(h:w.heap[b]? = some o)(a:Zb w W):W.heap[b]? = some o:=(a.block b (Ac h)).trans h
theorem jM(l:List V)(h:∀x∈l,-9223372036854775808<=x.2.1/\x.2.1<=9223372036854775807/\x.2.2.size<=40)(a:l.length<=1000):∀f,(El f l).length<=f*60:=by
 intro f
 induction f generalizing l with
 | zero=>simp[El]
 | succ f ih=>
   cases l with
   | nil=>simp[El]
   | cons v l=>have c:=rL (h v (by simp));have g:=Ue v l;have d:=ih (l.drop (same v l)) (λx b=>h x (by simp[XN b])) (by simp at a ⊢;omega);have e:=Lib.uvarint_length64 (x:=same v l+1) (by simp at a;omega);simp only[El,Y8];omega
theorem vS{B bx n:Nat}{vb:Tv}{cs:Array Tv}{xs:List Tv}(x:Nat)(W:Tw)(k:x<9223372036854775808)(i:B<=w.heap.size)(h:W.ownsRow B 5 1 vb n xs)(j:n<=1000000)(c:Wr B w W)(f:W.heap[bx]? = some (Zk cs 56)):
 Zc 147 #[vb,.int .u64 (IntKind.u64.wrap (x:Int))] W λe a=>∃v',e=Zr v'/\a.ownsRow B 5 1 v' (n+(Lib.uvarint x).length) (xs++Lib.byteCells (Lib.uvarint x))/\Wr B w a/\a.heap[bx]? = some (Zk cs 56):=by
 rw[show IntKind.u64.wrap (x:Int)=((x:Nat):Int) by rw[IntKind.wrap_u64];omega];exact(Dq B n x (by omega) vb xs W h (by have:=c.1.size;omega) (by omega)).mono λe a⟨v',g,d,b⟩=>⟨v',g,d,c.trans b,Hw b f (by decide)⟩
theorem ADL{B bx n:Nat}{vb:Tv}{cs:Array Tv}{xs:List Tv}(k x:Int)(t:Tb)(W:Tw)(c : -9223372036854775808<=x/\x<=9223372036854775807/\t.size<=40)(l:B<=w.heap.size)(j:W.ownsRow B 5 1 vb n xs)(i:n<=1000000)(d:Wr B w W)(g:W.heap[bx]? = some (Zk cs 56)):
 Zc 327 #[vb,Zg #[Zi k,Zi x,Zt t]] W λe a=>∃v',e=Zr v'/\a.ownsRow B 5 1 v' (n+(J3 (k,x,t)).length) (xs++Lib.byteCells (J3 (k,x,t)))/\Wr B w a/\a.heap[bx]? = some (Zk cs 56) :=
 (N8 B n k x t c.1 c.2.1 (by omega) vb xs W j (by have:=d.1.size;omega) i).mono λe a⟨v',h,f,b⟩=>⟨v',h,f,d.trans b,Hw b g (by decide)⟩
theorem Ei{bx:Nat}{k n:Int}{t:Tb}(h:W.heap[bx]? = some (Zk #[Zi k,Zi n,Zt t] 56)):
 W.cell? ⟨bx,0,none⟩=some (Zi k)/\W.cell? ⟨bx,1,none⟩=some (Zi n)/\W.cell? ⟨bx,2,none⟩=some (Zt t):=by
 simp[World.cell?,h]
theorem AJ6{w wr:Tw}{L:List V}{b off c:Nat}(d f:Int)(g:Tb)(r:Sl w (Zs (some ⟨b,off,none⟩) L.length c) L)(n:Zb w wr)(s:L.length<=1000):
 Zc 313 #[Zs (some ⟨b,off,none⟩) L.length c,.func (.func 326) #[] #[Zp (some ⟨wr.heap.size,0,none⟩)]] (wr.alloc (Zk #[Zi d,Zi f,Zt g] 56)) λe j=>e=Zr (Zi (Kk (λy=>!decide (y=((d,f,g):V))) L))/\Below (wr.alloc (Zk #[Zi d,Zi f,Zt g] 56)).heap.size (wr.alloc (Zk #[Zi d,Zi f,Zt g] 56)) j/\j.heap[wr.heap.size]? = some (Zk #[Zi d,Zi f,Zt g] 56):=by
 have m:Zb w (wr.alloc (Zk #[Zi d,Zi f,Zt g] 56)):=n.alloc n.size _;have h:(wr.alloc (Zk #[Zi d,Zi f,Zt g] 56)).heap[wr.heap.size]? = some (Zk #[Zi d,Zi f,Zt g] 56):=heap_alloc_new _ _;refine(Md 326 #[Zp (some ⟨wr.heap.size,0,none⟩)] (λy=>!decide (y=((d,f,g):V))) (enters_of func326 (by kernel_rfl) rfl) _ L _ (r.up m) s ?_).mono λe j⟨l,i⟩=>⟨l,i,Wf h i⟩
 intro W x _ k;have a:=Wf h k;obtain⟨o,p,q⟩:=Ei a;exact(jH x.1 x.2.1 d f x.2.2 g wr.heap.size W (Ac a) o p q).mono λe j⟨l,i⟩=>⟨l,k.trans (i.mono k.size)⟩
theorem AAA(v:Tv)(l:List V)(w:Tw)(hs:Sl w v l)(hf:Vd l):
 Zc 314 #[v] w λe u=>∃v',e=Zr v'/\u.ownsRow w.heap.size 5 1 v' (El l.length l).length (Lib.byteCells (El l.length l))/\Wr w.heap.size w u:=by
 have HS:=Ab hs;have HF:=Ab hf;have HN:Hid ((El l.length l).length<=3600):=by have J:=jM l hf.2 (by have:=hf.1;omega) l.length;have P:=hf.1;show (El l.length l).length<=3600;omega
 obtain⟨a,c,rfl,_,_⟩:=hs;clear hf;have ax:∀args w,(callFunc 326 args).run prog w=.ok (.enter 326 args) w:=enters_of func326 (by kernel_rfl) rfl;go_enter func314,ntmps314;go_wp2
 go_loopw [0,3] (λv0 vb wr=>∃(L:List V)(pre:List UInt8),Hid (Sl w v0 L)/\Hid (Vd L)/\Hid (El l.length l=pre++El L.length L)/\Hid (wr.ownsRow w.heap.size 5 1 vb pre.length (Lib.byteCells pre))/\Hid (Wr w.heap.size w wr)) (λv0 _ _=>lenOf v0)
 case atStart=>exact⟨l,[],HS,HF,Ab rfl,XC _ _ _ _,Wr.refl _ _⟩
 case round=>
  obtain⟨L,pre,hS,hF,hR,ho,X⟩:=hrel;obtain⟨a,c,rfl,ao,hl⟩:=hS.out;cases L with
  | nil=>have HE:Hid (El l.length l=pre):=Ab (by rw[hR.out];simp[El]);have aq:([]:List V).length=0:=rfl;clear hl;rw[aq];go_wp2;go_ret;exact⟨_,rfl,by rw[HE.out];exact ho.out,X.out⟩
  | cons x R=>
    obtain⟨d,f,g⟩:=x;obtain⟨b,off,rfl,hb,hc⟩:=hl (by simp);obtain⟨g0,g1,g2⟩:=hc 0 _ rfl;simp only[Nat.zero_mul,Nat.add_zero] at g0 g1 g2;have c0:wr.cell? ⟨b,off,none⟩=some (Zi d):=(X.out.1.cell (p:=⟨b,off,none⟩) hb).trans g0;have c1:wr.cell? ⟨b,off+1,none⟩=some (Zi f):=(X.out.1.cell (p:=⟨b,off+1,none⟩) hb).trans g1;have c2:wr.cell? ⟨b,off+2,none⟩=some (Zt g):=(X.out.1.cell (p:=⟨b,off+2,none⟩) hb).trans g2;have av:=X.out.1.size;have HI:=Ab (AJ6 (w:=w) (wr:=wr) (L:=(d,f,g) :: R) (c:=c) (b:=b) (off:=off) d f g hS.out X.out.1 (by have:=hF.out.1;omega));have ar:=Ue (d,f,g) R;have ap:=hF.out.1;have an:=Ab (cC (d,f,g) R);have HV:=hF.out.get (j:=0) (x:=(d,f,g)) rfl;have z:Hid (pre.length<=3600):=by have J:=congrArg List.length hR.out;rw[Y8] at J;have P:=HN.out;show pre.length<=3600;omega
    have af:=Ab (λW ac n' ad J P h3 h4=>ADL (w:=w) (B:=w.heap.size) (bx:=wr.heap.size) (n:=n') (vb:=ac) (cs:=#[Zi d,Zi f,Zt g]) (xs:=ad) d f g W HV (Y9 _) J P h3 h4);have ae:=Ab (λW x ac n' ad h0 J P h3 h4=>vS (w:=w) (B:=w.heap.size) (bx:=wr.heap.size) (n:=n') (vb:=ac) (cs:=#[Zi d,Zi f,Zt g]) (xs:=ad) x W h0 (Y9 _) J P h3 h4);simp only[XD] at HI ao ap ⊢;generalize hn:R.length=n at *;obtain⟨r,am⟩:∃r,r=same (d,f,g) R+1:=⟨_,rfl⟩;have D:=Ab am;have ah:=Ab hn;have ay:1<=r:=by omega
    have az:r<=n+1:=by omega
    have aw:w.heap.size<=wr.heap.size+1:=by omega
    have al:Hid (Wr w.heap.size w (wr.alloc (Zk #[Zi d,Zi f,Zt g] 56))):=X.out.alloc av _;have ai:Hid ((wr.alloc (Zk #[Zi d,Zi f,Zt g] 56)).ownsRow w.heap.size 5 1 _ pre.length (Lib.byteCells pre)):=Ab (ho.out.alloc _);have I:Hid (∀(ab:Tv)(w4:Tw),w4.ownsRow w.heap.size 5 1 ab (pre.length+(Lib.uvarint r).length+(J3 (d,f,g)).length) (Lib.byteCells pre++Lib.byteCells (Lib.uvarint r)++Lib.byteCells (J3 (d,f,g)))->∃i,El l.length l=i++El (R.drop (same (d,f,g) R)).length (R.drop (same (d,f,g) R))/\w4.ownsRow w.heap.size 5 1 ab i.length (Lib.byteCells i)):=λab w4 h4=>⟨pre++Lib.uvarint r++J3 (d,f,g),by rw[hR.out,an.out,D.out];simp,by rw[Y8,Y8,Bg,Bg];exact h4⟩
    have ak:Hid ((Lib.uvarint r).length<=10):=Lib.uvarint_length64 (by omega)
    have aj:Hid (∀a' c',n+1-r<=c'->(r<n+1->a'=some ⟨b,off+r*3,none⟩)->Sl w (Zs a' (n+1-r) c') (R.drop (same (d,f,g) R))/\(R.drop (same (d,f,g) R)).length=n+1-r):=λa' c' J P=>by
     have hlen:(R.drop (same (d,f,g) R)).length=n+1-r:=by simp;have:=ah.out;have:=D.out;omega
     refine⟨⟨a',c',by rw[hlen],by rw[hlen];exact J,λau=>⟨b,off+r*3,P ?_,hb,λj x hj=>?_⟩⟩,hlen⟩
     ·rcases Yc r (n+1) with h'|h'
      ·exact h'
      exact absurd (Yz (by omega)) au
     have:=hc (r+j) x (by rw[D.out,Nat.add_right_comm,List.getElem?_cons_succ];rwa[List.getElem?_drop] at hj);rw[show off+r*3+j*3=off+(r+j)*3 by omega];exact this
    have ag:Hid (Vd (R.drop (same (d,f,g) R))):=by have:=hF.out.drop (same (d,f,g) R+1);rw[List.drop_succ_cons] at this;exact this
    clear hn am g0 g1 g2 hl HV ar
    have M:Kk (λy=>!decide (y=((d,f,g):V))) ((d,f,g) :: R)=if r<n+1 then ((r:Nat):Int) else -1:=by unfold Kk;rw[mG,AC7,<-D.out,XD,ah.out]
    rw[M] at HI;clear M
    by_cases hA:r<n+1
    ·rw[if_pos hA] at HI
     go_wp2_with (go_at_call 313;refine HI.out.mono ?_;rintro e w2⟨rfl,q,k⟩);have HA:=Ab (ae.out w2.drew r _ _ _ (by omega) (Ad ai.out q.drew) (by have:=z.out;omega) (al.out.trans (Wr.Ba q (by simp;omega))).drew k)
     go_region_held3 (λu=>u.cell? ⟨wr.heap.size,0,none⟩=some (Zi d)/\u.cell? ⟨wr.heap.size,1,none⟩=some (Zi f)/\u.cell? ⟨wr.heap.size,2,none⟩=some (Zt g))
      (first
        | (go_keep;done)
        | exact Ei k
        | exact Ei m
        | exact Ei s)
      (first
        | (go_at_call 147;refine HA.out.mono ?_;rintro e w3⟨v3,rfl,T,Y,m⟩)
        | (go_at_call 327;refine(af.out _ _ _ _ T ?_ Y m).mono ?_;(have:=z.out;have:=ak.out;omega);rintro e w4⟨v4,rfl,U,aa,s⟩))
     obtain⟨i,o,t⟩:=I.out _ _ U;have O:=Ab o;have N:=Ab t;clear o t;go_wp2;obtain⟨G,_⟩:=aj.out (some ⟨b,off+r*3,none⟩) (c-r) (by omega) (λ_=>rfl);exact⟨⟨_,i,Ab G,ag,O,N,Ab aa⟩,by show n+1-r<n+1;omega⟩
    rw[if_neg hA] at HI;have er:((r:Nat):Int)=(n:Int)+1:=by omega
    go_wp2_with (go_at_call 313;refine HI.out.mono ?_;rintro e w2⟨rfl,q,k⟩);have HA:=ae.out w2.drew r _ _ _ (by omega) (Ad ai.out q.drew) (by have:=z.out;omega) (al.out.trans (Wr.Ba q (by simp;omega))).drew k;rw[er] at HA;have HA:=Ab HA;clear er
    go_region_held3 (λu=>u.cell? ⟨wr.heap.size,0,none⟩=some (Zi d)/\u.cell? ⟨wr.heap.size,1,none⟩=some (Zi f)/\u.cell? ⟨wr.heap.size,2,none⟩=some (Zt g))
     (first
       | (go_keep;done)
       | exact Ei k
       | exact Ei m
       | exact Ei s)
     (first
       | (go_at_call 147;refine HA.out.mono ?_;rintro e w3⟨v3,rfl,T,Y,m⟩)
       | (go_at_call 327;refine(af.out _ _ _ _ T ?_ Y m).mono ?_;(have:=z.out;have:=ak.out;omega);rintro e w4⟨v4,rfl,U,aa,s⟩))
    obtain⟨i,o,t⟩:=I.out _ _ U;have O:=Ab o;have N:=Ab t;clear o t;go_wp2;obtain⟨G,_⟩:=aj.out (if c=n+1 then some ⟨b,off,none⟩ else some ⟨b,off+(n+1)*3,none⟩) (c-(n+1)) (by omega) (λh=>absurd h hA);rw[show n+1-r=0 by omega] at G;exact⟨⟨_,i,Ab G,ag,O,N,Ab aa⟩,by show 0<n+1;omega⟩
theorem Ip:(prog.info? 56).map (λi=>(i.zero,i.size,i.bytes))=some (some (Zg #[Zi 0,Zi 0,Zt ⟨#[]⟩]),3,32):=by kernel_rfl
theorem Ck{P:Program}{k:Array Oper}{rest:List Oper}{o:Oper}{a:Act}{Q:Exit->Act->Tw->Prop}(j:o.guard=none)(s x:Operand)(t:TypeId)(M:o.op=.call { callee:=.builtin .append,args:=#[s,x],argTypes:=#[t,t] })(base:Nat)(e:TypeId)(i:TypeInfo)(z:Tv)(size bytes:Nat)(O:P.underlying t=some (.slice e))(L:P.info? e=some i)(Y:i.zero=some z)(f:i.size=size)(G:i.bytes=bytes)(J:z.cells.size=size)(I:0<size)(v:Tv)(n:Nat)(xs:List Tv)(N:a.eval s=v)(b:w.ownsRow base e size v n xs)(u:Tv)(m Bu:Nat)(p:List Tv)(R:a.eval x=u)(q:w.ownsRow Bu e size u m p)(U:∀y∈p,y.oneCell'=true)(D:n+m<=maxLen)(c:(n+m)*bytes<=140737488355328)(d:base<=w.heap.size)(h:∀v' l,l.ownsRow base e size v' (n+m) (xs++p)->w.grownBy l v.ownBlock->wpList P k Q rest (a.put o.dst v') l):wpList P k Q (o :: rest) a w:=by
 rcases q.2 with⟨rfl,rfl⟩|⟨g,r,T,rfl,_,_⟩
 ·have X:p=[]:=Yz (by have:=q.1;omega)
  subst X;refine wpList_append_own_none j s x t M base e i size O L v n xs N b R (h v w (by simpa using b) ⟨rfl,rfl,rfl,Y9 _,λ_ _ _=>rfl⟩)
 exact wpList_append_own w j s x t M base e i z size bytes O L Y f G J I v n xs N b ⟨g,0,none⟩ m r p R q.1 (q.cells rfl) U D c d (λv' l V W _=>h v' l V W)
def aD(x:V):List Value:=[Zi x.1,Zi x.2.1,.string x.2.2]
def A1(l:List V):List Value:=l.flatMap aD
theorem K3:∀l,(A1 l).length=l.length*3
 | []=>rfl
 | x :: l=>by have:=K3 l;simp[A1,aD] at this ⊢;omega
theorem Jk(l m:List V):A1 (l++m)=A1 l++A1 m:=by simp[A1]
theorem Hr:∀{l:List V}{j:Nat}{x:V},l[j]? = some x->(A1 l)[j*3]? = some (Zi x.1)/\(A1 l)[j*3+1]? = some (Zi x.2.1)/\(A1 l)[j*3+2]? = some (Zt x.2.2)
 | [],_,_,h=>by simp at h
 | y :: l,0,x,h=>by simp at h;subst h;simp[A1,aD]
 | y :: l,j+1,x,h=>by
   have d:l[j]? = some x:=by simpa using h
   obtain⟨a,b,c⟩:=Hr d;have e:A1 (y :: l)=aD y++A1 l:=rfl;have f:(aD y).length=3:=rfl;rw[e,show (j+1)*3=(aD y).length+j*3 by omega,show (aD y).length+j*3+1=(aD y).length+(j*3+1) by omega,show (aD y).length+j*3+2=(aD y).length+(j*3+2) by omega];simp only[List.getElem?_append_right (Nat.le_add_right _ _),Nat.add_sub_cancel_left];exact⟨a,b,c⟩
theorem Hf(l:List V):∀y∈A1 l,y.oneCell'=true:=by
 intro y b;simp only[A1,List.mem_flatMap,aD] at b;obtain⟨x,_,a⟩:=b;simp at a
 rcases a with rfl|rfl|rfl <;> rfl
theorem byteCells_one(l:List UInt8):∀y∈Lib.byteCells l,y.oneCell'=true:=by intro y a;simp only[Lib.byteCells,List.mem_map] at a;obtain⟨x,_,rfl⟩:=a;rfl
theorem addr_add(g j:Nat):(⟨g,0,none⟩:Addr).add j=⟨g,j,none⟩:=by unfold Addr.add;split <;> simp_all
theorem Cy{B:Nat}(h:w.ownsRow B 56 3 v l.length (A1 l)):Sl w v l:=by
 rcases h.2 with⟨rfl,k⟩|⟨g,f,m,rfl,o,n,d,_,_⟩
 ·exact⟨none,0,by rw[k],by omega,λi=>absurd (Yz k) i⟩
 refine⟨_,f,rfl,d,λ_=>⟨g,0,rfl,Ac n,λj x hj=>?_⟩⟩;obtain⟨a,b,c⟩:=Hr hj;have e:=h.cells (g:=g) rfl;simp only[addr_add] at e;rw[Nat.zero_add];exact⟨e _ _ a,e _ _ b,e _ _ c⟩
theorem C2{n k i n1 j m d n2:Nat}(f:w.ownsRow n k i v n1 X)(o:w.ownsRow j m d u n2 Y)(p:k≠m)(q:w.grownBy W u.ownBlock):W.ownsRow n k i v n1 X:=by
 refine f.kept q ?_
 rcases f.2 with⟨rfl,_⟩|⟨g,h,l,rfl,_,r,_⟩
 ·exact .inl rfl
 rcases o.2 with⟨rfl,_⟩|⟨s,b,c,rfl,_,a,_⟩
 ·exact .inr (by simp[Value.ownBlock])
 refine .inr (λe=>?_);simp[Value.ownBlock] at e;subst e;rw[r] at a;injection a with a;injection a with _ a;exact p a
theorem eO{B n k i n1:Nat}(c:w.ownsRow n k i v n1 X)(j:Wr B w W)(f:k≠5):W.ownsRow n k i v n1 X:=by
 refine⟨c.1,?_⟩
 rcases c.2 with d|⟨g,a,b,rfl,e,h,rest⟩
 ·exact .inl d
 exact .inr ⟨g,a,b,rfl,e,Hw j h f,rest⟩
theorem N4{H n i j n1 m d n2:Nat}(b:w.ownsRow n i j v n1 X)(a:∀k,v.ownBlock=some k->k<H)(c:w.ownsRow H m d u n2 Y)(f:w.grownBy W u.ownBlock):W.ownsRow n i j v n1 X:=by
 refine b.kept f ?_;cases hv:v.ownBlock with
 | none=>exact .inl rfl
 | some k=>exact .inr λe=>by have g:=(c.lt k e.symm).1;have h:=a k hv;omega
theorem gD(x:V):∀l:List V,B7 (λy=>decide (x=y)) l=place x l
 | []=>rfl
 | y :: l=>by
   unfold B7 place
   by_cases h:x=y
   ·simp[h]
   have a:¬y=x:=λe=>h e.symm
   simp[h,a,gD x l]
theorem Sg(x:V):∀l:List V,place x l<=l.length
 | []=>Y9 _
 | y :: l=>by unfold place;split <;> simp;exact Sg x l
def S8(l:List V)(k:Nat):List V×List UInt8:=(l.take k).foldl Ff ([],[])
theorem rE(h:l[k]? = some x):S8 l (k+1)=Ff (S8 l k) x:=by unfold S8;rw[Br h,List.foldl_append];rfl
theorem bO(h:place x s.1<s.1.length):Ff s x=(s.1,s.2++Lib.uvarint (place x s.1)):=by unfold Ff;rw[if_pos h]
theorem aC(h:¬place x s.1<s.1.length):Ff s x=(s.1++[x],s.2++Lib.uvarint s.1.length):=by unfold Ff;rw[if_neg h,show place x s.1=s.1.length by have:=Sg x s.1;omega]
theorem Qg{l:List V}(h:Vd l):∀k,k<=l.length->(S8 l k).1.length<=k/\(∀x∈(S8 l k).1,x∈l)/\(S8 l k).2.length<=k*10
 | 0,_=>by simp[S8]
 | k+1,hk=>by
   obtain⟨x,c⟩:=Hk (l:=l) (k:=k) (by omega);obtain⟨e,b,f⟩:=Qg h k (by omega);have d:=h.1;have g:=Sg x (S8 l k).1;have i:=Lib.uvarint_length64 (x:=place x (S8 l k).1) (by omega);rw[rE c];unfold Ff;refine⟨?_,?_,?_⟩
   ·split <;> simp <;> omega
   ·intro y a
    split at a
    ·exact b y a
    simp at a
    rcases a with a|rfl
    ·exact b y a
    exact XJ c
   simp;omega
theorem ABX(h:Vd l)(b:k<=l.length):Vd (S8 l k).1:=by obtain⟨d,a,_⟩:=Qg h k b;exact⟨by have:=h.1;omega,λx c=>h.2 x (a x c)⟩
theorem Bj{B e z n:Nat}{xs:List Tv}{a:Tw}(c:Below B a w)(g:w.ownsRow B e z v n xs)(d:w.grownBy W v.ownBlock)(b:B<=w.heap.size):Below B a W :=
 c.grown d b (λk f=>(g.lt k f).1)
theorem q9(v:Tv)(l:List V)(w:Tw)(hs:Sl w v l)(hf:Vd l):
 Zc 315 #[v] w λe w'=>∃v',e=Zr v'/\w'.ownsRow w.heap.size 5 1 v' (Pd l).length (Lib.byteCells (Pd l))/\Zb w w':=by
 obtain⟨aw,M,T,r,t⟩:=info_parts Ip;have n:=Zy M T r t;obtain⟨i5,ae,ah,P,R⟩:=info_parts bX;have m:=Zy ae ah P R;clear M T r t ae ah P R;obtain⟨a,c,rfl,_,hl⟩:=hs;have HL:=Ab hl;have HF:=Ab hf;have ay:=hf.1;clear hl hf;go_enter func315,ntmps315;go_wp2
 go_loopw [3,4,11] (λvd vw vi wr=>∃k:Nat,k<=l.length/\vi=Zi k/\Hid (wr.ownsRow w.heap.size 56 3 vd (S8 l k).1.length (A1 (S8 l k).1))/\Hid (wr.ownsRow w.heap.size 5 1 vw (S8 l k).2.length (Lib.byteCells (S8 l k).2))/\Hid (Zb w wr)) (λ_ _ vi _=>l.length-(intOf vi).toNat)
 case atStart=>exact⟨0,XI _,rfl,XC _ _ _ _,XC _ _ _ _,Y' _ _⟩
 case round=>
  obtain⟨k,hk,rfl,L,hv,O⟩:=hrel
  by_cases hlt:k<l.length
  ·obtain⟨b,off,rfl,hb,hc⟩:=HL.out (by intro e;rw[e] at hlt;simp at hlt)
   obtain⟨⟨g,h,i⟩,hx⟩:=Hk hlt;obtain⟨g0,g1,g2⟩:=hc k _ hx;have c0:wr.cell? ⟨b,off+k*3,none⟩=some (Zi g):=(O.out.cell (p:=⟨b,off+k*3,none⟩) hb).trans g0;have c1:wr.cell? ⟨b,off+k*3+1,none⟩=some (Zi h):=(O.out.cell (p:=⟨b,off+k*3+1,none⟩) hb).trans g1;have c2:wr.cell? ⟨b,off+k*3+2,none⟩=some (Zt i):=(O.out.cell (p:=⟨b,off+k*3+2,none⟩) hb).trans g2;have q:=O.out.size;have HN:=Ab (rE hx);have HW:=Ab (Qg HF.out k hk);have HP:=Ab (Sg (g,h,i) (S8 l k).1);generalize S8 l k=st at *;obtain⟨d,z⟩:=st;obtain⟨ad,cd,rfl,_,_⟩:=Cy L.out;have HI:=Ab (ADg _ d g h i (wr.alloc (Zk #[Zi g,Zi h,Zt i] 56)) (Cy (L.out.alloc _)) (by have:=HW.out.1;simp at this;omega));have ai:Hid ((wr.alloc (Zk #[Zi g,Zi h,Zt i] 56)).heap[wr.heap.size]? = some (Zk #[Zi g,Zi h,Zt i] 56)):=heap_alloc_new _ _
   have N:Kk (λy=>decide (((g,h,i):V)=y)) d=if place (g,h,i) d<d.length then ((place (g,h,i) d:Nat):Int) else -1:=by unfold Kk;rw[gD]
   rw[N] at HI;clear N g0 g1 g2 hc;have an:d.length<=60:=by have:=HW.out.1;simp at this;omega
   have av:z.length<=600:=by have:=HW.out.2.2;simp at this;omega
   by_cases hA:place (g,h,i) d<d.length
   ·rw[if_pos hA] at HI
    have HE:=Ab (bO (s:=(d,z)) (x:=(g,h,i)) hA);generalize place (g,h,i) d=p at *;go_wp2_with fail;refine HI.out.mono ?_;rintro e I⟨rfl,f⟩;have o:=f.size;have U:w.heap.size<=I.heap.size:=by simp at o;omega
    go_wp2_with fail;refine(Dq w.heap.size _ p (by omega) _ _ I (Ad (hv.out.alloc _) f) U (by show z.length+10<=_;omega)).mono ?_;rintro e w3⟨v3,rfl,Y,G⟩;go_wp2;have e1:S8 l (k+1)=(d,z++Lib.uvarint p):=by rw[HN.out,HE.out]
    refine⟨⟨k+1,by omega,by go_num,?_,?_,Ab (((O.out.alloc q _).trans (f.mono (by simp;omega))).trans G.1)⟩,by simp[intOf];omega⟩
    ·rw[e1];exact eO (Ad (L.out.alloc _) f) G (by decide)
    rw[e1,Y8,Bg];exact Y
   rw[if_neg hA] at HI;have HE:=Ab (aC (s:=(d,z)) (x:=(g,h,i)) hA);go_wp2_with fail;refine HI.out.mono ?_;rintro e I⟨rfl,f⟩;have o:=f.size;have U:w.heap.size<=I.heap.size:=by simp at o;omega
   have al:=Wf ai.out f;obtain⟨q0,q1,q2⟩:=Ei al;go_wp2_with (at_builtin;refine wpList_append_own _ rfl _ _ 51 rfl w.heap.size 56 aw (.agg #[Zi 0,Zi 0,.string ⟨#[]⟩]) 3 32 underlying51 n.out.1 n.out.2.1 n.out.2.2.1 n.out.2.2.2 rfl (by decide) _ _ _ rfl ((Ad (L.out.alloc _) f).alloc _) ⟨I.heap.size,0,none⟩ 1 1 [Zi g,Zi h,.string i] rfl rfl ?c1 ?c2 ?c3 ?c4 ?c5 ?_)
   case c1=>exact λj u hj=>World.news_of_block (heap_alloc_new _ _) j u hj
   case c2=>exact Hf [(g,h,i)]
   case c3=>show d.length+1<=maxLen;unfold maxLen;omega
   case c4=>show (d.length+1)*32<=_;omega
   case c5=>simp;omega
   intro v3 w3 am W _;have ar:=C2 ((Ad (hv.out.alloc _) f).alloc (Zk #[Zi g,Zi h,Zt i] 56)) ((Ad (L.out.alloc _) f).alloc (Zk #[Zi g,Zi h,Zt i] 56)) (by decide) W;have af:=W.size;have ak:w.heap.size<=w3.heap.size:=by simp at af;omega
   have ac:Zb w w3:=Bj ((((O.out.alloc q _).trans (f.mono (by simp;omega)))).alloc U _) ((Ad (L.out.alloc _) f).alloc _) W (by simp;omega);go_wp2_with fail;refine(Dq w.heap.size _ d.length (by omega) _ _ w3 ar ak (by show z.length+10<=_;omega)).mono ?_;rintro e w4⟨v4,rfl,aa,ag⟩;go_wp2;have e1:S8 l (k+1)=(d++[(g,h,i)],z++Lib.uvarint d.length):=by rw[HN.out,HE.out]
   refine⟨⟨k+1,by omega,by go_num,?_,?_,Ab (ac.trans ag.1)⟩,by simp[intOf];omega⟩
   ·rw[e1,Jk,Y8];exact eO am ag (by decide)
   rw[e1,Y8,Bg];exact aa
  have ek:S8 l k=(l.foldl Ff ([],[])):=by unfold S8;rw[Yd (by omega)]
  have aj:Hid (Pd l=Lib.uvarint (S8 l k).1.length++Fx (S8 l k).1++(S8 l k).2):=by rw[ek];exact rfl
  have HW:=Ab (Qg HF.out k hk);have ab:=Ab (ABX HF.out hk);clear ek;generalize S8 l k=st at *;obtain⟨d,z⟩:=st;obtain⟨ad,cd,rfl,_,_⟩:=Cy L.out;have an:d.length<=60:=by have:=HW.out.1;simp at this;omega
  have av:z.length<=600:=by have:=HW.out.2.2;simp at this;omega
  have q:=O.out.size;have az:(Fx d).length<=3000:=by have:=N0 ab.out.2;simp at this;omega
  have a1:(Lib.uvarint d.length).length<=10:=Lib.uvarint_length64 (by omega);go_wp2_with fail;refine(Dq wr.heap.size 0 d.length (by omega) _ [] wr (XC _ _ _ _) (Y9 _) (by omega)).mono ?_;rintro e I⟨v2,rfl,ap,au⟩;have f:Zb wr I:=au.1;have o:=f.size;go_wp2_with fail;refine(Xm _ d I (Cy (Ad L.out f)) ab.out).mono ?_;rintro e w3⟨v3,rfl,Y,G⟩;have D:Zb I w3:=G.1;have af:=D.size;have HA:=Ab (Ad ap D);have HB:=Ab Y;have HC:=Ab (Ad (Ad hv.out f) D);go_wp2_with (at_builtin;refine Ck rfl _ _ 81 rfl wr.heap.size 5 i5 (.int .u8 0) 1 1 underlying81 m.out.1 m.out.2.1 m.out.2.2.1 m.out.2.2.2 rfl (by decide) _ _ _ rfl HA.out _ _ _ _ rfl HB.out (byteCells_one _) ?f3 ?f4 ?f5 ?_)
  case f3=>unfold maxLen;omega
  case f4=>omega
  case f5=>omega
  intro v4 w4 aa X;have a0:=X.size;have HD:=Ab aa;have HE:=Ab (N4 HC.out (λj hj=>(hv.out.lt j hj).2) HA.out X);have J:Zb wr w4:=Bj (f.trans (D.mono o)) HA.out X (by omega);have ax:=J.size;go_wp2_with (at_builtin;refine Ck rfl _ _ 81 rfl wr.heap.size 5 i5 (.int .u8 0) 1 1 underlying81 m.out.1 m.out.2.1 m.out.2.2.1 m.out.2.2.2 rfl (by decide) _ _ _ rfl HD.out _ _ _ _ rfl HE.out (byteCells_one _) ?f6 ?f7 ?f8 ?_)
  case f6=>show _+z.length<=_;unfold maxLen;omega
  case f7=>show (_+z.length)*1<=_;omega
  case f8=>omega
  intro v5 w5 aq ao;go_wp2;go_ret;refine⟨v5,rfl,?_,O.out.trans ((Bj J HD.out ao (by omega)).mono q)⟩;rw[aj.out];rw[Y8,Y8,Bg,Bg,XK];exact Ai aq q
