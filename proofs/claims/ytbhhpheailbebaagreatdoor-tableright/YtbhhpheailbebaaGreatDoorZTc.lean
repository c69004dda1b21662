import Derived.Test.YtbhhpheailbebaaGreatDoorSL4
set_option maxHeartbeats 40000000
set_option maxRecDepth 100000
open List renaming length_map->Y8,getElem?_eq_getElem->Y',mem_of_getElem?->XB,length_cons->XE,length_take->XF,drop_succ_cons->XH,take_succ_cons->XI,map_append->XJ,getElem?_map->XK,not_mem_nil->XM,drop_zero->XN,take_zero->XO,getD_eq_getElem?_getD->XP,length_append->XQ,getElem?_drop->XR,mem_cons->XS,cons_append->XT,mem_of_mem_drop->XX,append_toArray->XZ,flatMap_cons->X2,size_toArray->X4,push_toArray->X6,length_drop->X',length_nil->Wb,nil_append->WA
open Nat renaming zero_le->Y9,le_refl->XA,le_trans->XG,add_zero->XU,zero_add->WB,le_succ->WC
open Go.RowKit.Below renaming refl->XC
open Go.World renaming putObj_heap_other->XD,ownsRow_nil->XL,news_of_block->XY
open Array renaming replicate_succ->XV,replicate_zero->XW
namespace Go.Proofs.YtbhhpheailbebaaGreatDoor
open Tryz ChangeShapes WideShapes ChangeAt RowKit Joins Deep Shelf Lib
open Go.Sort (grow)
namespace S
theorem V8(c:To)(a:Nat)(w:Tw):
 Zc 10 #[Zs c 0 a] w λe b=>∃v T,e=Zr v/\Gy b T v/\A2 T<=14/\Zb w b:=by
 go_enter func10,ntmps10;go_wp2
 go_loopw [3,4] (λo i wr=>o=Zs none 0 0/\i=Zi 0/\wr=w) (λ_ _ _=>0)
 case atStart=>exact⟨rfl,rfl,rfl⟩
 case round=>obtain⟨rfl,rfl,rfl⟩:=hrel;go_wp2;go_ret;exact⟨_,.nil,rfl,rfl,by simp[A2],XC _ _⟩
theorem AHt:prog.cellsOf 75=5:=by kernel_rfl
theorem Db:prog.cellsOf 3=1:=by kernel_rfl
theorem zS:prog.cellsOf 2=1:=by kernel_rfl
theorem Vw:prog.cellsOf 9=1:=by kernel_rfl
theorem gQ:prog.cellsOf 56=3:=by kernel_rfl
theorem ABw{H:Type}{enc:TypeId×Tv->H}{W:Tw}{base:Nat}{s:Nat->Bool}{held:Bool}{n:Nat}{cs:List Tv}{x:DataW H×List MemPlace}(h:DataW.trod enc prog W base s held n 75 cs=some x):
 ∃(c k m:Int)(l t:Tb),cs=[Zi c,Zt l,Zi k,Zi m,Zt t]/\t.size<=maxLen:=by
 obtain⟨u,v,w,n1,_,q,j,o,p⟩:=trod_struct3 underlying75 h;rw[AHt] at q
 match cs,q with
 | [v0,v1,v2,v3,v4],_=>simp only[Db,Vw,gQ,XN,XH,XI,XO] at j o p;obtain⟨c,e0,_,_⟩:=DataW.trod_int underlying3 j;obtain⟨l,a,_,_⟩:=DataW.trod_string underlying9 o;obtain⟨y,z,D,n2,_,_,f,g,i⟩:=trod_struct3 underlying56 p;simp only[Db,Vw,zS,XN,XH,XI,XO] at f g i;obtain⟨k,b,_,_⟩:=DataW.trod_int underlying3 f;obtain⟨m,d,_,_⟩:=DataW.trod_int underlying2 g;obtain⟨t,e,_,r⟩:=DataW.trod_string underlying9 i;simp at e0 a b d e;subst e0 a b d e;exact⟨c,k,m,l,t,rfl,r⟩
structure Pt where
 c:Int
 k:Int
 m:Int
 l:ByteArray
 t:ByteArray
end S
namespace F
variable{w:Tw}{v:Tv}{H:Type}
theorem kM:prog.cellsOf 38=8:=by kernel_rfl
theorem pR:prog.cellsOf 70=4:=by kernel_rfl
theorem ACj:prog.cellsOf 75=5:=by kernel_rfl
theorem AH4:prog.cellsOf 34=1:=by kernel_rfl
theorem AID:prog.cellsOf 35=1:=by kernel_rfl
theorem AH3:prog.cellsOf 23=1:=by kernel_rfl
theorem AHJ:prog.cellsOf 36=1:=by kernel_rfl
structure DdS where
 x:J4
 ca:Option Addr
 cc:Nat
 ra:Option Addr
 rc:Nat
 pa:Option Addr
 pn:Nat
 pc:Nat
 sa:Option Addr
 sc:Nat
def AGa(q:DdS):List Value:=[Zi q.x.Qk,.slice q.ca q.x.cols.length q.cc,.slice q.ra q.x.rows.length q.rc,.slice q.pa q.pn q.pc,.slice q.sa q.x.A3.length q.sc,Zi q.x.change,.string q.x.name,.string q.x.tw]
structure Nf(w:World)(q:DdS):Prop where
 cols:F7 7 Cc w (.slice q.ca q.x.cols.length q.cc) q.x.cols
 ACl:∀c∈q.x.cols,c.2.1.size<=maxLen/\c.2.2.2.2.2.2.size<=maxLen
 uB:∀c∈q.x.cols,Vp c
 rows:iJ w (.slice q.ra q.x.rows.length q.rc) q.x.rows
 ACg:∀r∈q.x.rows,∀v∈r,Ks v/\v.2.2.size<=maxLen
 A3:F7 4 Wu w (.slice q.sa q.x.A3.length q.sc) q.x.A3
 wX:∀s∈q.x.A3,Ks s.2/\s.2.2.2.size<=maxLen
 cnd:∀W,Zb w W->Zc 10 #[.slice q.pa q.pn q.pc] W λe w'=>∃v T,e=.returned v/\S.Gy w' T v/\q.x.tree T/\Zb W w'
 nm:q.x.name.size<=maxLen
 tw:q.x.tw.size<=maxLen
structure U8(q:DdS):Prop where
 cols:ABP q.x.cols
 rows:RowsFit q.x.rows
 parts:q.pn<=20
 A3:q.x.A3.length<=10
 wX:∀s∈q.x.A3,s.2.2.2.size<=100
theorem ADe{l:List Aj}(h:F7 7 Cc w v l):bH w v l:=by
 obtain⟨a,c,e,k,n⟩:=h
 by_cases hn:l=[]
 ·subst hn;exact .inl ⟨⟨_,_,e⟩,rfl⟩
 obtain⟨b,off,f,g,d⟩:=n hn;subst f;refine .inr ⟨b,off,c,e,k,g,λj m i v o=>?_⟩;exact d j l[j]! (by rw[List.getElem!_eq_getElem?_getD,Y' m];rfl) i v o
theorem Nf.at{q:DdS}(h:Nf w q)(f:U8 q):K8 w q.x q.ca q.cc q.ra q.rc q.pa q.pn q.pc q.sa q.sc :=
 ⟨ADe h.cols,h.ACl,h.rows,λr a v b=>(h.ACg r a v b).2,h.A3,by have:=f.A3;omega,λs hs=>(h.wX s hs).2,h.cnd,h.tw,⟨h.uB,f.cols.1,λr a v b=>(h.ACg r a v b).1,by have:=f.rows.1;omega,λs hs=>(h.wX s hs).1⟩⟩
theorem oC{enc:TypeId×Tv->H}{P:Program}{base:Nat}{spare:Nat->Bool}{held:Bool}{t:TypeId}{b c d e f g i j:Field}{fuel:Nat}{cs:List Tv}{x:DataW H×List MemPlace}(m:P.underlying t=some (.struct #[b,c,d,e,f,g,i,j]))(h:DataW.trod enc P w base spare held fuel t cs=some x):
 ∃(n:Nat),cs.length=P.cellsOf t/\(∃y,DataW.trod enc P w base spare held n b.type ((cs.drop b.offset).take (P.cellsOf b.type))=some y)/\(∃y,DataW.trod enc P w base spare held n c.type ((cs.drop c.offset).take (P.cellsOf c.type))=some y)/\(∃y,DataW.trod enc P w base spare held n d.type ((cs.drop d.offset).take (P.cellsOf d.type))=some y)/\(∃y,DataW.trod enc P w base spare held n e.type ((cs.drop e.offset).take (P.cellsOf e.type))=some y)/\(∃y,DataW.trod enc P w base spare held n f.type ((cs.drop f.offset).take (P.cellsOf f.type))=some y)/\(∃y,DataW.trod enc P w base spare held n g.type ((cs.drop g.offset).take (P.cellsOf g.type))=some y)/\(∃y,DataW.trod enc P w base spare held n i.type ((cs.drop i.offset).take (P.cellsOf i.type))=some y)/\(∃y,DataW.trod enc P w base spare held n j.type ((cs.drop j.offset).take (P.cellsOf j.type))=some y):=by
 obtain⟨xs,n,_,_,l,k,a⟩:=DataW.trod_struct m h
 match xs,k with
 | [y0,y1,y2,y3,y4,y5,y6,y7],_=>exact⟨n,l,⟨y0,a 0 b rfl⟩,⟨y1,a 1 c rfl⟩,⟨y2,a 2 d rfl⟩,⟨y3,a 3 e rfl⟩,⟨y4,a 4 f rfl⟩,⟨y5,a 5 g rfl⟩,⟨y6,a 6 i rfl⟩,⟨y7,a 7 j rfl⟩⟩
section
variable {H : Type} {enc : TypeId × Value → H} {W : World} {sp : Nat → Bool} {held : Bool} {n : Nat} {cs : List Value} {x : DataW H × List MemPlace}
theorem AFs(h:DataW.trod enc prog W 0 sp held n 70 cs=some x):∃s:Vi,cs=Wu s/\Ks s.2/\s.2.2.2.size<=maxLen:=by
 obtain⟨k,l,n1,_,e,b,d⟩:=trod_struct2 underlying70 h;rw[pR] at e
 match cs,e with
 | [v0,v1,v2,v3],_=>simp only[Vw,gQ,XN,XH,XI,XO] at b d;obtain⟨c,e0,_,_⟩:=DataW.trod_string underlying9 b;obtain⟨v,a,j,i⟩:=qU d;simp at e0 a;obtain⟨a,f,g⟩:=a;subst e0 a f g;exact⟨(c,v),rfl,j,i⟩
theorem zP(h:DataW.trod enc prog W 0 sp held n 35 cs=some x):∃v,cs=[v]/\∃l:List (List V),iJ W v l/\∀r∈l,∀x∈r,Ks x/\x.2.2.size<=maxLen:=by
 obtain⟨v',e,l,z,p⟩:=M0 (α:=Tv×List V) (k:=1) (en:=λq=>[q.1]) (P:=λq=>E.Sl W q.1 q.2/\∀x∈q.2,Ks x/\x.2.2.size<=maxLen) (by decide) (λ_=>rfl) underlying35 AHc (λh=>by obtain⟨u,e,r,f,d⟩:=M0 (k:=3) (en:=AIQ) (P:=λx:V=>Ks x/\x.2.2.size<=maxLen) (by decide) (λ_=>rfl) underlying51 gQ (λh=>qU h) h;exact⟨(u,r),e,mW f,d⟩) h
 refine⟨v',e,?_⟩;obtain⟨a,c,t,y,g⟩:=z;refine⟨l.map (·.2),⟨l.map (·.1),⟨a,c,by rw[Y8];exact t,by rw[Y8];exact y,λD=>?_⟩,by simp,λj x r m f=>?_⟩,λr f=>?_⟩
 ·obtain⟨b,off,s,w,o⟩:=g (by intro h0;exact D (by rw[h0];rfl))
  refine⟨b,off,s,w,λj x m i u G=>?_⟩;rw[XK] at m;obtain⟨q,d,rfl⟩:=Option.map_eq_some_iff.1 m;exact o j q d i u G
 ·rw[XK] at m f
  obtain⟨q,d,rfl⟩:=Option.map_eq_some_iff.1 m;rw[d] at f;simp at f;subst f;exact(p q (XB d)).1
 obtain⟨q,d,rfl⟩:=List.mem_map.1 f;exact(p q d).2
def AHF(q:S.Pt):List Value:=[Zi q.c,.string q.l,Zi q.k,Zi q.m,.string q.t]
def AEm(W:World)(v:Value):Prop:=∀a,Zb W a->Zc 10 #[v] a λe b=>∃u T,e=.returned u/\S.Gy b T u/\Zb a b
theorem AAi{l:List S.Pt}(h:F7 5 AHF W v l)(I:∀q∈l,q.t.size<=maxLen)(G:∀a n c,v=Zs a n c->c<=maxLen):AEm W v:=by
 intro s y;obtain⟨a,c,rfl,z,D⟩:=h
 by_cases hn:l=[]
 ·subst hn
  refine(S.V8 a c s).mono ?_;rintro e L⟨u,T,rfl,w,_,x⟩;exact⟨u,T,rfl,w,x⟩
 obtain⟨b,off,rfl,r,g⟩:=D hn;have M:∀j,j<l.length->∃q,l[j]? = some q:=λj d=>⟨_,Y' d⟩
 have f:∀(j:Nat)(d:j<l.length)(i:Nat)u,(AHF l[j])[i]? = some u->s.cell? ⟨b,off+j*5+i,none⟩=some u:=λj d i u J=>(y.cell (p:=⟨b,off+j*5+i,none⟩) r).trans (g j _ (Y' d) i u J)
 have o:∀(j:Nat)(d:j<l.length),l.getD j ⟨0,0,0,⟨#[]⟩,⟨#[]⟩⟩=l[j]:=λj d=>by rw[XP,Y' d];rfl
 refine(S.ADb b off l.length c (λj=>(l.getD j ⟨0,0,0,⟨#[]⟩,⟨#[]⟩⟩).c) (λj=>(l.getD j ⟨0,0,0,⟨#[]⟩,⟨#[]⟩⟩).k) (λj=>(l.getD j ⟨0,0,0,⟨#[]⟩,⟨#[]⟩⟩).m) (λj=>(l.getD j ⟨0,0,0,⟨#[]⟩,⟨#[]⟩⟩).l) (λj=>(l.getD j ⟨0,0,0,⟨#[]⟩,⟨#[]⟩⟩).t) s z (G _ _ _ rfl) (λj=>?_) (Ya r y.size) (λj d=>?_) (λj d=>?_) (λj d=>?_) (λj d=>?_) (λj d=>?_)).mono ?_
 ·rcases Yc j l.length with d|d
  ·simp only[o j d];exact I _ (Yh d)
  rw[XP,Yb d];decide
 ·rw[o j d];exact f j d 0 _ rfl
 ·rw[o j d];exact f j d 1 _ rfl
 ·rw[o j d];exact f j d 2 _ rfl
 ·rw[o j d];exact f j d 3 _ rfl
 ·rw[o j d];exact f j d 4 _ rfl
 rintro e L⟨u,T,rfl,w,_,x⟩;exact⟨u,T,rfl,w,x⟩
theorem AAh(h:DataW.trod enc prog W 0 sp held n 75 cs=some x):∃q:S.Pt,cs=AHF q/\q.t.size<=maxLen:=by obtain⟨c,k,m,l,t,e,a⟩:=S.ABw h;exact⟨⟨c,k,m,l,t⟩,e,a⟩
theorem ACw{T E:TypeId}(g:prog.underlying T=some (.slice E))(h:DataW.trod enc prog W 0 sp held n T cs=some x)(e:cs=[v]):∀a l c,v=.slice a l c->c<=maxLen:=by
 intro a l c f;subst f
 rcases open_slice g h with⟨b,_⟩|⟨k,len,d,m,n,D,j,b,o,p,i,_⟩
 ·rw[e] at b
  simp at b;rw[b.2.2];exact Y9 _
 rw[e] at b;simp at b;rw[b.2.2];exact i
theorem qH(h:DataW.trod enc prog W 0 sp held n 23 cs=some x):∃a l c,cs=[.slice a l c]/\l<=c/\AEm W (.slice a l c):=by
 haveI:Inhabited S.Pt:=⟨⟨0,0,0,⟨#[]⟩,⟨#[]⟩⟩⟩
 obtain⟨v,e,l,f,i⟩:=M0 (k:=5) (en:=AHF) (P:=λq:S.Pt=>q.t.size<=maxLen) (by decide) (λ_=>rfl) underlying23 ACj (λh=>AAh h) h;have g:=ACw underlying23 h e;have b:=f;obtain⟨a,c,rfl,d,_⟩:=b;exact⟨a,l.length,c,e,d,AAi f i g⟩
theorem ADH(h:DataW.trod enc prog W 0 sp held n 38 cs=some x):∃q:DdS,cs=AGa q/\Nf W q/\q.x.tree=λ_=>True:=by
 obtain⟨n1,M,⟨y0,z⟩,⟨y1,g⟩,⟨y2,i⟩,⟨y3,D⟩,⟨y4,G⟩,⟨y5,I⟩,⟨y6,J⟩,⟨y7,L⟩⟩:=oC underlying38 h;rw[kM] at M
 match cs,M with
 | [v0,v1,v2,v3,v4,v5,v6,v7],_=>simp only[Db,Vw,AH4,AID,AH3,AHJ,XN,XH,XI,XO] at z g i D G I J L;obtain⟨wh,e0,_,_⟩:=DataW.trod_int underlying3 z;obtain⟨cv,p,cols,a,b⟩:=M0 (k:=7) (en:=Cc) (P:=λc:Aj=>(c.2.1.size<=maxLen/\c.2.2.2.2.2.2.size<=maxLen)/\Vp c) (by decide) (λ_=>rfl) underlying34 AGR (λh=>Go.Proofs.YtbhhpheailbebaaGreatDoor.AEc h) g;obtain⟨rv,r,rows,d,l⟩:=zP i;obtain⟨pa,X,V,t,_,U⟩:=qH D;obtain⟨sv,v,A3,f,m⟩:=M0 (k:=4) (en:=Wu) (P:=λs:Vi=>Ks s.2/\s.2.2.2.size<=maxLen) (by decide) (λ_=>rfl) underlying36 pR (λh=>AFs h) G;obtain⟨R,w,_,_⟩:=DataW.trod_int underlying3 I;obtain⟨nm,y,_,j⟩:=DataW.trod_string underlying9 J;obtain⟨tw,e7,_,o⟩:=DataW.trod_string underlying9 L;simp at e0 p r t v w y e7;subst e0 p r t v w y e7;obtain⟨N,O,rfl,_⟩:=a.slice;obtain⟨Y,rc,rfl,_⟩:=d.slice;obtain⟨sa,sc,rfl,_⟩:=f.slice;refine⟨⟨⟨wh,cols,rows,A3,R,nm,tw,λ_=>True⟩,N,O,Y,rc,pa,X,V,sa,sc⟩,rfl,⟨a,λc hc=>(b c hc).1,λc hc=>(b c hc).2,d,l,f,m,λW' hb=>?_,j,o⟩,rfl⟩;refine(U W' hb).mono ?_;rintro e w'⟨u,T,rfl,g,i⟩;exact⟨u,T,rfl,g,trivial,i⟩
end
theorem yI{enc:TypeId×Tv->H}{W:Tw}{n:Nat}{d:DataW H}{p:List MemPlace}(m:Value.okWide prog W .any n 22 v)(h:DataW.Trod enc prog W 0 (λ_=>true) true 22 v d p):
 ∃l:List DdS,F7 8 AGa W v l/\∀q∈l,Nf W q:=by
 haveI:Inhabited DdS:=⟨⟨⟨0,[],[],[],0,⟨#[]⟩,⟨#[]⟩,λ_=>True⟩,none,0,none,0,none,0,0,none,0⟩⟩
 obtain⟨b,len,a,rfl⟩:=okWide_slice underlying22 m;obtain⟨fuel,f⟩:=h;obtain⟨v',e,l,g,i⟩:=M0 (k:=8) (en:=AGa) (P:=λq:DdS=>Nf W q/\q.x.tree=λ_=>True) (by decide) (λ_=>rfl) underlying22 kM (λh=>ADH h) f;have c:v'=Zs b len a:=by simpa[Value.cells] using e.symm
 subst c;exact⟨l,g,λq j=>(i q j).1⟩
variable{D:Td}{s:Ah}{a:Bool}{A:List A5}{v:Tv}{e:Ending}
theorem Py(lv:Tv)(l:List DdS)(w:Tw)(hl:F7 8 AGa w lv l)(T:∀q∈l,Nf w q):
 Zc 5 #[lv] w (Pb (l.length<=30/\∀q∈l,U8 q) w):=by
 have HL:=Aa hl;obtain⟨la,lc,rfl,_⟩:=hl.slice;have HR:=Aa T;clear hl T
 by_cases h30:l.length<=30
 ·have I:¬(30:Int)<(l.length:Int):=by omega
  go_enter func5,ntmps5;go_wp2
  go_loopw [3] (λy wr=>∃k:Nat,k<=l.length/\y=Zi k/\Hid (∀q∈l.take k,U8 q)/\Hid (Zb w wr)) (λy _=>l.length-(intOf y).toNat)
  case atStart=>exact⟨0,Y9 _,rfl,Aa (by simp),Aa (XC _ _)⟩
  case round=>
   obtain⟨k,hk,rfl,M,u⟩:=hrel
   by_cases hlt:k<l.length
   ·obtain⟨q,f⟩:∃q,l[k]? = some q:=⟨_,Y' hlt⟩
    obtain⟨lb,lo,ap,el,_,an,a⟩:=(HL.out.up u.out).cons (by omega);injection el with ah _ ai;subst ah ai;have q0:=a k q f 0 _ rfl;have q1:=a k q f 1 _ rfl;have q2:=a k q f 2 _ rfl;have q3:=a k q f 3 _ rfl;have q4:=a k q f 4 _ rfl;have q5:=a k q f 5 _ rfl;have q6:=a k q f 6 _ rfl;have q7:=a k q f 7 _ rfl;simp only[XU] at q0;have d:=Aa (HR.out q (XB f));have HQ:=Aa f;have am:(k:Int)<(l.length:Int):=by omega
    clear a f;obtain⟨⟨wh,cols,rows,A3,ch,nm,z,tr⟩,ca,cc,ra,rc,pa,R,pc,sa,sc⟩:=q;simp only at q0 q1 q2 q3 q4 q5 q6 q7;have J:Zb wr (wr.alloc (Zk #[Zi wh,Zs ca cols.length cc,Zs ra rows.length rc,Zs pa R pc,Zs sa A3.length sc,Zi ch,Zt nm,Zt z] 38)):=Zal;have G:=Aa (heap_alloc_new wr (Zk #[Zi wh,Zs ca cols.length cc,Zs ra rows.length rc,Zs pa R pc,Zs sa A3.length sc,Zi ch,Zt nm,Zt z] 38));have D:=Aa (Ap u.out J);have m1:nm.size<=maxLen:=d.out.nm;have m2:z.size<=maxLen:=d.out.tw;have i:=Aa (pS (Zs ca cols.length cc) cols _ (d.out.cols.up D.out) d.out.ACl);have o:=Aa (λW(hW:Zb w W)=>oH (Zs ra rows.length rc) rows W (d.out.rows.up hW) (λr T v g=>(d.out.ACg r T v g).2));unfold Pb at i o;clear J;go_wp2_with fail;refine i.out.mono ?_;rintro e w2⟨b2,rfl,N,p⟩;have X:=Aa N;have h:=Aa (Ap D.out p);have m:=Aa ((p.block _ (Ac G.out)).trans G.out);clear N p i;obtain⟨y0,y1,y2,y3,y4,y5,y6,y7,yf⟩:=F2 m.out;clear q0 q1 q2 q3 q4 q5 q6 q7;cases b2 with
    | false=>go_wp2_with fail;go_ret;exact⟨_,rfl,by simp,h.out⟩
    | true=>
      go_wp2_with fail;refine(o.out _ h.out).mono ?_;rintro e w3⟨b3,rfl,O,t⟩;have Y:=Aa O;have c:=Aa (Ap h.out t);have V:=Aa ((t.block _ (Ac m.out)).trans m.out);clear O t o y0 y1 y2 y3 y4 y5 y6 y7 yf;obtain⟨y0,y1,y2,y3,y4,y5,y6,y7,yf⟩:=F2 V.out;cases b3 with
      | false=>go_wp2_with fail;go_ret;exact⟨_,rfl,by simp,c.out⟩
      | true=>
        by_cases a1:R<=20
        ·have ac:¬(20:Int)<(R:Int):=by omega
         by_cases a2:A3.length<=10
         ·have ad:¬(10:Int)<(A3.length:Int):=by omega
          by_cases a3:nm.size<=60
          ·have ae:¬(60:Int)<(nm.size:Int):=by omega
           by_cases a4:z.size<=60
           ·have af:¬(60:Int)<(z.size:Int):=by omega
            have ab:=Aa d.out.wX;have aa:=Aa (d.out.A3.up c.out);go_wp2_with fail
            go_loopw [5] (λy wi=>∃j:Nat,j<=A3.length/\y=Zi j/\Hid (∀s∈A3.take j,s.2.2.2.size<=100)/\wi=w3) (λy _=>A3.length-(intOf y).toNat)
            case atStart=>exact⟨0,Y9 _,rfl,Aa (by simp),rfl⟩
            case round=>
             obtain⟨j,hj,rfl,L,rfl⟩:=hrel
             by_cases hjl:j<A3.length
             ·obtain⟨⟨sn,vk,vn,U⟩,g⟩:∃x,A3[j]? = some x:=⟨_,Y' hjl⟩
              obtain⟨sb,so,aq,es,_,ao,b⟩:=aa.out.cons (by omega);injection es with aj _ ak;subst aj ak;have s0:=b j _ g 0 _ rfl;have s1:=b j _ g 1 _ rfl;have s2:=b j _ g 2 _ rfl;have s3:=b j _ g 3 _ rfl;simp only[XU] at s0;have m3:U.size<=maxLen:=(ab.out _ (XB g)).2;have al:(j:Int)<(A3.length:Int):=by omega
              have HV:=Aa g;clear b g
              by_cases a5:U.size<=100
              ·have ag:¬(100:Int)<(U.size:Int):=by omega
               have n:=Aa (My (P:=λv:Vi=>v.2.2.2.size<=100) L.out HV.out a5);go_wp2;exact⟨⟨j+1,by omega,by go_num,n,trivial⟩,by simp[intOf];omega⟩
              have ag:(100:Int)<(U.size:Int):=by omega
              go_wp2;go_ret;exact⟨_,rfl,by simp,c.out⟩
             have al:¬(j:Int)<(A3.length:Int):=by omega
             have n:=Aa (My (P:=λq:DdS=>U8 q) M.out HQ.out ⟨X.out trivial,Y.out trivial,a1,a2,O1 (P:=λv:Vi=>v.2.2.2.size<=100) L.out (show A3.length<=j by omega)⟩);go_wp2;exact⟨⟨k+1,by omega,by go_num,n,c⟩,by simp[intOf];omega⟩
           have af:(60:Int)<(z.size:Int):=by omega
           go_wp2_with fail;go_ret;exact⟨_,rfl,by simp,c.out⟩
          have ae:(60:Int)<(nm.size:Int):=by omega
          go_wp2_with fail;go_ret;exact⟨_,rfl,by simp,c.out⟩
         have ad:(10:Int)<(A3.length:Int):=by omega
         go_wp2_with fail;go_ret;exact⟨_,rfl,by simp,c.out⟩
        have ac:(20:Int)<(R:Int):=by omega
        go_wp2_with fail;go_ret;exact⟨_,rfl,by simp,c.out⟩
   have am:¬(k:Int)<(l.length:Int):=by omega
   have HF:=Aa (O1 (P:=λq:DdS=>U8 q) M.out (by omega));go_wp2;go_ret;exact⟨_,rfl,λ_=>HF.out,u.out⟩
 have I:(30:Int)<(l.length:Int):=by omega
 go_enter func5,ntmps5;go_wp2;go_ret;exact⟨_,rfl,by simp,XC _ _⟩
def AGA:Prop:=∀w:World,Ik w->Lw w->Jp w->B.Ob w->S.Lp w->Zc 6 #[] w λe a=>e=.returned (.bool true)/\Zb w a
def Pc:List Vc->Int
 | []=>0
 | e :: l=>(e.2.1-e.2.2.length)+Pc l
theorem j9(e:Vc):∀l:List Vc,Pc (l++[e])=Pc l+(e.2.1-e.2.2.length)
 | []=>by simp[Pc]
 | x :: l=>by simp only[XT,Pc,j9 e l];omega
theorem lQ(l:List Aj):∀xs:List A6,(∀x∈xs,((E4 l x).length:Int)=x.1.2.1-x.1.2.2.length)->Pc (xs.map (·.1))=((xs.flatMap (E4 l)).length:Int)
 | [],_=>rfl
 | x :: xs,h=>by
   have c:=h x (Yf ..);have a:=lQ l xs λy b=>h y (Yg _ b)
   simp only[List.map_cons,Pc,a,X2,XQ];omega
theorem C7.sum{xs:List A6}(h:C7 D s xs)(a:Good Bv Cm s):Pc s.files=((Fc s.cols xs).length:Int):=by unfold Fc;rw[Y8,H9,<-h.Lz.files];exact lQ s.cols xs λx b=>h.count a b
theorem AA4:∀l:List Vc,(∀e∈l,0<=e.2.1/\e.2.1<=60/\(e.2.2.length:Int)<=60) -> -60*(l.length:Int)<=Pc l/\Pc l<=60*(l.length:Int)
 | [],_=>by simp[Pc]
 | e :: l,h=>by
   have b:=h e (Yf ..);have c:=AA4 l λx a=>h x (Yg _ a)
   simp only[Pc,XE];omega
theorem ACd(cb:Mw)(cd:AGA)(lv:Tv)(l:List DdS)(w:Tw)(hl:F7 8 AGa w lv l)(hr:∀q∈l,Nf w q)(he:Ik w)(hw:Lw w)(ht:Jp w)(hg:B.Ob w)(ho:S.Lp w):
 Zc 4 #[lv] w λe w'=>e=Zr (Zo true)/\Zb w w':=by
 have I:=Aa (Py lv l w hl hr);unfold Pb at I;have HL:=Aa hl;have HR:=Aa hr;have J:=Aa (And.intro he (And.intro hw (And.intro ht (And.intro hg ho))));obtain⟨la,lc,rfl,_⟩:=hl.slice;clear hl hr he hw ht hg ho;go_enter func4,ntmps4;go_wp2_with fail;refine I.out.mono ?_;rintro e w1⟨b1,rfl,bo,bf⟩;have d:=Aa bf;have an:=Aa bo;clear bf bo I;cases b1 with
 | false=>go_wp2_with fail;go_ret;exact⟨rfl,d.out⟩
 | true=>
   have cs:=(an.out rfl).1;have bs:=Aa (an.out rfl).2;have a9:=Aa (cd w1 (J.out.1.below d.out) (J.out.2.1.below d.out) (J.out.2.2.1.below d.out) (J.out.2.2.2.1.below d.out) (J.out.2.2.2.2.below d.out));clear an;go_wp2_with fail;refine a9.out.mono ?_;rintro e p⟨rfl,bg⟩;have f:=Aa (Ap d.out bg);have n:Hid (Ik p/\Lw p/\Jp p/\B.Ob p/\S.Lp p):=Aa ⟨J.out.1.below f.out,J.out.2.1.below f.out,J.out.2.2.1.below f.out,J.out.2.2.2.1.below f.out,J.out.2.2.2.2.below f.out⟩;have a7:=Aa (LwT.start p n.out.1 n.out.2.1 n.out.2.2.1);clear bg a9 d J;go_wp2_with fail
   go_loopw [4] (λV wr=>∃(i m:Nat)(D:Td)(fs:List Int)(mv fv:Tv)(H:List (Dn×Ah)),i<=l.length/\V=Zi i/\Hid (LwT p wr p.heap.size i m D fs mv fv H)) (λV _=>l.length-(intOf V).toNat)
   case atStart=>exact⟨0,0,_,_,_,_,[],Y9 _,rfl,a7⟩
   case round=>
    obtain⟨i,m,D,fs,mv,fv,H,hi,rfl,c⟩:=hrel;clear a7
    by_cases hlt:i<l.length
    ·obtain⟨q,t⟩:∃q,l[i]? = some q:=⟨_,Y' hlt⟩
     have aa:=Aa (Ap f.out c.out.base.low);obtain⟨lb,h,c6,el,_,cz,a⟩:=HL.out.cons (by omega);injection el with b3 _ b4;subst b3 b4;have br:=Aa ((HR.out q (XB t)).at (bs.out q (XB t)));have q0:=a i q t 0 _ rfl;have q1:=a i q t 1 _ rfl;have q2:=a i q t 2 _ rfl;have q3:=a i q t 3 _ rfl;have q4:=a i q t 4 _ rfl;have q5:=a i q t 5 _ rfl;have q6:=a i q t 6 _ rfl;have q7:=a i q t 7 _ rfl;simp only[XU] at q0;have ci:(i:Int)<(l.length:Int):=by omega
     clear a t;obtain⟨⟨wh,cols,rows,A3,ch,nm,tw,tr⟩,ca,cc,ra,rc,pa,pn,pc,sa,sc⟩:=q;simp only at q0 q1 q2 q3 q4 q5 q6 q7;have a5:=Aa (λW=>ADi i (by omega) W);have ax:=Aa (λW(hW:Zb wr W)=>AHq cb p p.heap.size i m D fs mv fv H ⟨wh,cols,rows,A3,ch,nm,tw,tr⟩ ca cc ra rc pa pn pc sa sc W (c.out.up hW) (by omega) n.out.2.2.2.1 n.out.2.2.2.2 (br.out.up (Ap aa.out hW)));have G:Hid (∀W,Zb w W->W.cell? ⟨lb,h+i*8,none⟩=some (Zi wh)/\W.cell? ⟨lb,h+i*8+1,none⟩=some (Zs ca cols.length cc)/\W.cell? ⟨lb,h+i*8+2,none⟩=some (Zs ra rows.length rc)/\W.cell? ⟨lb,h+i*8+3,none⟩=some (Zs pa pn pc)/\W.cell? ⟨lb,h+i*8+4,none⟩=some (Zs sa A3.length sc)/\W.cell? ⟨lb,h+i*8+5,none⟩=some (Zi ch)/\W.cell? ⟨lb,h+i*8+6,none⟩=some (Zt nm)/\W.cell? ⟨lb,h+i*8+7,none⟩=some (Zt tw)):=Aa λW M=>⟨Ag M q0,Ag M q1,Ag M q2,Ag M q3,Ag M q4,Ag M q5,Ag M q6,Ag M q7⟩
     have ak:=Aa ((XC wr.heap.size wr).drew);clear q0 q1 q2 q3 q4 q5 q6 q7;obtain⟨q0,q1,q2,q3,q4,q5,q6,q7⟩:=G.out _ (Ap aa.out ak.out);go_wp2_with fail
     go_region_held3 (λW=>W.cell? ⟨lb,h+i*8,none⟩=some (Zi wh)/\W.cell? ⟨lb,h+i*8+1,none⟩=some (Zs ca cols.length cc)/\W.cell? ⟨lb,h+i*8+2,none⟩=some (Zs ra rows.length rc)/\W.cell? ⟨lb,h+i*8+3,none⟩=some (Zs pa pn pc)/\W.cell? ⟨lb,h+i*8+4,none⟩=some (Zs sa A3.length sc)/\W.cell? ⟨lb,h+i*8+5,none⟩=some (Zi ch)/\W.cell? ⟨lb,h+i*8+6,none⟩=some (Zt nm)/\W.cell? ⟨lb,h+i*8+7,none⟩=some (Zt tw))
      (first
        | exact G.out _ (Ap aa.out ak.out)
        | exact G.out _ (Ap aa.out N)
        | exact G.out _ (Ap f.out ce)
        | (go_keep;done)
        | fail)
      (first
        | (go_at_call 8
           refine(a5.out _).mono ?_;rintro e w3⟨rfl,ag⟩;have N:=Ap ak.out ag;clear ag)
        | (go_at_call 7
           refine(ax.out _ N).mono ?_;rintro e w4⟨L,rfl,m',D',b8,co,b9,H',ap⟩;have ce:=ap.base.low;have bt:=Aa ap;clear ap)
        | fail)
     clear q0 q1 q2 q3 q4 q5 q6 q7 G ax a5;go_wp2;exact⟨⟨i+1,m',D',b8,co,b9,H',by omega,by go_num,bt⟩,by simp[intOf];omega⟩
    have ci:¬(i:Int)<(l.length:Int):=by omega
    have ct:H.length<=30:=by have:=c.out.Iz;omega
    have ba:=Aa (qQ p.heap.size m D mv H wr c.out.base.ground c.out.inv.Lm c.out.inv.past (by omega));go_wp2_with fail;refine ba.out.mono ?_;rintro e w3⟨rfl,N⟩;have a3:=Aa (c.out.up N);clear N ba c;go_wp2_with fail
    go_loopw [5] (λV wv=>∃k:Nat,k<=H.length+1/\V=Zi ((k:Int)-1)/\Hid (LwT p wv p.heap.size i m D fs mv fv H)) (λV _=>(intOf V+1).toNat)
    case atStart=>exact⟨H.length+1,XA _,by simp,a3⟩
    case round=>
     obtain⟨k,hk,rfl,c⟩:=hrel;clear a3
     by_cases hk0:k=0
     ·subst hk0
      have HF:=Aa (Ap f.out c.out.base.low);go_wp2;go_ret;exact⟨rfl,HF.out⟩
     obtain⟨b,rfl⟩:∃b,k=b+1:=⟨k-1,by omega⟩;have cy:(0:Int)<=(b:Int):=by omega
     have cj:((b+1:Nat):Int)-1=(b:Int):=by omega
     rw[cj];obtain⟨xs,hT⟩:=c.out.inv.wU b (by omega);have bm:Good Bv Cm (Ae H b):=(Jb c.out.inv.past (i:=b) (by omega)).1;have s:=Aa (And.intro hT bm);have a4:=Aa (Ua p.heap.size m D mv H (b:Int) b wr c.out.base.ground c.out.inv.Lm c.out.inv.past (by omega) (by omega) (.inr rfl));have a0:=Aa (λW(hW:Zb wr W)=>ABH p.heap.size m D mv H (b:Int) b xs W (c.out.base.ground.up hW) ((n.out.2.2.2.1.below c.out.base.low).below hW) ((n.out.2.2.2.2.below c.out.base.low).below hW) c.out.inv.Lm c.out.inv.past (by omega) (by omega) (.inr rfl) hT.Lz);clear hT bm;go_wp2_with fail;refine a4.out.mono ?_;rintro e w5⟨a1,n1,c1,x2,a2,n2,c2,rfl,bc,bh⟩;have aw:=Aa bh;have ao:=Aa bc;clear bh bc a4;unfold K4 at ao;unfold K4;have au:Zb w5 (w5.alloc (Zk #[Zi (b:Int),Zs a1 n1 c1,Zi x2,Zs a2 n2 c2] 42)):=Zal;have am:=Aa (heap_alloc_new w5 (Zk #[Zi (b:Int),Zs a1 n1 c1,Zi x2,Zs a2 n2 c2] 42));have aj:=Aa (Ap aw.out au);have a8:=Aa (Dl.up ao.out au);have af:=Aa (a0.out _ aj.out);clear au a0 ao;go_wp2_with fail;refine af.out.mono ?_;rintro e Y⟨v7,rfl,bb,ad⟩;have bq:=Aa (Ap aj.out ad);have bz:=Aa (Dl.up a8.out ad);have bu:=Aa ((ad.block _ (Ac am.out)).trans am.out);have aq:=bb.slr;obtain⟨ra,rc,rfl,c3⟩:=aq.slice;have bv:=Aa aq;clear ad bb aq af aw aj a8 am;obtain⟨b1,d1,b2,d2,X,ev,hV⟩:=bz.out;simp only[Value.agg.injEq,Array.mk.injEq,List.cons.injEq,Value.int.injEq,Value.slice.injEq] at ev;obtain⟨-,⟨e1,e2,e3⟩,-,⟨e4,e5,e6⟩,-⟩:=ev;subst e1 e2 e3 e4 e5 e6;have ac:=Aa hV;have bl:(Ae H b).files.length=X.length:=by rw[hV.files,Y8]
     have az:=Aa bl;have cu:X.length<=40:=by have:=s.out.2.Iz;omega
     have ay:Hid (∀e∈(Ae H b).files,0<=e.2.1/\e.2.1<=60/\(e.2.2.length:Int)<=60):=Aa (λe he=>by have h1:=s.out.2.rows e he;have h2:=R0 (s.out.2.Cl e he) h1;have bk:=he;rw[<-s.out.1.Lz.files] at bk;obtain⟨x,hx,rfl⟩:=List.mem_map.1 bk;have h3:=s.out.1.rows x hx;omega)
     have I:=Aa (s.out.1.sum s.out.2);have bw:=Aa (s.out.1.right (sM s.out.2))
     have b0:Hid (∀r∈Fc (Ae H b).cols xs,∀v∈r,v.2.2.size<=maxLen):=Aa (λr hr v hv=>by obtain⟨z,hz,rfl⟩:=List.mem_map.1 hr;have:=(No s.out.1 s.out.2 (Mq c.out.inv.past (by omega)) z hz v hv).2;unfold maxLen;omega)
     have h8:=M9 s.out.2;clear hV bl
     obtain⟨z0,z1,z2,z3⟩:Y.cell? ⟨w5.heap.size,0,none⟩=some (Zi (b:Int))/\Y.cell? ⟨w5.heap.size,1,none⟩=some (Zs a1 (Ae H b).cols.length c1)/\Y.cell? ⟨w5.heap.size,2,none⟩=some (Zi x2)/\Y.cell? ⟨w5.heap.size,3,none⟩=some (Zs a2 X.length c2):=by refine⟨?_,?_,?_,?_⟩ <;> (rw[S.cell_of_heap bu.out];rfl)
     go_wp2_with fail
     go_loopw [10,11] (λvn vk wi=>∃j:Nat,j<=X.length/\vk=Zi (j:Int)/\vn=Zi (Pc ((Ae H b).files.take j))/\Hid (Zb Y wi)) (λ_ vk _=>X.length-(intOf vk).toNat)
     case atStart=>exact⟨0,Y9 _,rfl,rfl,Aa (XC _ _)⟩
     case round=>
      obtain⟨j,hj,rfl,rfl,o⟩:=hrel
      by_cases hjl:j<X.length
      ·obtain⟨y,ae⟩:∃y,X[j]? = some y:=⟨_,Y' hjl⟩
       have av:(Ae H b).files[j]? = some y.1:=by rw[ac.out.files,XK,ae];rfl
       have bn:=ac.out.Cl y (XB ae);obtain⟨⟨bp,L,mask⟩,ma,mn,mc⟩:=y;obtain⟨c7,c8,em,_⟩:=Au bn
       have ck:mn=mask.length:=by unfold sv at em;injection em with _ em _
       subst ck;have U:=ac.out.row
       obtain⟨fb,cf,g0,g1,g2⟩:∃fb,a2=some ⟨fb,0,none⟩/\Y.cell? ⟨fb,j*3,none⟩=some (Zt bp)/\Y.cell? ⟨fb,j*3+1,none⟩=some (Zi L)/\Y.cell? ⟨fb,j*3+2,none⟩=some (Zs ma mask.length mc):=by
        rcases U.2 with⟨_,h0⟩|⟨fb,cq,cr,ev,_,hh,_,_,_⟩
        ·omega
        injection ev with b7 _ _;subst b7;have hc:=U.cells (g:=fb) rfl;simp only[E.addr_add] at hc
        have ar:∀(i:Nat)u,(Lv ((bp,L,mask),ma,mask.length,mc))[i]? = some u->Y.cell? ⟨fb,j*3+i,none⟩=some u:=λi u hu=>by have:=hc (j*3+i) u (Hi (k:=3) (enc:=Lv) (λ_=>rfl) ae hu);simpa using this
        exact⟨fb,rfl,ar 0 _ rfl,ar 1 _ rfl,ar 2 _ rfl⟩
       subst cf;replace g0:=Ag o.out g0;replace g1:=Ag o.out g1;replace g2:=Ag o.out g2;have cp:=Ag o.out z3;have bj:=ay.out _ (XB av);simp only at bj;have cm:=AA4 ((Ae H b).files.take j) (λe he=>ay.out e (Yi he));have cn:((Ae H b).files.take j).length<=40:=by have:=az.out;rw[XF];omega
       have a6:Hid (Pc ((Ae H b).files.take (j+1))=Pc ((Ae H b).files.take j)+(L-(mask.length:Int))):=Aa (by rw[S.Cs av,j9]);generalize Pc ((Ae H b).files.take j)=sj at *;have c4:IntKind.i64.wrap (L-(mask.length:Int))=L-(mask.length:Int):=by rw[IntKind.wrap_i64];omega
       have c5:IntKind.i64.wrap (sj+(L-(mask.length:Int)))=sj+(L-(mask.length:Int)):=by rw[IntKind.wrap_i64];omega
       have cg:(j:Int)<(X.length:Int):=by omega
       have cx:(0:Int)<=(j:Int):=by omega
       clear U bn em av ae cm cn bj;go_wp2_with fail
       go_region_held3 (λW=>W.cell? ⟨w5.heap.size,3,none⟩=some (Zs (some ⟨fb,0,none⟩) X.length c2)/\W.cell? ⟨fb,j*3+1,none⟩=some (Zi L)/\W.cell? ⟨fb,j*3+2,none⟩=some (Zs ma mask.length mc))
        (go_keep)
        (fail)
       all_goals
        go_wp2;exact⟨⟨j+1,by omega,by go_num,by rw[a6.out],Aa o.out.drew⟩,by simp[intOf];omega⟩
      have cg:¬(j:Int)<(X.length:Int):=by omega
      have cp:=Ag o.out z3;have cw:(Fc (Ae H b).cols xs).length<=60*40:=by unfold Fc;rw[Y8];exact aN s.out.1 s.out.2 .nil
      have ai:Pc ((Ae H b).files.take j)=((Fc (Ae H b).cols xs).length:Int):=by rw[Yd (by have:=az.out;omega)];exact I.out
      rw[ai];clear ai;generalize cv:Fc (Ae H b).cols xs=R at *;go_wp2_with fail
      go_loopw [12] (λV wi=>∃q:Nat,q<=R.length/\V=Zi (q:Int)/\Hid (Zb Y wi)) (λV _=>R.length-(intOf V).toNat)
      case atStart=>exact⟨0,Y9 _,rfl,o⟩
      case round=>
       obtain⟨q,t,rfl,O⟩:=hrel
       by_cases hql:q<R.length
       ·obtain⟨r,hr⟩:∃r,R[q]? = some r:=⟨_,Y' hql⟩
        obtain⟨rb,ro,c9,xv,L,c0,P,bd⟩:=(bv.out.up O.out).at hr;injection L with b5 _ b6;subst b5 b6;have hm:=XB hr;have T:F7 7 Cc wr (Zs a1 (Ae H b).cols.length c1) (Ae H b).cols:=F7.Fz (k:=7) (enc:=Cc) (λ_=>rfl) (show wr.ownsRow 0 72 7 (Zs a1 (Ae H b).cols.length c1) (Ae H b).cols.length ((Ae H b).cols.flatMap Cc) from Bc ac.out.cols O.out) rfl
        have bx:Hid (∀W,Zb wr W->Zc 19 #[Zs a1 (Ae H b).cols.length c1,xv] W λe w'=>e=Zr Zn/\Zb W w'):=Aa (λW hW=>by have:=AA2 (Zs a1 (Ae H b).cols.length c1) xv (Ae H b).cols r W (T.up hW) (bd.up hW) (by omega) (b0.out r hm);rw[bw.out r hm] at this;exact this)
        have al:Hid (∀W,Zb wr W->W.cell? ⟨w5.heap.size,1,none⟩=some (Zs a1 (Ae H b).cols.length c1)/\W.cell? ⟨rb,ro+q,none⟩=some xv):=Aa λW M=>⟨Ag (Ap O.out M) z1,Ag M P⟩
        have ab:=Aa ((XC wr.heap.size wr).drew);have cl:(q:Int)<(R.length:Int):=by omega
        obtain⟨xa,xc,rfl,_,_⟩:=bd;clear hr T hm P;obtain⟨s1,s2⟩:=al.out _ ab.out;go_wp2_with fail
        go_region_held3 (λW=>W.cell? ⟨w5.heap.size,1,none⟩=some (Zs a1 (Ae H b).cols.length c1)/\W.cell? ⟨rb,ro+q,none⟩=some (Zs xa r.length xc))
         (first
           | exact al.out _ ab.out
           | exact al.out _ bi
           | (go_keep;done)
           | fail)
         (first
           | (go_at_call 19
              refine(bx.out _ ab.out).mono ?_;rintro e w9⟨rfl,ah⟩;have bi:=Ap ab.out ah;clear ah)
           | fail)
        all_goals
         clear s1 s2;go_wp2;exact⟨⟨q+1,by omega,by go_num,Aa (Ap O.out bi)⟩,by simp[intOf];omega⟩
       have cl:¬(q:Int)<(R.length:Int):=by omega
       go_wp2;exact⟨⟨b,by omega,by simp,Aa (c.out.up (Ap bq.out O.out))⟩,by simp[intOf]⟩
def cA:Aj:=(1,⟨#[97]⟩,1,false,0,0,⟨#[]⟩)
def iL:ByteArray:=⟨#[116]⟩
def Pz:ByteArray:=⟨#[117]⟩
def txV:ByteArray:=⟨#[118]⟩
def aT:List A5:=[(4,⟨#[]⟩,0,[],[cA],2)]
def sT:Ah:=⟨1,[cA],2,[]⟩
def R2:List (List V):=[[(1,1,⟨#[]⟩)],[(1,2,⟨#[]⟩)]]
def aU:List A5:=[(1,Bw Pz 0,2,[],[],0)]
def sU:Ah:=⟨2,[cA],2,[(Bw Pz 0,2,[])]⟩
def xU:List A6:=[((Bw Pz 0,2,[]),[cA],R2)]
def tV:S.CT:=.node 0 0 ⟨1,⟨#[97]⟩,1,1,⟨#[]⟩⟩ .nil .nil
def aV:List A5:=[(3,Bw Pz 0,0,[0],[],0)]
def sV:Ah:=⟨3,[cA],2,[(Bw Pz 0,2,[0])]⟩
def xV:List A6:=[((Bw Pz 0,2,[0]),[cA],R2)]
def H1:List (Dn×Ah):=[((iL,false,aT),sT)]
def H2:List (Dn×Ah):=[((iL,false,aT),sT),((Pz,false,aU),sU)]
def H3:List (Dn×Ah):=[((iL,false,aT),sT),((Pz,false,aU),sU),((txV,true,aV),sV)]
theorem AJd:Go.Proofs.YtbhhpheailbebaaGreatDoor.Be [cA] 2=true:=by kernel_rfl
theorem AIh:De [cA] R2=true:=by kernel_rfl
theorem AJ4:Ex [cA] tV=0:=by kernel_rfl
theorem ABN:Ct [cA] tV ((Bw Pz 0,2,[]),[cA],R2)=[0]:=by kernel_rfl
theorem AFC:(E4 [cA] ((Bw Pz 0,2,[]),[cA],R2)).length=2:=by kernel_rfl
theorem goV:xU.flatMap (Vm [cA] tV)=aV:=by show Vm [cA] tV ((Bw Pz 0,2,[]),[cA],R2)++[]=aV;unfold Vm;rw[ABN,AFC];rfl
theorem AKR:xU.filterMap (pO [cA] tV)=xV:=by
 have h:pO [cA] tV ((Bw Pz 0,2,[]),[cA],R2)=some ((Bw Pz 0,2,[0]),[cA],R2):=by unfold pO;rw[ABN,AFC];simp[N6,Ir]
 unfold xU xV;rw[YO,h];rfl
theorem AKF:Fc [cA] xV=[[(1,2,⟨#[]⟩)]]:=by kernel_rfl
theorem okT:Cv (iL,false,aT)=true:=by kernel_rfl
theorem okU:Cv (Pz,false,aU)=true:=by kernel_rfl
theorem okV:Cv (txV,true,aV)=true:=by kernel_rfl
theorem apT:Bi F6 (iL,false,aT) sT:=⟨by kernel_rfl,sT,.inr (.inr (.inr ⟨rfl,⟨(I9 _ _).1 (by kernel_rfl),by decide⟩,rfl⟩)),rfl⟩
theorem nX{s:Tb}{H:List (Dn×Ah)}{fs:List Int}{t:Ah}(g:Cv (s,a,A)=true)(e:Bi (Ae H H.length) (s,a,A) t)(f:fs=[])(h:AD8 (s,a,A) H fs H.length v):False:=by
 rcases h with h|⟨i,b,j,_,h⟩|⟨i,c,b,d,_⟩|⟨_,h⟩
 ·rw[g] at h;cases h
 ·have:i=H.length:=by omega
  subst this;exact h t e
 ·rw[Yb b] at d;cases d
 subst f;cases h
theorem apU:Bi sT (Pz,false,aU) sU:=⟨by kernel_rfl,sU,.inl ⟨rfl,⟨by kernel_rfl,by decide,by decide,by decide +kernel,(λe=>by cases e),by decide⟩,rfl⟩,rfl⟩
theorem AJN:Bt (bump sU).files (Bw Pz 0)=0:=by kernel_rfl
theorem AKq:sV=gJ (bump sU) (3,Bw Pz 0,0,[0],[],0):=by unfold gJ;simp only[AJN];simp[N6,Ir,sV,bump,sU]
theorem apV:Bi sU (txV,true,aV) sV:=⟨by kernel_rfl,sV,.inr (.inr (.inl ⟨rfl,⟨by decide +kernel,by kernel_rfl,by kernel_rfl⟩,AKq⟩)),rfl⟩
def dT:J4:=⟨0,[(0,⟨#[97]⟩,1,false,0,0,⟨#[]⟩)],[],[],0,⟨#[]⟩,⟨#[]⟩,λ_=>True⟩
def dU:J4:=⟨2,[],R2,[],0,⟨#[]⟩,⟨#[]⟩,λ_=>True⟩
def dV:J4:=⟨3,[],[],[],0,⟨#[]⟩,⟨#[]⟩,λT=>T=tV⟩
theorem mkT{D b:Td}{xs:List A6}{t:Tb}{rows:Int}(h:V7 D s xs t dT b a A rows):a=false/\A=aT:=by
 rcases h with⟨_,_,_,_,rfl,rfl,_⟩|⟨e,_⟩|⟨e,_⟩|⟨e,_⟩|⟨e,_⟩|⟨e,_⟩
 ·exact⟨rfl,rfl⟩
 all_goals exact absurd e (by decide)
theorem mkU{a:Td}{xs:List A6}{b:Bool}{rows:Int}(c:s.cols=[cA])(h:V7 D s xs Pz dU a b A rows):b=false/\A=aU/\a=D.put (B.lit (Eh (Bw Pz 0))) (Pa [cA] R2):=by
 rcases h with⟨e,_⟩|⟨e,_⟩|⟨_,_,_,rfl,rfl,rfl,_⟩|⟨e,_⟩|⟨e,_⟩|⟨e,_⟩
 rotate_left 2
 ·exact⟨rfl,rfl,by rw[c];rfl⟩
 all_goals exact absurd e (by decide)
theorem mkV{D b:Td}{t:Tb}{c:Bool}{rows:Int}(f:s.cols=[cA])(h:V7 D s xU t dV b c A rows):c=true/\A=aV/\b=D:=by
 rcases h with⟨e,_⟩|⟨e,_⟩|⟨e,_⟩|⟨_,T,d,_,_,rfl,rfl,rfl,_⟩|⟨e,_⟩|⟨e,_⟩
 rotate_left 3
 ·have a:T=tV:=d
  subst a;exact⟨rfl,by rw[f,goV],rfl⟩
 all_goals exact absurd e (by decide)
theorem AJW{w0 w W:Tw}{bb n:Nat}{fs:List Int}{mv:Tv}(h:Xt w0 w 0 bb n (.map []) fs mv [] [] iL [] dT e W):e=Zr Zn/\∃n' d b a c,Ey w0 W 0 bb n' d b a c/\n'<=n+100/\B.A0 (B.Own bb mv) w W/\(∀k,a=.map (some k)->mv=.map (some k)\/w.heap.size<=k)/\Inv d H1 [iL]:=by
 obtain⟨n',d,b,a,c,z,o,s,u,r,p,⟨rfl,j,x,A,rows,g,h⟩|⟨T,y,rfl,rfl,h⟩⟩:=h
 ·obtain⟨rfl,rfl⟩:=mkT g
  rcases h with⟨e,_⟩|⟨_,_,t,q,rfl,rfl⟩
  ·cases e
  obtain⟨rfl,_⟩:=Ry q;exact⟨rfl,n',_,b,a,c,o,s,u,r,p⟩
 exfalso
 rcases h with h|⟨j,x,A,rows,l,G,n1,v,m,g,D,f,i⟩
 ·rcases h.1 rfl with h|h
  ·have:=AJd
   rw[show Go.Proofs.YtbhhpheailbebaaGreatDoor.Be [cA] 2=false from h] at this;cases this
  exact h rfl
 obtain⟨rfl,rfl⟩:=mkT g;exact nX (H:=[]) okT apT (bJ f) i
theorem AKO(D:Td):C7 D sT []:=⟨⟨rfl,(λx a=>by cases a),Y9 _,by decide,λe=>by cases e⟩,(λx a=>by cases a),(λx a=>by cases a),(λx a=>by cases a)⟩
theorem AEL:K9 R2:=λr a v b=>by
 simp only[R2,XS,XM,or_false] at a
 rcases a with rfl|rfl <;> (simp at b;subst b;exact⟨by decide,by decide⟩)
theorem AI4{w0 w W:Tw}{bb n:Nat}{fs:List Int}{mv:Tv}(G:fs=[])(j:Inv D H1 [iL])(f:Maps.has D (B.lit (Eh (Bw Pz 0)))=false)(h:Xt w0 w 0 bb n D fs mv H1 [iL] Pz [] dU e W):e=.returned .nilIface/\∃n' g b a c,Ey w0 W 0 bb n' g b a c/\n'<=n+100/\B.A0 (B.Own bb mv) w W/\(∀k,a=.map (some k)->mv=.map (some k)\/w.heap.size<=k)/\Inv g H2 [Pz,iL]/\C7 g sU xU:=by
 obtain⟨n',g,b,a,c,P,u,J,L,I,v,⟨rfl,q,O,A,rows,o,h⟩|⟨T,y,rfl,rfl,h⟩⟩:=h
 ·obtain⟨rfl,rfl,rfl⟩:=mkU rfl o
  rcases h with⟨e,_⟩|⟨_,l,t,x,rfl,rfl⟩
  ·cases e
  have M:=eH x;subst M
  have m:C7 (D.put (B.lit (Eh (Bw Pz 0))) (Pa [cA] R2)) sU xU:=((AKO D).put f _).add (bD j.Lm.1 AIh AEL (by decide +kernel)) (λd z=>by
   have:d=cA:=by simpa[sT] using z
   subst this;decide) (by decide) 2
  exact⟨rfl,n',_,b,a,c,u,J,L,I,v,m.put ((l.Lm.2 1 (by decide)).2 (XA _)) _⟩
 exfalso
 rcases h with h|⟨q,O,A,rows,r,U,n1,N,s,o,R,i,p⟩
 ·rcases h.2.1 rfl with h|h|h
  ·cases h
  ·have:=AIh
   rw[show De [cA] R2=false from h] at this;cases this
  subst G;cases h
 obtain⟨rfl,rfl,_⟩:=mkU rfl o;exact nX (H:=H1) okU apU (bJ i) p
theorem AI9{w0 w W:Tw}{bb n:Nat}{fs:List Int}{mv:Tv}(g:Inv D H2 [Pz,iL])(x:C7 D sU xU)(h:Xt w0 w 0 bb n D fs mv H2 [Pz,iL] txV xU dV e W):e=Zr Zn/\∃n' d b a c,Ey w0 W 0 bb n' d b a c/\n'<=n+100/\B.A0 (B.Own bb mv) w W/\(∀k,a=.map (some k)->mv=.map (some k)\/w.heap.size<=k)/\Inv d H3 [txV,Pz,iL]/\C7 d sV xV:=by
 obtain⟨n',d,b,a,c,P,u,J,L,I,v,⟨rfl,q,O,A,rows,o,h⟩|⟨T,y,rfl,rfl,h⟩⟩:=h
 ·obtain⟨rfl,rfl,rfl⟩:=mkV rfl o
  rcases h with⟨e,_⟩|⟨_,j,t,z,rfl,rfl⟩
  ·cases e
  have M:=K6 z.2 apV.2;subst M;have G:Good Bv Cm sU:=(Jb g.past (i:=2) (XA _)).1
  have m:C7 q sV xV:=by have:=x.go G tV 3;rw[show sU.cols=[cA] from rfl,AKR] at this;exact this
  exact⟨rfl,n',_,b,a,c,u,J,L,I,v,m.put ((j.Lm.2 2 (by decide)).2 (XA _)) _⟩
 exfalso
 rcases h with h|⟨q,O,A,rows,r,U,n1,N,s,o,R,f,p⟩
 ·obtain⟨T,l,h⟩:=h.2.2 rfl
  have e:T=tV:=l;subst e
  rcases h with h|h
  ·cases h
  exact h AJ4
 obtain⟨rfl,rfl,_⟩:=mkV rfl o;exact nX (H:=H2) okV apV (bJ f) p
def mO(e:Vc):Gx:=((2,e.1,0,[],[],0),(none,0,0),(none,0,0))
theorem sL(s:Ah)(v:Int)(a1:To)(n1 c1:Nat)(x2:Int)(V:To)(n2 c2:Nat)(w:Tw)(hS:Dl w s (K4 v a1 n1 c1 x2 V n2 c2))(O5:s.files.length<=1000)(hz:∀e∈s.files,e.1.size<=maxLen):
 Zc 76 #[Zs V n2 c2] w λe w'=>∃a c,e=Zr (Zs a s.files.length c)/\w'.ownsRow w.heap.size 144 6 (Zs a s.files.length c) s.files.length (Ci (s.files.map mO))/\Zb w w':=by
 obtain⟨b1,d1,b2,d2,Ls,x,X⟩:=hS;unfold K4 at x;simp only[Value.agg.injEq,Array.mk.injEq,List.cons.injEq,Value.int.injEq,Value.slice.injEq] at x;obtain⟨-,-,-,⟨e1,e2,e3⟩,-⟩:=x;subst e1 e3;have o:s.files.length=Ls.length:=by rw[X.files,Y8]
 have r:=Aa o;have ac:n2=s.files.length:=by omega
 subst ac;have HV:=Aa X;obtain⟨iA,I,p⟩:=Option.map_eq_some_iff.1 gO;simp only[Prod.mk.injEq] at p;have h:=Aa (And.intro I p);have HZ:=Aa hz;clear X o I p hz e2;go_enter func76,ntmps76;go_wp2_with fail
 go_loopw [3,8] (λvo vi wr=>∃(k:Nat)(a:To)(c:Nat),k<=s.files.length/\vi=Zi (k:Int)/\vo=Zs a k c/\Hid (wr.ownsRow w.heap.size 144 6 (Zs a k c) k (Ci ((s.files.take k).map mO)))/\Hid (Zb w wr)) (λ_ vi _=>s.files.length-Ev vi)
 case atStart=>exact⟨0,none,0,Y9 _,rfl,rfl,Aa (XL _ _ _ _),Aa (XC _ _)⟩
 case round=>
  obtain⟨k,a,c,hk,rfl,rfl,R,L⟩:=hrel
  rcases Yc k s.files.length with ah|ag
  ·obtain⟨y,q⟩:∃y,Ls[k]? = some y:=⟨_,Y' (by have:=r.out;omega)⟩
   have D:s.files[k]? = some y.1:=by rw[HV.out.files,XK,q];rfl
   obtain⟨⟨b,M,mask⟩,ma,mn,mc⟩:=y;have f:=Bc HV.out.row L.out
   obtain⟨fb,Y,o,e0,e1,af⟩:∃fb,V=some ⟨fb,0,none⟩/\fb<wr.heap.size/\wr.cell? ⟨fb,k*3,none⟩=some (Zt b)/\wr.cell? ⟨fb,k*3+1,none⟩=some (Zi M)/\wr.cell? ⟨fb,k*3+2,none⟩=some (Zs ma mn mc):=by
    rcases f.2 with⟨_,h0⟩|⟨fb,ad,ae,x,_,hh,_,_,_⟩
    ·have:=r.out;omega
    injection x with W _ _;subst W;have hc:=f.cells (g:=fb) rfl;simp only[E.addr_add] at hc
    have n:∀(i:Nat)u,(Lv ((b,M,mask),ma,mn,mc))[i]? = some u->wr.cell? ⟨fb,k*3+i,none⟩=some u:=λi u N=>by have:=hc (k*3+i) u (Hi (k:=3) (enc:=Lv) (λ_=>rfl) q N);simpa using this
    exact⟨fb,rfl,E.Ac hh,n 0 _ rfl,n 1 _ rfl,n 2 _ rfl⟩
   subst Y;have ab:(k:Int)<(s.files.length:Int):=by omega
   have U:Hid ((s.files.take (k+1)).map mO=(s.files.take k).map mO++[mO (b,M,mask)]):=Aa (by rw[S.Cs D];simp);obtain⟨t0,t1,t2,t3⟩:=C1 wr (Zk #[Zt b,Zi M,Zs ma mn mc] 65) (Zk #[Zi 2,Zt b,Zi 0,Zs none 0 0,Zs none 0 0,Zi 0] 144);have l:=Aa t3;have P:=Aa t2;have J:=L.out.size;clear f q D t0 t1 t2 t3
   go_wp2_with (first
    | (at_builtin;refine wpList_append_own _ rfl _ _ 84 rfl w.heap.size 144 iA Mi 6 88 underlying84 h.out.1 h.out.2.1 h.out.2.2.1 h.out.2.2.2 rfl (by decide) (.slice a k c) k _ rfl (Bc R.out l.out) ⟨wr.heap.size+1,0,none⟩ 1 1 [Zi 2,.string b,Zi 0,.slice none 0 0,.slice none 0 0,Zi 0] rfl rfl (λj u hj=>XY P.out j u hj) (by intro u N;simp only[XS,XM,or_false] at N;rcases N with rfl|rfl|rfl|rfl|rfl|rfl <;> rfl) (by unfold maxLen;omega) (by omega) (XG J l.out.size) ?_
       intro v5 w5 d G _;have t:=Aa d;have O:=Aa G;clear d G))
   obtain⟨a',c',rfl,_⟩:=Au t.out;have z:=Ap L.out l.out;refine⟨⟨k+1,a',c',by omega,by simp,rfl,Aa ?_,Aa (z.grown O.out z.size (λj hj=>Fu R.out hj))⟩,by simp only[Ev];omega⟩;rw[U.out];simpa[Ci,nU,mO,sv] using t.out
  have ab:¬((k:Int)<(s.files.length:Int)):=by omega
  have aa:k=s.files.length:=by omega
  subst aa;have m:=R.out;rw[Ye] at m;have T:=Aa m;clear m;go_wp2;go_ret;exact⟨_,_,rfl,T.out,L.out⟩
def Uj(x:Ef):Bool:=decide (0<x.2.2.1)
theorem AES(w:Tw):PredBelow prog 113 #[] (λx:Ef=>Zg (Lv x).toArray) Uj w:=λW c hb=>by
 obtain⟨⟨p,r,m⟩,b,a,d⟩:=c;show Zc 113 #[Zg #[Zt p,Zi r,Zs b a d]] W _;have e:Hid (Uj ((p,r,m),b,a,d)=decide (0<a)):=rfl;generalize Uj ((p,r,m),b,a,d)=q at *
 by_cases hq:0<a
 ·have f:(0:Int)<(a:Int):=by omega
  go_enter func113,ntmps113;go_wp2
  all_goals (go_ret;exact⟨(by rw[e.out];simp[hq]),hb.alloc hb.size _⟩)
 have f:¬(0:Int)<(a:Int):=by omega
 go_enter func113,ntmps113;go_wp2
 all_goals (go_ret;exact⟨(by rw[e.out];simp[hq]),hb.alloc hb.size _⟩)
theorem dO(a:To)(c:Nat)(b:Tv)(w:Tw):Zc 166 #[Zs a 0 c,b] w λe d=>e=Zr (Zi (-1))/\d=w:=by go_enter func166,ntmps166;go_wp2_with fail;refine wp_loop_rounds 1 ?_;rw[rounds_succ];go_wp2;go_ret;exact⟨rfl,rfl⟩
theorem AF2(a:To)(c:Nat)(b:Tv)(w:Tw):Zc 112 #[Zs a 0 c,b] w λe d=>e=Zr (Zo false)/\d=w:=by go_enter func112,ntmps112;go_wp2_with fail;refine(dO a c _ _).mono ?_;rintro e f⟨rfl,rfl⟩;go_wp2;go_ret;exact⟨rfl,rfl⟩
theorem AGc(a:To)(c:Nat)(b:List Ef)(w:Tw)(h:w.ownsRow 0 65 3 (Zs a b.length c) b.length (A8 b))(y:b.length<=1000):
 Zc 112 #[Zs a b.length c,.func (.func 113) #[] #[]] w λe o=>e=Zr (Zo (b.any Uj))/\Zb w o:=by
 rcases h.2 with⟨e0,t⟩|⟨g,p,q,s,_,u,_,_,_⟩
 ·have:b=[]:=List.length_eq_zero_iff.1 t
  subst this;refine(AF2 a c _ w).mono ?_;rintro e o⟨rfl,rfl⟩;exact⟨rfl,XC _ _⟩
 injection s with l _ _;subst l;have r:∀args w,(callFunc 113 args).run prog w=.ok (.enter 113 args) w:=enters_of func113 (by kernel_rfl) rfl
 have f:∀j,j<b.length->∀i v,(Lv b[j]!)[i]? = some v->w.cell? ⟨g,0+j*3+i,none⟩=some v:=λj n i v x=>by have m:=h.cells (g:=g) rfl;simp only[E.addr_add] at m;have:=m (j*3+i) v (Hi (k:=3) (enc:=Lv) (λ_=>rfl) (by rw[Y' n,<-getElem!_pos b j n]) x);simpa using this
 have d:=AnyQ.slices_ContainsFunc layConE 3 isAgg65 sizeOf65 Lv (λ_=>rfl) Uj 113 #[] r g 0 b.length c b w (AES w) (XA _) (by omega) (E.Ac u) f;rw[Ye] at d;exact d
theorem AGE{w:Tw}{u:Tv}{d:List Ef}(h:X8 w s v u d):d.any Uj=!decide (∀e∈s.files,e.2.2=[]):=by
 have g:∀x∈d,x.2.2.1=x.1.2.2.length:=λx b=>by obtain⟨a,c,e,_⟩:=Au (h.Cl x b);obtain⟨_,m,n,o⟩:=x;unfold sv at e;injection e with _ e _
 rw[Bool.eq_iff_iff];simp only[List.any_eq_true,Bool.not_eq_true',decide_eq_false_iff_not,Uj,decide_eq_true_eq,h.files,List.mem_map];constructor
 ·rintro⟨x,b,f⟩j
  have i:=j _ ⟨x,b,rfl⟩;rw[g x b,i] at f;simp at f
 intro l;refine Classical.byContradiction λk=>l ?_
 rintro e⟨x,b,rfl⟩;refine List.length_eq_zero_iff.1 (Classical.byContradiction λf=>k ⟨x,b,?_⟩);rw[g x b];omega
theorem nW(s:Ah)(v:Int)(o:To)(n1 c1:Nat)(D:Int)(i:To)(n2 j:Nat)(n:Nat)(w:Tw)(u:Dl w s (K4 v o n1 c1 D i n2 j))(O5:s.files.length<=1000)(N:n<=100000):
 Zc 73 #[Zs i n2 j,Zi (n:Int)] w λe y=>∃q,e=Zr (Zo q)/\(q=true↔Tog s n)/\Zb w y:=by
 obtain⟨I,L,J,M,c,k,g⟩:=u;unfold K4 at k;simp only[Value.agg.injEq,Array.mk.injEq,List.cons.injEq,Value.int.injEq,Value.slice.injEq] at k;obtain⟨-,-,-,⟨p,r,t⟩,-⟩:=k;subst p t;have f:s.files.length=c.length:=by rw[g.files,Y8]
 have l:n2=c.length:=by omega
 subst l;have m:=AGE g;have a:=AGc i j c w g.row (by omega)
 have h:Hid ((!c.any Uj && decide (c.length<=(n+59) / 60))=true↔Tog s n):=Aa (by rw[m];unfold Tog n60;rw[f];simp)
 clear g f m r;generalize c.any Uj=z at *
 have x:(((n:Int)+60-1).tdiv 60)=(((n+59) / 60:Nat):Int):=by rw[Int.tdiv_eq_ediv_of_nonneg (by omega)];omega
 have G:=Aa x;go_enter func73,ntmps73;go_wp2_with fail;refine a.mono ?_;rintro e O⟨rfl,d⟩;have b:=Aa d;clear d a;cases z with
 | true=>go_wp2;go_ret;exact⟨_,rfl,h.out,b.out⟩
 | false=>
   by_cases hle:c.length<=(n+59) / 60
   ·go_wp2
    go_ret;exact⟨true,(by simp;omega),(by simpa[hle] using h.out),b.out⟩
   go_wp2;go_ret;exact⟨false,(by simp;omega),(by simpa[hle] using h.out),b.out⟩
theorem cH:∀l:List Gx,(Ci l).length=l.length*6
 | []=>rfl
 | c :: l=>by simp only[Ci,X2,XQ,XE];have:=cH l;simp only[Ci] at this;rw[this];simp[nU];omega
theorem yB(l:List Gx):∀u∈Ci l,u.oneCell'=true:=by
 intro u b;simp only[Ci,List.mem_flatMap] at b;obtain⟨c,_,a⟩:=b;simp only[nU,XS,XM,or_false] at a
 rcases a with rfl|rfl|rfl|rfl|rfl|rfl <;> rfl
theorem iQ(a b:List Gx):Ci (a++b)=Ci a++Ci b:=by simp[Ci]
theorem pL(n:Nat):(Builtin.zeroCells Mi.cells n).size=n*6:=by simp[Builtin.zeroCells,show Mi.cells.size=6 from rfl]
theorem AB8(n:Nat)(w:Tw)(o:1<=n)(p:n<=1000):
 Zc 115 #[Zs none 0 0,Zi n] w λe i=>∃k j,e=Zr (Zs (some ⟨k,0,none⟩) 0 j)/\i.ownsRow w.heap.size 144 6 (Zs (some ⟨k,0,none⟩) 0 j) 0 (Ci [])/\Zb w i:=by
 obtain⟨m,f,b⟩:=Option.map_eq_some_iff.1 gO;simp only[Prod.mk.injEq] at b;obtain⟨g,l,h⟩:=b;refine(Any8.slices_Grow_grow layGroA m Mi f g (by omega) none 0 0 n [] w (XA _) (by omega) (by rw[h];omega) (by omega) (by simp) (λ_=>rfl) (λa ha=>by cases ha)).mono ?_;rintro e i⟨rfl,rfl⟩;have d:0+n<=grownCap w (0+n) 0 144:=grownCap_ge w _ _ _;have c:grownCap w (0+n) 0 144<=maxLen:=grownCap_le_maxLen w (0+n) 0 144 (by unfold maxLen;omega);refine⟨_,_,rfl,?_,((XC _ _).drew).alloc (XA _) _⟩
 change (w.drew.alloc (Zk (#[]++Builtin.zeroCells Mi.cells (0+n-0)++Builtin.zeroCells Mi.cells (grownCap w (0+n) 0 144-(0+n))) 144)).ownsRow w.heap.size 144 6 (Zs (some ⟨w.heap.size,0,none⟩) 0 (grownCap w (0+n) 0 144)) 0 []
 generalize grownCap w (0+n) 0 144=G at d c;exact YQ (w:=w.drew) _ G (XA _) c (by simp only[Array.size_append,pL,Array.size_empty];omega)
theorem Oa{n:Array Oper}{rest:List Oper}{o:Oper}{a:Act}{Q:Exit->Act->Tw->Prop}{W:Tw}(i:o.guard=none)(s x:Operand)(z:o.op=.call { callee:=.builtin .append,args:=#[s,x],argTypes:=#[84,84] })(base g c:Nat)(l:List Gx)(D:a.eval s=Zs (some ⟨g,0,none⟩) l.length c)(b:W.ownsRow base 144 6 (Zs (some ⟨g,0,none⟩) l.length c) l.length (Ci l))(L:Nat)(J:Tv)(m:List Gx)(G:a.eval x=J)(y:W.ownsRow L 144 6 J m.length (Ci m))(U:l.length+m.length<=1000)(e:base<=W.heap.size)(h:∀q f p,Hid (p.ownsRow base 144 6 (Zs (some ⟨q,0,none⟩) (l.length+m.length) f) (l.length+m.length) (Ci (l++m))/\W.grownBy p (some g))->wpList prog n Q rest (a.put o.dst (Zs (some ⟨q,0,none⟩) (l.length+m.length) f)) p):wpList prog n Q (o :: rest) a W:=by
 obtain⟨I,j,k⟩:=Option.map_eq_some_iff.1 gO;simp only[Prod.mk.injEq] at k;obtain⟨r,t,u⟩:=k
 rcases Di y with⟨d,O⟩|⟨v,N,d,-,-,-,-⟩
 ·have:m=[]:=List.length_eq_zero_iff.1 O
  subst this d;refine wpList_append_own_none i s x 84 z base 144 I 6 underlying84 j _ _ _ D b G ?_;exact h g c W ⟨by simpa using b,World.grownBy.refl _ _⟩
 subst d;have T:=y.cells (g:=v) rfl;refine wpList_append_own W i s x 84 z base 144 I Mi 6 88 underlying84 j r t u rfl (by omega) _ _ _ D b ⟨v,0,none⟩ m.length N (Ci m) G (cH m) T (yB m) (by unfold maxLen;omega) (by omega) e ?_;intro v' p w P R
 rcases Di w with⟨d,_⟩|⟨q,M,d,-,-,-,-⟩
 ·exact absurd (R.1 d).1 (by simp)
 subst d;exact h q M p ⟨by rw[iQ];exact w,P⟩
theorem uO(p:Nat)(n o:To)(c1 q:Nat)(a b:List Gx)(u v:Nat)(w:Tw)(s:w.cell? ⟨p,0,none⟩=some (Zs n a.length c1))(t:w.cell? ⟨p,1,none⟩=some (Zs o b.length q))(J:p<w.heap.size)(G:w.ownsRow u 144 6 (Zs n a.length c1) a.length (Ci a))(I:w.ownsRow v 144 6 (Zs o b.length q) b.length (Ci b))(V:1<=a.length+b.length)(X:a.length+b.length<=1000):
 Zc 75 #[Zs (some ⟨p,0,none⟩) 2 2] w λe m=>∃i h,e=Zr (Zs (some ⟨i,0,none⟩) (a.length+b.length) h)/\m.ownsRow w.heap.size 144 6 (Zs (some ⟨i,0,none⟩) (a.length+b.length) h) (a.length+b.length) (Ci (a++b))/\Zb w m:=by
 have O:Hid (Zc 115 #[Zs none 0 0,Zi ((a.length:Int)+(b.length:Int))] w λe m=>∃i h,e=Zr (Zs (some ⟨i,0,none⟩) 0 h)/\m.ownsRow w.heap.size 144 6 (Zs (some ⟨i,0,none⟩) 0 h) 0 (Ci [])/\Zb w m):=by have:=AB8 (a.length+b.length) w V X;rwa[show ((a.length+b.length:Nat):Int)=(a.length:Int)+(b.length:Int) by omega] at this
 have M:=Aa G;have N:=Aa I;have x:Hid (∀W,Zb w W->W.cell? ⟨p,0,none⟩=some (Zs n a.length c1)/\W.cell? ⟨p,1,none⟩=some (Zs o b.length q)):=λW D=>⟨(D.cell (p:=⟨p,0,none⟩) J).trans s,(D.cell (p:=⟨p,1,none⟩) J).trans t⟩
 clear G I;have n1:¬(a.length:Int)<0:=by omega
 have n2:¬(a.length:Int)+(b.length:Int)<0:=by omega
 have Y:IntKind.i64.wrap ((a.length:Int)+(b.length:Int))=(a.length:Int)+(b.length:Int):=by rw[IntKind.wrap_i64];omega
 have n4:IntKind.i64.wrap (a.length:Int)=(a.length:Int):=by rw[IntKind.wrap_i64];omega
 go_enter func75,ntmps75;go_wp2;refine wp_loop_rounds 3 ?_;rw[rounds_succ];go_wp2;rw[rounds_succ];go_wp2;rw[rounds_succ]
 go_wp2_with (first
  | (go_at_call 115;refine O.out.mono ?_;rintro e w1⟨T,P,rfl,k,c⟩;obtain⟨r0,r1⟩:=x.out _ c))
 refine wp_loop_rounds 3 ?_;rw[rounds_succ];go_wp2_with (at_builtin;refine Oa rfl _ _ rfl w.heap.size T P [] rfl k u _ a rfl (Bc M.out c) (by simp;omega) c.size ?_;intro z y L f;have d:Zb w L:=c.grown f.out.2 c.size (λj hj=>by cases hj;exact(k.lt _ rfl).1);obtain⟨s0,s1⟩:=x.out _ d;have g:Hid (L.ownsRow w.heap.size 144 6 (Zs (some ⟨z,0,none⟩) a.length y) a.length (Ci a)):=Aa (by have:=f.out.1;simpa using this);clear f);rw[rounds_succ];go_wp2_with (at_builtin;refine Oa rfl _ _ rfl w.heap.size z y a rfl g.out v _ b rfl (Bc N.out d) (by omega) d.size ?_;intro U R w5 l;have r:Zb w w5:=d.grown l.out.2 d.size (λj hj=>by cases hj;exact(g.out.lt _ rfl).1));rw[rounds_succ];go_wp2;go_ret;exact⟨U,R,rfl,l.out.1,r⟩
attribute [local go_sem] Oper.semAt_some
theorem qS(b:To)(len a:Nat)(w:Tw):
 Zc 74 #[Zs b len a,Zi 60] w λe c=>e=Zr (.func (.func 114) #[] #[Zp (some ⟨w.heap.size,0,none⟩),Zp (some ⟨w.heap.size+1,0,none⟩)])/\c=(w.alloc (Zk #[Zs b len a] 35)).alloc (Zk #[Zi 60] 3):=by
 go_enter func74,ntmps74;go_wp2;go_ret;exact⟨rfl,rfl⟩
abbrev CK6(n:Nat):={ k:Nat // 60*k<n }
def AG1{n:Nat}(x:CK6 n):Nat:=x.1
def nE(n k:Nat):Nat:=if n-60*k<60 then n-60*k else 60
def ACt(b off n:Nat)(k:CK6 n):Value:=.slice (some ⟨b,off+60*k.1,none⟩) (nE n k.1) (nE n k.1)
theorem xD(n:Nat)(_hn:1<=n)(l h g b off len a:Nat)(r:To)(d:0<len->r=some ⟨b,off,none⟩)(hlen:len<=100000)(N:len<=a)(J I:List (CK6 len)->Tw->Prop)(y:∀pre W,J pre W->J pre W.drew)(hY:∀pre x W,J pre W->pre.length<n60 len->YieldAt Fence.wide (n-1) prog l #[ACt b off len x] W λe f=>
   (e=Zr (Zo true)/\J (pre++[x]) f/\KpC h g W f)\/(e=Zr (Zo false)/\I (pre++[x]) f))(W:Tw)(u:W.cell? ⟨h,0,none⟩=some (Zs r len a))(t:W.cell? ⟨g,0,none⟩=some (Zi 60))(h0:J [] W):
 CallsIn Fence.wide n prog 114 #[.func (.yield l) #[] #[],Zp (some ⟨h,0,none⟩),Zp (some ⟨g,0,none⟩)] W λe f=>(∃v,e=Zr v) /\
  ((∃T:List (CK6 len),T.map AG1=List.range (n60 len)/\J T f)\/(∃pre:List (CK6 len),True/\I pre f)):=by
 refine callsIn_of_wp func114 rfl trivial ?_ rfl;simp only[ntmps114,X4,XE,Wb,Nat.reduceAdd,Nat.reduceSub,XV,XW,X6,XZ,WA,XT];gi_wp2
 gi_loopw [4] (λi wr=>∃(k:Nat)(pre:List (CK6 len)),k<=n60 len/\i=Zi ((60*k:Nat):Int)/\pre.map AG1=List.range k/\J pre wr/\wr.cell? ⟨h,0,none⟩=some (Zs r len a)/\wr.cell? ⟨g,0,none⟩=some (Zi 60))
  (λi _=>len+60-(intOf i).toNat)
 case atStart=>exact⟨0,[],Y9 _,rfl,rfl,h0,u,t⟩
 case round=>
  obtain⟨k,pre,hk,rfl,c,j,R,q1⟩:=hrel;have D:pre.length=k:=by have:=congrArg List.length c;simpa using this
  by_cases hlt:60*k<len
  ·obtain⟨fn,tmps,assign,body,G,hR⟩:=hY pre ⟨k,hlt⟩ wr.drew (y _ _ j) (by rw[D];unfold n60;omega)
   have s:Hid (60*k<len):=Aa hlt;have z:k<n60 len:=by unfold n60;omega
   obtain⟨m,q⟩:∃m,60*k=m:=⟨_,rfl⟩;have M:nE len k=(((m:Int)+min 60 ((len-m:Nat):Int)).toNat-m):=by unfold nE;rw[q];split <;> omega
   unfold ACt at G;dsimp only at G;rw[M,q] at G;rw[q] at hlt ⊢;have O:(m:Int)<(len:Int):=by omega
   have P:(m:Int)<=(len:Int):=by omega
   have ac:(0:Int)<=(m:Int):=by omega
   have aa:¬a=m:=by omega
   have ad:m<=a:=by omega
   have U:=Aa q;have X:=Aa R;rw[d (by omega)] at R;have V:=Aa d;clear d;clear M q;gi_wp2;refine wpIn_wide.2 ?_
   go_region
   all_goals gi_wp2
   refine hR.mono ?_;rintro e L (⟨rfl,w,p⟩|⟨rfl,o⟩)
   ·have p0:L.cell? ⟨h,0,none⟩=some (Zs r len a):=p.1.trans X.out
    have p1:L.cell? ⟨g,0,none⟩=some (Zi 60):=p.2.trans q1;gi_wp2
    go_roundw
    case rel=>
     refine⟨k+1,pre++[⟨k,s.out⟩],z,?_,?_,w,p0,p1⟩
     ·have:=U.out
      congr 1;omega
     rw[XJ,c,List.range_succ];rfl
    case measure=>simp[intOf];omega
   gi_wp2;refine bodyPost_ret (results_none rfl _ _ _) rfl ?_;exact⟨⟨_,rfl⟩,.inr ⟨_,trivial,o⟩⟩
  have ab:¬((60*k:Nat):Int)<(len:Int):=by omega
  have Y:k=n60 len:=by unfold n60 at hk ⊢;omega
  gi_wp2
  go_end0
  exact⟨⟨_,rfl⟩,.inl ⟨pre,by rw[c,Y],j⟩⟩
theorem jC(n:Nat)(o:1<=n)(d c b off len a:Nat)(k:To)(j:0<len->k=some ⟨b,off,none⟩)(hlen:len<=100000)(f:len<=a)(w:Tw)(i:d<w.heap.size)(g:c<w.heap.size)(q:w.cell? ⟨d,0,none⟩=some (Zs k len a))(m:w.cell? ⟨c,0,none⟩=some (Zi 60)):
 SeqStopsK Fence.wide n prog 114 #[Zp (some ⟨d,0,none⟩),Zp (some ⟨c,0,none⟩)] (λx:CK6 len=>#[ACt b off len x]) (KpC d c) (λys=>ys.map AG1=List.range (n60 len)) (λ_=>True) (n60 len) w:=λl J Jx W hW hJ _ hY h0=>
 xD n o l d c b off len a k j hlen f J Jx (λpre W h=>hJ pre W _ none h ⟨rfl,rfl,rfl,XA _,λ_ _ _=>rfl⟩ (λr e=>by cases e)) hY W ((hW.cell (p:=⟨d,0,none⟩) i).trans q) ((hW.cell (p:=⟨c,0,none⟩) g).trans m) h0
variable{W w:Tw}{u v:Tv}{i:Nat}{s:Ah}{L:List Gx}{D:Td}{x:Int}{R:List (List V)}
theorem qF{b off n c:Nat}{rows:List (List V)}(h:iJ w (Zs (some ⟨b,off,none⟩) n c) rows)(J:n=rows.length)(k:CK6 rows.length):iJ w (ACt b off rows.length k) (Gg rows k.1):=by
 obtain⟨m,q,s,t⟩:=h;have I:=k.2;obtain⟨z,l,D,e,G,v,a⟩:=q.cons (by omega);injection e with g _ _;injection g with g;injection g with o p _;subst o p;have y:(Gg rows k.1).length=nE rows.length k.1:=by simp only[Gg,XF,X',nE];split <;> omega
 have d:((m.drop (60*k.1)).take 60).length=nE rows.length k.1:=by simp only[XF,X',nE,s];split <;> omega
 refine⟨(m.drop (60*k.1)).take 60,⟨_,nE rows.length k.1,by rw[d];rfl,by rw[d];exact XA _,λ_=>⟨b,off+60*k.1,rfl,v,λj x hx i u hu=>?_⟩⟩,by rw[y,d],λj x r hx hr=>?_⟩
 ·have f:j<60:=by have:=Ax hx;rw[XF] at this;omega
  rw[Yl f,XR] at hx;have:=a (60*k.1+j) x hx i u hu;rwa[show off+(60*k.1+j)*1+i=off+60*k.1+j*1+i by omega] at this
 have f:j<60:=by have:=Ax hx;rw[XF] at this;omega
 rw[Yl f,XR] at hx;unfold Gg at hr;rw[Yl f,XR] at hr;exact t _ x r hx hr
theorem jX(b:Tb)(l:List Aj)(p:List (List V)):∀(a:List (List (List V)))(k:Nat)(D:Td),Km b l k (a++[p]) D=(Km b l k a D).put (B.lit (Eh (Bw b (k+a.length)))) (Pa l p)
 | [],k,D=>by simp[Km]
 | q :: a,k,D=>by show Km b l (k+1) (a++[p]) _=_;rw[jX b l p a (k+1)];simp only[Km,XE];rw[show k+1+a.length=k+(a.length+1) by omega]
theorem ACh(b:Tb)(k:Nat)(a:List (List (List V)))(p:List (List V)):N5 b k (a++[p])=N5 b k a++[(1,Bw b (k+a.length),(p.length:Int),[],[],0)]:=by unfold N5;rw[List.zipIdx_append];simp
theorem eQ(b:Tb)(k:Nat)(a:List (List (List V))):(N5 b k a).length=a.length:=by simp[N5]
theorem V4{b e z n:Nat}{xs:List Tv}{row:Option Nat}(h:w.ownsRow b e z v n xs)(m:w.grownBy W row)(p:∀r,row=some r->∃o:Obj,w.heap[r]? = some o/\o.isCells=false):W.ownsRow b e z v n xs:=by
 refine⟨h.1,?_⟩
 rcases h.2 with k|⟨g,c,a,q,d,f,i⟩
 ·exact .inl k
 refine .inr ⟨g,c,a,q,d,(m.block g (Ac f) (λe=>?_)).trans f,i⟩;obtain⟨o,j,l⟩:=p g e.symm;rw[f] at j;cases j;cases l
theorem vX{cs:Array Tv}{t:TypeId}{row:Option Nat}(h:w.heap[i]? = some (Zk cs t (0,0)))(c:w.grownBy W row)(d:∀r,row=some r->∃o:Obj,w.heap[r]? = some o/\o.isCells=false):W.heap[i]? = some (Zk cs t (0,0)):=by refine(c.block i (Ac h) (λe=>?_)).trans h;obtain⟨o,a,b⟩:=d i e.symm;rw[h] at a;cases a;cases b
theorem Dv.no{base:Nat}{n:Nat}{v:Int}{d:To}{n1 c1:Nat}{y:Int}{f:To}{n2 k:Nat}{t:Tb}{l:Bool}{g:To}{rows:Int}{row:Option Nat}(h:Dv base w n s v d n1 c1 y f n2 k t l g i L rows)(a:w.grownBy W row)(b:∀r,row=some r->∃o:Obj,w.heap[r]? = some o/\o.isCells=false):Dv base W n s v d n1 c1 y f n2 k t l g i L rows:=by refine⟨vX h.box a b,?_,V4 h.row a b,λq j=>⟨V4 (h.own q j).1 a b,V4 (h.own q j).2 a b⟩,h.Vv,h.low⟩;obtain⟨p,z,u,D,m,e,c⟩:=h.snap;exact⟨p,z,u,D,m,e,V4 c.cols a b,c.files,V4 c.row a b,λx G=>V4 (c.Cl x G) a b⟩
theorem bF{w0 w W:Tw}{j bb n d:Nat}{fs:List Int}{row:Option Nat}{B0:Nat}(h:Ey w0 w j bb n D fs (.map (some d)) v)(s:d<B0)(u:w0.heap.size<=B0)(a:w.grownBy W row)(f:∀r,row=some r->B0<=r/\∃o:Obj,w.heap[r]? = some o/\o.isCells=false):Ey w0 W j bb n D fs (.map (some d)) v:=by
 have l:B.A0 (λi=>row=some i) w W:=⟨a.os,a.tape,a.output,a.size,λk s hn=>a.block k s (λe=>hn e.symm)⟩;refine⟨h.bu.only l (λe=>?_) (λm e q=>?_) (λp x b q=>?_),l.below h.low h.low.size (λi q=>XG u (f i q).1),h.hb,h.hm,h.er,h.nc,h.tb,h.hf⟩
 ·obtain⟨_,o,c,b⟩:=f bb e
  have g:w.heap[bb]? = _:=h.bu.1;rw[g] at c;cases c;cases b
 ·cases e
  have:=(f _ q).1;omega
 obtain⟨_,o,c,t⟩:=f _ q;unfold World.cell? at b;rw[c] at b;cases o <;> simp_all [Obj.isCells]
def CmI(w0:World)(e bb n:Nat)(D:DataW Unit)(c base l:Nat)(s:Ah)(v:Int)(f:Option Addr)(n1 c1:Nat)(m:Int)(g:Option Addr)(n2 j:Nat)(d:ByteArray)(rows:Int)(R:List (List V))(W8:World)(pre:List (CK6 R.length))(W:World):Prop :=
 ∃n' a b h i L,Ey w0 W e bb n' (Km d s.cols 0 (pre.map λk=>Gg R k.1) D) a (.map (some c)) b/\n'<=n+pre.length/\Dv base W l s v f n1 c1 m g n2 j d true h i L rows /\
  L.map (·.1)=N5 d 0 (pre.map λk=>Gg R k.1)/\(∀k∈pre,De s.cols (Gg R k.1)=true)/\Mv base bb (.map (some c)) (.map (some c)) W8 W
theorem CmI.own{w0:Tw}{k bb n:Nat}{i base j:Nat}{v:Int}{l:To}{n1 c1:Nat}{p:To}{n2 d:Nat}{t:Tb}{rows:Int}{W8:Tw}{B0:Nat}(J:i<B0)(N:w0.heap.size<=B0)(O:W8.heap.size<=B0):OwnFrom B0 (CmI w0 k bb n D i base j s v l n1 c1 x p n2 d t rows R W8):=λpre A C row M f g=>by
 obtain⟨n',a,b,q,u,L,w,y,z,G,I,c⟩:=M;have h:∀r,row=some r->∃o:Obj,A.heap[r]? = some o/\o.isCells=false:=λr e=>(g r e).2
 exact⟨n',a,b,q,u,L,bF w J N f g,y,z.no f h,G,I,⟨c.only.grown f (λm e P=>by have:=(g m e).1;omega),c.link,c.stay⟩⟩
theorem CmI.keeps{w0:Tw}{i bb n:Nat}{fs:List Int}{j base:Nat}{B0:Nat}(h:Ey w0 W i bb n D fs (.map (some j)) v)(l:j<B0)(d:Mv base bb (.map (some j)) (.map (some j)) W w):KeepsFrom B0 W w:=by
 refine⟨d.only.size,λk o g a c=>(d.only.block k (Array.getElem?_eq_some_iff.1 a).1 ?_).trans a⟩;rintro((e|e)|⟨_,cs,T,f,_⟩)
 ·subst e
  have b:W.heap[k]? = _:=h.bu.1;rw[b] at a;cases a;cases c
 ·cases e
  omega
 rw[f] at a;cases a;cases c
theorem CmI.step{w0:Tw}{i bb n:Nat}{j base m:Nat}{v:Int}{b:To}{n1 c1:Nat}{c:To}{n2 d:Nat}{t:Tb}{rows:Int}{W8 W w:Tw}{pre:List (CK6 R.length)}{k:CK6 R.length}{n' p:Nat}{z:List Int}{e:To}{g:Nat}(J:n'<=n+pre.length)(f:L.map (·.1)=N5 t 0 (pre.map λk=>Gg R k.1))(l:∀k∈pre,De s.cols (Gg R k.1)=true)(o:Mv base bb (.map (some j)) (.map (some j)) W8 W)(r:Ey w0 w i bb p ((Km t s.cols 0 (pre.map λk=>Gg R k.1) D).put (B.lit (Eh (Bw t L.length))) (Pa s.cols (Gg R k.1))) z (.map (some j)) u)(M:p<=n'+1)(y:Mv base bb (.map (some j)) (.map (some j)) W w)(I:De s.cols (Gg R k.1)=true)(G:Dv base w m s v b n1 c1 x c n2 d t true e g (L++[noA (Bw t L.length) (Gg R k.1).length]) rows):CmI w0 i bb n D j base m s v b n1 c1 x c n2 d t rows R W8 (pre++[k]) w:=by
 have h:L.length=pre.length:=by have:=congrArg List.length f;rw[Y8,eQ,Y8] at this;exact this
 refine⟨p,z,u,e,g,_,?_,by rw[XQ];simp;omega,G,?_,?_,o.trans y⟩
 ·rw[XJ,Y2,jX,Y8,WB,<-h]
  exact r
 ·rw[XJ,XJ,Y2,Y2,ACh,f,Y8,WB,h]
  rfl
 intro q a
 rcases List.mem_append.1 a with a|a
 ·exact l q a
 simp at a;subst a;exact I
theorem lC(a:Tb)(c:Plain a)(l:List Aj):∀(b:List (List (List V)))(k:Nat)(D:Td)(j:Nat),k+b.length<=j->j<=1000000->Maps.has D (B.lit (Eh (Bw a j)))=false->Maps.has (Km a l k b D) (B.lit (Eh (Bw a j)))=false
 | [],_,_,_,_,_,h=>h
 | p :: b,k,D,j,hk,hj,h=>by
   simp at hk;refine lC a c l b (k+1) _ j (by omega) hj ?_;rw[Maps.has_put_other (λe=>?_)]
   ·exact h
   have:=(S5 c c (Uw (B.Jr e))).2 (by omega) (by omega);omega
theorem Xo(a:Tb)(f:Plain a)(l:List Aj)(D:Td):∀(c:List (List (List V)))(k:Nat)(b:Td),k+c.length<=1000->Grown a D b->(∀j,k<=j->j<=1000->Maps.has b (B.lit (Eh (Bw a j)))=false)->Grown a D (Km a l k c b)
 | [],_,_,_,h,_=>h
 | p :: c,k,b,hk,h,hf=>by
   simp at hk;refine Xo a f l D c (k+1) _ (by omega) (.put k _ h (hf k (XA _) (by omega))) (λj g d=>?_);rw[Maps.has_put_other (λe=>?_)]
   ·exact hf j (by omega) d
   have:=(S5 f f (Uw (B.Jr e))).2 (by omega) (by omega);omega
theorem fM(a:Tb)(d:Plain a)(l:List Aj)(D:Td)(c:∀k,Maps.has D (B.lit (Eh (Bw a k)))=false)(b:List (List (List V)))(h:b.length<=100):Grown a D (Km a l 0 b D) :=
 Xo a d l D b 0 D (by omega) .refl λj _ _=>c j
theorem AGz{w0 w:Tw}{k bb n:Nat}{fs:List Int}{mv v:Tv}{H:List (Dn×Ah)}{U:List Tb}{s:Tb}(h:iK w0 w k bb n D fs mv v H U s)(c:(Ae H H.length).cols≠[]):∃a,mv=.map (some a)/\a<w.heap.size:=by
 have f:B.Th w mv n D:=h.base.bu.2.1
 rcases f with⟨g,b⟩|⟨m,e,d⟩
 ·exfalso
  cases H with
  | nil=>exact c rfl
  | cons x H=>have:=((h.inv.Lm.2 0 (by omega)).1 x.1 rfl).1;rw[b] at this;exact absurd this (by simp[Maps.has])
 exact⟨m,e,B.Th.lt (.inr ⟨m,e,d⟩) e⟩
theorem Uu{w0 W:Tw}{j bb n d b:Nat}{fs:List Int}{x:Tv}{t:TypeId}(h:Ey w0 W j bb n D fs (.map (some d)) u)(l:W.heap[b]? = some (Zk #[x] t))(r:∀i,x≠Zi i)(f:b≠bb)(g:b≠d)(o:w0.heap.size<=b)(v:Tv):Ey w0 (W.setCell ⟨b,0,none⟩ v) j bb n D fs (.map (some d)) u:=by
 have a:=E.Ar W b 0 v;have c:B.A0 (λi=>i=b) W (W.setCell ⟨b,0,none⟩ v):=⟨a.os,a.tape,a.output,a.size,λk hk hn=>a.block k hk (λe=>hn (Yu e))⟩;refine⟨h.bu.only c (λe=>f e.symm) (λm e q=>?_) (λp y hc q=>?_),c.below h.low h.low.size (λi q=>by rw[q];exact o),h.hb,h.hm,h.er,h.nc,h.tb,h.hf⟩
 ·cases e
  exact g q.symm
 obtain⟨s,off,st⟩:=p;simp only at q;subst q;unfold World.cell? at hc;simp only[l] at hc
 rcases off with _|off
 ·cases st <;> simp at hc
  exact r _ hc
 cases st <;> simp at hc
variable{W w:Tw}{n:Nat}{u v:Tv}
attribute [local go_sem] Oper.semAt_some
theorem one_cell{b:Nat}{x:Tv}{T:TypeId}(h:W.heap[b]? = some (Zk #[x] T)):W.cell? ⟨b,0,none⟩=some x:=by simp[World.cell?,h]
theorem Dv.far{base:Nat}{w:Tw}{n:Nat}{s:Ah}{v:Int}{f:To}{n1 c1:Nat}{y:Int}{g:To}{n2 k:Nat}{p:Tb}{D:Bool}{j:To}{i:Nat}{L:List Gx}{rows:Int}{W:Tw}{b:Nat}{cs:Array Tv}{t:TypeId}(h:Dv base w n s v f n1 c1 y g n2 k p D j i L rows)(a:w.heap[b]? = some (Zk cs t (0,0)))(o:w.grownBy W (some b))(O:t≠116)(P:t≠144)(R:t≠72)(U:t≠65)(V:t≠3):Dv base W n s v f n1 c1 y g n2 k p D j i L rows:=by
 have c:∀{l z m:Nat}{T:TypeId}{u:Tv}{xs:List Tv},w.ownsRow l T z u m xs->t≠T->W.ownsRow l T z u m xs:=λY X=>Mk Y a X o
 refine⟨(o.block n (Ac h.box) ?_).trans h.box,?_,c h.row P,λq r=>⟨c (h.own q r).1 (by assumption),c (h.own q r).2 (by assumption)⟩,h.Vv,h.low⟩
 ·intro e
  injection e with e;subst e;rw[h.box] at a;injection a with a;injection a with _ a;exact O a.symm
 obtain⟨I,M,J,N,G,e,d⟩:=h.snap;exact⟨I,M,J,N,G,e,c d.cols R,d.files,c d.row U,λx hx=>c (d.Cl x hx) V⟩
theorem AGq{P:Program}{c:Code}{K:Act->Tw->Prop}{Q:Exit->Act->Tw->Prop}{a:Act}(h:c.wp P (Exit.then K (λ_ _ _=>False)) a w):c.wp P (Exit.then K Q) a w :=
 wp_mono h λe _ _ q=>by
  cases e with
  | normal=>exact q
  | _=>exact q.elim
theorem AKh{b:Nat}{u f a e c d j g:Tv}{t:TypeId}(h:W.heap[b]? = some (Zk #[u,f,a,e,c,d,j,g] t (0,0)))(v:Tv):(W.setCell ⟨b,6,none⟩ v).heap[b]? = some (Zk #[u,f,a,e,c,d,v,g] t (0,0)):=by have i:=As W b 6 _ _ v h;simpa using i
theorem Dv.Bz{base:Nat}{s:Ah}{v:Int}{l:To}{n1 c1:Nat}{y:Int}{o:To}{n2 k:Nat}{t:Tb}{r:Bool}{G:To}{i:Nat}{L:List Gx}{rows:Int}{g m c:Nat}{a:List Gx}(h:Dv base w n s v l n1 c1 y o n2 k t r G i L rows)(V:w.ownsRow base 144 6 (Zs (some ⟨g,0,none⟩) m c) m (Ci a))(U:m=a.length)(p:∀q∈a,pC 0 w q)(P:∀q∈a,pM q.1):Dv base (w.setCell ⟨n,6,none⟩ (Zs (some ⟨g,0,none⟩) m c)) n s v l n1 c1 y o n2 k t r (some ⟨g,0,none⟩) c a rows:=by
 subst U;have R:=E.Ar w n 6 (Zs (some ⟨g,0,none⟩) a.length c);have d:∀{b z m:Nat}{T:TypeId}{u:Tv}{xs:List Tv},w.ownsRow b T z u m xs->T≠116->(w.setCell ⟨n,6,none⟩ (Zs (some ⟨g,0,none⟩) a.length c)).ownsRow b T z u m xs:=λW O=>Mk W h.box (λe=>O e.symm) R
 refine⟨AKh h.box _,?_,d V (by decide),λq f=>⟨d (p q f).1 (by decide),d (p q f).2 (by decide)⟩,P,h.low⟩;obtain⟨I,M,J,N,D,e,j⟩:=h.snap;exact⟨I,M,J,N,D,e,d j.cols (by decide),j.files,d j.row (by decide),λx X=>d (j.Cl x X) (by decide)⟩
theorem AEx(h:w.cell? ⟨n,3,none⟩=some u):(w.setCell ⟨n,6,none⟩ v).cell? ⟨n,3,none⟩=some u:=by rw[YN _ _ _ _ (by simp)];exact h
theorem Ei{n b:Nat}(a:b≠n)(h:w.cell? ⟨b,0,none⟩=some u):(w.setCell ⟨n,6,none⟩ v).cell? ⟨b,0,none⟩=some u:=by rw[World.cell?_setCell_far _ _ _ _ (Ne.symm a)];exact h
def ldA:Oper:={ dst:=some 52,op:=Op.load 84 (Operand.tmp 51),type:=84,pos := "rows.go:83",after:=#[{ on:=10,ground:=Ground.data }],guard:=none }
theorem AGS:ldA={ dst:=some 52,op:=Op.load 84 (Operand.tmp 51),type:=84,pos := "rows.go:83",after:=#[{ on:=10,ground:=Ground.data }],guard:=none }:=rfl
theorem rK(w0:Tw)(NF bb n:Nat)(D:Td)(fs:List Int)(mv fv:Tv)(H:List (Dn×Ah))(U:List Tb)(tx:Tb)(xs:List A6)(w:Tw)(h:iK w0 w NF bb n D fs mv fv H U tx)(hT:C7 D (Ae H H.length) xs):
 Zc 41 #[Zp (some ⟨bb,0,none⟩),Zt tx] w (Kd w0 w NF bb n D mv H tx True (AEz D (Ae H H.length) xs tx)):=by
 have HS:=Aa h;have HT:=Aa hT;obtain⟨eh,hX,hY,hZ,bn⟩:=Jl w (Zk #[Zp (some ⟨bb,0,none⟩)] 26) (Zk #[Zp none] 76) (Zk #[Zn] 32);have h3:=h.up bn;have a5:=Aa (Wo bb n D mv H tx xs .nil (Zp none) _ h3.base.ground (h3.et.below h3.base.low) (h3.Pw.below h3.base.low) h3.inv.Lm h3.inv.past h3.O5 h3.name h3.short hT.Lz rfl);have bg:=aN hT h.Of .nil;have d2:=h.Of.Iz;have a4:=Aa bn;have HX:=Aa (And.intro hX (And.intro hY hZ));have ad:=Aa h3;clear h hT h3 hX hY hZ bn;unfold tK at a5;generalize c8:Ae H H.length=y at *;have au:=Aa c8;clear c8;refine(callsIn_wide (n:=5)).1 ?_;refine callsIn_of_wp_marks func41 rfl trivial ?_ rfl;simp only[ntmps41,X4,XE,Wb,Nat.reduceAdd,Nat.reduceSub,XV,XW,X6,XZ,WA,XT];refine wpIn_wide.2 ?_;go_wp2_with fail;generalize ((w.alloc (Zk #[Zp (some ⟨bb,0,none⟩)] 26)).alloc (Zk #[Zp none] 76)).alloc (Zk #[Zn] 32)=W3 at *;refine a5.out.mono ?_;rintro e w1⟨am,⟨hc,rfl⟩|⟨hc,dv,rfl⟩|⟨hc,hz,g,v1,a1,n1,c1,x2,a2,n2,c2,rfl,hP,hF⟩⟩
 ·have r1:=(am.block (w.heap.size+1) (by omega)).trans HX.out.2.1
  have r2:=(am.block (w.heap.size+2) (by omega)).trans HX.out.2.2;have b6:=Aa (Ap a4.out am);have hA:Zb w1 (w1.alloc (Zk #[Zp none] 76)):=Zal;have HA:=Aa hA;have db:=(hA.block _ (Ac r1)).trans r1;have bf:=(hA.block _ (Ac r2)).trans r2;have f1:=one_cell db;have f2:=one_cell bf;have g1:=frozen_of_row _ (w.heap.size+1) 0 _ _ db;have g2:=frozen_of_row _ (w.heap.size+2) 0 _ _ bf;clear hc am a5 hA r1 r2;go_wp2;refine⟨Zu #[Zp none,Zf 90 (Zi 6)],by simp[results,results41,go_sem,f1,f2],?_⟩;have az:=((Ap b6.out HA.out).setCell (p:=⟨w.heap.size+1,0,none⟩) (WC _) (Zp none)).setCell (p:=⟨w.heap.size+2,0,none⟩) (by show w.heap.size<=w.heap.size+2;omega) (Zf 90 (Zi 6));exact⟨n,D,fs,mv,fv,HS.out.base.up az,by omega,B.A0.Ba az,λ_ e=>.inl e,.refl,.inr ⟨trivial,_,_,rfl⟩⟩
 ·exact absurd (dB _) dv
 have b6:=Aa am;have HC:=Aa hc;have HP:=Aa hP;have HF:=Aa hF
 obtain⟨fa,fc,rfl,_⟩:∃a c,v1=Zs a (Bo y.cols .nil xs).1.length c/\(Bo y.cols .nil xs).1.length<=c:=by obtain⟨zs,_,e2,_⟩:=hF;exact Au e2
 have hA:Zb w1 (w1.alloc (Zk #[Zp (some ⟨g,0,none⟩)] 76)):=Zal;have HA:=Aa hA;have bw:=heap_alloc_new w1 (Zk #[Zp (some ⟨g,0,none⟩)] 76);have N:=Aa bw;have p0:=one_cell bw;have ck:=Aa (hP.up hA);obtain⟨y0,y1,y2,y3,y4,y5,y6,y7,yf⟩:=F2 (hP.up hA).box;have a7:=Aa (nW y (H.length:Int) a1 n1 c1 x2 a2 n2 c2 (Bo y.cols .nil xs).1.length _ (hP.up hA).snap (by omega) (by omega));have di:Hid (Zb W3 (w1.alloc (Zk #[Zp (some ⟨g,0,none⟩)] 76))):=Aa (Ap am hA);clear am hc hz hP hF a5 hA bw;generalize c3:(Bo y.cols .nil xs).1.length=m at *;have ar:=Aa c3;clear c3;go_wp2_with fail;refine a7.out.mono ?_;rintro e w6⟨q,rfl,hq,bc⟩;have HQ:=Aa hq;have M:=Aa bc;have aw:=Aa (Ap di.out bc);have p6:=Ag bc p0;clear bc hq a7 y0 y1 y2 y3 y4 y5 y6 y7 yf p0;cases q with
 | true=>have a7:=Aa (HQ.out.1 rfl);clear HQ;have r1:=(aw.out.block (w.heap.size+1) (by omega)).trans HX.out.2.1;have r2:=(aw.out.block (w.heap.size+2) (by omega)).trans HX.out.2.2;have f1:=one_cell r1;have f2:=one_cell r2;have g1:=frozen_of_row w6 (w.heap.size+1) 0 _ _ r1;have g2:=frozen_of_row w6 (w.heap.size+2) 0 _ _ r2;go_wp2;refine⟨Zu #[Zp (some ⟨g,0,none⟩),Zn],by simp[results,results41,go_sem,f1,f2],?_⟩;have az:Zb w ((w6.setCell ⟨w.heap.size+1,0,none⟩ (Zp (some ⟨g,0,none⟩))).setCell ⟨w.heap.size+2,0,none⟩ Zn):=((Ap a4.out aw.out).setCell (p:=⟨w.heap.size+1,0,none⟩) (WC _) _).setCell (p:=⟨w.heap.size+2,0,none⟩) (by show w.heap.size<=w.heap.size+2;omega) _;have q1:=(ck.out.up M.out).far r1 (E.Ar w6 (w.heap.size+1) 0 (Zp (some ⟨g,0,none⟩))) (by decide) (by decide) (by decide) (by decide) (by decide);have bf:=((E.Ar w6 (w.heap.size+1) 0 (Zp (some ⟨g,0,none⟩))).block (w.heap.size+2) (Ac r2) (by simp)).trans r2;have q2:=q1.far bf (E.Ar _ (w.heap.size+2) 0 Zn) (by decide) (by decide) (by decide) (by decide) (by decide);exact⟨n,D,fs,mv,fv,HS.out.base.up az,by omega,B.A0.Ba az,λ_ e=>.inl e,.refl,.inl ⟨g,[],true,(m:Int),a1,n1,c1,x2,a2,n2,c2,none,0,rfl,by rw[au.out];exact⟨q2.box,q2.snap,E.Ai q2.row (by omega),q2.own,q2.Vv,by have:=q2.low;omega⟩,HC.out,rfl,(by rw[ar.out]),.inl ⟨(by rw[ar.out];exact a7.out),rfl,rfl⟩⟩⟩
 | false=>
   have cf:Hid (¬Tog y m):=Aa (λh=>by cases HQ.out.2 h);clear HQ;obtain⟨R,hR⟩:∃R,R=Fc y.cols xs:=⟨_,rfl⟩;have dm:R.length=m:=by rw[hR];unfold Fc;rw[Y8];exact ar.out
   have cm:=Aa (X7 W3.heap.size W3.heap.size (Zs fa m fc) (Bo y.cols .nil xs).1 w6 ((HF.out.up HA.out).up M.out) (by rw[ar.out];omega));have HR:=Aa hR;clear hR;subst dm;go_wp2_with fail;refine cm.out.mono ?_;rintro e w7⟨v7,rfl,hJ,cy⟩;have bs:Sc w6.heap.size w7 v7 R:=by rw[HR.out];exact hJ.o
   have cu:=bs.slr;obtain⟨ra,rc,rfl,dw⟩:=cu.slice;have ci:=Aa bs;have aq:=Aa cy;have b9:=Aa (qS ra R.length rc w7);clear cm hJ cy bs cu;go_wp2_with fail;refine b9.out.mono ?_;rintro e w8⟨rfl,rfl⟩;clear b9;obtain⟨ek,cw,cs,bt⟩:=Kt w7 (Zk #[Zs ra R.length rc] 35) (Zk #[Zi 60] 3);have l:=Aa (Ap (Ap aw.out aq.out) bt);go_wp2_with fail;generalize (w7.alloc (Zk #[Zs ra R.length rc] 35)).alloc (Zk #[Zi 60] 3)=W9 at *
   have cn:Hid (∀r∈R,∀v∈r,Ks v/\v.2.2.size<=40):=Aa (λr hr v hv=>by rw[HR.out] at hr;obtain⟨z,hz,rfl⟩:=List.mem_map.1 hr;exact No HT.out (by rw[<-au.out];exact HS.out.Of) (by rw[<-au.out];exact Mq HS.out.inv.past (XA _)) z hz v hv)
   obtain⟨k0,ds,ec⟩:=AGz HS.out (by rw[au.out];exact HC.out);subst ds;have ej:=aq.out.size;have ei:=aw.out.size;have af:=Aa bt;have dr:W9.cell? ⟨w7.heap.size,0,none⟩=some (Zs ra R.length rc):=one_cell cw;have dq:W9.cell? ⟨w7.heap.size+1,0,none⟩=some (Zi 60):=one_cell cs
   obtain⟨rb,ro,c7⟩:∃rb ro,0<R.length->ra=some ⟨rb,ro,none⟩:=by
    by_cases h0:0<R.length
    ·obtain⟨vs,dy,el,em⟩:=ci.out.slr
     obtain⟨rb,ro,eo,er,_,_,_⟩:=dy.cons (by omega);injection er with dk _ _;exact⟨rb,ro,λ_=>dk⟩
    exact⟨0,0,λh=>absurd h h0⟩
   have dh:=Aa (((ck.out.up M.out).up aq.out).up af.out);have b:=Aa (ad.out.base.up l.out);clear bt;refine(wpIn_wide (n:=5)).1 ?_
   refine wpIn_rangeFunc_ownG (w0:=W9) rfl (by decide) (gf:=114) (lb:=#[Zp (some ⟨w7.heap.size,0,none⟩),Zp (some ⟨w7.heap.size+1,0,none⟩)]) (by rfl) trivial (enters_of func114 (by kernel_rfl) rfl)
    (jC _ (by decide) w7.heap.size (w7.heap.size+1) rb ro R.length rc ra c7 (by omega) dw W9 (by omega) (by omega) dr dq) KpC.t ?hKb (XC _ _) (λ_=>rfl) (CmI w0 NF bb n D k0 W3.heap.size g y (H.length:Int) a1 n1 c1 x2 a2 n2 c2 tx (R.length:Int) R W9) (λc _ W=>c=.ret/\∃T x n' D' ai aj,Ey w0 W NF bb n' D' ai (.map (some k0)) aj/\n'<=n+50/\Grown tx D D'/\B.A0 (B.Own bb (.map (some k0))) w W/\W.heap[w.heap.size+1]? = some (Zk #[Zp none] 76)/\W.heap[w.heap.size+2]? = some (Zk #[Zf T x] 32)) (CmI.own (by omega) (XG ad.out.base.low.size l.out.size) (XA _)) ?ownX ⟨n,fs,fv,none,0,[],b.out,XA _,dh.out,rfl,(λk hk=>by cases hk),Mv.refl⟩ ?a1 ?assign ?body ?done ?stop
   case hKb=>
    intro W q o1 o2 hq eg _ _;constructor
    ·unfold World.cell?;rw[XD (by show w7.heap.size≠q;omega)]
    unfold World.cell?;rw[XD (by show w7.heap.size+1≠q;omega)]
   case ownX=>
    intro c s A C row hs hg hr;obtain⟨e,T,x,n',D',ai,aj,h1,h2,h3,h4,h5,h6⟩:=hs;have c6:∀r,row=some r->∃o:Obj,A.heap[r]? = some o/\o.isCells=false:=λr e=>(hr r e).2
    exact⟨e,T,x,n',D',ai,aj,bF h1 (by omega) (XG ad.out.base.low.size l.out.size) hg hr,h2,h3,h4.grown hg (λm e hm=>by have:=(hr m e).1;omega),vX h5 hg c6,vX h6 hg c6⟩
   case assign=>intro q x W K hK;gi_wp2;exact hK
   case stop=>rintro D1 c pre W bo _⟨rfl,T,x,n',D',ai,aj,h1,h2,h3,h4,h5,h6⟩hK;gi_wp2;have b0:=(XD (w:=W) (r:=D1) (k:=w.heap.size+1) (o:=.deferred none) (by omega)).trans h5;have b3:=(XD (w:=W) (r:=D1) (k:=w.heap.size+2) (o:=.deferred none) (by omega)).trans h6;have f1:=one_cell b0;have f2:=one_cell b3;refine⟨by simp,.inl ⟨_,_,rfl,run_takeDeferred hK,?_⟩⟩;refine⟨Zu #[Zp none,Zf T x],by simp[results,results41,go_sem,f1,f2],?_⟩;have av:=grownBy_putObj' W D1 (.deferred none);exact⟨n',D',ai,_,aj,bF (B0:=W9.heap.size) h1 (by omega) (XG ad.out.base.low.size l.out.size) av (λr e=>by cases e;exact⟨bo,_,hK,rfl⟩),h2,h4.grown av (λm e hm=>by cases e;omega),λ_ e=>.inl e,h3,.inr ⟨trivial,T,x,rfl⟩⟩
   case body=>
    rintro q pre k W⟨n',ai,aj,aa,ac,L,ae,al,G,hL,ak,d⟩ef;have ed:=k.2;have dt:k.1<n60 R.length:=by unfold n60;omega
    have a0:n60 R.length<=40:=nH bg
    have br:L.length=pre.length:=by have:=congrArg List.length hL;rw[Y8,eQ,Y8] at this;exact this
    have bv:=d.zG b.out.bu ((l.out.block w.heap.size (by omega)).trans HX.out.1) (by decide) (by decide) (by decide);have V:=d.zG b.out.bu ((af.out.block w1.heap.size (by have:=Ac N.out;have:=M.out.size;omega)).trans ((aq.out.block w1.heap.size (by have:=Ac N.out;have:=M.out.size;omega)).trans ((M.out.block w1.heap.size (Ac N.out)).trans N.out))) (by decide) (by decide) (by decide);have c0:=one_cell bv;have ea:=one_cell V;have b4:=(d.slO b.out.bu (ci.out.up af.out)).slr;rw[c7 (by omega)] at b4;have cz:=qF b4 rfl k;have dn:=d.only.size;have ee:=bU dt
    have a6:=Aa (bK w0 NF W3.heap.size bb n' _ ai (.map (some k0)) aj g y (H.length:Int) a1 n1 c1 x2 a2 n2 c2 tx true aa ac L (R.length:Int) (ACt rb ro R.length k) (Gg R k.1) W ae ad.out.nf ad.out.base.low.size (by have:=HS.out.Iz;omega) (uX _ _ _ _ _ HS.out.inv.Lm.1) G (by omega) (by rw[<-au.out];exact HS.out.Of) HS.out.et cz (by omega) (λr hr v hv=>by have:=cn.out r (XX (Yi hr)) v hv;unfold maxLen;omega) (λr hr v hv=>(cn.out r (XX (Yi hr)) v hv).1) HS.out.short (by omega) (lC tx HS.out.plain _ _ _ _ _ (by rw[Y8];omega) (by omega) (HS.out.free _)))
    unfold AIr at a6;have HI:=Aa (And.intro ae (And.intro al (And.intro G (And.intro hL (And.intro ak d)))));have dd:=Aa (And.intro bv V);clear ae al G hL ak d bv V b4 cz;generalize eb:ACt rb ro R.length k=cv at *;gi_wp2_with fail;refine⟨trivial,(CallsIn.inRound q (callsIn_wide.2 a6.out)).mono ?_⟩;rintro e W'⟨d1,d7,co,d5,cp,ba,c4,Y,h⟩;have dj:=Y.stay k0 rfl;subst dj;have HM:=Aa Y;have dc:=Aa ba
    rcases h with⟨rfl,c5,_,rfl,rfl,d8,d9,ct⟩|⟨T,x,rfl,rfl,_⟩
    ·have bh:=CmI.step (W8:=W9) (n:=n) HI.out.2.1 HI.out.2.2.2.1 HI.out.2.2.2.2.1 HI.out.2.2.2.2.2 ba c4 Y c5 ct
     have ca:=Aa bh;have bk:=Aa (CmI.keeps (B0:=W9.heap.size) HI.out.1 (by omega) Y)
     have de:Hid (KpC w7.heap.size (w7.heap.size+1) W W'):=Aa (by have e1:=HI.out.2.2.2.2.2.zG b.out.bu cw (by decide) (by decide) (by decide);have e2:=HI.out.2.2.2.2.2.zG b.out.bu cs (by decide) (by decide) (by decide);exact⟨by rw[one_cell e1,one_cell (Y.zG HI.out.1.bu e1 (by decide) (by decide) (by decide))],by rw[one_cell e2,one_cell (Y.zG HI.out.1.bu e2 (by decide) (by decide) (by decide))]⟩)
     clear bh ba Y ct c5 a6;gi_wp2;exact⟨bk.out,de.out,ca.out⟩
    have bd:=HI.out.2.2.2.2.2.trans Y;have r1:=bd.zG b.out.bu ((l.out.block (w.heap.size+1) (by omega)).trans HX.out.2.1) (by decide) (by decide) (by decide);have r2:=bd.zG b.out.bu ((l.out.block (w.heap.size+2) (by omega)).trans HX.out.2.2) (by decide) (by decide) (by decide);have f1:=one_cell r1;have f2:=one_cell r2;have g1:=frozen_of_row W' (w.heap.size+1) 0 _ _ r1;have g2:=frozen_of_row W' (w.heap.size+2) 0 _ _ r2;have df:=Aa bd;have bk:=Aa (CmI.keeps (B0:=W9.heap.size) HI.out.1 (by omega) Y);have X:=Aa (And.intro r1 r2);clear ba Y a6 bd r1 r2;gi_wp2;have dp:bb<w.heap.size:=Ac HS.out.base.bu.1;have dz:=HS.out.base.low.size;have b1:=Uu dc.out X.out.1 (λi e=>by cases e) (by omega) (by omega) (by omega) (Zp none);have u:=((E.Ar W' (w.heap.size+1) 0 (Zp none)).block (w.heap.size+2) (Ac X.out.2) (by simp)).trans X.out.2;have b2:=Uu b1 u (λi e=>by cases e) (by omega) (by omega) (by omega) (Zf T x);have I:=heap_setCell_same W' (w.heap.size+1) 0 _ _ (Zp none) X.out.1;have bx:=((E.Ar (W'.setCell ⟨w.heap.size+1,0,none⟩ (Zp none)) (w.heap.size+2) 0 (Zf T x)).block (w.heap.size+1) (Ac I) (by simp)).trans I;have bz:=heap_setCell_same _ (w.heap.size+2) 0 _ _ (Zf T x) u;have hO:B.A0 (B.Own bb (.map (some k0))) w W':=(B.A0.Ba (Ap a4.out l.out)).trans df.out.only (λi hi e=>e.elim id λe=>by have:=e.1;omega);refine⟨(bk.out.trans (KeepsFrom.of_grownBy (E.Ar W' (w.heap.size+1) 0 (Zp none)) (λj e=>by cases e;omega))).trans (KeepsFrom.of_grownBy (E.Ar _ (w.heap.size+2) 0 (Zf T x)) (λj e=>by cases e;omega)),rfl,T,x,d1,_,co,cp,b2,by have:=HI.out.2.1;omega,fM tx HS.out.plain _ _ HS.out.free _ (by rw[Y8];omega),?_,bx,bz⟩;exact(hO.grown (E.Ar W' (w.heap.size+1) 0 (Zp none)) (λm e hm=>by cases e;omega)).grown (E.Ar _ (w.heap.size+2) 0 (Zf T x)) (λm e hm=>by cases e;omega)
   case done=>
    rintro D1 ys W bo b5⟨n',ai,aj,aa,ac,L,ae,al,G,hL,ak,d⟩hK;have dn:=d.only.size;have bp:=E.Ac hK;have a0:n60 R.length<=40:=nH bg;have c9:ys.length=n60 R.length:=by have:=congrArg List.length b5;simpa using this
    have da:(ys.map λk=>Gg R k.1)=Gd R:=by unfold Gd;rw[<-b5];simp[AG1]
    have br:L.length=ys.length:=by have:=congrArg List.length hL;rw[Y8,eQ,Y8] at this;exact this
    have V:=d.zG b.out.bu ((af.out.block w1.heap.size (by have:=Ac N.out;have:=M.out.size;omega)).trans ((aq.out.block w1.heap.size (by have:=Ac N.out;have:=M.out.size;omega)).trans ((M.out.block w1.heap.size (Ac N.out)).trans N.out))) (by decide) (by decide) (by decide);have I:=d.zG b.out.bu ((l.out.block (w.heap.size+1) (by omega)).trans HX.out.2.1) (by decide) (by decide) (by decide);have u:=d.zG b.out.bu ((l.out.block (w.heap.size+2) (by omega)).trans HX.out.2.2) (by decide) (by decide) (by decide);have p0:=one_cell V;obtain⟨y0,y1,y2,y3,y4,y5,y6,y7,yf⟩:=F2 G.box;have hd:=(XC W.heap.size W).drew
    have cb:Hid (∀e∈y.files,e.1.size<=maxLen):=Aa (λe he=>by have cx:=HT.out;rw[<-cx.Lz.files] at he;obtain⟨x,hx,rfl⟩:=List.mem_map.1 he;have:=(cx.Lz.each x hx).name;unfold maxLen;omega)
    have d4:1<=y.files.length:=by
     rcases Yt y.files.length with h0|h0
     ·refine absurd (show Tog y R.length from⟨λe he=>?_,by omega⟩) cf.out
      rw[List.length_eq_zero_iff.1 h0] at he;cases he
     exact h0
    have cl:=Aa (sL y (H.length:Int) a1 n1 c1 x2 a2 n2 c2 W.drew (G.snap.up hd) (by omega) cb.out);have HI:=Aa (And.intro ae (And.intro al (And.intro G (And.intro hL (And.intro ak d)))));have dd:=Aa (And.intro V (And.intro I u));have cc:=Aa hK;have bm:=Aa da;have ce:=Aa (And.intro br (And.intro c9 a0));have bj:=Aa hd
    have dg:Hid (w1.heap.size≠g):=Aa (λe=>by have:=G.box;rw[<-e,V] at this;injection this with this;injection this with _ this;exact absurd this (by decide))
    have d0:W.drew.cell? ⟨w1.heap.size,0,none⟩=some (Zp (some ⟨g,0,none⟩)):=p0;have d3:W.drew.cell? ⟨g,3,none⟩=some (Zs a2 n2 c2):=y3;have d6:W.drew.cell? ⟨g,6,none⟩=some (Zs aa L.length ac):=y6;have ag:Hid (∀W',Zb W W'->(W'.cell? ⟨w1.heap.size,0,none⟩=some (Zp (some ⟨g,0,none⟩))/\W'.cell? ⟨g,3,none⟩=some (Zs a2 n2 c2))/\W'.cell? ⟨g,6,none⟩=some (Zs aa L.length ac)):=Aa λW' hb=>⟨⟨Ag hb p0,Ag hb y3⟩,Ag hb y6⟩
    have b8:Hid (∀(ab:Tw)(qa:To)(qc:Nat),Zb W ab->ab.ownsRow W.heap.size 144 6 (Zs qa y.files.length qc) y.files.length (Ci (y.files.map mO))->Zc 75 #[Zs (some ⟨ab.heap.size,0,none⟩) 2 2] (ab.alloc (Zk #[Zs qa y.files.length qc,Zs aa L.length ac] 84)) λe w'=>∃g' c',e=Zr (Zs (some ⟨g',0,none⟩) (y.files.length+L.length) c')/\Hid (w'.ownsRow W.heap.size 144 6 (Zs (some ⟨g',0,none⟩) (y.files.length+L.length) c') (y.files.length+L.length) (Ci (y.files.map mO++L)))/\Zb W w'):=Aa (λab qa qc J ap=>by have bi:=heap_alloc_new ab (Zk #[Zs qa y.files.length qc,Zs aa L.length ac] 84);have ao:Zb ab (ab.alloc (Zk #[Zs qa y.files.length qc,Zs aa L.length ac] 84)):=Zal;have hc:=uO ab.heap.size qa aa qc ac (y.files.map mO) L W.heap.size w.heap.size _ (by rw[Y8];exact(Hg bi).1) (Hg bi).2 (by simp) (by rw[Y8];exact Bc ap ao) (E.Ai (Bc (Bc G.row J) ao) (by omega)) (by rw[Y8];omega) (by rw[Y8];omega);rw[Y8] at hc;refine hc.mono ?_;rintro e w'⟨g',c',rfl,h1,h2⟩;exact⟨g',c',rfl,Aa (E.Ai h1 (Ap J ao).size),Ap (Ap J ao) h2⟩)
    clear ae al G hL ak d V I u hK b5 da y0 y1 y2 y3 y4 y5 y6 y7 yf p0 br c9 a0 hd;gi_wp2;go_wp2_with fail;refine AGq ?_;rw[<-AGS];have du:=AGS
    go_region_held3 (λw'=>w'.cell? ⟨w1.heap.size,0,none⟩=some (Zp (some ⟨g,0,none⟩))/\w'.cell? ⟨g,3,none⟩=some (Zs a2 n2 c2))
     (first
       | (go_keep;done)
       | exact(ag.out _ bj.out).1
       | exact(ag.out _ J).1
       | exact(ag.out _ (Ap J (Zal))).1
       | exact(ag.out _ f).1
       | exact⟨Ei dg.out (ag.out _ f).1.1,AEx (ag.out _ f).1.2⟩
       | fail)
     (first
       | (go_at_call 76
          refine cl.out.mono ?_;rintro e ab⟨qa,qc,rfl,ap,ay⟩;have J:=Ap bj.out ay;have cg:=Aa ap;have e6:=(ag.out _ J).2;clear ap ay)
       | (go_at_call 75
          refine(b8.out _ _ _ J cg.out).mono ?_;rintro e a3⟨g',c',rfl,ch,f⟩;obtain⟨t0,t1,t2,t3,t4,t5,t6,t7,tf⟩:=F2 (HI.out.2.2.1.up f).box;have t8:=tf 6;clear t0 t1 t2 t3 t4 t5 t7 tf)
       | fail)
    all_goals
     obtain⟨ae,al,G,hL,ak,d⟩:=HI.out;have O:=G.up f;have P:=E.Ar a3 g 6 (Zs (some ⟨g',0,none⟩) (y.files.length+L.length) c');have ax:B.A0 (PA a3 W3.heap.size) a3 (a3.setCell ⟨g,6,none⟩ (Zs (some ⟨g',0,none⟩) (y.files.length+L.length) c')):=⟨P.os,P.tape,P.output,P.size,λk hk hn=>P.block k hk (λe=>hn (by cases e;exact⟨O.low,_,_,O.box,.inl rfl⟩))⟩;have b7:=Aa (Kv (ae.up f) ad.out.nf ad.out.base.low.size ax);have an:=Aa ((d.trans (Mv.below f)).trans (Mv.ACV ax))
     have cj:=Aa (O.Bz (E.Ai ch.out (by omega)) (by simp) (λq hq=>by
      rcases List.mem_append.1 hq with hq|hq
      ·obtain⟨e,_,rfl⟩:=List.mem_map.1 hq
       exact⟨XL _ _ _ _,XL _ _ _ _⟩
      ·exact O.own q hq) (λq hq=>by
      rcases List.mem_append.1 hq with hq|hq
      ·obtain⟨e,he,rfl⟩:=List.mem_map.1 hq
       exact⟨cb.out e he,Y9 _,λx hx=>by cases hx⟩
      exact O.Vv q hq))
     have I:=an.out.zG b.out.bu ((l.out.block (w.heap.size+1) (by omega)).trans HX.out.2.1) (by decide) (by decide) (by decide);have u:=an.out.zG b.out.bu ((l.out.block (w.heap.size+2) (by omega)).trans HX.out.2.2) (by decide) (by decide) (by decide);have V:=an.out.zG b.out.bu ((af.out.block w1.heap.size (by have:=Ac N.out;have:=M.out.size;omega)).trans ((aq.out.block w1.heap.size (by have:=Ac N.out;have:=M.out.size;omega)).trans ((M.out.block w1.heap.size (Ac N.out)).trans N.out))) (by decide) (by decide) (by decide)
     have cr:=(P.block D1 (Ya bp f.size) (λe=>by
      cases e;have:=(f.block _ bp).trans cc.out;rw[O.box] at this;cases this)).trans ((f.block D1 bp).trans cc.out)
     have bl:=Aa (And.intro al (And.intro hL ak));have X:=Aa (And.intro I u);have cd:=Aa cr;clear ae al G hL ak d O ax P t6 t8 du cl b8 ag bj;generalize a3.setCell ⟨g,6,none⟩ (Zs (some ⟨g',0,none⟩) (y.files.length+L.length) c')=ah at *;have f1:=one_cell I;have f2:=one_cell u;have en:=one_cell V;have g1:=frozen_of_row ah (w.heap.size+1) 0 _ _ I;have g2:=frozen_of_row ah (w.heap.size+2) 0 _ _ u;clear I u V cr;go_wp2;have dp:bb<w.heap.size:=Ac HS.out.base.bu.1;have dz:=HS.out.base.low.size;have b1:=Uu b7.out X.out.1 (λi e=>by cases e) (by omega) (by omega) (by omega) (Zp (some ⟨g,0,none⟩));have a8:=E.Ar ah (w.heap.size+1) 0 (Zp (some ⟨g,0,none⟩));have u:=(a8.block (w.heap.size+2) (Ac X.out.2) (by simp)).trans X.out.2;have b2:=Uu b1 u (λi e=>by cases e) (by omega) (by omega) (by omega) Zn;have I:=heap_setCell_same ah (w.heap.size+1) 0 _ _ (Zp (some ⟨g,0,none⟩)) X.out.1;have a9:=E.Ar (ah.setCell ⟨w.heap.size+1,0,none⟩ (Zp (some ⟨g,0,none⟩))) (w.heap.size+2) 0 Zn;have bx:=(a9.block (w.heap.size+1) (Ac I) (by simp)).trans I;have bz:=heap_setCell_same _ (w.heap.size+2) 0 _ _ Zn u;have q1:=cj.out.far X.out.1 a8 (by decide) (by decide) (by decide) (by decide) (by decide);have q2:=q1.far u a9 (by decide) (by decide) (by decide) (by decide) (by decide);have cq:=(a8.block D1 (E.Ac cd.out) (λe=>by have:=Yu e;omega)).trans cd.out;have bq:=(a9.block D1 (E.Ac cq) (λe=>by have:=Yu e;omega)).trans cq;have hO:B.A0 (B.Own bb (.map (some k0))) w ah:=(B.A0.Ba (Ap a4.out l.out)).trans an.out.only (λi hi e=>e.elim id λe=>by have:=e.1;omega);have dl:=(hO.grown a8 (λm e hm=>by cases e;omega)).grown a9 (λm e hm=>by cases e;omega);have b0:=(XD (r:=D1) (k:=w.heap.size+1) (o:=.deferred none) (by omega)).trans bx;have b3:=(XD (r:=D1) (k:=w.heap.size+2) (o:=.deferred none) (by omega)).trans bz;have k1:=one_cell b0;have k2:=one_cell b3;refine⟨by simp,.inl ⟨_,_,rfl,run_takeDeferred bq,?_⟩⟩;refine⟨Zu #[Zp (some ⟨g,0,none⟩),Zn],by simp[results,results41,go_sem,k1,k2],?_⟩;have av:=grownBy_putObj' ((ah.setCell ⟨w.heap.size+1,0,none⟩ (Zp (some ⟨g,0,none⟩))).setCell ⟨w.heap.size+2,0,none⟩ Zn) D1 (.deferred none);have dx:∀r,some D1=some r->∃o:Obj,((ah.setCell ⟨w.heap.size+1,0,none⟩ (Zp (some ⟨g,0,none⟩))).setCell ⟨w.heap.size+2,0,none⟩ Zn).heap[r]? = some o/\o.isCells=false:=λr e=>by cases e;exact⟨_,bq,rfl⟩
     have q3:=q2.no av dx;refine⟨_,_,_,_,_,bF (B0:=W9.heap.size) b2 (by omega) (XG ad.out.base.low.size l.out.size) av (λr e=>by cases e;exact⟨bo,_,bq,rfl⟩),?_,dl.grown av (λm e hm=>by cases e;omega),λ_ e=>.inl e,?_,.inl ⟨g,_,true,(R.length:Int),a1,n1,c1,x2,a2,n2,c2,_,_,rfl,by rw[au.out];exact⟨q3.box,q3.snap,E.Ai q3.row (by omega),q3.own,q3.Vv,by have:=q3.low;omega⟩,HC.out,rfl,by rw[ar.out],.inr ⟨by rw[ar.out];exact cf.out,?_,?_,?_⟩⟩⟩
     ·have:=bl.out.1
      have:=ce.out;omega
     ·exact fM tx HS.out.plain _ _ HS.out.free _ (by rw[Y8];have:=ce.out;omega)
     ·rw[<-HR.out,<-bm.out]
      intro p hp;obtain⟨k,hk,rfl⟩:=List.mem_map.1 hp;exact bl.out.2.2 k hk
     ·rw[<-HR.out,<-bm.out]
     rw[<-HR.out,<-bm.out,XJ,bl.out.2.1,List.map_map];rfl
end F
namespace S
theorem AE9(b:Nat)(c q r:Int)(Bl d:Tb)(w:Tw)(hc:1<=c/\c<=6)(ht:d.size<=100)(hr:E.A9 q r d=true)(h:w.heap[b]? = some (Zk #[Zi c,Zt Bl,Zi q,Zi r,Zt d] 75)):
 Zc 10 #[Zs (some ⟨b,0,none⟩) 1 1] w λe O=>∃v,e=Zr v/\Gy O (.node 0 0 ⟨c,Bl,q,r,d⟩ .nil .nil) v/\Zb w O:=by
 obtain⟨L,z,G,I,J⟩:=info_parts Ip;have M:Hid (prog.info? 45=some L/\L.zero=some (Zp none)/\L.size=1/\L.bytes=8):=⟨z,G,I,J⟩
 have n:b<w.heap.size:=by
  rcases Yc b w.heap.size with U|U
  ·exact U
  rw[Array.getElem?_eq_none U] at h;cases h
 have y:Hid (∀i,w.cell? ⟨b,i,none⟩=#[Value.int .i64 c,Zt Bl,Zi q,Zi r,Zt d][i]?):=Ab (cell_of_heap h);clear z G I J h;have al:(d.size:Int)<=100:=by omega
 obtain⟨h1,h6⟩:=hc;have ae:(c==11)=false:=by simp;omega
 have b9:(c==9)=false:=by simp;omega
 have ad:(c==10)=false:=by simp;omega
 have b7:(c==7)=false:=by simp;omega
 have b8:(c==8)=false:=by simp;omega
 have ab:d.size<=maxLen:=by unfold maxLen;omega
 go_enter func10,ntmps10;go_wp2
 go_loopw [3,4] (λo i wr=>∃(k:Nat)(vs:List Tv)(N:List CT),k<=1/\i=Zi k/\Hid (Stack w wr k o k vs N/\(k=1->N=[.node 0 0 ⟨c,Bl,q,r,d⟩ .nil .nil]))) (λ_ i _=>1-(intOf i).toNat)
 case atStart=>exact⟨0,[],[],by omega,rfl,⟨⟨XL _ _ _ _,rfl,λj T u h=>by simp at h,by simp,XC _ _⟩,λe=>by cases e⟩⟩
 case round=>
  obtain⟨k,vs,N,hk,rfl,l⟩:=hrel;obtain⟨ao,cp,rfl,ac,aa⟩:=Ak l.out.1.own;unfold maxLen at aa
  rcases Yt k with rfl|aj
  ·have x:=l.out.1.xL
   have c0:wr.cell? ⟨b,0,none⟩=some (Zi c):=(x.cell (p:=⟨b,0,none⟩) n).trans (y.out 0);have c1:wr.cell? ⟨b,1,none⟩=some (Zt Bl):=(x.cell (p:=⟨b,1,none⟩) n).trans (y.out 1);have c2:wr.cell? ⟨b,2,none⟩=some (Zi q):=(x.cell (p:=⟨b,2,none⟩) n).trans (y.out 2);have c3:wr.cell? ⟨b,3,none⟩=some (Zi r):=(x.cell (p:=⟨b,3,none⟩) n).trans (y.out 3);have c4:wr.cell? ⟨b,4,none⟩=some (Zt d):=(x.cell (p:=⟨b,4,none⟩) n).trans (y.out 4);have m:N=[]:=List.length_eq_zero_iff.1 l.out.1.len;subst m;clear x;have P:Hid (∀X,Zb wr (wr.alloc X)):=λX=>Zal
   have HR:Hid (∀W,Zc 27 #[Zg #[Zi q,Zi r,Zt d]] W λe O=>e=Zr (Zo (E.A9 q r d))/\Zb W O):=λW=>E.Ln q r d W ab
   rw[hr] at HR;go_wp2_with fail;refine(HR.out _).mono ?_;rintro e f⟨rfl,a⟩;have x0:f.cell? ⟨wr.heap.size,0,none⟩=some (Zi c):=(a.cell (p:=⟨wr.heap.size,0,none⟩) (by simp)).trans (by go_simp);have x1:f.cell? ⟨wr.heap.size,1,none⟩=some (Zt Bl):=(a.cell (p:=⟨wr.heap.size,1,none⟩) (by simp)).trans (by go_simp);have x2:f.cell? ⟨wr.heap.size,2,none⟩=some (Zi q):=(a.cell (p:=⟨wr.heap.size,2,none⟩) (by simp)).trans (by go_simp);have x3:f.cell? ⟨wr.heap.size,3,none⟩=some (Zi r):=(a.cell (p:=⟨wr.heap.size,3,none⟩) (by simp)).trans (by go_simp);have x4:f.cell? ⟨wr.heap.size,4,none⟩=some (Zt d):=(a.cell (p:=⟨wr.heap.size,4,none⟩) (by simp)).trans (by go_simp);have R:Hid (Zb wr f):=Below.up (P.out _) a;clear a;go_wp2_with (at_builtin;refine wpList_append_lies _ rfl (.tmp 104) (.tmp 113) 92 rfl w.heap.size 45 L (.pointer none) 1 8 underlying92 M.out.1 M.out.2.1 M.out.2.2.1 M.out.2.2.2 rfl (by omega) (.slice ao 0 cp) 0 vs rfl (Ad l.out.1.own (Below.up R.out (M4 f _ _))) ⟨f.heap.size+1,0,none⟩ 1 1 [.pointer (some ⟨f.heap.size,0,none⟩)] rfl rfl (XY (cs:=#[.pointer (some ⟨f.heap.size,0,none⟩)]) (t:=45) (fr:=(0,0)) (bG f _ _ _ (by simp))) (by simp[Value.oneCell']) (by omega) (by unfold maxLen;omega) (by omega) (XG l.out.1.xL.size (Below.up R.out (M4 f _ _)).size) (f.heap.size+1+1) (by simp) ?_;intro gg af w2 D s ag ak)
   go_roundw
   case rel=>exact⟨1,_,_,by omega,by go_num,Ab ⟨l.out.1.leaf (by omega) R.out (by simp) s D,λ_=>rfl⟩⟩
   case measure=>simp[intOf]
  obtain rfl:k=1:=by omega
  obtain⟨g,rfl,ah,ai⟩:=l.out.1.Hc (by omega);obtain⟨u,T,hu,m,V,_⟩:=l.out.1.last (j:=0) (by omega);rw[l.out.2 rfl] at m;have Y:T=.node 0 0 ⟨c,Bl,q,r,d⟩ .nil .nil:=by simpa using m.symm
  subst Y;obtain⟨pu,rfl⟩:=V.ptr;have cu:=l.out.1.cells hu;have HT:=Ab V;have P:=Ab l.out.1.xL;clear V hu m l;go_wp2
  go_loopw [7,8] (λcv iv w2=>cv=Zp pu/\iv=Zi 1/\w2=wr) (λ_ _ _=>0)
  case atStart=>exact⟨rfl,rfl,rfl⟩
  case round=>obtain⟨rfl,rfl,rfl⟩:=hrel;go_wp2;go_ret;exact⟨_,rfl,HT.out,P.out⟩
end S
namespace F
variable{W:Tw}{T:TypeId}{g:Nat}
theorem Qf:Mw:=rK
theorem Sy(n:Int)(w:Tw):
 Zc 22 #[Zi n] w λe a=>e=Zr (Zg #[Zi 1,Zi n,Zt ⟨#[]⟩])/\Zb w a:=by
 go_enter func22,ntmps22;go_wp2;exact bodyPost_ret (v:=Zg #[Zi 1,Zi n,Zt ⟨#[]⟩]) (by simp[results,results22,go_sem]) rfl ⟨rfl,Zal⟩
theorem AAo{α:Type}{k:Nat}{en:α->List Tv}{b:Nat}{cs:Array Tv}{x:α}(h:W.heap[b]? = some (Zk cs T (0,0)))(a:en x=cs.toList):F7 k en W (Zs (some ⟨b,0,none⟩) 1 1) [x]:=by
 refine⟨some ⟨b,0,none⟩,1,rfl,XA _,λ_=>⟨b,0,rfl,Ac h,λj y hj i u hu=>?_⟩⟩
 have c:j=0:=by
  rcases Yt j with d|d
  ·exact d
  rw[Yb (by simp;omega)] at hj;cases hj
 subst c;have e:x=y:=by simpa using hj
 subst e;rw[show 0+0*k+i=i by omega,S.cell_of_heap h i];rw[a] at hu;simpa using hu
theorem AH9{α:Type}{en:α->List Tv}{b:Nat}{f a:Tv}{x y:α}(h:W.heap[b]? = some (Zk #[f,a] T (0,0)))(l:en x=[f])(m:en y=[a]):F7 1 en W (Zs (some ⟨b,0,none⟩) 2 2) [x,y]:=by
 refine⟨some ⟨b,0,none⟩,2,rfl,XA _,λ_=>⟨b,0,rfl,Ac h,λj z hj i u hu=>?_⟩⟩
 have n:j<2:=by
  rcases Yc j 2 with c|c
  ·exact c
  rw[Yb (by simp;omega)] at hj;cases hj
 have d:∀v,en z=[v]->i=0/\v=u:=λv e=>by
  rw[e] at hu
  rcases Yt i with c|c
  ·subst c;exact⟨rfl,by simpa using hu⟩
  rw[Yb (by simp;omega)] at hu;cases hu
 rcases Yt j with g|o
 ·subst g
  have k:x=z:=by simpa using hj
  subst k;obtain⟨rfl,rfl⟩:=d _ l;rw[S.cell_of_heap h];rfl
 obtain rfl:j=1:=by omega
 have k:y=z:=by simpa using hj
 subst k;obtain⟨rfl,rfl⟩:=d _ m;rw[S.cell_of_heap h];rfl
theorem AKC{x y:Nat}(n:W.heap[g]? = some (Zk #[Zs (some ⟨x,0,none⟩) 1 1,Zs (some ⟨y,0,none⟩) 1 1] 51 (0,0)))(q:W.heap[x]? = some (Zk #[Zi 1,Zi 1,Zt ⟨#[]⟩] 56 (0,0)))(t:W.heap[y]? = some (Zk #[Zi 1,Zi 2,Zt ⟨#[]⟩] 56 (0,0))):K8 W dU none 0 (some ⟨g,0,none⟩) 2 none 0 0 none 0:=by
 refine⟨.inl ⟨⟨_,_,rfl⟩,rfl⟩,(λc f=>by cases f),⟨[Zs (some ⟨x,0,none⟩) 1 1,Zs (some ⟨y,0,none⟩) 1 1],AH9 n rfl rfl,rfl,λj v r hv hr=>?_⟩,λr hr v hv=>?_,⟨_,_,rfl,Y9 _,λh=>absurd rfl h⟩,Y9 _,(λs hs=>by cases hs),λV hV=>?_,Y9 _,⟨(λc f=>by cases f),Y9 _,AEL,by decide,λs hs=>by cases hs⟩⟩
 ·have o:j<2:=by
   rcases Yc j 2 with k|k
   ·exact k
   rw[Yb (by simp;omega)] at hv;cases hv
  rcases Yt j with i|p
  ·subst i
   have b:Value.slice (some ⟨x,0,none⟩) 1 1=v:=by simpa using hv
   have d:[(1,1,⟨#[]⟩)]=r:=by simpa[dU,R2] using hr
   subst b d;exact mW (AAo q rfl)
  obtain rfl:j=1:=by omega
  have b:Value.slice (some ⟨y,0,none⟩) 1 1=v:=by simpa using hv
  have d:[(1,2,⟨#[]⟩)]=r:=by simpa[dU,R2] using hr
  subst b d;exact mW (AAo t rfl)
 ·have a:r∈R2:=hr
  simp only[R2,XS,XM,or_false] at a
  rcases a with rfl|rfl <;> (simp at hv;subst hv;decide)
 refine(S.V8 none 0 V).mono ?_;rintro e u⟨v,T,rfl,l,_,m⟩;exact⟨v,T,rfl,l,trivial,m⟩
theorem AJp(b:W.heap[g]? = some (Zk #[Zi 1,Zt ⟨#[97]⟩,Zi 1,Zi 1,Zt ⟨#[]⟩] 75 (0,0))):K8 W dV none 0 none 0 (some ⟨g,0,none⟩) 1 1 none 0:=by refine⟨.inl ⟨⟨_,_,rfl⟩,rfl⟩,(λc a=>by cases a),⟨[],⟨_,_,rfl,Y9 _,λh=>absurd rfl h⟩,rfl,λj x r hx _=>by simp at hx⟩,(λr hr=>by cases hr),⟨_,_,rfl,Y9 _,λh=>absurd rfl h⟩,Y9 _,(λs hs=>by cases hs),λV hV=>?_,Y9 _,⟨(λc a=>by cases a),Y9 _,(λr hr=>by cases hr),Y9 _,λs hs=>by cases hs⟩⟩;refine(S.AE9 g 1 1 1 ⟨#[97]⟩ ⟨#[]⟩ V ⟨by decide,by decide⟩ (by decide) (by kernel_rfl) ((hV.block _ (Ac b)).trans b)).mono ?_;rintro e i⟨v,rfl,d,f⟩;exact⟨v,tV,rfl,d,rfl,f⟩
theorem AJi:Plain iL:=λx a=>by simp[iL] at a;subst a;decide
theorem AJh:Plain Pz:=λx a=>by simp[Pz] at a;subst a;decide
theorem AGr:Plain txV:=λx a=>by simp[txV] at a;subst a;decide
theorem AKG{i k x y:Int}{s t:Tb}{mu:Bool}(h:W.heap[g]? = some (Zk #[Zi i,Zt s,Zi k,Zo mu,Zi x,Zi y,Zt t] 72 (0,0))):bH W (Zs (some ⟨g,0,none⟩) 1 1) [(i,s,k,mu,x,y,t)]:=by
 refine .inr ⟨g,0,1,rfl,XA _,Ac h,λj c n v d=>?_⟩;have a:j=0:=by have:j<1:=c;omega
 subst a;rw[show 0+0*7+n=n by omega,S.cell_of_heap h n];have b:[Value.int .i64 i,Zt s,Zi k,Zo mu,Zi x,Zi y,Zt t][n]? = some v:=d;simpa using b
theorem AJ7(h:W.heap[g]? = some (Zk #[Zi 0,Zt ⟨#[97]⟩,Zi 1,Zo false,Zi 0,Zi 0,Zt ⟨#[]⟩] 72 (0,0))):K8 W dT (some ⟨g,0,none⟩) 1 none 0 none 0 0 none 0:=by
 refine⟨AKG h,λc a=>?_,⟨[],⟨_,_,rfl,Y9 _,λh=>absurd rfl h⟩,rfl,λj x r hx _=>by simp at hx⟩,(λr hr=>by cases hr),⟨_,_,rfl,Y9 _,λh=>absurd rfl h⟩,Y9 _,(λs hs=>by cases hs),λV hV=>?_,Y9 _,⟨λc a=>?_,by decide,(λr hr=>by cases hr),Y9 _,λs hs=>by cases hs⟩⟩
 ·have:c=(0,⟨#[97]⟩,1,false,0,0,⟨#[]⟩):=by simpa[dT] using a
  subst this;exact⟨by decide,by decide⟩
 ·refine(S.V8 none 0 V).mono ?_
  rintro e f⟨v,T,rfl,b,_,d⟩;exact⟨v,T,rfl,b,trivial,d⟩
 have:c=(0,⟨#[97]⟩,1,false,0,0,⟨#[]⟩):=by simpa[dT] using a
 subst this;exact⟨⟨by decide,by decide⟩,⟨by decide,by decide⟩,⟨by decide,by decide⟩⟩
theorem AAS(w:Tw)(he:Ik w)(hw:Lw w)(ht:Jp w)(hg:B.Ob w)(ho:S.Lp w):Zc 6 #[] w λe w'=>e=Zr (Zo true)/\Zb w w':=by
 have z:=Aa ((uF w he hw ht).up ((XC _ _).alloc (XA _) (Zk #[Zi 0,Zt ⟨#[97]⟩,Zi 1,Zo false,Zi 0,Zi 0,Zt ⟨#[]⟩] 72)));have ag:=heap_alloc_new (w.alloc (Zk #[.map none,Zs none 0 0] 30)) (Zk #[Zi 0,Zt ⟨#[97]⟩,Zi 1,Zo false,Zi 0,Zi 0,Zt ⟨#[]⟩] 72);have D:Hid (Zc 7 #[Zp (some ⟨w.heap.size,0,none⟩),Zg #[Zi 0,Zs (some ⟨w.heap.size+1,0,none⟩) 1 1,Zs none 0 0,Zs none 0 0,Zs none 0 0,Zi 0,Zt ⟨#[]⟩,Zt ⟨#[]⟩],Zt ⟨#[116]⟩] _ _):=Aa (V1 Qf w 0 w.heap.size 0 (.map []) [] _ _ [] [] iL [] dT (some ⟨w.heap.size+1,0,none⟩) 1 none 0 none 0 0 none 0 _ ⟨z.out,Inv.nil,hg,ho,Y9 _,by decide,by decide,by kernel_rfl,by decide,AJi,λh=>by cases h⟩ (by decide) (vA _) (AJ7 (by simpa using ag)));have u:=Aa (And.intro hg ho);clear he hw ht hg ho ag;go_enter func6,ntmps6;go_wp2_with fail;refine D.out.mono ?_;intro e w2 ah;obtain⟨rfl,n2,D2,M,an,O,R,a1,au,_,U⟩:=AJW ah;have H2:=Aa (And.intro R U);clear ah R au U D z;go_wp2_with fail;refine(Sy 1 w2).mono ?_;rintro e w3⟨rfl,ad⟩;have ak:=heap_alloc_new w3 (Zk #[Zi 1,Zi 1,Zt ⟨#[]⟩] 56);have x:=Aa (Ap ad ((XC _ w3).alloc (XA _) (Zk #[Zi 1,Zi 1,Zt ⟨#[]⟩] 56)));have o:=Aa ak;clear ad ak;go_wp2_with fail;refine(Sy 2 _).mono ?_;rintro e v⟨rfl,q⟩;obtain⟨ax,Y,X,s⟩:=Kt v (Zk #[Zi 1,Zi 2,Zt ⟨#[]⟩] 56) (Zk #[Zs (some ⟨w3.heap.size,0,none⟩) 1 1,Zs (some ⟨v.heap.size,0,none⟩) 1 1] 51);have L:=Aa ((Ap q s).block _ (Ac o.out) |>.trans o.out);have ap:=Aa (Ap x.out (Ap q s));have n:Hid (iK w ((v.alloc (Zk #[Zi 1,Zi 2,Zt ⟨#[]⟩] 56)).alloc (Zk #[Zs (some ⟨w3.heap.size,0,none⟩) 1 1,Zs (some ⟨v.heap.size,0,none⟩) 1 1] 51)) 0 w.heap.size n2 D2 M an O H1 [iL] Pz):=Aa ⟨H2.out.1.up ap.out,H2.out.2,u.out.1,u.out.2,Y9 _,by omega,by decide,by kernel_rfl,by decide,AJh,λh=>by simp[Pz,iL] at h⟩;have G:Hid (Zc 7 #[Zp (some ⟨w.heap.size,0,none⟩),Zg #[Zi 2,Zs none 0 0,Zs (some ⟨v.heap.size+1,0,none⟩) 2 2,Zs none 0 0,Zs none 0 0,Zi 0,Zt ⟨#[]⟩,Zt ⟨#[]⟩],Zt ⟨#[117]⟩] _ _):=Aa (V1 Qf w 0 w.heap.size n2 D2 M an O H1 [iL] Pz [] dU none 0 (some ⟨v.heap.size+1,0,none⟩) 2 none 0 0 none 0 _ n.out (by decide) (AKO _) (AKC X L.out Y));clear ax Y X s q o L x;go_wp2_with fail;refine G.out.mono ?_;intro e w6 ai;obtain⟨rfl,n6,D6,N,ao,P,T,a2,av,_,V,ab⟩:=AI4 (bJ H2.out.1) H2.out.2 (n.out.free 0) ai;have t:=Aa (And.intro T (And.intro V ab));clear ai T av V ab G n H2;go_wp2_with fail;refine(Sy 1 w6).mono ?_;rintro e w7⟨rfl,ae⟩;have al:=heap_alloc_new w7 (Zk #[Zi 1,Zt ⟨#[97]⟩,Zi 1,Zi 1,Zt ⟨#[]⟩] 75);have y:=Aa (Ap ae ((XC _ w7).alloc (XA _) (Zk #[Zi 1,Zt ⟨#[97]⟩,Zi 1,Zi 1,Zt ⟨#[]⟩] 75)));have J:Hid (iK w (w7.alloc (Zk #[Zi 1,Zt ⟨#[97]⟩,Zi 1,Zi 1,Zt ⟨#[]⟩] 75)) 0 w.heap.size n6 D6 N ao P H2 [Pz,iL] txV):=Aa ⟨t.out.1.up y.out,t.out.2.1,u.out.1,u.out.2,Y9 _,by omega,by decide,by kernel_rfl,by decide,AGr,λh=>by simp[Pz,iL,txV] at h⟩;have I:Hid (Zc 7 #[Zp (some ⟨w.heap.size,0,none⟩),Zg #[Zi 3,Zs none 0 0,Zs none 0 0,Zs (some ⟨w7.heap.size,0,none⟩) 1 1,Zs none 0 0,Zi 0,Zt ⟨#[]⟩,Zt ⟨#[]⟩],Zt ⟨#[118]⟩] _ _):=Aa (V1 Qf w 0 w.heap.size n6 D6 N ao P H2 [Pz,iL] txV xU dV none 0 none 0 (some ⟨w7.heap.size,0,none⟩) 1 1 none 0 _ J.out (by decide) t.out.2.2 (AJp al));clear al ae;go_wp2_with fail;refine I.out.mono ?_;intro e w8 aj;obtain⟨rfl,n8,D8,az,ay,a0,c,a3,aw,_,p,ac⟩:=AI9 t.out.2.1 t.out.2.2 aj;have m:=Aa (ABH w.heap.size n8 D8 ay H3 (-1) 3 xV w8 c.ground (u.out.1.below c.low) (u.out.2.below c.low) p.Lm p.past (by decide) (by decide) (.inl ⟨by decide,rfl⟩) ac.Lz);have H8:=Aa c.low;clear aj c aw p ac I J t y;rw[show (Ae H3 3).cols=[cA] from rfl,AKF] at m;go_wp2_with fail;refine m.out.mono ?_;rintro e w9⟨v9,rfl,aa,af⟩;obtain⟨rb,ro,rc,xv,er,a4,a,ar⟩:=aa.slr.at (k:=0) (r:=[(1,2,⟨#[]⟩)]) rfl;obtain⟨xa,xc,rfl,a6,am⟩:=ar;obtain⟨i,j,rfl,a5,b⟩:=am (by simp);obtain⟨y0,y1,y2⟩:=b 0 _ rfl;simp only[Nat.zero_mul,XU] at a y0 y1 y2;subst er;have f:Hid (∀W,Zb w9 W->W.cell? ⟨rb,ro,none⟩=some (Zs (some ⟨i,j,none⟩) 1 xc)/\W.cell? ⟨i,j,none⟩=some (Zi 1)/\W.cell? ⟨i,j+1,none⟩=some (Zi 2)/\W.cell? ⟨i,j+2,none⟩=some (Zt ⟨#[]⟩)):=Aa λW hb=>⟨Ag hb a,Ag hb y0,Ag hb y1,Ag hb y2⟩
 have l:=Aa ((XC w9.heap.size w9).drew);have aq:=Aa (Ap H8.out af);clear aa am b af m a y0 y1 y2;obtain⟨a,y0,y1,y2⟩:=f.out _ l.out;go_wp2_with fail
 go_region_held3 (λW=>W.cell? ⟨rb,ro,none⟩=some (Zs (some ⟨i,j,none⟩) 1 xc)/\W.cell? ⟨i,j,none⟩=some (Zi 1)/\W.cell? ⟨i,j+1,none⟩=some (Zi 2)/\W.cell? ⟨i,j+2,none⟩=some (Zt ⟨#[]⟩))
  (first
    | exact f.out _ l.out
    | exact f.out _ g
    | (go_keep;done)
    | fail)
  (first
    | (go_at_call 22
       refine(Sy 2 _).mono ?_;rintro e a7⟨rfl,d⟩;have g:=Ap l.out d;clear d)
    | fail)
 all_goals
  clear a y0 y1 y2 f;go_wp2;go_ret;exact⟨rfl,Ap aq.out g⟩
