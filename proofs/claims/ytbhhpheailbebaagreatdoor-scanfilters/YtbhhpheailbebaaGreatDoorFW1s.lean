import Derived.Test.YtbhhpheailbebaaGreatDoorEWis
set_option maxHeartbeats 40000000
set_option maxRecDepth 100000
open List renaming getElem?_eq_getElem->Y9,append_assoc->Y',length_append->XA,flatMap_cons->XE,getElem?_map->XF,length_cons->XG,cons_append->XJ,length_replicate->XL,ext_getElem?->XM,mem_of_getElem?->XN,mem_map->XQ,any_eq_false->XU,mem_take_iff_getElem->XW,all_eq_true->XX,mem_of_mem_drop->X4,mem_range->X6,getElem?_range->X',map_append->WC,mem_append->WD,append_nil->WE,idxOf_cons->WG,length_map->WH,mem_cons->WI,lt_asymm->WK,lt_trans->WL,map_map->WM,map_id'->WN
open Nat renaming le_refl->XB,le_trans->XH,zero_le->XS,add_mul->X2,div_eq_of_lt->WB,mul_assoc->WJ,zero_add->WO
open Bool renaming and_eq_true->XC,false_eq_true->XK,not_eq_true'->XT,or_eq_true->XY,or_eq_false_iff->XZ
open Option renaming getD_some->XD,map_some->XR
open Go.World renaming ownsRow_nil->XI,news_of_block->XO,cell?_alloc_at->XP
open Go.RowKit.Below renaming heap_alloc->XV,refl->WA
open Int renaming toNat_of_nonneg->Wb
namespace Go.Proofs.YtbhhpheailbebaaGreatDoor
open Tryz RowKit Shelf Lib Go.Sort Joins
open Go.Sort (grow)
namespace E
variable{W w:Tw}{v:Tv}{k:Int}{s:St}{l:List UInt8}{D:List V}
theorem Dc{B e z n b:Nat}{xs:List Tv}(h:w.ownsRow B e z v n xs)(c:b<B)(a:w.grownBy W (some b)):W.ownsRow B e z v n xs:=by
 refine h.kept a ?_;cases hv:v.ownBlock with
 | none=>exact .inl rfl
 | some k=>refine .inr (λe=>?_);simp at e;have:=(h.lt k hv).1;omega
theorem Rd.app{B e z n b:Nat}{xs:List Tv}(a:Rd w b k s)(h:w.ownsRow B e z v n xs)(d:b<B)(c:w.grownBy W v.ownBlock):Rd W b k s :=
 (c.block b (Ac a) (λe=>by have:=(h.lt b e.symm).1;omega)).trans a
theorem Hj{a:Tw}{B e z n:Nat}{r:Option Nat}{xs:List Tv}(b:a.grownBy w r)(h:w.ownsRow B e z v n xs)(g:a.heap.size<=B)(c:w.grownBy W v.ownBlock):a.grownBy W r :=
 ⟨c.os.trans b.os,c.tape.trans b.tape,c.output.trans b.output,XH b.size c.size,λk d f=>(c.block k (Ya d b.size) (λe=>by have:=(h.lt k e.symm).1;omega)).trans (b.block k d f)⟩
theorem Rd.alloc{w:Tw}{b:Nat}{k:Int}{s:St}(a:Rd w b k s)(o:Obj):Rd (w.alloc o) b k s:=(XV w o b (Ac a)).trans a
theorem Lb(b n:Nat)(k:Int)(s:St)(w:Tw)(M:Rd w b k s)(hl:s.1.length<=1000000)(hn:n<=1000):
 Zc 282 #[Zp (some ⟨b,0,none⟩),Zi n] w λe P=>∃v',e=Zr v'/\P.ownsRow w.heap.size 56 3 v' (Cn k n s).1.length (A1 (Cn k n s).1)/\Rd P b k (Cn k n s).2/\w.grownBy P (some b):=by
 obtain⟨N,f,g,c,d⟩:=info_parts Ip;have a:=Zy f g c d;clear f g c d;have T:=M.lt;have y:=Ab M;clear M;go_enter func282,ntmps282;go_wp2
 go_loopw [5,7] (λvl O wr=>∃(i:Nat)(D:List V)(st:St),i<=n/\O=Zi i/\Hid (D.length=i/\Cn k n s=(D++(Cn k (n-i) st).1,(Cn k (n-i) st).2)/\st.1.length<=s.1.length)/\Hid (wr.ownsRow w.heap.size 56 3 vl i (A1 D))/\Hid (Rd wr b k st)/\Hid (w.grownBy wr (some b))) (λ_ O _=>n-(intOf O).toNat)
 case atStart=>exact⟨0,[],s,XS _,rfl,Ab ⟨rfl,by simp,XB _⟩,XI _ _ _ _,y,G2 _ _⟩
 case round=>
  obtain⟨i,D,st,hi,rfl,o,U,q,J⟩:=hrel;have ab:=J.o.size
  by_cases hlt:i<n
  ·have W:=Ab (lI b k st wr q.o (by have:=o.o.2.2;omega))
   have x:Hid (Cn k (n-i) st=((Dy k st).1 :: (Cn k (n-(i+1)) (Dy k st).2).1,(Cn k (n-(i+1)) (Dy k st).2).2)):=Ab (by obtain⟨m,hm⟩:∃m,n-i=m+1:=⟨n-i-1,by omega⟩;rw[hm,show n-(i+1)=m by omega];rfl)
   have X:=Ab (Ja k st);generalize Dy k st=R at *;obtain⟨⟨r,t,v⟩,st1⟩:=R;go_wp2_with fail;refine W.o.mono ?_;rintro e w1⟨rfl,G,l⟩;have aa:=l.size;have h:=Ab (Dc U.o T l);go_wp2_with (at_builtin;refine wpList_append_own _ rfl _ _ 51 rfl w.heap.size 56 N (.agg #[Zi 0,Zi 0,.string ⟨#[]⟩]) 3 32 underlying51 a.o.1 a.o.2.1 a.o.2.2.1 a.o.2.2.2 rfl (by decide) _ _ _ rfl (h.o.alloc _) ⟨w1.heap.size,0,none⟩ 1 1 [Zi r,Zi t,.string v] rfl rfl ?c1 ?c2 ?c3 ?c4 ?c5 ?_)
   case c1=>exact λj u hj=>XO (heap_alloc_new _ _) j u hj
   case c2=>exact Hf [(r,t,v)]
   case c3=>unfold maxLen;omega
   case c4=>omega
   case c5=>simp;omega
   intro v2 w2 L p _;have I:=(G.alloc (Zk #[Zi r,Zi t,Zt v] 56)).app (h.o.alloc _) T p;have z:=Hj (H7 (Al J.o l) (Zk #[Zi r,Zi t,Zt v] 56)) (h.o.alloc _) (XB _) p;go_wp2;refine⟨⟨i+1,D++[(r,t,v)],st1,by omega,by go_num,Ab ⟨by simp[o.o.1],?_,?_⟩,Ab (by rw[Jk];exact L),Ab I,Ab z⟩,by simp[intOf];omega⟩
   ·rw[o.o.2.1,x.o];simp
   have Y:=X.o;have h2:=o.o.2.2;exact XH Y h2
  have e:i=n:=by omega
  subst e;have x:Hid (Cn k i s=(D,st)):=Ab (by rw[o.o.2.1,YV];simp[Cn]);go_wp2;go_ret;rw[x.o];exact⟨_,rfl,by rw[show (D,st).1.length=i from o.o.1];exact U.o,q.o,J.o⟩
theorem ADk(b n:Nat)(k:Int)(s:St)(w:Tw)(L:Rd w b k s)(hl:s.1.length<=1000000)(hn:n<=1000):
 Zc 285 #[Zp (some ⟨b,0,none⟩),Zi n] w λe P=>∃v',e=Zr v'/\P.ownsRow w.heap.size 56 3 v' (E5 n 0 s).1.length (A1 (E5 n 0 s).1)/\Rd P b k (E5 n 0 s).2/\w.grownBy P (some b):=by
 obtain⟨M,h,l,d,f⟩:=info_parts Ip;have a:=Zy h l d f;clear h l d f;have Y:=L.lt;have x:=Ab L;clear L;go_enter func285,ntmps285;go_wp2
 go_loopw [5,6,8] (λvl va O wr=>∃(i:Nat)(D:List V)(st:St)(g:Int),i<=n/\O=Zi i/\va=Zi g/\Hid (D.length=i/\E5 n 0 s=(D++(E5 (n-i) g st).1,(E5 (n-i) g st).2)/\st.1.length<=s.1.length)/\Hid (wr.ownsRow w.heap.size 56 3 vl i (A1 D))/\Hid (Rd wr b k st)/\Hid (w.grownBy wr (some b))) (λ_ _ O _=>n-(intOf O).toNat)
 case atStart=>exact⟨0,[],s,0,XS _,rfl,rfl,Ab ⟨rfl,by simp,XB _⟩,XI _ _ _ _,x,G2 _ _⟩
 case round=>
  obtain⟨i,D,st,g,hi,rfl,rfl,q,ho,v,I⟩:=hrel;have ac:=I.o.size
  by_cases hlt:i<n
  ·have U:=Ab (Jc b k st wr v.o (by have:=q.o.2.2;omega))
   have r:Hid (E5 (n-i) g st=((1,Pp (g+Lib.unzigzag (Fg st).1),str []) :: (E5 (n-(i+1)) (Pp (g+Lib.unzigzag (Fg st).1)) (Fg st).2).1,(E5 (n-(i+1)) (Pp (g+Lib.unzigzag (Fg st).1)) (Fg st).2).2)):=Ab (by obtain⟨m,hm⟩:∃m,n-i=m+1:=⟨n-i-1,by omega⟩;rw[hm,show n-(i+1)=m by omega];rfl)
   have W:=Ab (cN st);have X:=Ab (gV (Fg st).1 (aW st));generalize Fg st=R at *;obtain⟨N,st1⟩:=R;simp only at U r W X;rw[<-AAw] at r;generalize Lib.unzigzag N=N at *;go_wp2_with fail;refine U.o.mono ?_;rintro e w1⟨rfl,z,p⟩;have ab:=p.size;have o:=Ab (Dc ho.o Y p);go_wp2_with fail;refine(X.o _).mono ?_;rintro e T⟨rfl,rfl⟩;generalize aa:wrap64 (g+N)=c at *;go_wp2_with (at_builtin;refine wpList_append_own _ rfl _ _ 51 rfl w.heap.size 56 M (.agg #[Zi 0,Zi 0,.string ⟨#[]⟩]) 3 32 underlying51 a.o.1 a.o.2.1 a.o.2.2.1 a.o.2.2.2 rfl (by decide) _ _ _ rfl (o.o.alloc _) ⟨T.heap.size,0,none⟩ 1 1 [Zi 1,Zi c,.string ⟨#[]⟩] rfl rfl ?c1 ?c2 ?c3 ?c4 ?c5 ?_)
   case c1=>exact λj u hj=>XO (heap_alloc_new _ _) j u hj
   case c2=>exact Hf [(1,c,⟨#[]⟩)]
   case c3=>unfold maxLen;omega
   case c4=>omega
   case c5=>simp;omega
   intro v2 w2 J t _;have G:=(z.alloc (Zk #[Zi 1,Zi c,Zt ⟨#[]⟩] 56)).app (o.o.alloc _) Y t;have y:=Hj (H7 (Al I.o p) (Zk #[Zi 1,Zi c,Zt ⟨#[]⟩] 56)) (o.o.alloc _) (XB _) t;go_wp2;refine⟨⟨i+1,D++[(1,c,str [])],st1,c,by omega,by go_num,rfl,Ab ⟨by simp[q.o.1],?_,?_⟩,Ab (by rw[Jk];exact J),Ab G,Ab y⟩,by simp[intOf];omega⟩
   ·rw[q.o.2.1,r.o];simp
   have h1:=W.o;have h2:=q.o.2.2;exact XH h1 h2
  have e:i=n:=by omega
  subst e;have r:Hid (E5 i 0 s=(D,st)):=Ab (by rw[q.o.2.1,YV];simp[E5]);go_wp2;go_ret;rw[r.o];exact⟨_,rfl,by rw[show (D,st).1.length=i from q.o.1];exact ho.o,v.o,I.o⟩
theorem Ps(k:Int):∀(n:Nat)(s:St),(Cn k n s).1.length=n
 | 0,_=>rfl
 | n+1,s=>by simp[Cn,Ps k n]
theorem Xg(k:Int):∀(n:Nat)(s:St),(Cn k n s).2.1.length<=s.1.length
 | 0,_=>XB _
 | n+1,s=>XH (Xg k n _) (Ja k s)
theorem ABm(b n:Nat)(k:Int)(s:St)(w:Tw)(hr:Rd w b k s)(hl:s.1.length<=1000000)(hn:n<=1000):
 Zc 284 #[Zp (some ⟨b,0,none⟩),Zi n] w λe w'=>∃v',e=Zr v'/\w'.ownsRow w.heap.size 56 3 v' (Nw k n s).1.length (A1 (Nw k n s).1)/\Rd w' b k (Nw k n s).2/\w.grownBy w' (some b):=by
 obtain⟨ay,G,I,t,v⟩:=info_parts Ip;have c:=Zy G I t v;clear G I t v;have hb:=hr.lt;have HC:=Ab (O0 b k n s w hr hl (by omega) (by omega));have aw:=Ld n s;have ak:=F4 n s;have HW:Hid (Nw k n s=Ec (Cn k (Am n s).1 (Am n s).2).1 n [] (Cn k (Am n s).1 (Am n s).2).2):=Ab rfl;rw[HW.o];generalize Am n s=R at *;obtain⟨m,st1⟩:=R;simp only at aw ak;have HV:=Ab (λW hW=>Lb b m k st1 W hW (by omega) (by omega));have al:=Ps k m st1;have am:=Xg k m st1;clear HW hr;generalize Cn k m st1=Q at *;obtain⟨d,st2⟩:=Q;simp only at al am HV;have a4:d.length<=1000:=by omega
 clear al;go_enter func284,ntmps284;go_wp2_with fail;refine HC.o.mono ?_;rintro e w1⟨rfl,ae,U⟩;go_wp2_with fail;refine(HV.o _ ae).mono ?_;rintro e w2⟨vd,rfl,T,af,X⟩;have D:=Al U X;have a5:=U.size;have a6:=X.size;have ab:=Ab T;have ao:=Ab af;have ac:=Ab D;obtain⟨ad,cd,rfl,a3,ag⟩:=Cy T;have a1:=Ab ag;clear T af U X ae D ag;go_wp2
 go_loopw [6,7,16] (λvl _ vi wr=>∃(i:Nat)(A:List V)(st:St),i<=n/\vi=Zi i/\Hid (A.length=i/\Ec d n [] st2=Ec d (n-i) A st/\st.1.length<=s.1.length)/\Hid (wr.ownsRow w2.heap.size 56 3 vl i (A1 A))/\Hid (wr.ownsRow w1.heap.size 56 3 (Zs ad d.length cd) d.length (A1 d))/\Hid (Rd wr b k st)/\Hid (w2.grownBy wr (some b))) (λ_ _ vi _=>n-(intOf vi).toNat)
 case atStart=>exact⟨0,[],st2,XS _,rfl,Ab ⟨rfl,by simp,XH am ak⟩,XI _ _ _ _,ab,ao,G2 _ _⟩
 case round=>
  obtain⟨i,A,st,hi,rfl,P,ho,hd,aj,hg⟩:=hrel;have a8:=hg.o.size
  by_cases hlt:i<n
  ·have aa:=Ab (O0 b k ((d.length:Int)-1) st wr aj.o (by have:=P.o.2.2;omega) (by omega) (by omega))
   obtain⟨m1,ai⟩:∃m1,n-i=m1+1:=⟨n-i-1,by omega⟩
   have N:Hid (Ec d (n-i) A st=if (Am ((d.length:Int)-1) st).2.2 then ([],(Am ((d.length:Int)-1) st).2) else Ec d (n-(i+1)) (A++[d[(Am ((d.length:Int)-1) st).1]?.getD (0,0,str [])]) (Am ((d.length:Int)-1) st).2):=Ab (by rw[ai,show n-(i+1)=m1 by omega];rfl)
   have ah:=Ld ((d.length:Int)-1) st;have r:=F4 ((d.length:Int)-1) st
   have f:(Am ((d.length:Int)-1) st).2.2=false->(Am ((d.length:Int)-1) st).1<d.length:=λh=>by
    cases hbb:Ra ((d.length:Int)-1) st with
    | true=>rw[Qd hbb] at h;cases h
    | false=>rw[U0 hbb];simp only[Ra,XZ,decide_eq_false_iff_not] at hbb;omega
   clear ai;generalize Am ((d.length:Int)-1) st=R at *;obtain⟨x,st3,q⟩:=R;simp only at ah r f;cases q with
   | true=>have p:Hid (Ec d n [] st2=([],(st3,true))):=Ab (by rw[P.o.2.1,N.o];rfl);clear f;go_wp2_with fail;refine aa.o.mono ?_;rintro e z⟨rfl,a,l⟩;obtain⟨q0,q1,q2,z1,z2⟩:=G9 a;have o:=Ab a;clear a;go_wp2_with fail;refine(E9 b k _ z o.o).mono ?_;rintro e z⟨rfl,rfl⟩;go_wp2;go_ret;rw[p.o];exact⟨_,rfl,XI _ _ _ _,o.o,Al ac.o (Al hg.o l)⟩
   | false=>
     have ax:=f rfl;obtain⟨⟨J,L,M⟩,hx⟩:=Hk ax;have p:Hid (Ec d n [] st2=Ec d (n-(i+1)) (A++[(J,L,M)]) (st3,false)):=Ab (by rw[P.o.2.1,N.o];simp[hx]);have HX:=Ab hx;clear f N;go_wp2_with fail;refine aa.o.mono ?_;rintro e z⟨rfl,a,l⟩;have a7:=l.size;obtain⟨q0,q1,q2,z1,z2⟩:=G9 a;have y:=Ab (Dc ho.o (by omega) l);have g:=Dc hd.o (by omega) l;have an:=Ab g;obtain⟨gd,a2,O,az,a0⟩:=g.form (by omega);injection O with O _ ap;subst O ap;obtain⟨f0,f1,f2⟩:=Hr HX.o;have y0:z.cell? ⟨gd,x*3,none⟩=some (Zi J):=(g.cellAt _ (by omega)).trans f0;have y1:z.cell? ⟨gd,x*3+1,none⟩=some (Zi L):=(g.cellAt _ (by omega)).trans f1;have y2:z.cell? ⟨gd,x*3+2,none⟩=some (Zt M):=(g.cellAt _ (by omega)).trans f2;have o:=Ab a;clear a g f0 f1 f2;have a9:(x:Int)<(d.length:Int):=by omega
     go_wp2_with fail;refine(E9 b k _ z o.o).mono ?_;rintro e z⟨rfl,rfl⟩;go_wp2_with (at_builtin;refine wpList_append_own _ rfl _ _ 51 rfl w2.heap.size 56 ay (.agg #[Zi 0,Zi 0,.string ⟨#[]⟩]) 3 32 underlying51 c.o.1 c.o.2.1 c.o.2.2.1 c.o.2.2.2 rfl (by decide) _ _ _ rfl (y.o.alloc _) ⟨z.heap.size,0,none⟩ 1 1 [Zi J,Zi L,.string M] rfl rfl ?c1 ?c2 ?c3 ?c4 ?c5 ?_)
     case c1=>exact λj u hj=>XO (heap_alloc_new _ _) j u hj
     case c2=>exact Hf [(J,L,M)]
     case c3=>unfold maxLen;omega
     case c4=>omega
     case c5=>simp;omega
     intro v4 w4 av Y _;have ar:=(o.o.alloc (Zk #[Zi J,Zi L,Zt M] 56)).app (y.o.alloc _) (by omega) Y;have aq:=Hj (H7 (Al hg.o l) (Zk #[Zi J,Zi L,Zt M] 56)) (y.o.alloc _) (XB _) Y;have au:=N4 (an.o.alloc (Zk #[Zi J,Zi L,Zt M] 56)) (H:=w2.heap.size) (λj hj=>by have:=(ab.o.lt j hj).2;omega) (y.o.alloc _) Y;go_wp2;refine⟨⟨i+1,A++[(J,L,M)],(st3,false),by omega,by go_num,Ab ⟨by simp[P.o.1],p.o,?_⟩,Ab (by rw[Jk];exact av),Ab au,Ab ar,Ab aq⟩,by simp[intOf];omega⟩;have h2:=P.o.2.2;exact XH r h2
  have e:i=n:=by omega
  subst e;have HE:Hid (Ec d i [] st2=(A,st)):=Ab (by rw[P.o.2.1,YV];simp[Ec]);go_wp2;go_ret;rw[HE.o];exact⟨_,rfl,by rw[show (A,st).1.length=i from P.o.1];exact Ai ho.o (by omega),aj.o,Al ac.o hg.o⟩
def mu(w:World)(b:Nat):Nat :=
 match w.cell? ⟨b,0,none⟩,w.cell? ⟨b,1,none⟩ with
 | some (.string t),some (.bool false)=>t.size+1
 | _,_=>0
theorem AIg{b:Nat}(h:Rd w b k (l,false)):mu w b=l.length+1:=by obtain⟨_,c1,a,_,_⟩:=G9 h;unfold mu;rw[c1,a];simp[Ds]
theorem AJ5{b:Nat}(h:Rd w b k (l,true)):mu w b=0:=by obtain⟨_,c1,a,_,_⟩:=G9 h;unfold mu;rw[c1,a]
theorem Lj{n f:Nat}{st:St}(h:¬(D.length<n/\st.2=false)):G7 k n f D st=(D,st):=by
 cases f with
 | zero=>rfl
 | succ f=>rw[G7,if_neg h]
theorem Sr{n f:Nat}{st:St}(h:D.length<n/\st.2=false):G7 k n (f+1) D st=G7 k n f (rM k n D st) (Qy k n D st):=by rw[G7,if_pos h]
theorem AF6(b n:Nat)(k:Int)(s:St)(w:Tw)(hr:Rd w b k s)(hl:s.1.length<=1000000)(hn:n<=1000):
 Zc 283 #[Zp (some ⟨b,0,none⟩),Zi n] w λe w'=>∃v',e=Zr v'/\w'.ownsRow w.heap.size 56 3 v' (G7 k n (s.1.length+2) [] s).1.length (A1 (G7 k n (s.1.length+2) [] s).1)/\Rd w' b k (G7 k n (s.1.length+2) [] s).2/\w.grownBy w' (some b):=by
 obtain⟨a0,x,z,m,o⟩:=info_parts Ip;have c:=Zy x z m o;clear x z m o;have hb:=hr.lt;have ak:=Ab hr;clear hr;go_enter func283,ntmps283;go_wp2
 go_loopw [5] (λvl wr=>∃(f:Nat)(D:List V)(st:St),Hid (G7 k n (s.1.length+2) [] s=G7 k n f D st/\(st.2=false->st.1.length<f)/\st.1.length<=s.1.length/\D.length<=n)/\Hid (wr.ownsRow w.heap.size 56 3 vl D.length (A1 D))/\Hid (Rd wr b k st)/\Hid (w.grownBy wr (some b))) (λ_ wr=>mu wr b)
 case atStart=>exact⟨s.1.length+2,[],s,Ab ⟨rfl,λ_=>by omega,XB _,by simp⟩,XI _ _ _ _,ak,G2 _ _⟩
 case round=>
  obtain⟨f,D,⟨l,sq⟩,T,ho,a,hg⟩:=hrel;have a6:=hg.o.size;have a3:=T.o.2.2.2;have ax:=T.o.2.2.1;simp only at ax;obtain⟨ad,cd,rfl,_,_⟩:=Cy ho.o;obtain⟨q0,q1,q2,z1,z2⟩:=G9 a.o;simp only at q2
  by_cases hlt:D.length<n
  ·cases sq with
   | true=>have HE:Hid (G7 k n (s.1.length+2) [] s=(D,(l,true))):=Ab (by rw[T.o.1,Lj (by simp)]);go_wp2_with fail;refine(E9 b k _ wr a.o).mono ?_;rintro e wr⟨rfl,rfl⟩;go_wp2;go_ret;rw[HE.o];exact⟨_,rfl,ho.o,a.o,hg.o⟩
   | false=>
     have ab:=T.o.2.1 rfl;have ai:=Ab (AIg a.o);obtain⟨f1,rfl⟩:∃f1,f=f1+1:=⟨f-1,by simp only at ab;omega⟩;have HG:Hid (G7 k n (s.1.length+2) [] s=G7 k n f1 (rM k n D (l,false)) (Qy k n D (l,false))):=Ab (by rw[T.o.1,Sr ⟨hlt,rfl⟩]);have em:((n-D.length:Nat):Int)=(n:Int)-(D.length:Int):=by omega
     have HC:=O0 b k ((n-D.length:Nat):Int) (l,false) wr a.o (by simp only;omega) (by omega) (by omega);have M:=Ld ((n-D.length:Nat):Int) (l,false);have ay:=F4 ((n-D.length:Nat):Int) (l,false);have N:=@eG ((n-D.length:Nat):Int) (l,false);have HL:Hid (rM k n D (l,false)=D++List.replicate (Am ((n-D.length:Nat):Int) (l,false)).1 (Dy k (Am ((n-D.length:Nat):Int) (l,false)).2).1):=Ab rfl;have HT:Hid (Qy k n D (l,false)=(Dy k (Am ((n-D.length:Nat):Int) (l,false)).2).2):=Ab rfl;rw[HL.o,HT.o] at HG;generalize Am ((n-D.length:Nat):Int) (l,false)=R at *;obtain⟨rn,s1⟩:=R;simp only at M ay N HG;rw[em] at HC M;have HC:=Ab HC;have HV:=Ab (λW hW=>lI b k s1 W hW (by omega));have az:=Ja k s1;have O:=@Sh k s1;generalize Dy k s1=Q at *;obtain⟨⟨p,q,r⟩,⟨af,P⟩⟩:=Q;simp only at az O HG HV;have a4:rn<=n-D.length:=by omega
     have av:(D.length:Int)<(n:Int):=by omega
     clear HL HT em M;go_wp2_with fail;refine(E9 b k _ wr a.o).mono ?_;rintro e wr⟨rfl,rfl⟩;go_wp2_with fail;refine HC.o.mono ?_;rintro e w1⟨rfl,Y,ac⟩;go_wp2_with fail;refine(HV.o _ Y).mono ?_;rintro e G⟨rfl,aa,ae⟩;have d:=Al ac ae;have a5:=d.size;have U:=Ab (Dc ho.o hb d);have ah:=Ab (Al hg.o d);have al:=Ab aa;have ag:Hid ((G.alloc (Zk #[Zi p,Zi q,Zt r] 56)).heap[G.heap.size]? = some (Zk #[Zi p,Zi q,Zt r] 56)):=heap_alloc_new _ _;have aj:Hid (∀j,(Value.slice ad D.length cd).ownBlock=some j->j≠G.heap.size):=Ab λj hj=>by have:=(U.o.lt j hj).2;omega
     clear aa d ac ae Y;go_wp2
     go_loopw [5,30] (λvl vi wi=>∃j:Nat,j<=rn/\vi=Zi j/\Hid (wi.ownsRow w.heap.size 56 3 vl (D.length+j) (A1 (D++List.replicate j (p,q,r))))/\Hid (∀i,vl.ownBlock=some i->i≠G.heap.size)/\Hid (wi.heap[G.heap.size]? = some (Zk #[Zi p,Zi q,Zt r] 56))/\Hid (Rd wi b k (af,P))/\Hid (w.grownBy wi (some b))) (λ_ vi _=>rn-(intOf vi).toNat)
     case atStart=>exact⟨0,XS _,rfl,Ab (by simpa using U.o.alloc _),aj,ag,Ab (al.o.alloc _),Ab (H7 ah.o _)⟩
     case round=>
      obtain⟨j,hj,rfl,t,y,I,v,L⟩:=hrel;have a2:=L.o.size
      by_cases hjl:j<rn
      ·obtain⟨y0,y1,y2⟩:=Ei I.o
       have au:=Ac I.o;go_wp2_with (at_builtin;refine wpList_append_lies _ rfl _ _ 51 rfl w.heap.size 56 a0 (.agg #[Zi 0,Zi 0,.string ⟨#[]⟩]) 3 32 underlying51 c.o.1 c.o.2.1 c.o.2.2.1 c.o.2.2.2 rfl (by decide) _ _ _ rfl (t.o.alloc _) ⟨wr.heap.size,0,none⟩ 1 1 [Zi p,Zi q,.string r] rfl rfl ?c1 ?c2 ?c3 ?c4 ?c5 ?c6 _ rfl ?_)
       case c1=>exact λj u hj=>XO (heap_alloc_new _ _) j u hj
       case c2=>exact Hf [(p,q,r)]
       case c3=>omega
       case c4=>unfold maxLen;omega
       case c5=>omega
       case c6=>simp;omega
       intro g am w4 aw J ar a1;have aq:=(v.o.alloc (Zk #[Zi p,Zi q,Zt r] 56)).app (t.o.alloc _) hb J;have ao:=Hj (H7 L.o (Zk #[Zi p,Zi q,Zt r] 56)) (t.o.alloc _) (XB _) J;have an:w4.heap[G.heap.size]? = some (Zk #[Zi p,Zi q,Zt r] 56):=(J.block G.heap.size (by simp;omega) (λe=>y.o _ e.symm rfl)).trans ((XV _ _ _ au).trans I.o)
       have ap:∀i,(Value.slice (some ⟨g,0,none⟩) (D.length+j+1) am).ownBlock=some i->i≠G.heap.size:=λi hi=>by
        have e:g=i:=by simpa[Value.ownBlock] using hi
        subst e
        rcases ar with h|h
        ·exact y.o _ h
        omega
       go_wp2;refine⟨⟨j+1,by omega,by go_num,Ab ?_,Ab ap,Ab an,Ab aq,Ab ao⟩,by simp[intOf];omega⟩;rw[List.replicate_succ',<-Y',Jk];exact aw
      have ej:j=rn:=by omega
      subst ej;go_wp2;refine⟨⟨f1,D++List.replicate j (p,q,r),(af,P),Ab ⟨HG.o,?_,?_,?_⟩,Ab (by rw[XA,XL];exact t.o),v,L⟩,?_⟩
      ·intro h
       have h1:s1.2=false:=by cases X:s1.2 with
        | false=>rfl
        | true=>have:=O X;rw[this] at h;cases h
       have X:=N h1;simp only at ab ⊢;omega
      ·simp only;omega
      ·rw[XA,XL];omega
      rw[ai.o];cases P with
      | true=>rw[AJ5 v.o];omega
      | false=>
        rw[AIg v.o]
        have h1:s1.2=false:=by cases X:s1.2 with
         | false=>rfl
         | true=>have:=O X;cases this
        have X:=N h1;omega
  have HE:Hid (G7 k n (s.1.length+2) [] s=(D,(l,sq))):=Ab (by rw[T.o.1,Lj (by simp[hlt])]);have av:¬(D.length:Int)<(n:Int):=by omega
  go_wp2;go_ret;rw[HE.o];exact⟨_,rfl,ho.o,a.o,hg.o⟩
theorem lK{k:Int}{n:Nat}:∀(f:Nat)(D:List V)(s:St),(s.2=false->s.1.length<f)->D.length<=n->(G7 k n f D s).2.2=false->(G7 k n f D s).1.length=n
 | 0,D,s,hf,hd,h=>by rw[G7] at h;have:=hf h;omega
 | f+1,D,s,hf,hd,h=>by
   by_cases hc:D.length<n/\s.2=false
   ·rw[Sr hc] at h ⊢
    have c:=Ld ((n-D.length:Nat):Int) s;refine lK f _ _ (λa=>?_) ?_ h
    ·have b:(Am ((n-D.length:Nat):Int) s).2.2=false:=by
      cases h4:(Am ((n-D.length:Nat):Int) s).2.2 with
      | false=>rfl
      | true=>have:=Sh (kind:=k) h4;rw[Qy,this] at a;cases a
     have d:=eG b;have e:=Ja k (Am ((n-D.length:Nat):Int) s).2;have g:=hf hc.2;show (Qy k n D s).1.length<f;unfold Qy;omega
    unfold rM;rw[XA,XL];omega
   rw[Lj hc] at h ⊢;simp only at h ⊢;have:¬D.length<n:=λa=>hc ⟨a,h⟩
   omega
theorem W4{d:List V}:∀(n:Nat)(A:List V)(s:St),(Ec d n A s).2.2=false->(Ec d n A s).1.length=A.length+n
 | 0,A,s,_=>rfl
 | n+1,A,s,h=>by
   rw[Ec] at h ⊢;split at h
   ·rename_i h2;simp only at h;rw[h] at h2;cases h2
   rename_i h2;rw[if_neg h2,W4 n _ _ h];simp;omega
theorem fI:∀(n:Nat)(a:Int)(s:St),(E5 n a s).1.length=n
 | 0,_,_=>rfl
 | n+1,a,s=>by simp[E5,fI n]
theorem xC{k:Int}{i n:Nat}{s:St}(h:(Gs k i n s).2.2=false):(Gs k i n s).1.length=n:=by
 unfold Gs at h ⊢;split
 ·exact Ps k n s
 split
 ·rename_i h1 h2
  rw[if_neg h1,if_pos h2] at h;exact lK _ _ _ (λ_=>by omega) (by simp) h
 split
 ·rename_i h1 h2 h3
  rw[if_neg h1,if_neg h2,if_pos h3] at h;have:=W4 n [] _ h;unfold Nw;rw[this];simp
 split
 ·exact fI n 0 s
 rename_i h1 h2 h3 h4;rw[if_neg h1,if_neg h2,if_neg h3,if_neg h4] at h;cases h
theorem AAc(b a n:Nat)(k:Int)(s:St)(w:Tw)(h:Rd w b k s)(j:s.1.length<=1000000)(l:n<=1000):
 Zc 244 #[Zp (some ⟨b,0,none⟩),Zi a,Zi n] w λe q=>∃v',e=Zr v'/\q.ownsRow w.heap.size 56 3 v' (Gs k a n s).1.length (A1 (Gs k a n s).1)/\Rd q b k (Gs k a n s).2/\w.grownBy q (some b):=by
 have r:=Ab (Lb b n k s w h j l);have H1:=Ab (AF6 b n k s w h j l);have H2:=Ab (ABm b n k s w h j l);have H3:=Ab (ADk b n k s w h j l);obtain⟨D,G,I,J,L⟩:=G9 h;have t:=Ab h;clear h;have v:a=0\/a=1\/a=2\/a=3\/4<=a:=by omega
 rcases v with rfl|rfl|rfl|rfl|u
 ·have c:Hid (Gs k 0 n s=Cn k n s):=Ab rfl
  rw[c.o];go_enter func244,ntmps244;go_wp2_with (go_at_call 282;refine r.o.mono ?_;rintro e m⟨i,rfl,g,d,f⟩);go_ret;exact⟨i,rfl,g,d,f⟩
 ·have c:Hid (Gs k 1 n s=G7 k n (s.1.length+2) [] s):=Ab rfl
  rw[c.o];go_enter func244,ntmps244;go_wp2_with (go_at_call 283;refine H1.o.mono ?_;rintro e m⟨i,rfl,g,d,f⟩);go_ret;exact⟨i,rfl,g,d,f⟩
 ·have c:Hid (Gs k 2 n s=Nw k n s):=Ab rfl
  rw[c.o];go_enter func244,ntmps244;go_wp2_with (go_at_call 284;refine H2.o.mono ?_;rintro e m⟨i,rfl,g,d,f⟩);go_ret;exact⟨i,rfl,g,d,f⟩
 ·have c:Hid (Gs k 3 n s=E5 n 0 s):=Ab rfl
  rw[c.o];go_enter func244,ntmps244;go_wp2_with (go_at_call 285;refine H3.o.mono ?_;rintro e m⟨i,rfl,g,d,f⟩);go_ret;exact⟨i,rfl,g,d,f⟩
 have c:Hid (Gs k a n s=([],(s.1,true))):=Ab (by unfold Gs;rw[if_neg (by omega),if_neg (by omega),if_neg (by omega),if_neg (by omega)]);rw[c.o];have x:((a:Int)==0)=false:=by simp;omega
 have y:((a:Int)==1)=false:=by simp;omega
 have z:((a:Int)==2)=false:=by simp;omega
 have b3:((a:Int)==3)=false:=by simp;omega
 clear u r H1 H2 H3;go_enter func244,ntmps244;go_wp2_with fail;refine(yM b k s w t.o).mono ?_;rintro e m⟨rfl,o,p⟩;go_wp2;go_ret;exact⟨_,rfl,XI _ _ _ _,o,p⟩
theorem AJn:(prog.info? 3).map (λi=>(i.zero,i.size,i.bytes))=some (some (Zi 0),1,8):=by kernel_rfl
theorem cV{n:Nat}{s:St}(h:(C8 n s).2.2=false):(C8 n s).1.length=n/\s.2=false:=by
 unfold C8 at h ⊢;split
 ·rename_i h2;rw[if_pos h2] at h;cases h
 rename_i h2;rw[if_neg h2] at h;exact⟨by simp;omega,h⟩
theorem ADt(n:Nat):(madeCells (#[Zi 0,Zi 0,Zt ⟨#[]⟩]:Array Tv) (n*3)).toList=A1 (List.replicate n (0,0,str [])):=by
 apply XM;intro j
 by_cases hj:j<n*3
 ·have f:(List.replicate n ((0,0,str []):V))[j / 3]? = some (0,0,str []):=by rw[List.getElem?_replicate,if_pos (by omega)]
  obtain⟨b,c,d⟩:=Hr f;have a:j % 3=0\/j % 3=1\/j % 3=2:=by omega
  have e:(madeCells (#[Zi 0,Zi 0,Zt ⟨#[]⟩]:Array Tv) (n*3)).toList[j]? = some ((#[Zi 0,Zi 0,Zt ⟨#[]⟩]:Array Tv)[j % 3]!):=by simp[madeCells,hj]
  rw[e]
  rcases a with a|a|a
  ·rw[show j / 3*3=j by omega] at b
   rw[b,a];rfl
  ·rw[show j / 3*3+1=j by omega] at c
   rw[c,a];rfl
  rw[show j / 3*3+2=j by omega] at d;rw[d,a];rfl
 have e:(madeCells (#[Zi 0,Zi 0,Zt ⟨#[]⟩]:Array Tv) (n*3)).toList[j]? = none:=by simp[madeCells,hj]
 rw[e,Yb (by rw[K3];simp;omega)]
theorem Po(nb:List UInt8):∀k p,p∈B8 nb k->p<k
 | 0,p,h=>by simp[B8] at h
 | k+1,p,h=>by
   unfold B8 at h;split at h
   ·simp at h
    rcases h with h|rfl
    ·have:=Po nb k p h;omega
    omega
   have:=Po nb k p h;omega
theorem Us(nb:List UInt8):∀k,(B8 nb k).length<=k
 | 0=>by simp[B8]
 | k+1=>by have:=Us nb k;unfold B8;split <;> simp <;> omega
theorem Pf(l:List V)(a:List V):F0 l [] a=l:=by cases a <;> rfl
theorem Xp:∀(l:List V)(a:List Nat)(b:List V)(i p:Nat)(x:V),a[i]? = some p->b[i]? = some x->F0 l (a.take (i+1)) (b.take (i+1))=(F0 l (a.take i) (b.take i)).set p x
 | l,[],b,i,p,x,h,_=>by simp at h
 | l,q :: a,[],i,p,x,_,h=>by simp at h
 | l,q :: a,y :: b,0,p,x,h1,h2=>by simp at h1 h2;subst h1 h2;simp[F0]
 | l,q :: a,y :: b,i+1,p,x,h1,h2=>by have e:=Xp (l.set q y) a b i p x (by simpa using h1) (by simpa using h2);simp only[List.take_succ_cons,F0];exact e
theorem Rm:∀(l:List V)(a:List Nat)(b:List V),(F0 l a b).length=l.length
 | l,[],b=>by rw[Pf]
 | l,q :: a,[]=>rfl
 | l,q :: a,y :: b=>by rw[F0,Rm];simp
def Mo(l:List Nat):List Value:=l.map λ(x:Nat)=>Value.int .i64 (x:Int)
theorem oX(l:List Nat):∀y∈Mo l,y.oneCell'=true:=by intro y a;simp only[Mo,XQ] at a;obtain⟨x,_,rfl⟩:=a;rfl
theorem and_one(x:Nat)(h:x<256):bits .and .u8 (x:Int) 1=((x % 2:Nat):Int):=by have:=bits_mask .u8 8 (by decide) wraps_u8 1 (by decide) (x:Int) (by omega) (by omega);simpa using this
theorem dA{nb:List UInt8}{k:Nat}(h:gF nb k=0):B8 nb (k+1)=B8 nb k++[k]:=by rw[B8,if_pos h]
theorem lF{nb:List UInt8}{k:Nat}(h:¬gF nb k=0):B8 nb (k+1)=B8 nb k:=by rw[B8,if_neg h]
theorem AJK(nb:List UInt8)(q:Nat)(h:q<(str nb).size):(str nb)[q].toNat=(nb[q]?.getD 0).toNat:=by
 have a:q<nb.length:=by rw[Ds] at h;exact h
 rw[Y9 a];rfl
theorem Ak{B e z n:Nat}{xs:List Tv}(h:w.ownsRow B e z v n xs):∃b a,v=Zs b n a/\n<=a:=by
 rcases h.2 with⟨rfl,rfl⟩|⟨g,c,d,f,j,k,i,_⟩
 ·exact⟨none,0,rfl,XB _⟩
 exact⟨_,_,f,i⟩
theorem Rl(b:Nat)(k:Int)(l:List UInt8)(w:Tw)(hr:Rd w b k (l,false))(hl:l.length<=1000000):
 Zc 206 #[Zp (some ⟨b,0,none⟩)] w λe w'=>∃v' a1,e=Zr v'/\Rd w' b k a1/\a1.2=(Lr k l).2/\(a1.2=false->w'.ownsRow w.heap.size 56 3 v' (Lr k l).1.length (A1 (Lr k l).1))/\w.grownBy w' (some b):=by
 obtain⟨ci,ac,ah,v,x⟩:=info_parts Ip;have m:=Zy ac ah v x;obtain⟨i3,bj,bs,ae,ag⟩:=info_parts AJn;have M:=Zy bj bs ae ag;clear ac ah v x bj bs ae ag;have hb:=hr.lt;have G:Hid _:=Ab (O0 b k 60 (l,false) w hr hl (by omega) (by omega));have ax:=Ld 60 (l,false);have bp:=F4 60 (l,false);have c:Hid (Lr k l=if (cB l).2.2 then ([],true) else if (nS k l).2.2 then ([],true) else (F0 (List.replicate (V6 l).1 (0,0,str [])) (xX l) (nS k l).1,false)):=Ab rfl;have HN:Hid (V6 l=Am 60 (l,false)):=Ab rfl;have HB:Hid (Bv l=C8 (((V6 l).1+7) / 8) (V6 l).2):=Ab rfl;have HW:Hid (cB l=C8 1 (Bv l).2):=Ab rfl;have HP:Hid (xX l=B8 (Bv l).1 (V6 l).1):=Ab rfl;have ak:Hid (nS k l=Gs k ((cB l).1[0]?.getD 0).toNat (xX l).length (cB l).2):=Ab rfl;rw[<-HN.o] at G ax bp;generalize V6 l=R1 at *;obtain⟨n,s1⟩:=R1;simp only at ax bp HB HP G c;have I:=Ab (λW hW=>V0 b ((n+7) / 8) k s1 W hW (by omega) (by omega));have bd:=Ji ((n+7) / 8) s1;have T:=@cV ((n+7) / 8) s1;rw[<-HB.o] at I bd T;generalize Bv l=R2 at *;obtain⟨nb,s2⟩:=R2;simp only at bd T HW HP I;have J:=Ab (λW hW=>V0 b 1 k s2 W hW (by omega) (by omega));have au:=Ji 1 s2;have U:=@cV 1 s2;rw[<-HW.o] at J au U;generalize cB l=R3 at *;obtain⟨wb,s3⟩:=R3;simp only at au U ak J c;have a2:=Ab (Xb n (by omega));have cr:n<=60:=by omega
 clear hr HN HB HW ax;go_enter func206,ntmps206;go_wp2_with fail;refine G.o.mono ?_;rintro e w1⟨rfl,ba,bg⟩;go_wp2_with fail;have a8:Hid (Rd w1.drew b k s1):=Ab ba
 go_region_with
  (first
    | (go_at_call 243;refine(a2.o _).mono ?_;rintro e dk⟨rfl,rfl⟩)
    | (go_at_call 195;refine(I.o _ a8.o).mono ?_;rintro e w2⟨rfl,bb,bh⟩))
 go_wp2_with fail;refine(J.o _ bb).mono ?_;rintro e f⟨rfl,aq,bi⟩;have aj:=Ab (Al bg (Al (Al (Cr ((WA _ _).drew)) bh) bi));obtain⟨q0,q1,q2,z1,z2⟩:=G9 aq;have r:=Ab aq;clear bg bh bi ba bb aq;obtain⟨o,cj⟩:=s3;simp only at q1 q2 au;cases cj with
 | true=>have HE:Hid (Lr k l=([],true)):=Ab (by rw[c.o];rfl);go_wp2_with fail;refine(E9 b k _ f r.o).mono ?_;rintro e f⟨rfl,rfl⟩;go_wp2;go_ret;exact⟨_,(o,true),rfl,r.o,by rw[HE.o],(λh=>by cases h),aj.o⟩
 | false=>
   obtain⟨br,cc⟩:=U rfl;obtain⟨bk,dc⟩:=T cc;have HQ:=Ab (AJK nb);have bl:(str nb).size=(n+7) / 8:=by rw[Ds,bk]
   obtain⟨c0,cg⟩:∃c0,wb=[c0]:=by
    match wb,br with
    | [c0],_=>exact⟨c0,rfl⟩
   subst cg;have ad:∀i,i<n->i / 8<(str nb).size:=λi hi=>by rw[bl];omega
   have bv:=Ab ad;have cs:(str nb).size<=100:=by omega
   generalize str nb=Y at *;clear T U bl ad G I J a2 br bk;go_wp2_with fail;refine(E9 b k _ f r.o).mono ?_;rintro e f⟨rfl,rfl⟩;go_wp2_with (refine wpList_make_full _ rfl _ _ 51 rfl f.heap.size 56 ci (.agg #[Zi 0,Zi 0,.string ⟨#[]⟩]) 3 underlying51 m.o.1 m.o.2.1 m.o.2.2.1 .i64 .i64 _ _ n rfl rfl rfl rfl ?m1 ?m2 ?m3 ?_)
   case m1=>rw[m.o.2.2.2];omega
   case m2=>unfold maxLen;omega
   case m3=>exact XB _
   intro w4 bm d;have a5:Hid (w4.ownsRow f.heap.size 56 3 (Zs (some ⟨f.heap.size,0,none⟩) n n) n (A1 (List.replicate n (0,0,str [])))):=Ab (by rw[<-ADt];exact bm);have ab:f.grownBy w4 (some b):=⟨d.os,d.tape,d.output,d.size,λi hi _=>d.block i hi (by simp)⟩;have bt:=Ab (Al aj.o ab);have a9:Hid (Rd w4 b k (o,false)):=Ab ((d.block b r.o.lt (by simp)).trans r.o);have X:=aj.o.size;have dd:=d.size;have cy:f.heap.size<w4.heap.size:=(a5.o.lt _ rfl).2;clear bm d ab q0 q1 q2 z1 z2;go_wp2
   go_loopw [7,8,33] (λvp _ vi wr=>∃i:Nat,i<=n/\vi=Zi i/\Hid (wr.ownsRow w4.heap.size 3 1 vp (B8 nb i).length (Mo (B8 nb i)))/\Hid (w4.grownBy wr none)) (λ_ _ vi _=>n-(intOf vi).toNat)
   case atStart=>exact⟨0,XS _,rfl,XI _ _ _ _,G2 _ _⟩
   case round=>
    obtain⟨i,hi,rfl,hp,z⟩:=hrel;have ce:=z.o.size;have a7:=Ab (Us nb i)
    by_cases hlt:i<n
    ·have hq:=bv.o i hlt
     have bc:=HQ.o (i / 8) hq;have az:Y[i / 8].toNat<256:=Y[i / 8].toNat_lt;have D:Hid (gF nb i=Y[i / 8].toNat / 2 ^ (i % 8) % 2):=Ab (by unfold gF;rw[bc]);have am:=Ab (@dA nb i);have al:=Ab (@lF nb i);generalize cb:i / 8=q at *;have da:(i:Int) / 8=(q:Int):=by omega
     have db:(q:Int)<(Y.size:Int):=by omega
     generalize cd:i % 8=sh at *;have dg:(i:Int) % 8=(sh:Int):=by omega
     have df:sh<8:=by omega
     clear cb cd bc;have hE:=and_one (Y[q].toNat / 2 ^ sh) (Nat.lt_of_le_of_lt (Nat.div_le_self _ _) az);have ed:((Y[q].toNat / 2 ^ sh:Nat):Int)=(Y[q].toNat:Int) / 2 ^ sh:=by simp
     rw[ed] at hE;clear ed
     by_cases hbit:Y[q].toNat / 2 ^ sh % 2=0
     ·rw[hbit] at hE
      have ca:=a7.o;have g:=am.o (by rw[D.o];exact hbit);have g:=Ab g;clear hbit am al D;go_wp2_with (at_builtin;refine wpList_append_own _ rfl _ _ 28 rfl w4.heap.size 3 i3 (Zi 0) 1 8 underlying28 M.o.1 M.o.2.1 M.o.2.2.1 M.o.2.2.2 rfl (by decide) _ _ _ rfl (hp.o.alloc _) ⟨wr.heap.size,0,none⟩ 1 1 [Zi (i:Int)] rfl rfl ?c1 ?c2 ?c3 ?c4 ?c5 ?_)
      case c1=>exact λj u hj=>XO (heap_alloc_new _ _) j u hj
      case c2=>exact oX [i]
      case c3=>unfold maxLen;omega
      case c4=>omega
      case c5=>simp;omega
      intro v5 w5 bn b8 _;have b5:=Hj (H7 z.o (Zk #[Zi (i:Int)] 3)) (hp.o.alloc _) (XB _) b8;go_wp2;refine⟨⟨i+1,by omega,by go_num,Ab ?_,Ab b5⟩,by simp[intOf];omega⟩;rw[g.o,XA];unfold Mo at bn ⊢;rw[WC];exact bn
     have h1:Y[q].toNat / 2 ^ sh % 2=1:=by omega
     rw[h1] at hE;have g:=al.o (by rw[D.o];exact hbit);have g:=Ab g;clear hbit am al D h1;go_wp2;exact⟨⟨i+1,by omega,by go_num,by rw[g.o];exact hp,z⟩,by simp[intOf];omega⟩
    obtain rfl:i=n:=by omega
    have ca:=a7.o;have b0:=Ab (Po nb i);have aa:Hid (nS k l=Gs k c0.toNat (B8 nb i).length (o,false)):=Ab (by rw[ak.o,HP.o];rfl);rw[HP.o] at c;have b1:Hid (Rd wr b k (o,false)):=Ab ((z.o.block b a9.o.lt (by simp)).trans a9.o);have bu:Hid (w.grownBy wr (some b)):=Ab (Al bt.o ⟨z.o.os,z.o.tape,z.o.output,z.o.size,λj hj _=>z.o.block j hj (by simp)⟩);have bx:Hid (wr.ownsRow f.heap.size 56 3 (Zs (some ⟨f.heap.size,0,none⟩) i i) i (A1 (List.replicate i (0,0,str [])))):=Ab (a5.o.kept z.o (.inr (by simp[Value.ownBlock])));have L:=Ab (AAc b c0.toNat (B8 nb i).length k (o,false) wr b1.o (by simp only;omega) (by omega));have N:=Ab (@xC k c0.toNat (B8 nb i).length (o,false));rw[<-aa.o] at L N;have ch:(str [c0]).size=1:=Ds [c0];have bq:∀h,(str [c0])[0]'h=c0:=λ_=>rfl
    clear ak HP aa;generalize nS k l=R5 at *;obtain⟨F,⟨a0,ck⟩⟩:=R5;simp only at L N c;generalize b6:B8 nb i=P at *;obtain⟨ap,cp,rfl,cx⟩:=Ak hp.o;have b7:(c0.toNat:Int)<256:=by have:=c0.toNat_lt;omega
    have b2:Hid (w4.heap.size<=wr.heap.size):=Ab ce;clear b6 hlt;generalize str [c0]=ws at *;have di:(0:Int)<(ws.size:Int):=by rw[ch];decide
    have dj:ws[0].toNat=c0.toNat:=by rw[bq]
    clear bq;go_wp2_with fail;refine L.o.mono ?_;rintro e w6⟨vf,rfl,bf,ar,s⟩;have de:=s.size;have a4:=Ab (Al bu.o s);have a6:=Ab (Dc bx.o (by omega) s);have bz:=Ab (Dc hp.o (by omega) s);have a3:=Ab bf;have O:=Ab ar;obtain⟨q0,q1,q2,z1,z2⟩:=G9 ar;simp only at q2;clear bf ar s L;cases ck with
    | true=>have HE:Hid (Lr k l=([],true)):=Ab (by rw[c.o];rfl);go_wp2_with fail;refine(E9 b k _ w6 O.o).mono ?_;rintro e w6⟨rfl,rfl⟩;go_wp2;go_ret;exact⟨_,(a0,true),rfl,O.o,by rw[HE.o],(λh=>by cases h),a4.o⟩
    | false=>
      have R:=N.o rfl;have ai:=Ab R;have HE:Hid (Lr k l=(F0 (List.replicate i (0,0,str [])) P F,false)):=Ab (by rw[c.o];rfl);clear c N;obtain⟨af,cf,rfl,cw⟩:=Ak a3.o;have cl:P.length<=60:=by omega
      clear R;go_wp2_with fail;refine(E9 b k _ w6 O.o).mono ?_;rintro e w6⟨rfl,rfl⟩;go_wp2
      go_loopw [10,11,63] (λ_ _ vi wx=>∃j:Nat,j<=P.length/\vi=Zi j/\Hid (wx.ownsRow f.heap.size 56 3 (Zs (some ⟨f.heap.size,0,none⟩) i i) i (A1 (F0 (List.replicate i (0,0,str [])) (P.take j) (F.take j))))/\Hid (wx.ownsRow w4.heap.size 3 1 (Zs ap P.length cp) P.length (Mo P))/\Hid (wx.ownsRow wr.heap.size 56 3 (Zs af F.length cf) F.length (A1 F))/\Hid (Rd wx b k (a0,false))/\Hid (w.grownBy wx (some b))) (λ_ _ vi _=>P.length-(intOf vi).toNat)
      case atStart=>exact⟨0,XS _,rfl,a6,bz,a3,O,a4⟩
      case round=>
       obtain⟨j,hj,rfl,a,aw,t,bo,av⟩:=hrel
       by_cases hjl:j<P.length
       ·obtain⟨p,V⟩:=Hk hjl
        obtain⟨⟨kx,nx,tx⟩,ay⟩:=Hk (l:=F) (k:=j) (by have:=ai.o;omega);have c9:p<i:=b0.o p (XN V);obtain⟨gp,cv,ao,co,cq⟩:=aw.o.form (by omega);injection ao with ao _ b4;subst ao b4;have R:=ai.o;obtain⟨gf,cu,an,cm,cn⟩:=t.o.form (by omega);injection an with an _ b3;subst an b3;have y:wr.cell? ⟨gp,j,none⟩=some (Zi (p:Int)):=(aw.o.cellAt _ (by omega)).trans (by simp[Mo,V]);obtain⟨f0,f1,f2⟩:=Hr ay;have x0:wr.cell? ⟨gf,j*3,none⟩=some (Zi kx):=(t.o.cellAt _ (by omega)).trans f0;have x1:wr.cell? ⟨gf,j*3+1,none⟩=some (Zi nx):=(t.o.cellAt _ (by omega)).trans f1;have x2:wr.cell? ⟨gf,j*3+2,none⟩=some (Zt tx):=(t.o.cellAt _ (by omega)).trans f2;have u0:=a.o.frozenAt (p*3);have u1:=a.o.frozenAt (p*3+1);have u2:=a.o.frozenAt (p*3+2);have b9:=a.o.1;obtain⟨o0,c6⟩:∃y,wr.cell? ⟨f.heap.size,p*3,none⟩=some y:=⟨_,(a.o.cellAt _ (by omega)).trans (Y9 (by omega))⟩;obtain⟨o1,c7⟩:∃y,wr.cell? ⟨f.heap.size,p*3+1,none⟩=some y:=⟨_,(a.o.cellAt _ (by omega)).trans (Y9 (by omega))⟩;obtain⟨o2,c8⟩:∃y,wr.cell? ⟨f.heap.size,p*3+2,none⟩=some y:=⟨_,(a.o.cellAt _ (by omega)).trans (Y9 (by omega))⟩;have bw:=Ab (Xp (List.replicate i (0,0,str [])) P F j p (kx,nx,tx) V ay);have ct:(p:Int)<(i:Int):=by omega
        have cz:(j:Int)<(F.length:Int):=by omega
        have dh:=av.o.size;clear V ay f0 f1 f2 b9 R;go_wp2;have s0:=a.o.stored (p*3) (Zi kx);have s1:=s0.1.stored (p*3+1) (Zi nx);have s2:=s1.1.stored (p*3+2) (Zt tx);have sg:=Al s0.2 (Al s1.2 s2.2);refine⟨⟨j+1,by omega,by go_num,Ab (by rw[bw.o,Ku];exact s2.1),Ab (Dc aw.o (by omega) sg),Ab (Dc t.o (by have:=b2.o;omega) sg),Ab (bo.o.grown sg (by omega)),Ab (C0 (C0 (C0 av.o X _) X _) X _)⟩,by simp[intOf];omega⟩
       have ej:j=P.length:=by omega
       have e1:P.take j=P:=Yd (by omega);have e2:F.take j=F:=Yd (by have:=ai.o;omega);rw[e1,e2] at a;clear ej e1 e2;go_wp2;go_ret;refine⟨_,(a0,false),rfl,bo.o,by rw[HE.o],λ_=>?_,av.o⟩;rw[HE.o];simp only[Rm,XL];exact Ai a.o X
def OkV(x:V):Prop := -9223372036854775808<=x.2.1/\x.2.1<=9223372036854775807/\x.2.2.size<=1000000
theorem sH:OkV (0,0,str []):=⟨by decide,by decide,by rw[show (0,0,str []).2.2=str [] from rfl,Ds];decide⟩
theorem l8(h:s.1.length<=1000000):OkV (Dy k s).1:=by
 unfold Dy;split
 ·have:=AEq (aW s)
  exact⟨this.1,this.2,by rw[show (1,Lib.unzigzag (Fg s).1,str []).2.2=str [] from rfl,Ds];decide⟩
 refine⟨by show (-9223372036854775808:Int)<=0;decide,by show (0:Int)<=_;decide,?_⟩;show (str (C8 (Am 40 s).1 (Am 40 s).2).1).size<=1000000;rw[Ds];have a:=F4 40 s;unfold C8;split
 ·simp
 simp;omega
theorem Rq{k:Int}:∀(n:Nat)(s:St),s.1.length<=1000000->∀x∈(Cn k n s).1,OkV x
 | 0,_,_,x,h=>by simp[Cn] at h
 | n+1,s,hs,x,h=>by
   simp only[Cn,WI] at h
   rcases h with rfl|h
   ·exact l8 hs
   exact Rq n _ (XH (Ja k s) hs) x h
theorem kV:∀(n:Nat)(a:Int)(s:St),∀x∈(E5 n a s).1,OkV x
 | 0,_,_,x,h=>by simp[E5] at h
 | n+1,a,s,x,h=>by
   simp only[E5,WI] at h
   rcases h with rfl|h
   ·have:=N1 (a+Lib.unzigzag (Fg s).1)
    refine⟨this.1,this.2,?_⟩;show (str []).size<=_;rw[Ds];decide
   exact kV n _ _ x h
theorem pX{k:Int}{n:Nat}:∀(f:Nat)(D:List V)(s:St),s.1.length<=1000000->(∀x∈D,OkV x)->∀x∈(G7 k n f D s).1,OkV x
 | 0,D,s,_,hd,x,h=>hd x h
 | f+1,D,s,hs,hd,x,h=>by
   by_cases hc:D.length<n/\s.2=false
   ·rw[Sr hc] at h
    have b:=F4 ((n-D.length:Nat):Int) s;have c:=Ja k (Am ((n-D.length:Nat):Int) s).2;refine pX f _ _ (by unfold Qy;omega) (λy a=>?_) x h;unfold rM at a;simp only[WD,List.mem_replicate] at a
    rcases a with a|⟨_,rfl⟩
    ·exact hd y a
    exact l8 (by omega)
   rw[Lj hc] at h;exact hd x h
theorem fS{d:List V}(b:∀x∈d,OkV x):∀(n:Nat)(A:List V)(s:St),(∀x∈A,OkV x)->∀x∈(Ec d n A s).1,OkV x
 | 0,A,s,ha,x,h=>ha x h
 | n+1,A,s,ha,x,h=>by
   rw[Ec] at h;split at h
   ·simp at h
   refine fS b n _ _ (λy a=>?_) x h;simp only[WD,List.mem_singleton] at a
   rcases a with a|rfl
   ·exact ha y a
   cases e:d[(Am ((d.length:Int)-1) s).1]? with
   | none=>exact sH
   | some z=>exact b z (XN e)
theorem ACA{i n:Nat}(h:s.1.length<=1000000):∀x∈(Gs k i n s).1,OkV x:=by
 unfold Gs;split
 ·exact Rq n s h
 split
 ·exact pX _ _ _ h (by simp)
 split
 ·exact fS (Rq _ _ (XH (F4 _ _) h)) _ _ _ (by simp)
 split
 ·exact kV n 0 s
 simp
theorem jS:∀(l:List V)(b:List Nat)(a:List V),(∀x∈l,OkV x)->(∀x∈a,OkV x)->∀x∈F0 l b a,OkV x
 | l,[],a,hl,_,x,h=>by rw[Pf] at h;exact hl x h
 | l,q :: b,[],hl,_,x,h=>hl x h
 | l,q :: b,y :: a,hl,hv,x,h=>by
   rw[F0] at h;refine jS _ b a (λz c=>?_) (λz c=>hv z (by simp[c])) x h
   rcases Yt c with d|rfl
   ·exact hl z d
   exact hv z (by simp)
theorem nO(h:l.length<=1000000):Okl (Lr k l).1/\(Lr k l).1.length<=60:=by
 have d:((V6 l).1:Int)<=60:=by have:=Ld 60 (l,false);unfold V6;omega
 unfold Lr;split
 ·exact⟨by intro x a;simp at a,by simp⟩
 split
 ·exact⟨by intro x a;simp at a,by simp⟩
 refine⟨λx a=>?_,by simp only[Rm,XL];omega⟩;have b:(cB l).2.1.length<=1000000:=XH (Ji _ _) (XH (Ji _ _) (XH (F4 60 (l,false)) h));have:=jS _ _ _ (λz c=>by rw[Yy c];exact sH) (ACA b) x a;exact⟨this.1,this.2.1,by unfold maxLen;have:=this.2.2;omega⟩
def Ll(kind:Int)(l:List UInt8):Option (List V) :=
 if (Lr kind l).2 then none else if Gk kind (Lr kind l).1/\Hv kind (Lr kind l).1=l then some (Lr kind l).1 else none
def AHb(r:Option (List V))(w:World)(e:Ending)(a:World):Prop :=
 match r with
 | none=>e=.returned (.tuple #[.slice none 0 0,.iface 90 (Zi 3)])/\Zb w a
 | some L=>∃v',e=.returned (.tuple #[v',.nilIface])/\Sl a v' L/\Zb w a
def AGL(r:Option (List V))(w:World)(e:Ending)(a:World):Prop :=
 match r with
 | none=>e=.returned (.tuple #[.slice none 0 0,.iface 90 (Zi 3)])/\Zb w a
 | some L=>∃v',e=.returned (.tuple #[v',.nilIface])/\a.ownsRow w.heap.size 56 3 v' L.length (A1 L)/\Zb w a
theorem eU{e:Ending}(h:e=Zr (Zu #[Zs none 0 0,Zf 90 (Zi 3)])/\Zb w W):AGL none w e W:=h
theorem gI{r:Tw}{o:Obj}(h:(w.alloc o).grownBy r (some w.heap.size))(_hW:W=w):Zb w r :=
 ⟨h.os,h.tape,h.output,by have:=h.size;simp at this;omega,λk a=>(h.block k (by simp;omega) (by simp;omega)).trans (XV _ _ _ a)⟩
theorem qM(s:Tb)(w:Tw):
 Zc 89 #[Zt s] w λe a=>e=Zr (Zg #[Zt s,Zo false])/\Zb w a:=by
 go_enter func89,ntmps89;go_wp2;refine bodyPost_ret (v:=Zg #[Zt s,Zo false]) (by simp[results,results89,go_sem]) rfl ⟨rfl,?_⟩
 first|exact WA _ _|exact Zal
theorem eS(kind:Int)(s:Tb)(w:Tw)(v:s.size<=1000000):
 Zc 153 #[Zi kind,Zt s] w (AGL (Ll kind s.data.toList) w):=by
 obtain⟨l,rfl⟩:∃l,s=str l:=⟨s.data.toList,(Ux s).symm⟩;rw[Eo];rw[Ds] at v;have y:=Ab (λW:Tw=>Rl W.heap.size kind l (W.alloc (Zk #[Zt (str l),Zo false,Zi kind] 288)) (heap_alloc_new _ _) v);have t:=Ab (qM (str l) w);have f:=Ab (nO (k:=kind) v);have o:Hid (Ll kind l=if (Lr kind l).2 then none else if Gk kind (Lr kind l).1/\Hv kind (Lr kind l).1=l then some (Lr kind l).1 else none):=Ab rfl;have p:Hid (∀L,Me kind L=if Gk kind L then if L.length<=60 then Zu #[Zt (str (Hv kind L)),Zn] else Zu #[Zt ⟨#[]⟩,Zf 90 (Zi 4)] else Zu #[Zt ⟨#[]⟩,Zf 90 (Zi 1)]):=Ab (λ_=>rfl);generalize Lr kind l=R at *;obtain⟨L,q⟩:=R;simp only at y f o;go_enter func153,ntmps153;go_wp2_with fail;refine t.o.mono ?_;rintro e w0⟨rfl,m⟩;go_wp2_with fail;refine(y.o w0).mono ?_;rintro e h⟨M,⟨st1,st2⟩,rfl,j,D,b,r⟩;simp only at D b;subst D;have d:=Ab (m.trans ((gI r rfl).mono m.size));have g:=Ab j;obtain⟨N,O,J,T,U⟩:=G9 j;simp only at J;clear r j;cases st2 with
 | true=>have i:Hid (Ll kind l=none):=Ab (by rw[o.o];rfl);clear b;go_wp2_with fail;refine(E9 _ _ _ h g.o).mono ?_;rintro e h⟨rfl,rfl⟩;go_wp2;go_ret2;rw[i.o];exact eU ⟨rfl,d.o⟩
 | false=>
   have z:=Ab (b rfl);have a:=Ab (gM kind M L h (Cy z.o) (by have:=f.o.2;omega) f.o.1);have n:=d.o.size;have u:=f.o.2;clear b;cases hf:Gk kind L with
   | false=>have i:Hid (Ll kind l=none):=Ab (by rw[o.o,hf];rfl);rw[p.o,hf] at a;simp only[XK,if_false] at a;clear hf;go_wp2_with fail;refine(E9 _ _ _ h g.o).mono ?_;rintro e h⟨rfl,rfl⟩;go_wp2_with fail;refine a.o.mono ?_;rintro e G⟨rfl,c⟩;go_wp2;go_ret2;rw[i.o];exact eU ⟨rfl,d.o.trans (c.mono n)⟩
   | true=>
     rw[p.o,hf] at a;simp only[if_true,if_pos u] at a
     by_cases heq:Hv kind L=l
     ·have i:Hid (Ll kind l=some L):=Ab (by rw[o.o,hf];simp[heq])
      rw[heq] at a;clear hf heq;have x:((str l).toList==(str l).toList)=true:=by simp
      go_wp2_with fail;refine(E9 _ _ _ h g.o).mono ?_;rintro e h⟨rfl,rfl⟩;go_wp2_with fail;refine a.o.mono ?_;rintro e G⟨rfl,c⟩;go_wp2;go_ret2;rw[i.o];exact⟨_,rfl,Ai (Ad z.o c) (by have:=m.size;simp;omega),d.o.trans (c.mono n)⟩
     have i:Hid (Ll kind l=none):=Ab (by rw[o.o,hf];simp[heq])
     have I:((str (Hv kind L)).toList==(str l).toList)=false:=by rw[ByteArray.toList_eq,ByteArray.toList_eq,Eo,Eo];simpa using heq
     clear hf heq;generalize str (Hv kind L)=P at *;go_wp2_with fail;refine(E9 _ _ _ h g.o).mono ?_;rintro e h⟨rfl,rfl⟩;go_wp2_with fail;refine a.o.mono ?_;rintro e G⟨rfl,c⟩;go_wp2;go_ret2;rw[i.o];exact eU ⟨rfl,d.o.trans (c.mono n)⟩
theorem xH(kind:Int)(s:Tb)(w:Tw)(d:s.size<=1000000):
 Zc 153 #[Zi kind,Zt s] w (AHb (Ll kind s.data.toList) w):=by
 refine(eS kind s w d).mono λe f h=>?_
 cases hd:Ll kind s.data.toList with
 | none=>rw[hd] at h;exact h
 | some L=>rw[hd] at h;obtain⟨v',b,c,a⟩:=h;exact⟨v',b,Cy c,a⟩
variable{n x:Nat}{l:List V}
theorem AEg(x:Nat)(o:x<18446744073709551616)(rest:List UInt8):∀(y:Nat)(pre:List UInt8)(acc:Nat),uvarint x=pre++uvarint y->acc+y*2 ^ (7*pre.length)=x->pre.length+(uvarint y).length<=10 ->
 Nu (uvarint x++rest) pre.length (uvarint y++rest) acc=(x,rest,true):=by
 intro y
 induction y using Nat.strongRecOn with
 | ind y ih=>
   intro pre acc b i hlen;have j:=uvarint_pos y;have m:0<2 ^ (7*pre.length):=YZ _
   by_cases h:y<128
   ·have e:=uvarint_small h
    rw[e];have a:(y.toUInt8).toNat=y:=toUInt8_toNat (by omega);rw[List.singleton_append,oV (by omega) (by rw[a];exact h),a];have c:y % 128=y:=YW h;have d:y*2 ^ (7*pre.length) % 18446744073709551616=y*2 ^ (7*pre.length):=YW (by omega);rw[c,d,i]
    have f:(uvarint x++rest).take (pre.length+1)=uvarint x:=by
     have k:(uvarint x).length=pre.length+1:=by rw[b,e];simp
     rw[<-k,List.take_left]
    rw[f];simp
   have e:=uvarint_big (x:=y) (by omega);have g:pre.length≠10:=by omega
   rw[e] at hlen ⊢;have a:((y % 128+128).toUInt8).toNat=y % 128+128:=toUInt8_toNat (by omega);rw[XJ,AAt g (by rw[a];omega),a];have c:(y % 128+128) % 128=y % 128:=by omega
   have l:y % 128*2 ^ (7*pre.length)<=y*2 ^ (7*pre.length):=Yn _ (by omega);have d:y % 128*2 ^ (7*pre.length) % 18446744073709551616=y % 128*2 ^ (7*pre.length):=YW (by omega);rw[c,d]
   have:=ih (y / 128) (by omega) (pre++[(y % 128+128).toUInt8]) (acc+y % 128*2 ^ (7*pre.length)) (by rw[b,e];simp) (by
    rw[XA,YC,show 7*(pre.length+1)=7*pre.length+7 by omega,Y5];have f:y=y / 128*128+y % 128:=by omega
    have n:y*2 ^ (7*pre.length)=y / 128*(2 ^ (7*pre.length)*2 ^ 7)+y % 128*2 ^ (7*pre.length):=by
     have:y / 128*(2 ^ (7*pre.length)*2 ^ 7)=y / 128*128*2 ^ (7*pre.length):=by rw[Y7 (2 ^ (7*pre.length)) (2 ^ 7),<-WJ]
     rw[this,<-X2,<-f]
    omega) (by simp at hlen ⊢;omega)
   rw[XA,YC] at this;exact this
theorem ACJ(a:x<18446744073709551616)(rest:List UInt8):rdNum (uvarint x++rest)=(x,rest,true) :=
 AEg x a rest x [] 0 rfl (by simp) (by have:=uvarint_length64 a;simpa using this)
theorem Uf(a:x<18446744073709551616)(rest:List UInt8):Fg (uvarint x++rest,false)=(x,(rest,false)):=by unfold Fg;rw[ACJ a];rfl
theorem F5{most:Int}(a:x<18446744073709551616)(c:(x:Int)<=most)(rest:List UInt8):Am most (uvarint x++rest,false)=(x,(rest,false)):=by
 have b:Ra most (uvarint x++rest,false)=false:=by unfold Ra;rw[Uf a];simp;omega
 rw[U0 b,Uf a]
theorem M8{t:List UInt8}(h:t.length=n)(rest:List UInt8)(q:Bool):C8 n (t++rest,q)=(t,(rest,q)):=by unfold C8;rw[if_neg (by simp;omega)];subst h;simp
theorem jW{n:Int}:unzigzag (zigzag n)=n:=by unfold unzigzag zigzag;split <;> split <;> omega
def Good(kind:Int)(v:V):Prop:=(kind=1/\v.1=1/\v.2.2=str [] /\ -9223372036854775808<=v.2.1/\v.2.1<=9223372036854775807)\/(kind=2/\v.1=2/\v.2.1=0/\v.2.2.size<=40)
theorem Rn{kind:Int}{v:V}(h:Good kind v)(rest:List UInt8):Dy kind (J3 v++rest,false)=(v,(rest,false)):=by
 obtain⟨k,n,t⟩:=v
 rcases h with⟨rfl,a,b,c,d⟩|⟨rfl,a,b,c⟩
 ·simp only at a b c d
  subst a b;unfold Dy J3;rw[if_pos rfl,if_pos rfl,Uf (zigzag_lt c d)];simp only[jW]
 simp only at a b c;subst a b;unfold Dy J3;rw[if_neg (by show ¬(2:Int)=1;decide),if_neg (by show ¬(2:Int)=1;decide)];have e:t.data.toList.length=t.size:=by rw[Array.length_toList];rfl
 simp only;rw[Y',F5 (by omega) (by omega),M8 e];simp only[Ux]
theorem Ow{kind:Int}:∀(l:List V),(∀v∈l,Good kind v)->∀rest,Cn kind l.length (Fx l++rest,false)=(l,(rest,false))
 | [],_,rest=>rfl
 | v :: l,h,rest=>by have e:Fx (v :: l)=J3 v++Fx l:=rfl;rw[e,XG,Cn,Y',Rn (h v (by simp))];simp only;rw[Ow l (λx a=>h x (by simp[a]))]
theorem dG(v:V):∀l:List V,l=List.replicate (same v l) v++l.drop (same v l)
 | []=>by simp[same]
 | x :: l=>by
   unfold same
   by_cases h:x=v
   ·subst h
    rw[if_pos rfl,YH,List.drop_succ_cons,XJ,<-dG x l]
   rw[if_neg h];simp
theorem ADr{kind:Int}(p:n<=1000):∀(m:Nat)(l D:List V)(f:Nat)(rest:List UInt8),l.length=m->(∀v∈l,Good kind v)->D.length+l.length=n->(El l.length l).length<f->G7 kind n f D (El l.length l++rest,false)=(D++l,(rest,false)):=by
 intro m
 induction m using Nat.strongRecOn with
 | ind m ih=>
   intro l D f rest j b a d;cases l with
   | nil=>rw[Lj (by simp at a ⊢;omega)];simp[El]
   | cons v l=>
     obtain⟨f,rfl⟩:∃i,f=i+1:=⟨f-1,by omega⟩;have q:=Ue v l;rw[cC] at d ⊢;have c:D.length<n:=by simp at a;omega
     rw[Sr ⟨c,rfl⟩]
     have e:Am ((n-D.length:Nat):Int) (uvarint (same v l+1)++J3 v++El (l.drop (same v l)).length (l.drop (same v l))++rest,false)=(same v l+1,(J3 v++(El (l.drop (same v l)).length (l.drop (same v l))++rest),false)):=by rw[Y',Y',F5 (by simp at a;omega) (by simp at a;omega)]
     have g:rM kind n D (uvarint (same v l+1)++J3 v++El (l.drop (same v l)).length (l.drop (same v l))++rest,false)=D++List.replicate (same v l+1) v:=by unfold rM;rw[e];simp only;rw[Rn (b v (by simp))]
     have h:Qy kind n D (uvarint (same v l+1)++J3 v++El (l.drop (same v l)).length (l.drop (same v l))++rest,false)=(El (l.drop (same v l)).length (l.drop (same v l))++rest,false):=by unfold Qy;rw[e];simp only;rw[Rn (b v (by simp))]
     rw[g,h];have k:=uvarint_pos (same v l+1);rw[ih (l.drop (same v l)).length (by simp at j ⊢;omega) _ _ _ _ rfl (λx o=>b x (by simp[X4 o])) (by simp at a ⊢;omega) (by simp only[XA] at d;omega)];rw[Y',YH,XJ,<-dG v l]
theorem AC6(a n:Int)(b : -9223372036854775808<=n)(c:n<=9223372036854775807):Pp (a+Pp (n-a))=n:=by unfold Pp;omega
theorem fL:∀(l:List V)(a:Int),(∀v∈l,Good 1 v)->∀rest,E5 l.length a (G5 a l++rest,false)=(l,(rest,false))
 | [],_,_,rest=>rfl
 | (k,n,t) :: l,a,h,rest=>by
   obtain⟨b,c,d,e⟩:k=1/\t=str [] /\ -9223372036854775808<=n/\n<=9223372036854775807:=by
    rcases h (k,n,t) (by simp) with⟨_,b,c,d,e⟩|⟨f,_⟩
    ·exact⟨b,c,d,e⟩
    exact absurd f (by decide)
   subst b c;have i:=zigzag_lt (N1 (n-a)).1 (N1 (n-a)).2;simp only[XG,E5,G5,Y'];rw[Uf i];simp only[jW,AC6 a n d e];rw[fL l n (λx g=>h x (by simp[g]))]
theorem Ny(x:V):∀(d e:List V),place x d<d.length->place x (d++e)=place x d
 | [],e,h=>by simp at h
 | y :: d,e,h=>by
   unfold place at h ⊢;rw[XJ]
   by_cases hy:y=x
   ·simp[hy]
   simp only[hy,if_false] at h ⊢;rw[Ny x d e (by simpa using h)]
theorem Qs(x:V):∀(d:List V),¬place x d<d.length->place x (d++[x])=d.length
 | [],_=>by simp[place]
 | y :: d,h=>by
   unfold place at h ⊢;rw[XJ]
   by_cases hy:y=x
   ·simp[hy] at h
   simp only[hy,if_false] at h ⊢;rw[Qs x d (by simpa using h)];simp
theorem pJ(x:V):∀(d:List V),place x d<d.length->d[place x d]? = some x
 | [],h=>by simp at h
 | y :: d,h=>by
   unfold place at h ⊢
   by_cases hy:y=x
   ·simp[hy]
   simp only[hy,if_false] at h ⊢;simp;exact pJ x d (by simpa using h)
theorem R7:∀(l:List V)(d:List V)(a:List UInt8),∃e,(l.foldl Ff (d,a)).1=d++e/\(l.foldl Ff (d,a)).2=a++l.flatMap (λx=>uvarint (place x (l.foldl Ff (d,a)).1))/\∀x∈l,place x (l.foldl Ff (d,a)).1<(l.foldl Ff (d,a)).1.length
 | [],d,a=>⟨[],by simp,by simp,by simp⟩
 | x :: l,d,a=>by
   rw[List.foldl_cons]
   by_cases h:place x d<d.length
   ·rw[bO (s:=(d,a)) h]
    obtain⟨e,c,g,i⟩:=R7 l d (a++uvarint (place x d));have f:place x (l.foldl Ff (d,a++uvarint (place x d))).1=place x d:=by rw[c];exact Ny x d e h
    refine⟨e,c,?_,λy b=>?_⟩
    ·rw[XE,f,g];simp
    simp at b
    rcases b with rfl|b
    ·rw[f,c,XA];omega
    exact i y b
   rw[aC (s:=(d,a)) h];obtain⟨e,c,g,i⟩:=R7 l (d++[x]) (a++uvarint d.length);have j:place x (d++[x])=d.length:=Qs x d h;have f:place x (l.foldl Ff (d++[x],a++uvarint d.length)).1=d.length:=by rw[c,Ny x _ e (by rw[j];simp),j]
   refine⟨[x]++e,by rw[c,Y'],?_,λy b=>?_⟩
   ·rw[XE,f,g];simp
   simp at b
   rcases b with rfl|b
   ·rw[f,c];simp
   exact i y b
theorem Xu{d:List V}(a:d.length<=1000):∀(l A:List V)(rest:List UInt8),(∀x∈l,place x d<d.length)->Ec d l.length A (l.flatMap (λx=>uvarint (place x d))++rest,false)=(A++l,(rest,false))
 | [],A,rest,_=>by simp[Ec]
 | x :: l,A,rest,h=>by have b:=h x (by simp);rw[XG,Ec,XE,Y',F5 (by omega) (by omega)];simp only[XK,if_false,pJ x d b,XD];rw[Xu a l (A++[x]) rest (λy c=>h y (by simp[c]))];simp
theorem AFr(l:List V):S8 l l.length=l.foldl Ff ([],[]):=by unfold S8;rw[Yd (XB _)]
theorem yP{kind:Int}(m:∀v∈l,Good kind v)(f:Vd l)(rest:List UInt8):Nw kind l.length (Pd l++rest,false)=(l,(rest,false)):=by
 obtain⟨e,j,b,c⟩:=R7 l [] [];obtain⟨g,a,h⟩:=Qg f l.length (XB _);have k:=f.1;rw[AFr] at g a h;unfold Pd;generalize p:l.foldl Ff ([],[])=S at *;obtain⟨d,i⟩:=S;simp only at j b c g a h ⊢
 have n:Am (l.length:Int) (uvarint d.length++Fx d++i++rest,false)=(d.length,(Fx d++(i++rest),false)):=by rw[Y',Y',F5 (by omega) (by omega)]
 unfold Nw;rw[n];simp only;rw[Ow d (λx o=>m x (a x o))];simp only;rw[b,List.nil_append,Xu (by omega) l [] rest c];simp
theorem mF(kind:Int)(l:List V):∀k,1<=k->∃a,a<k/\(a=3->kind=1)/\Hp kind l k=a.toUInt8 :: I0 a l
 | 0,h=>by omega
 | 1,_=>⟨0,by omega,by omega,rfl⟩
 | k+2,_=>by
   obtain⟨a,e,b,c⟩:=mF kind l (k+1) (by omega);rw[M5 kind l (k+1) (by omega)];split
   ·exact⟨a,by omega,b,c⟩
   rename_i hn;unfold better;split
   ·refine⟨k+1,by omega,λh=>?_,rfl⟩
    exact Classical.byContradiction λd=>hn ⟨h,d⟩
   exact⟨a,by omega,b,c⟩
theorem xN{kind:Int}(f:n<4)(c:n=3->kind=1)(a:∀v∈l,Good kind v)(b:Vd l)(rest:List UInt8):Gs kind n l.length (I0 n l++rest,false)=(l,(rest,false)):=by
 have d:=b.1;have e:n=0\/n=1\/n=2\/n=3:=by omega
 rcases e with rfl|rfl|rfl|rfl
 ·exact Ow l a rest
 ·show G7 kind l.length ((El l.length l++rest).length+2) [] (El l.length l++rest,false)=_
  rw[ADr (by omega) l.length l [] _ rest rfl a (by simp) (by simp;omega)];simp
 ·exact yP a b rest
 obtain rfl:=c rfl;exact fL l 0 a rest
theorem AFR(x s t:Nat)(h:t<s):(x+2 ^ s) / 2 ^ t % 2=x / 2 ^ t % 2:=by
 obtain⟨u,rfl⟩:∃u,s=t+1+u:=⟨s-t-1,by omega⟩;have e:2 ^ (t+1+u)=2 ^ t*(2*2 ^ u):=by rw[Y5,Nat.pow_succ,WJ]
 rw[e,Nat.add_mul_div_left _ _ (YZ t)];omega
theorem Pu(l:List V)(m:Nat)(f:l.length<=8*m):∀k,k<=l.length->∀i x,i<k->l[i]? = some x->((Cb l m k)[i / 8]?.getD 0) / 2 ^ (i % 8) % 2=if Qi x=true then 1 else 0
 | 0,_,i,x,hi,_=>by omega
 | k+1,hk,i,x,hi,a=>by
   obtain⟨y,d⟩:=Hk (l:=l) (k:=k) (by omega);have c:k / 8<(Cb l m k).length:=by rw[J6];omega
   obtain⟨z,e⟩:=Hk c;have b:=H5 l m k (k / 8) z e;rw[show min (k-8*(k / 8)) 8=k % 8 by omega] at b;cases hn:Qi y with
   | true=>
     rw[Wx d hn,e,XD]
     by_cases hd:k / 8=i / 8
     ·rw[<-hd,Yi c,XD]
      by_cases hki:i=k
      ·subst hki
       rw[d] at a;injection a with a;subst a;rw[hn,if_pos rfl,Nat.add_div_right _ (YZ _),WB b]
      rw[AFR _ _ _ (by omega)];have g:=Pu l m f k (by omega) i x (by omega) a;rw[<-hd,e,XD] at g;exact g
     rw[Yp hd];exact Pu l m f k (by omega) i x (by omega) a
   | false=>
     rw[cL d hn]
     by_cases hki:i=k
     ·subst hki
      rw[d] at a;injection a with a;subst a;rw[hn,e,XD,WB b];rfl
     exact Pu l m f k (by omega) i x (by omega) a
theorem zE{i:Nat}{x:V}(d:l[i]? = some x):gF (Gq l) i=if Qi x=true then 1 else 0:=by
 have f:i<l.length:=by
  rcases Yc i l.length with b|b
  ·exact b
  rw[Yb b] at d;cases d
 have h:=Pu l ((l.length+7) / 8) (by omega) l.length (XB _) i x f d;unfold gF Gq;have c:i / 8<(Q8 l).length:=by unfold Q8;rw[J6];omega
 obtain⟨z,e⟩:=Hk c;have a:(Cb l ((l.length+7) / 8) l.length)[i / 8]? = some z:=e;rw[a,XD] at h;have g:=H5 l ((l.length+7) / 8) l.length (i / 8) z a;have j:2 ^ (min (l.length-8*(i / 8)) 8)<=2 ^ 8:=Oo (by omega);rw[XF,e];simp only[XR,XD];rw[toUInt8_toNat (by omega)];exact h
theorem dQ:∀(l:List V)(a:List Nat)(b:List V)(p:Nat)(x:V),a.length=b.length->F0 l (a++[p]) (b++[x])=(F0 l a b).set p x
 | l,[],[],p,x,_=>by simp[F0]
 | l,[],_ :: _,p,x,h=>by simp at h
 | l,_ :: _,[],p,x,h=>by simp at h
 | l,q :: a,y :: b,p,x,h=>by rw[XJ,XJ,F0,F0];exact dQ _ a b p x (by simpa using h)
theorem rU{l:List V}(h:∀x∈l,Qi x=true->x=(0,0,str [])):∀k,k<=l.length->(B8 (Gq l) k).length=(known (l.take k)).length/\F0 (List.replicate l.length (0,0,str [])) (B8 (Gq l) k) (known (l.take k))=l.take k++List.replicate (l.length-k) (0,0,str [])
 | 0,_=>by simp[B8,known,Pf]
 | k+1,hk=>by
   obtain⟨c,g⟩:=rU h k (by omega);obtain⟨x,b⟩:=Hk (l:=l) (k:=k) (by omega);have a:=zE b;have f:l.length-k=(l.length-(k+1))+1:=by omega
   have d:(l.take k).length=k:=by simp;omega
   cases hn:Qi x with
   | true=>
     rw[hn,if_pos rfl] at a;rw[lF (by omega),Br b];have e:known (l.take k++[x])=known (l.take k):=by simp[known,hn]
     rw[e];refine⟨c,?_⟩;rw[g,f,YH,h x (XN b) hn];simp
   | false=>
     rw[hn] at a;simp only[XK,if_false] at a;rw[dA a,Br b];have e:known (l.take k++[x])=known (l.take k)++[x]:=by simp[known,hn]
     rw[e];refine⟨by simp[c],?_⟩;rw[dQ _ _ _ _ _ c,g,f,YH,YB _ _ (by omega),d];simp
theorem ADm{kind:Int}(h:Gk kind l=true)(r:Okl l):(∀v∈known l,Good kind v)/\(∀x∈l,Qi x=true->x=(0,0,str [])):=by
 have p:=kW h;simp only[Gk,XC,XT,XU] at h
 have b:∀t:Tb,t.toList.isEmpty=true->t=str []:=λt s=>by
  have:t.data.toList=[]:=by simpa[ByteArray.toList_eq] using s
  rw[<-Ux t,this]
 have c:∀x∈l,A9 x.1 x.2.1 x.2.2=true/\(x.1=0\/x.1=kind):=λx j=>by have:=h.2 x j;simp only[Wa,XY,not_or,Bool.not_eq_true,Bool.not_eq_false',Bool.and_eq_false_iff,beq_iff_eq] at this;exact this
 constructor
 ·intro v u
  have g:=List.mem_filter.1 u;obtain⟨d,o⟩:=c v g.1;have i:v.1≠0:=by simpa[Qi] using g.2
  have a:v.1=kind:=o.resolve_left i;have m:=r v g.1
  rcases p with rfl|rfl
  ·rw[a] at d
   exact .inl ⟨rfl,a,b _ (by simpa[A9] using d),m.1,m.2.1⟩
  rw[a] at d;simp only[A9] at d;have e:v.2.1=0/\Vb v.2.2=true:=by simpa using d
  exact .inr ⟨rfl,a,e.1,by have:=e.2;simp only[Vb,XC,decide_eq_true_eq] at this;exact this.1⟩
 intro x j q;obtain⟨d,_⟩:=c x j;obtain⟨k,n,t⟩:=x;have f:k=0:=by simpa[Qi] using q
 subst f;have e:n=0/\t.toList.isEmpty=true:=by simpa[A9] using d
 rw[e.1,b t e.2]
theorem AE0{kind:Int}(h:Gk kind l=true)(n:Okl l)(r:l.length<=60)(rest:List UInt8):Lr kind (Hv kind l++rest)=(l,false):=by
 obtain⟨q,s⟩:=ADm h n;have p:=dE h n r;obtain⟨a,f,g,i⟩:=mF kind (known l) 4 (by omega);have b:AEn kind (known l)=a.toUInt8 :: I0 a (known l):=i
 have e0:Hv kind l++rest=uvarint l.length++(Gq l++([a.toUInt8]++(I0 a (known l)++rest))):=by unfold Hv;rw[b];simp
 obtain⟨c,d⟩:=rU s l.length (XB _);rw[Yd (XB _)] at c d;rw[e0];have e:V6 (uvarint l.length++(Gq l++([a.toUInt8]++(I0 a (known l)++rest))))=(l.length,(Gq l++([a.toUInt8]++(I0 a (known l)++rest)),false)):=F5 (by omega) (by omega) _
 have j:Bv (uvarint l.length++(Gq l++([a.toUInt8]++(I0 a (known l)++rest))))=(Gq l,([a.toUInt8]++(I0 a (known l)++rest),false)):=by unfold Bv;rw[e];exact M8 (Rp l) _ _
 have m:cB (uvarint l.length++(Gq l++([a.toUInt8]++(I0 a (known l)++rest))))=([a.toUInt8],(I0 a (known l)++rest,false)):=by unfold cB;rw[j];exact M8 rfl _ _
 have k:xX (uvarint l.length++(Gq l++([a.toUInt8]++(I0 a (known l)++rest))))=B8 (Gq l) l.length:=by unfold xX;rw[e,j]
 have o:nS kind (uvarint l.length++(Gq l++([a.toUInt8]++(I0 a (known l)++rest))))=(known l,(rest,false)):=by unfold nS;rw[k,m,c];have:(([a.toUInt8]:List UInt8)[0]?.getD 0).toNat=a:=toUInt8_toNat (by omega);simp only at this ⊢;rw[this];exact xN f g q (Qc p) rest
 unfold Lr;rw[m,o,e,k];simp only[XK,if_false];rw[d];simp
theorem vE{kind:Int}(h:Gk kind l=true)(b:Okl l)(a:l.length<=60):Ll kind (Hv kind l)=some l:=by have:=AE0 h b a [];rw[WE] at this;unfold Ll;rw[this];simp[h]
theorem l3{kind:Int}{s:List UInt8}{m:List V}(h:Ll kind s=some m):Gk kind m=true/\Hv kind m=s/\m=(Lr kind s).1:=by
 unfold Ll at h;split at h
 ·cases h
 split at h
 ·rename_i h2;injection h with h;rw[<-h];exact⟨h2.1,h2.2,rfl⟩
 cases h
end E
namespace S
def Oh(x y:Int):Int:=if x<y then -1 else if y<x then 1 else 0
def cmpL(x y:List UInt8):Int:=if x<y then -1 else if y<x then 1 else 0
def R4(x y:ByteArray):Int:=cmpL x.data.toList y.data.toList
def orI(a b c:Int):Int:=if a=0 then (if b=0 then c else b) else a
def Kb(a n1:Int)(t1:ByteArray)(b n2:Int)(t2:ByteArray):Int:=orI (Oh a b) (Oh n1 n2) (R4 t1 t2)
theorem kE(x y:Int):Oh y x = -Oh x y:=by unfold Oh;split <;> split <;> (try split) <;> omega
theorem Fm(x y:Int):Oh x y = -1/\x<y\/Oh x y=0/\x=y\/Oh x y=1/\y<x:=by unfold Oh;split <;> (try split) <;> omega
theorem AIx(x y:List UInt8):x<y\/x=y\/y<x:=by
 rcases Classical.em (x<y) with h|h
 ·exact .inl h
 rcases Classical.em (y<x) with a|a
 ·exact .inr (.inr a)
 exact .inr (.inl (List.le_antisymm (List.not_lt.mp a) (List.not_lt.mp h)))
theorem yV(x y:List UInt8):cmpL x y = -1/\x<y\/cmpL x y=0/\x=y\/cmpL x y=1/\y<x:=by
 unfold cmpL
 rcases AIx x y with h|h|h
 ·exact .inl ⟨if_pos h,h⟩
 ·subst h;exact .inr (.inl ⟨by rw[if_neg (YA x),if_neg (YA x)],rfl⟩)
 exact .inr (.inr ⟨by rw[if_neg (WK h),if_pos h],h⟩)
theorem Ep(x y:Tb):R4 x y = -1/\x.data.toList<y.data.toList\/R4 x y=0/\x=y\/R4 x y=1/\y.data.toList<x.data.toList:=by
 rcases yV x.data.toList y.data.toList with h|⟨h,e⟩|h
 ·exact .inl h
 ·exact .inr (.inl ⟨h,ByteArray.ext (Array.toList_inj.mp e)⟩)
 exact .inr (.inr h)
theorem ABR{x y:List UInt8}(h:x<y)(a:y<x):False:=WK h a
theorem ACz(x y:Tb):R4 y x = -R4 x y:=by
 rcases Ep x y with⟨h,e⟩|⟨h,e⟩|⟨h,e⟩ <;> rcases Ep y x with⟨h',e'⟩|⟨h',e'⟩|⟨h',e'⟩ <;> rw[h,h'] <;> first
  | rfl
  | exact(ABR e e').elim
  | (subst e;exact(YA _ e').elim)
  | (subst e';exact(YA _ e).elim)
theorem kS(x:Tb):R4 x x=0:=by
 rcases Ep x x with⟨_,e⟩|⟨h,_⟩|⟨_,e⟩
 ·exact(YA _ e).elim
 ·exact h
 exact(YA _ e).elim
theorem AAL(x y z:Tb)(m:Int)(a:R4 x y=m)(b:R4 y z=m):R4 x z=m:=by
 rcases Ep x y with⟨h,e⟩|⟨h,e⟩|⟨h,e⟩ <;> rcases Ep y z with⟨h',e'⟩|⟨h',e'⟩|⟨h',e'⟩ <;> first
  | (exfalso;omega)
  | (subst e;subst e';exact a)
  | skip
 ·have:=WL e e'
  rcases Ep x z with⟨g,f⟩|⟨g,f⟩|⟨g,f⟩
  ·omega
  ·subst f;exact(YA _ this).elim
  exact(ABR this f).elim
 have:=WL e' e
 rcases Ep x z with⟨g,f⟩|⟨g,f⟩|⟨g,f⟩
 ·exact(ABR this f).elim
 ·subst f;exact(YA _ this).elim
 omega
theorem vN(a n1:Int)(t1:Tb)(b n2:Int)(t2:Tb):Kb a n1 t1 b n2 t2 = -1\/Kb a n1 t1 b n2 t2=0\/Kb a n1 t1 b n2 t2=1:=by unfold Kb orI;have:=Fm a b;have:=Fm n1 n2;have:=Ep t1 t2;split <;> (try split) <;> omega
theorem ACp(a n1:Int)(t1:Tb)(b n2:Int)(t2:Tb):Kb b n2 t2 a n1 t1 = -Kb a n1 t1 b n2 t2:=by unfold Kb orI;rw[kE a b,kE n1 n2,ACz t1 t2];split <;> (try split) <;> (try split) <;> (try split) <;> omega
theorem ACf(e n1:Int)(t1:Tb)(f n2:Int)(t2:Tb):Kb e n1 t1 f n2 t2=0↔e=f/\n1=n2/\t1=t2:=by
 constructor
 ·intro h
  unfold Kb orI at h
  rcases Fm e f with⟨a,d⟩|⟨a,d⟩|⟨a,d⟩ <;> rcases Fm n1 n2 with⟨b,b'⟩|⟨b,b'⟩|⟨b,b'⟩ <;> rcases Ep t1 t2 with⟨c,c'⟩|⟨c,c'⟩|⟨c,c'⟩ <;> simp[a,b,c] at h
  exact⟨d,b',c'⟩
 rintro⟨rfl,rfl,rfl⟩;unfold Kb orI;rw[kS];simp[Oh]
theorem AAF(h n1:Int)(t1:Tb)(i n2:Int)(t2:Tb)(j k:Int)(o:Tb)(m:Int)(l:Kb h n1 t1 i n2 t2=m)(n:Kb i n2 t2 j k o=m):Kb h n1 t1 j k o=m:=by
 unfold Kb orI at *;have a:=Fm h i;have b:=Fm i j;have c:=Fm h j;have d:=Fm n1 n2;have e:=Fm n2 k;have f:=Fm n1 k;have g:=AAL t1 t2 o m
 split at l <;> split at n <;> (try split at l) <;> (try split at n) <;> split <;> (try split) <;> first
  | omega
  | exact g l n
  | (exfalso;omega)
theorem O4(x y:Tb):Op.bytesLess x.toList y.toList=decide (x.data.toList<y.data.toList):=by rw[ByteArray.toList_eq,ByteArray.toList_eq,bytesLess_eq]
variable{x y:Tb}
theorem Bd{k:IntKind}{a b:Int}(h:a=b):Ending.returned (.int k a)=Zr (.int k b):=by rw[h]
theorem wD(x y:Int)(w:Tw):
 Zc 157 #[Zi x,Zi y] w λe a=>e=Zr (Zi (Oh x y))/\a=w:=by
 have H:Hid (Oh x y=if x<y then -1 else if y<x then 1 else 0):=rfl;go_enter func157,ntmps157;go_wp2
 all_goals
  go_ret;exact⟨Bd (by rw[H.o];split <;> (try split) <;> omega),rfl⟩
theorem nI(x y:Int)(w:Tw):
 Zc 158 #[Zi x,Zi y] w λe a=>e=Zr (Zi (Oh x y))/\a=w:=by
 have H:Hid (Oh x y=if x<y then -1 else if y<x then 1 else 0):=rfl;go_enter func158,ntmps158;go_wp2
 all_goals
  go_ret;exact⟨Bd (by rw[H.o];split <;> (try split) <;> omega),rfl⟩
theorem cs1(h:Op.bytesLess x.toList y.toList=true):-1=R4 x y:=by
 rw[O4] at h;have h:=of_decide_eq_true h
 rcases Ep x y with⟨g,f⟩|⟨g,f⟩|⟨g,f⟩
 ·exact g.symm
 ·subst f;exact(YA _ h).elim
 exact(ABR h f).elim
theorem cs2(h:Op.bytesLess x.toList y.toList=false)(a:(!x.toList==y.toList)=true):1=R4 x y:=by
 rw[O4] at h;have h:=of_decide_eq_false h
 rcases Ep x y with⟨g,f⟩|⟨g,f⟩|⟨g,f⟩
 ·exact(h f).elim
 ·subst f;simp at a
 exact g.symm
theorem cs3(a:(!x.toList==y.toList)=false):0=R4 x y:=by
 have:x.data.toList=y.data.toList:=by simpa[ByteArray.toList_eq] using a
 have:x=y:=ByteArray.ext (Array.toList_inj.mp this);rw[this,kS]
theorem xM(x y:Tb)(w:Tw):
 Zc 159 #[Zt x,Zt y] w λe a=>e=Zr (Zi (R4 x y))/\a=w:=by
 go_enter func159,ntmps159;go_wp2
 all_goals
  go_ret;exact⟨Bd (by first|exact cs1 ‹_›|exact cs2 ‹_› ‹_›|exact cs3 ‹_›),rfl⟩
theorem or1{x:Int}(y z:Int)(h:¬x=0):x=orI x y z:=by unfold orI;rw[if_neg h]
theorem or2{y:Int}(z:Int)(h:¬y=0):y=orI 0 y z:=by unfold orI;rw[if_pos rfl,if_neg h]
theorem or3(z:Int):z=orI 0 0 z:=by unfold orI;rw[if_pos rfl,if_pos rfl]
theorem AJV(b:Nat)(x y z:Int)(w:Tw)(d:w.cell? ⟨b,0,none⟩=some (Zi x))(f:w.cell? ⟨b,1,none⟩=some (Zi y))(g:w.cell? ⟨b,2,none⟩=some (Zi z)):
 Zc 156 #[Zs (some ⟨b,0,none⟩) 3 3] w λe c=>e=Zr (Zi (orI x y z))/\c=w:=by
 go_enter func156,ntmps156;go_wp2
 go_loop [8] (λi=>(i=Zi 0)\/(i=Zi 1/\x=0)\/(i=Zi 2/\x=0/\y=0)\/(i=Zi 3/\x=0/\y=0/\z=0)) (λi=>3-(intOf i).toNat)
 case atStart=>exact .inl rfl
 case round=>
  rcases hrel with rfl|⟨rfl,rfl⟩|⟨rfl,rfl,rfl⟩|⟨rfl,rfl,rfl,rfl⟩
  ·by_cases hx:x=0
   ·subst hx
    go_wp2
    go_round
    case rel=>simp
    case measure=>simp[intOf]
   have a:(x==0)=false:=by simpa using hx
   go_wp2;go_ret;exact⟨Bd (or1 _ _ hx),rfl⟩
  ·by_cases hx:y=0
   ·subst hx
    go_wp2
    go_round
    case rel=>simp
    case measure=>simp[intOf]
   have a:(y==0)=false:=by simpa using hx
   go_wp2;go_ret;exact⟨Bd (or2 _ hx),rfl⟩
  ·by_cases hx:z=0
   ·subst hx
    go_wp2
    go_round
    case rel=>simp
    case measure=>simp[intOf]
   have a:(z==0)=false:=by simpa using hx
   go_wp2;go_ret;exact⟨Bd (or3 _),rfl⟩
  go_wp2;go_ret;exact⟨Bd (or3 _),rfl⟩
theorem Kc(b n1 c n2:Int)(t1 t2:Tb)(w:Tw):
 Zc 102 #[Zg #[Zi b,Zi n1,Zt t1],Zg #[Zi c,Zi n2,Zt t2]] w λe a=>e=Zr (Zi (Kb b n1 t1 c n2 t2))/\Zb w a:=by
 go_enter func102,ntmps102;go_wp2
 go_region_held3 (λa=>a.cell? ⟨w.heap.size,0,none⟩=some (Zi b)/\a.cell? ⟨w.heap.size,1,none⟩=some (Zi n1)/\a.cell? ⟨w.heap.size,2,none⟩=some (Zt t1)/\a.cell? ⟨w.heap.size+1,0,none⟩=some (Zi c)/\a.cell? ⟨w.heap.size+1,1,none⟩=some (Zi n2)/\a.cell? ⟨w.heap.size+1,2,none⟩=some (Zt t2)) (go_keep)
  (first
    | (go_at_call 157;refine(wD _ _ _).mono ?_;rintro e a⟨rfl,rfl⟩)
    | (go_at_call 158;refine(nI _ _ _).mono ?_;rintro e a⟨rfl,rfl⟩)
    | (go_at_call 159;refine(xM _ _ _).mono ?_;rintro e a⟨rfl,rfl⟩)
    | (go_at_call 156;refine(AJV (w.heap.size+1+1) (Oh b c) (Oh n1 n2) (R4 t1 t2) _ (by simp[XP]) (by simp[XP]) (by simp[XP])).mono ?_;rintro e a⟨rfl,rfl⟩))
 go_wp2;go_ret;exact⟨rfl,(((Zal).alloc (by simp) _).alloc (by simp;omega) _).drew⟩
def gG(b:Bool):Int:=if b then 1 else 0
def B6(c o:Int):Bool:=if c=1 then o==0 else if c=2 then !(o==0) else if c=3 then decide (o<0) else if c=4 then decide (o<=0) else if c=5 then decide (0<o) else if c=6 then decide (0<=o) else false
theorem Af{a b:Bool}(h:a=b):Ending.returned (Zo a)=Zr (Zo b):=by rw[h]
theorem st1{c o:Int}(h:(c==1)=true):(o==0)=B6 c o:=by simp at h;subst h;rfl
theorem st2{c o:Int}(_:(c==1)=false)(h:(c==2)=true):(o != 0)=B6 c o:=by simp at h;subst h;rfl
theorem st3{c o:Int}(h:(c==3)=true):decide (o<0)=B6 c o:=by simp at h;subst h;rfl
theorem st4{c o:Int}(h:(c==4)=true):decide (o<=0)=B6 c o:=by simp at h;subst h;rfl
theorem st5{c o:Int}(h:(c==5)=true):decide (0<o)=B6 c o:=by simp at h;subst h;rfl
theorem st6{c o:Int}(h:(c==6)=true):decide (0<=o)=B6 c o:=by simp at h;subst h;rfl
theorem st7{c o:Int}(a:(c==1)=false)(b:(c==2)=false)(d:(c==3)=false)(e:(c==4)=false)(f:(c==5)=false)(g:(c==6)=false):false=B6 c o:=by simp at a b d e f g;simp[B6,a,b,d,e,f,g]
theorem AAP(c o:Int)(w:Tw):
 Zc 101 #[Zi c,Zi o] w λe a=>e=Zr (Zo (B6 c o))/\a=w:=by
 go_enter func101,ntmps101;go_wp2
 all_goals go_ret
 ·exact⟨Af (st1 ‹_›),rfl⟩
 ·exact⟨Af (st2 ‹_› ‹_›),rfl⟩
 ·exact⟨Af (st3 ‹_›),rfl⟩
 ·exact⟨Af (st4 ‹_›),rfl⟩
 ·exact⟨Af (st5 ‹_›),rfl⟩
 ·exact⟨Af (st6 ‹_›),rfl⟩
 rename_i h1 h2 h3 h4 h5 h6;exact⟨Af (st7 h1 h2 h3 h4 h5 h6),rfl⟩
theorem Jc(b:Bool)(w:Tw):
 Zc 56 #[Zo b] w λe a=>e=Zr (Zi (gG b))/\a=w:=by
 cases b
 ·go_enter func56,ntmps56
  go_wp2;go_ret;exact⟨rfl,rfl⟩
 go_enter func56,ntmps56;go_wp2;go_ret;exact⟨rfl,rfl⟩
def Vq(c a n1:Int)(t1:ByteArray)(b n2:Int)(t2:ByteArray):Int:=if a=0\/¬a=b then -1 else gG (B6 c (Kb a n1 t1 b n2 t2))
theorem is0{c x n1:Int}{t1:Tb}{y n2:Int}{t2:Tb}(h:x=0\/¬x=y):-1=Vq c x n1 t1 y n2 t2:=by unfold Vq;rw[if_pos h]
theorem is1{c x n1:Int}{t1:Tb}{y n2:Int}{t2:Tb}(h:¬(x=0\/¬x=y)):(gG (B6 c (Kb x n1 t1 y n2 t2)))=Vq c x n1 t1 y n2 t2:=by unfold Vq;rw[if_neg h]
theorem AHz(c a n1 d n2:Int)(t1 t2:Tb)(w:Tw)(h:a=0\/¬a=d):
 Zc 61 #[Zi c,Zg #[Zi a,Zi n1,Zt t1],Zg #[Zi d,Zi n2,Zt t2]] w λe k=>e=Zr (Zi (Vq c a n1 t1 d n2 t2))/\Zb w k:=by
 have g:=is0 (c:=c) (n1:=n1) (n2:=n2) (t1:=t1) (t2:=t2) h;have f:Hid (-1=Vq c a n1 t1 d n2 t2):=g;clear g
 rcases Classical.em (a=0) with b|b
 ·have i:(a==0)=true:=by simpa using b
  clear b h;go_enter func61,ntmps61;go_wp2;go_ret;exact⟨Bd f.o,(Zal).alloc (by simp) _⟩
 have i:(a==0)=false:=by simpa using b
 have j:(a==d)=false:=by simpa using h.resolve_left b
 clear b h;go_enter func61,ntmps61;go_wp2;go_ret;exact⟨Bd f.o,(Zal).alloc (by simp) _⟩
theorem AIK(c a n1 b n2:Int)(t1 t2:Tb)(w:Tw)(h:¬(a=0\/¬a=b)):
 Zc 61 #[Zi c,Zg #[Zi a,Zi n1,Zt t1],Zg #[Zi b,Zi n2,Zt t2]] w λe j=>e=Zr (Zi (Vq c a n1 t1 b n2 t2))/\Zb w j:=by
 have g:Hid ((gG (B6 c (Kb a n1 t1 b n2 t2)))=Vq c a n1 t1 b n2 t2):=is1 h;have k:(a==0)=false:=by simp;exact λf=>h (.inl f)
 have i:(a==b)=true:=by simp;exact Classical.byContradiction λf=>h (.inr f)
 clear h;go_enter func61,ntmps61
 go_wp2_with (first
  | (go_at_call 102;refine(Kc _ _ _ _ _ _ _).mono ?_;rintro e l⟨rfl,d⟩)
  | (go_at_call 101;refine(AAP _ _ _).mono ?_;rintro e m⟨rfl,rfl⟩)
  | (go_at_call 56;refine(Jc _ _).mono ?_;rintro e n⟨rfl,rfl⟩))
 go_ret;exact⟨Bd g.o,((Zal).alloc (by simp) _).trans (d.mono (by simp;omega))⟩
theorem AEl(c a n1 b n2:Int)(t1 t2:Tb)(w:Tw):
 Zc 61 #[Zi c,Zg #[Zi a,Zi n1,Zt t1],Zg #[Zi b,Zi n2,Zt t2]] w λe d=>e=Zr (Zi (Vq c a n1 t1 b n2 t2))/\Zb w d:=by
 rcases Classical.em (a=0\/¬a=b) with h|h
 ·exact AHz c a n1 b n2 t1 t2 w h
 exact AIK c a n1 b n2 t1 t2 w h
abbrev V:=Int×Int×ByteArray
variable{m x y:V}{l:List V}
def zeroV:V:=(0,0,⟨#[]⟩)
def Eu(x y:V):Int:=Kb x.1 x.2.1 x.2.2 y.1 y.2.1 y.2.2
theorem bV(x y:V):Eu x y = -1\/Eu x y=0\/Eu x y=1:=vN ..
theorem He(x y:V):Eu y x = -Eu x y:=ACp ..
theorem Ig:Eu x y=0↔x=y:=by
 unfold Eu;rw[ACf];constructor
 ·rintro⟨a,b,c⟩;exact Prod.ext a (Prod.ext b c)
 rintro rfl;exact⟨rfl,rfl,rfl⟩
theorem Vh(x:V):Eu x x=0:=Ig.2 rfl
theorem Ha{z:V}(c:Eu x y<=0)(d:Eu y z<=0):Eu x z<=0:=by
 rcases bV x y with a|a|a <;> rcases bV y z with b|b|b
 ·have:Eu x z = -1:=AAF _ _ _ _ _ _ _ _ _ _ a b
  omega
 ·rw[Ig] at b;subst b;omega
 ·omega
 ·rw[Ig] at a;subst a;omega
 ·rw[Ig] at a;subst a;omega
 ·omega
 ·omega
 ·omega
 omega
theorem ADy(b:Eu x y<=0)(a:Eu y x<=0):x=y:=by rw[He x y] at a;exact Ig.1 (by omega)
theorem j5(h:x.1<y.1):Eu y x=1:=by
 unfold Eu Kb orI;have:Oh y.1 x.1=1:=by unfold Oh;split <;> (try split) <;> omega
 rw[this];simp
def D9(a b:V):V:=if a.1=0\/(¬b.1=0/\Eu b a<0) then b else a
def Gu(a b:V):V:=if 0<Eu b a then b else a
def tS(l:List V)(m:V):Prop:=(m=zeroV/\∀x∈l,x.1=0)\/(¬m.1=0/\m∈l/\∀x∈l,¬x.1=0->Eu m x<=0)
def uS(l:List V)(m:V):Prop:=(m=zeroV/\∀x∈l,x.1=0)\/(¬m.1=0/\m∈l/\∀x∈l,¬x.1=0->Eu x m<=0)
theorem tS.both{l l':List V}{i:V}(h:tS l m)(f:tS l' i):tS (l++l') (D9 m i):=by
 unfold D9
 rcases h with⟨rfl,h⟩|⟨g,k,j⟩
 ·rw[if_pos (.inl rfl)]
  rcases f with⟨rfl,f⟩|⟨b,e,c⟩
  ·exact .inl ⟨rfl,λx d=>(List.mem_append.1 d).elim (h x) (f x)⟩
  exact .inr ⟨b,List.mem_append.2 (.inr e),λx d a=>(List.mem_append.1 d).elim (λhh=>(a (h x hh)).elim) (λhh=>c x hh a)⟩
 rcases f with⟨rfl,f⟩|⟨b,e,c⟩
 ·rw[if_neg (by rintro(h|⟨h,_⟩);exact g h;exact h rfl)]
  exact .inr ⟨g,List.mem_append.2 (.inl k),λx d a=>(List.mem_append.1 d).elim (λhh=>j x hh a) (λhh=>(a (f x hh)).elim)⟩
 by_cases hc:Eu i m<0
 ·rw[if_pos (.inr ⟨b,hc⟩)]
  exact .inr ⟨b,List.mem_append.2 (.inr e),λx d a=>(List.mem_append.1 d).elim (λhh=>Ha (by omega) (j x hh a)) (λhh=>c x hh a)⟩
 rw[if_neg (by rintro(h|⟨_,h⟩);exact g h;exact hc h)];have n:=He i m;exact .inr ⟨g,List.mem_append.2 (.inl k),λx d a=>(List.mem_append.1 d).elim (λhh=>j x hh a) (λhh=>Ha (by omega) (c x hh a))⟩
theorem uS.both{l l':List V}{g:V}(h:uS l m)(f:uS l' g)(o:∀x∈l,0<=x.1)(k:∀x∈l',0<=x.1):uS (l++l') (Gu m g):=by
 unfold Gu
 rcases h with⟨rfl,h⟩|⟨n,i,j⟩
 ·rcases f with⟨rfl,f⟩|⟨e,b,c⟩
  ·rw[Vh,if_neg (by omega)]
   exact .inl ⟨rfl,λx d=>(List.mem_append.1 d).elim (h x) (f x)⟩
  have a:=k _ b;rw[j5 (show zeroV.1<g.1 by simp[zeroV];omega),if_pos (by omega)];exact .inr ⟨e,List.mem_append.2 (.inr b),λx d a=>(List.mem_append.1 d).elim (λhh=>(a (h x hh)).elim) (λhh=>c x hh a)⟩
 rcases f with⟨rfl,f⟩|⟨e,b,c⟩
 ·have a:=o _ i
  rw[He m zeroV,j5 (show zeroV.1<m.1 by simp[zeroV];omega),if_neg (by omega)];exact .inr ⟨n,List.mem_append.2 (.inl i),λx d a=>(List.mem_append.1 d).elim (λhh=>j x hh a) (λhh=>(a (f x hh)).elim)⟩
 by_cases hc:0<Eu g m
 ·rw[if_pos hc]
  have p:=He g m;exact .inr ⟨e,List.mem_append.2 (.inr b),λx d a=>(List.mem_append.1 d).elim (λhh=>Ha (j x hh a) (by omega)) (λhh=>c x hh a)⟩
 rw[if_neg hc];exact .inr ⟨n,List.mem_append.2 (.inl i),λx d a=>(List.mem_append.1 d).elim (λhh=>j x hh a) (λhh=>Ha (c x hh a) (by omega))⟩
abbrev St:=Int×Int×V×V
variable{s:St}
def F6:St:=(0,0,zeroV,zeroV)
def lL(a b:St):St:=(a.1+b.1,a.2.1+b.2.1,D9 a.2.2.1 b.2.2.1,Gu a.2.2.2 b.2.2.2)
def K7(v:V):St:=if v.1=0 then (1,1,zeroV,zeroV) else (1,0,v,v)
def Sw(l:List V):Nat:=l.countP λx=>x.1==0
structure Pk(l:List V)(s:St):Prop where
 iH:s.1=l.length
 Qi:s.2.1=Sw l
 mn:tS l s.2.2.1
 mx:uS l s.2.2.2
theorem Pk.nil:Pk [] F6:=⟨rfl,rfl,.inl ⟨rfl,by simp⟩,.inl ⟨rfl,by simp⟩⟩
theorem Pk.single(v:V):Pk [v] (K7 v):=by
 unfold K7
 by_cases h:v.1=0
 ·rw[if_pos h]
  exact⟨rfl,by simp[Sw,h],.inl ⟨rfl,by simpa using h⟩,.inl ⟨rfl,by simpa using h⟩⟩
 rw[if_neg h];refine⟨rfl,by simp[Sw,h],.inr ⟨h,by simp,?_⟩,.inr ⟨h,by simp,?_⟩⟩
 ·intro x a _
  rw[List.mem_singleton.1 a,Vh];omega
 intro x a _;rw[List.mem_singleton.1 a,Vh];omega
theorem Pk.both{l l':List V}{s s':St}(h:Pk l s)(a:Pk l' s')(c:∀x∈l,0<=x.1)(b:∀x∈l',0<=x.1):Pk (l++l') (lL s s') :=
 ⟨by simp[lL,h.iH,a.iH],by simp[lL,h.Qi,a.Qi,Sw],h.mn.both a.mn,h.mx.both a.mx c b⟩
theorem AGD(l:List V):Sw l<=l.length:=List.countP_le_length
def AIN(l:List V):Prop:=∀x∈l,∀y∈l,¬x.1=0->¬y.1=0->x.1=y.1
theorem Pk.null(h:Pk l s)(b:x∈l)(a:x.1=0):0<s.2.1:=by have:=h.Qi;have:0<Sw l:=List.countP_pos_iff.2 ⟨x,b,by simpa using a⟩;omega
theorem qA{x:V}(a:¬x.1=0):∀(l:List V),x∈l->Sw l<l.length
 | [],h=>by simp at h
 | y :: l,h=>by
   have b:=AGD l;unfold Sw at b ⊢
   rcases List.mem_cons.1 h with rfl|h
   ·rw[List.countP_cons_of_neg (by simpa using a)];simp only[XG];omega
   have:=qA a l h;unfold Sw at this;rw[List.countP_cons];simp only[XG];split <;> omega
theorem Pk.some(h:Pk l s)(d:AIN l)(b:x∈l)(a:¬x.1=0):
 s.2.1<s.1/\s.2.2.1.1=x.1/\s.2.2.2.1=x.1/\Eu s.2.2.1 x<=0/\Eu x s.2.2.2<=0:=by
 have k:=h.iH;have m:=h.Qi;have n:=qA a l b
 rcases h.mn with⟨_,c⟩|⟨e,f,g⟩
 ·exact(a (c x b)).elim
 rcases h.mx with⟨_,c⟩|⟨i,j,b3⟩
 ·exact(a (c x b)).elim
 exact⟨by omega,d _ f _ b e a,d _ j _ b i a,g x b a,b3 x b a⟩
variable{W w:Tw}{k n:Int}
theorem Aa{p:Prop}(h:p):Hid p:=h
theorem Qv(a:Zb W w):(∀b o,b<W.heap.size->w.cell? ⟨b,o,none⟩=W.cell? ⟨b,o,none⟩)/\(∀b o,b<W.heap.size->w.frozen? ⟨b,o,none⟩=W.frozen? ⟨b,o,none⟩) :=
 ⟨λb o h=>a.cell (p:=⟨b,o,none⟩) h,λb o h=>a.frozen (p:=⟨b,o,none⟩) h⟩
theorem AH7(c b n1 d n2:Int)(t1 t2:Tb)(w:Tw):
 Zc 239 #[Zi c,Zg #[Zi b,Zi n1,Zt t1],Zg #[Zi d,Zi n2,Zt t2]] w λe f=>e=Zr (Zo (Vq c b n1 t1 d n2 t2==1))/\Zb w f:=by
 go_enter func239,ntmps239
 go_wp2_with (first
  | (go_at_call 61;refine(AEl _ _ _ _ _ _ _ _).mono ?_;rintro e g⟨rfl,a⟩))
 go_ret;exact⟨rfl,((Zal).alloc (by simp) _).trans (a.mono (by simp;omega))⟩
theorem lv1{a b:V}(h:a.1=0):b=D9 a b:=by unfold D9;rw[if_pos (.inl h)]
theorem lv2{a b:V}(h:¬a.1=0)(c:b.1=0):a=D9 a b:=by unfold D9;rw[if_neg (by rintro(x|⟨x,_⟩);exact h x;exact x c)]
theorem lv3{a b:V}(c:¬b.1=0)(d:Eu b a<0):b=D9 a b:=by unfold D9;rw[if_pos (.inr ⟨c,d⟩)]
theorem lv4{a b:V}(h:¬a.1=0)(c:¬Eu b a<0):a=D9 a b:=by unfold D9;rw[if_neg (by rintro(x|⟨_,x⟩);exact h x;exact c x)]
theorem gv1{a b:V}(c:0<Eu b a):b=Gu a b:=by unfold Gu;rw[if_pos c]
theorem gv2{a b:V}(c:¬0<Eu b a):a=Gu a b:=by unfold Gu;rw[if_neg c]
theorem lP{a:V}{t:Tb}(h:(k,n,t)=a):Ending.returned (Zg #[Zi k,Zi n,Zt t])=Zr (Zg #[Zi a.1,Zi a.2.1,Zt a.2.2]):=by rw[<-h]
theorem b3(w:Tw)(X Y Z:Obj):Zb w (((w.alloc X).alloc Y).alloc Z):=((Zal).alloc (by simp) _).alloc (by simp;omega) _
theorem b3c{X Y Z:Obj}(a:Below (((w.alloc X).alloc Y).alloc Z).heap.size (((w.alloc X).alloc Y).alloc Z) W)(b c d:Tv):Zb w (((W.setCell ⟨w.heap.size+1+1,0,none⟩ b).setCell ⟨w.heap.size+1+1,1,none⟩ c).setCell ⟨w.heap.size+1+1,2,none⟩ d) :=
 ((((b3 w X Y Z).trans (a.mono (by simp;omega))).setCell (by simp;omega) _).setCell (by simp;omega) _).setCell (by simp;omega) _
theorem AB1(b n1 c n2:Int)(t1 t2:Tb)(w:Tw):
 Zc 241 #[Zg #[Zi b,Zi n1,Zt t1],Zg #[Zi c,Zi n2,Zt t2]] w λe i=>e=Zr (Zg #[Zi (D9 (b,n1,t1) (c,n2,t2)).1,Zi (D9 (b,n1,t1) (c,n2,t2)).2.1,Zt (D9 (b,n1,t1) (c,n2,t2)).2.2])/\Zb w i:=by
 by_cases h1:b=0
 ·have f:Hid ((c,n2,t2)=D9 (b,n1,t1) (c,n2,t2)):=lv1 (a:=(b,n1,t1)) h1
  generalize D9 (b,n1,t1) (c,n2,t2)=m at *;have h:(b==0)=true:=by simpa using h1
  clear h1;go_enter func241,ntmps241;go_wp2;exact bodyPost_ret (v:=Zg #[Zi c,Zi n2,Zt t2]) (by simp[results,results241,go_sem]) rfl ⟨lP f.o,b3 _ _ _ _⟩
 have h:(b==0)=false:=by simpa using h1
 by_cases h2:c=0
 ·have f:Hid ((b,n1,t1)=D9 (b,n1,t1) (c,n2,t2)):=lv2 (a:=(b,n1,t1)) h1 h2
  generalize D9 (b,n1,t1) (c,n2,t2)=m at *;subst h2;clear h1;go_enter func241,ntmps241;go_wp2;exact bodyPost_ret (v:=Zg #[Zi b,Zi n1,Zt t1]) (by simp[results,results241,go_sem]) rfl ⟨lP f.o,b3 _ _ _ _⟩
 by_cases h3:Kb c n2 t2 b n1 t1<0
 ·have f:Hid ((c,n2,t2)=D9 (b,n1,t1) (c,n2,t2)):=lv3 (a:=(b,n1,t1)) h2 h3
  generalize D9 (b,n1,t1) (c,n2,t2)=m at *;clear h1;have g:=Aa (Kc c n2 b n1 t2 t1);generalize Kb c n2 t2 b n1 t1=o at *;go_enter func241,ntmps241
  go_wp2_with (first
   | (go_at_call 102;refine(g.o _).mono ?_;rintro e j⟨rfl,d⟩;obtain⟨hc,hf⟩:=Qv d))
  exact bodyPost_ret (v:=Zg #[Zi c,Zi n2,Zt t2]) (by simp[results,results241,go_sem,hc]) rfl ⟨lP f.o,b3c d _ _ _⟩
 have f:Hid ((b,n1,t1)=D9 (b,n1,t1) (c,n2,t2)):=lv4 (a:=(b,n1,t1)) h1 h3;generalize D9 (b,n1,t1) (c,n2,t2)=m at *;clear h1;have g:=Aa (Kc c n2 b n1 t2 t1);generalize Kb c n2 t2 b n1 t1=o at *;go_enter func241,ntmps241
 go_wp2_with (first
  | (go_at_call 102;refine(g.o _).mono ?_;rintro e j⟨rfl,d⟩;obtain⟨hc,hf⟩:=Qv d))
 exact bodyPost_ret (v:=Zg #[Zi b,Zi n1,Zt t1]) (by simp[results,results241,go_sem,hc]) rfl ⟨lP f.o,b3c d _ _ _⟩
theorem mX(b n1 c n2:Int)(t1 t2:Tb)(w:Tw):
 Zc 242 #[Zg #[Zi b,Zi n1,Zt t1],Zg #[Zi c,Zi n2,Zt t2]] w λe h=>e=Zr (Zg #[Zi (Gu (b,n1,t1) (c,n2,t2)).1,Zi (Gu (b,n1,t1) (c,n2,t2)).2.1,Zt (Gu (b,n1,t1) (c,n2,t2)).2.2])/\Zb w h:=by
 by_cases h3:0<Kb c n2 t2 b n1 t1
 ·have g:Hid ((c,n2,t2)=Gu (b,n1,t1) (c,n2,t2)):=gv1 (a:=(b,n1,t1)) h3
  generalize Gu (b,n1,t1) (c,n2,t2)=m at *;have f:=Aa (Kc c n2 b n1 t2 t1);generalize Kb c n2 t2 b n1 t1=o at *;go_enter func242,ntmps242
  go_wp2_with (first
   | (go_at_call 102;refine(f.o _).mono ?_;rintro e i⟨rfl,d⟩;obtain⟨hc,hf⟩:=Qv d))
  exact bodyPost_ret (v:=Zg #[Zi c,Zi n2,Zt t2]) (by simp[results,results242,go_sem,hc]) rfl ⟨lP g.o,b3c d _ _ _⟩
 have g:Hid ((b,n1,t1)=Gu (b,n1,t1) (c,n2,t2)):=gv2 (a:=(b,n1,t1)) h3;generalize Gu (b,n1,t1) (c,n2,t2)=m at *;have f:=Aa (Kc c n2 b n1 t2 t1);generalize Kb c n2 t2 b n1 t1=o at *;go_enter func242,ntmps242
 go_wp2_with (first
  | (go_at_call 102;refine(f.o _).mono ?_;rintro e i⟨rfl,d⟩;obtain⟨hc,hf⟩:=Qv d))
 exact bodyPost_ret (v:=Zg #[Zi b,Zi n1,Zt t1]) (by simp[results,results242,go_sem,hc]) rfl ⟨lP g.o,b3c d _ _ _⟩
theorem AIf{a:St}{c m:Int}{t:Tb}{k' n':Int}{t':Tb}(h:(c,m,(k,n,t),(k',n',t'))=a):Ending.returned (Zg #[Zi c,Zi m,Zi k,Zi n,Zt t,Zi k',Zi n',Zt t'])=Zr (Zg #[Zi a.1,Zi a.2.1,Zi a.2.2.1.1,Zi a.2.2.1.2.1,Zt a.2.2.1.2.2,Zi a.2.2.2.1,Zi a.2.2.2.2.1,Zt a.2.2.2.2.2]):=by rw[<-h]
theorem ADG(k n:Int)(t:Tb)(w:Tw):
 Zc 204 #[Zg #[Zi k,Zi n,Zt t]] w λe c=>e=Zr (Zg #[Zi (K7 (k,n,t)).1,Zi (K7 (k,n,t)).2.1,Zi (K7 (k,n,t)).2.2.1.1,Zi (K7 (k,n,t)).2.2.1.2.1,Zt (K7 (k,n,t)).2.2.1.2.2,Zi (K7 (k,n,t)).2.2.2.1,Zi (K7 (k,n,t)).2.2.2.2.1,Zt (K7 (k,n,t)).2.2.2.2.2])/\Zb w c:=by
 by_cases h1:k=0
 ·have a:Hid ((1,1,(0,0,⟨#[]⟩),(0,0,⟨#[]⟩))=K7 (k,n,t)):=Aa (by unfold K7;rw[if_pos h1];rfl)
  generalize K7 (k,n,t)=m at *;have b:(k==0)=true:=by simpa using h1
  clear h1;go_enter func204,ntmps204;go_wp2;exact bodyPost_ret (v:=Zg #[Zi 1,Zi 1,Zi 0,Zi 0,Zt ⟨#[]⟩,Zi 0,Zi 0,Zt ⟨#[]⟩]) (by simp[results,results204,go_sem]) rfl ⟨AIf a.o,(Zal).alloc (by simp) _⟩
 have a:Hid ((1,0,(k,n,t),(k,n,t))=K7 (k,n,t)):=Aa (by unfold K7;rw[if_neg h1]);generalize K7 (k,n,t)=m at *;have b:(k==0)=false:=by simpa using h1
 clear h1;go_enter func204,ntmps204;go_wp2;exact bodyPost_ret (v:=Zg #[Zi 1,Zi 0,Zi k,Zi n,Zt t,Zi k,Zi n,Zt t]) (by simp[results,results204,go_sem]) rfl ⟨AIf a.o,(Zal).alloc (by simp) _⟩
theorem b3s{X Y Z:Obj}(a:Below (((w.alloc X).alloc Y).alloc Z).heap.size (((w.alloc X).alloc Y).alloc Z) W):Zb w W:=(b3 w X Y Z).trans (a.mono (by simp;omega))
theorem b3d{X Y Z:Obj}(a:Below (((w.alloc X).alloc Y).alloc Z).drew.heap.size (((w.alloc X).alloc Y).alloc Z).drew W):Zb w W:=(b3 w X Y Z).drew.trans (a.mono (by simp;omega))
theorem Below.Ap{a b c:Tw}(h:Zb a b)(k:Zb b c):Zb a c:=h.trans (k.mono h.size)
theorem b8c(b:Zb w W){g:Nat}(a:w.heap.size<=g)(c d e f h i j k:Tv):Zb w ((((((((W.setCell ⟨g,0,none⟩ c).setCell ⟨g,1,none⟩ d).setCell ⟨g,2,none⟩ e).setCell ⟨g,3,none⟩ f).setCell ⟨g,4,none⟩ h).setCell ⟨g,5,none⟩ i).setCell ⟨g,6,none⟩ j).setCell ⟨g,7,none⟩ k) :=
 (((((((b.setCell a _).setCell a _).setCell a _).setCell a _).setCell a _).setCell a _).setCell a _).setCell a _
theorem AD6(c1 f h n1:Int)(t1:Tb)(j l:Int)(n:Tb)(d g i n2:Int)(t2:Tb)(k m:Int)(o:Tb)(w:Tw)(t:0<=c1)(p:c1<=1000)(u:0<=d)(q:d<=1000)(x:0<=f)(r:f<=1000)(y:0<=g)(s:g<=1000):
 Zc 203 #[Zg #[Zi c1,Zi f,Zi h,Zi n1,Zt t1,Zi j,Zi l,Zt n],Zg #[Zi d,Zi g,Zi i,Zi n2,Zt t2,Zi k,Zi m,Zt o]] w
  λe a=>e=Zr (Zg #[Zi (c1+d),Zi (f+g),Zi (D9 (h,n1,t1) (i,n2,t2)).1,Zi (D9 (h,n1,t1) (i,n2,t2)).2.1,Zt (D9 (h,n1,t1) (i,n2,t2)).2.2,Zi (Gu (j,l,n) (k,m,o)).1,Zi (Gu (j,l,n) (k,m,o)).2.1,Zt (Gu (j,l,n) (k,m,o)).2.2])/\Zb w a:=by
 have I:=Aa (AB1 h n1 i n2 t1 t2);have G:=Aa (mX j l k m n o);generalize (D9 (h,n1,t1) (i,n2,t2))=X at *;generalize (Gu (j,l,n) (k,m,o))=J at *;obtain⟨V,W,lt⟩:=X;obtain⟨L,M,P⟩:=J;have hz:w.heap.size<w.heap.size+1+1+1:=by omega
 have U:w.heap.size<w.heap.size+1+1:=by omega
 have N:¬w.heap.size=w.heap.size+1+1:=by omega
 have O:¬w.heap.size+1+1=w.heap.size:=by omega
 have R:IntKind.i64.wrap (c1+d)=c1+d:=by rw[IntKind.wrap_i64];omega
 have T:IntKind.i64.wrap (f+g)=f+g:=by rw[IntKind.wrap_i64];omega
 clear t p u q x r y s;go_enter func203,ntmps203;go_wp2
 go_region_held3 (λa=>a.cell? ⟨w.heap.size,0,none⟩=some (Zi c1)/\a.cell? ⟨w.heap.size,1,none⟩=some (Zi f)/\a.cell? ⟨w.heap.size,2,none⟩=some (Zi h)/\a.cell? ⟨w.heap.size,3,none⟩=some (Zi n1)/\a.cell? ⟨w.heap.size,4,none⟩=some (Zt t1)/\a.cell? ⟨w.heap.size,5,none⟩=some (Zi j)/\a.cell? ⟨w.heap.size,6,none⟩=some (Zi l)/\a.cell? ⟨w.heap.size,7,none⟩=some (Zt n)
  /\a.cell? ⟨w.heap.size+1,0,none⟩=some (Zi d)/\a.cell? ⟨w.heap.size+1,1,none⟩=some (Zi g)/\a.cell? ⟨w.heap.size+1,2,none⟩=some (Zi i)/\a.cell? ⟨w.heap.size+1,3,none⟩=some (Zi n2)/\a.cell? ⟨w.heap.size+1,4,none⟩=some (Zt t2)/\a.cell? ⟨w.heap.size+1,5,none⟩=some (Zi k)/\a.cell? ⟨w.heap.size+1,6,none⟩=some (Zi m)/\a.cell? ⟨w.heap.size+1,7,none⟩=some (Zt o)) (go_keep)
  (first
    | (go_at_call 241;refine(I.o _).mono ?_;rintro e z⟨rfl,b⟩;obtain⟨hcl,hfl⟩:=Qv b;have z0:w.heap.size<z.heap.size:=Ya (by first|assumption|(simp;done)|(simp;omega)) b.size;have z1:w.heap.size+1<z.heap.size:=Ya (by first|assumption|(simp;done)|(simp;omega)) b.size;have Y:w.heap.size+1+1<z.heap.size:=Ya (by first|assumption|(simp;done)|(simp;omega)) b.size)
    | (go_at_call 242;refine(G.o _).mono ?_;rintro e D⟨rfl,c⟩;obtain⟨hcg,hfg⟩:=Qv c;have y0:w.heap.size<D.heap.size:=Ya (by first|assumption|(simp;done)|(simp;omega)) c.size;have y1:w.heap.size+1<D.heap.size:=Ya (by first|assumption|(simp;done)|(simp;omega)) c.size;have y2:w.heap.size+1+1<D.heap.size:=Ya (by first|assumption|(simp;done)|(simp;omega)) c.size))
 go_wp2;exact bodyPost_ret (v:=Zg #[Zi (c1+d),Zi (f+g),Zi V,Zi W,Zt lt,Zi L,Zi M,Zt P]) (by simp[results,results203,go_sem,hcl,hcg,Y]) rfl ⟨rfl,b8c (Below.Ap (b3d b) c) (by omega) _ _ _ _ _ _ _ _⟩
variable{g k r:Nat}{w:Tw}{s:St}
theorem Gj(w:Tw)(X Y:Obj):Zb w ((w.alloc X).alloc Y):=(Zal).alloc (by simp) _
def Sl(w:World)(v:Value)(l:List V):Prop :=
 ∃a c,v=.slice a l.length c/\l.length<=c/\(l≠[]->∃b off,a=some ⟨b,off,none⟩/\b<w.heap.size /\
  ∀j x,l[j]? = some x->w.cell? ⟨b,off+j*3,none⟩=some (Zi x.1)/\w.cell? ⟨b,off+j*3+1,none⟩=some (Zi x.2.1)/\w.cell? ⟨b,off+j*3+2,none⟩=some (.string x.2.2))
theorem Hk{α:Type}{l:List α}(h:k<l.length):∃x,l[k]? = some x:=⟨_,Y9 h⟩
theorem Cs{α:Type}{l:List α}{x:α}(h:l[k]? = some x):l.take (k+1)=l.take k++[x]:=by
 have b:k<l.length:=by
  rcases Yc k l.length with a|a
  ·exact a
  rw[Yb a] at h;cases h
 rw[Yr b];rw[Y9 b] at h;injection h with h;rw[h]
def Iv(l:List V):St:=l.foldl (λs v=>lL s (K7 v)) F6
theorem Vl{l:List V}{x:V}(h:l[k]? = some x):Iv (l.take (k+1))=lL (Iv (l.take k)) (K7 x):=by rw[Cs h];simp[Iv]
theorem q8(x:V):(K7 x).1=1/\0<=(K7 x).2.1/\(K7 x).2.1<=1:=by unfold K7;split <;> simp
theorem Qx(l:List V):∀k,k<=l.length->(Iv (l.take k)).1=k/\0<=(Iv (l.take k)).2.1/\(Iv (l.take k)).2.1<=k
 | 0,_=>by simp[Iv,F6]
 | k+1,h=>by obtain⟨x,a⟩:=Hk (show k<l.length by omega);have c:=Qx l k (by omega);have b:=q8 x;rw[Vl a];simp only[lL];omega
theorem jK(l:List V)(a:∀x∈l,0<=x.1):∀k,k<=l.length->Pk (l.take k) (Iv (l.take k))
 | 0,_=>Pk.nil
 | k+1,h=>by obtain⟨x,b⟩:=Hk (show k<l.length by omega);rw[Vl b,Cs b];exact(jK l a k (by omega)).both (Pk.single x) (λy c=>a y (Yk c)) (λy c=>by rw[List.mem_singleton.1 c];exact a x (XN b))
theorem AHR(l:List V)(a:∀x∈l,0<=x.1):Pk l (Iv l):=by have:=jK l a l.length (XB _);rwa[Yd (XB _)] at this
def E6(s:St):Array Value:=#[Zi s.1,Zi s.2.1,Zi s.2.2.1.1,Zi s.2.2.1.2.1,.string s.2.2.1.2.2,Zi s.2.2.2.1,Zi s.2.2.2.2.1,.string s.2.2.2.2.2]
def Nq(w:World)(g:Nat)(s:St):Prop:=w.heap[g]? = some (.cells (E6 s) 186)
theorem Nq.lt(h:Nq w g s):g<w.heap.size:=by
 rcases Yc g w.heap.size with a|a
 ·exact a
 unfold Nq at h;rw[Array.getElem?_eq_none a] at h;cases h
theorem Nq.up{W:Tw}(h:Nq w g s)(a:Zb w W):Nq W g s:=(a.block g h.lt).trans h
theorem Nq.cells{w:Tw}{g:Nat}{c m k n:Int}{t:Tb}{k' n':Int}{t':Tb}(h:Nq w g (c,m,(k,n,t),(k',n',t'))):
 w.cell? ⟨g,0,none⟩=some (Zi c)/\w.cell? ⟨g,1,none⟩=some (Zi m)/\w.cell? ⟨g,2,none⟩=some (Zi k)/\w.cell? ⟨g,3,none⟩=some (Zi n)/\w.cell? ⟨g,4,none⟩=some (Zt t)/\w.cell? ⟨g,5,none⟩=some (Zi k')/\w.cell? ⟨g,6,none⟩=some (Zi n')/\w.cell? ⟨g,7,none⟩=some (Zt t') :=
 ⟨cell_of_block h 0,cell_of_block h 1,cell_of_block h 2,cell_of_block h 3,cell_of_block h 4,cell_of_block h 5,cell_of_block h 6,cell_of_block h 7⟩
theorem Nq.free(h:Nq w g s):
 w.frozen? ⟨g,0,none⟩=false/\w.frozen? ⟨g,1,none⟩=false/\w.frozen? ⟨g,2,none⟩=false/\w.frozen? ⟨g,3,none⟩=false/\w.frozen? ⟨g,4,none⟩=false/\w.frozen? ⟨g,5,none⟩=false/\w.frozen? ⟨g,6,none⟩=false/\w.frozen? ⟨g,7,none⟩=false :=
 ⟨unfrozen_of_block h 0,unfrozen_of_block h 1,unfrozen_of_block h 2,unfrozen_of_block h 3,unfrozen_of_block h 4,unfrozen_of_block h 5,unfrozen_of_block h 6,unfrozen_of_block h 7⟩
theorem Nq.put{s s':St}(h:Nq w g s):
 Nq ((((((((w.setCell ⟨g,0,none⟩ (Zi s'.1)).setCell ⟨g,1,none⟩ (Zi s'.2.1)).setCell ⟨g,2,none⟩ (Zi s'.2.2.1.1)).setCell ⟨g,3,none⟩ (Zi s'.2.2.1.2.1)).setCell ⟨g,4,none⟩ (Zt s'.2.2.1.2.2)).setCell ⟨g,5,none⟩ (Zi s'.2.2.2.1)).setCell ⟨g,6,none⟩ (Zi s'.2.2.2.2.1)).setCell ⟨g,7,none⟩ (Zt s'.2.2.2.2.2)) g s':=by
 unfold Nq at h ⊢;rw[block_setCell (block_setCell (block_setCell (block_setCell (block_setCell (block_setCell (block_setCell (block_setCell h _) _) _) _) _) _) _) _];simp[E6]
theorem Nq.AKz{s s':St}{c m k n:Int}{t:Tb}{k' n':Int}{t':Tb}(h:Nq w g s)(e:s'=(c,m,(k,n,t),(k',n',t'))):
 Nq ((((((((w.setCell ⟨g,0,none⟩ (Zi c)).setCell ⟨g,1,none⟩ (Zi m)).setCell ⟨g,2,none⟩ (Zi k)).setCell ⟨g,3,none⟩ (Zi n)).setCell ⟨g,4,none⟩ (Zt t)).setCell ⟨g,5,none⟩ (Zi k')).setCell ⟨g,6,none⟩ (Zi n')).setCell ⟨g,7,none⟩ (Zt t')) g s':=by
 subst e;have:=Nq.put (s':=(c,m,(k,n,t),(k',n',t'))) h;exact this
theorem Nq.off{i:Nat}{v:Tv}(h:Nq w r s)(a:r<g):Nq (w.setCell ⟨g,i,none⟩ v) r s :=
 (((WA g w).setCell (XB _) v).block r a).trans h
theorem Nq.AKr{v u f a e c d i:Tv}(h:Nq w r s)(b:r<g):
 Nq ((((((((w.setCell ⟨g,0,none⟩ v).setCell ⟨g,1,none⟩ u).setCell ⟨g,2,none⟩ f).setCell ⟨g,3,none⟩ a).setCell ⟨g,4,none⟩ e).setCell ⟨g,5,none⟩ c).setCell ⟨g,6,none⟩ d).setCell ⟨g,7,none⟩ i) r s :=
 (((((((h.off b).off b).off b).off b).off b).off b).off b).off b
theorem ACR(w:Tw)(X Y:Obj):((w.alloc X).alloc Y).heap[w.heap.size+1]? = some Y:=by rw[<-show (w.alloc X).heap.size=w.heap.size+1 by simp];exact heap_alloc_new _ _
theorem yU(v:Tv)(l:List V)(w:Tw)(hs:Sl w v l)(hl:l.length<=60):
 Zc 151 #[v] w λe w'=>e=Zr (Zg (E6 (Iv l)))/\Zb w w':=by
 obtain⟨a,c,rfl,_,R⟩:=hs;have M:=Aa R;clear R;go_enter func151,ntmps151;go_wp2
 go_loopw [8] (λJ wr=>∃k:Nat,k<=l.length/\J=Zi k/\Hid (Nq wr w.heap.size F6/\Nq wr (w.heap.size+1) (Iv (l.take k))/\Zb w wr)) (λJ _=>l.length-(intOf J).toNat)
 case atStart=>exact⟨0,XS _,rfl,⟨(XV _ _ _ (by simp)).trans (heap_alloc_new _ _),ACR w _ _,Gj _ _ _⟩⟩
 case round=>
  obtain⟨k,hk,rfl,d⟩:=hrel
  by_cases hlt:k<l.length
  ·obtain⟨b,off,rfl,u,T⟩:=M.o (by intro e;rw[e] at hlt;simp at hlt)
   obtain⟨⟨o,q,r⟩,x⟩:=Hk hlt;obtain⟨N,O,P⟩:=T k _ x;have d0:wr.cell? ⟨b,off+k*3,none⟩=some (Zi o):=(d.o.2.2.cell (p:=⟨b,off+k*3,none⟩) u).trans N;have d1:wr.cell? ⟨b,off+k*3+1,none⟩=some (Zi q):=(d.o.2.2.cell (p:=⟨b,off+k*3+1,none⟩) u).trans O;have d2:wr.cell? ⟨b,off+k*3+2,none⟩=some (Zt r):=(d.o.2.2.cell (p:=⟨b,off+k*3+2,none⟩) u).trans P;have HN:=Aa (Vl x);have f:=Qx l k (by omega);have g:=q8 (o,q,r);have HO:=Aa (ADG o q r);clear N O P T x;generalize Iv (l.take k)=s1 at *;generalize K7 (o,q,r)=so at *;obtain⟨c1,z,⟨y,n1,t1⟩,⟨D,G,I⟩⟩:=s1;obtain⟨c2,m2,⟨k2,n2,t2⟩,⟨p2,q2,u2⟩⟩:=so;obtain⟨e0,e1,e2,e3,e4,e5,e6,e7⟩:=d.o.2.1.cells;obtain⟨f0,f1,f2,f3,f4,f5,f6,f7⟩:=d.o.2.1.free;have aa:=d.o.2.1.lt;have HB:Hid (∀W,_):=Aa (λW=>AD6 c1 z y n1 t1 D G I c2 m2 k2 n2 t2 p2 q2 u2 W (by simp only at f;omega) (by simp only at f;omega) (by simp only at g;omega) (by simp only at g;omega) (by simp only at f;omega) (by simp only at f;omega) (by simp only at g;omega) (by simp only at g;omega));clear f g;have ab:¬wr.heap.size=w.heap.size+1:=by omega
   have ac:¬w.heap.size+1=wr.heap.size:=by omega
   have hz:w.heap.size+1<wr.heap.size+1:=by omega
   go_wp2_with fail
   go_region_with (first
    | (go_at_call 204;refine(HO.o _).mono ?_;rintro e U⟨rfl,h⟩;obtain⟨hcl,hfl⟩:=Qv h;have X:w.heap.size+1<U.heap.size:=Ya (by first|assumption|(simp;done)|(simp;omega)) h.size;have Y:wr.heap.size<U.heap.size:=Ya (by first|assumption|(simp;done)|(simp;omega)) h.size)
    | (go_at_call 203;refine(HB.o _).mono ?_;rintro e L⟨rfl,i⟩;obtain⟨hcg,hfg⟩:=Qv i;have y0:w.heap.size+1<L.heap.size:=Ya (by first|assumption|(simp;done)|(simp;omega)) i.size;have y1:wr.heap.size<L.heap.size:=Ya (by first|assumption|(simp;done)|(simp;omega)) i.size))
   all_goals
    go_wp2
    go_roundw
    case rel=>have s:Zb wr L:=Below.Ap (Below.Ap (((WA _ wr).alloc (XB _) _).drew) h) i;exact⟨k+1,by omega,by go_num,Aa ⟨(d.o.1.up s).AKr (by omega),Nq.AKz (d.o.2.1.up s) (HN.o.trans rfl),b8c (Below.Ap d.o.2.2 s) (by omega) _ _ _ _ _ _ _ _⟩⟩
    case measure=>simp[intOf];omega
  have e:l.take k=l:=Yd (by omega);rw[e] at d;clear e M;obtain⟨s1,j⟩:∃s1,Iv l=s1:=⟨_,rfl⟩;rw[j] at d;have HE:=Aa j;clear j;obtain⟨c1,z,⟨y,n1,t1⟩,⟨D,G,I⟩⟩:=s1;obtain⟨e0,e1,e2,e3,e4,e5,e6,e7⟩:=d.o.2.1.cells;obtain⟨X,Y,z2,z3,z4,z5,z6,z7⟩:=Nq.cells (c:=0) (m:=0) (k:=0) (n:=0) (t:=⟨#[]⟩) (k':=0) (n':=0) (t':=⟨#[]⟩) d.o.1;obtain⟨f0,f1,f2,f3,f4,f5,f6,f7⟩:=d.o.1.free;go_wp2;exact bodyPost_ret (v:=Zg #[Zi c1,Zi z,Zi y,Zi n1,Zt t1,Zi D,Zi G,Zt I]) (by simp[results,results151,go_sem,X,Y,z2,z3,z4,z5,z6,z7]) rfl ⟨by rw[HE.o];rfl,b8c d.o.2.2 (XB _) _ _ _ _ _ _ _ _⟩
end S
theorem Hs(a b:List Aj):Av (a++b)=Av a++Av b:=by simp[Av]
theorem Gz(l:List Aj)(nm:Tb):(Ce l nm = -1/\∀j,j<l.length->l[j]!.2.1≠nm)\/∃k:Nat,k<l.length/\Ce l nm=k/\l[k]!.2.1=nm:=by
 by_cases h:∃k,k<l.length/\l[k]!.2.1=nm
 ·right
  have d:∃k,k<l.length/\l[k]!.2.1=nm:=h
  let P:Nat->Prop:=λk=>k<l.length/\l[k]!.2.1=nm
  have i:∀n,(∃k,k<n/\P k)->∃k,P k/\∀j,j<k->¬P j:=by
   intro n
   induction n with
   | zero=>rintro⟨k,c,_⟩;omega
   | succ n ih=>
     rintro⟨k,c,p⟩
     by_cases hx:∃j,j<n/\P j
     ·exact ih hx
     refine⟨k,p,λj a g=>hx ⟨j,by omega,g⟩⟩
  obtain⟨o,f⟩:=d;obtain⟨k,⟨c,m⟩,b⟩:=i (o+1) ⟨o,by omega,f⟩;refine⟨k,c,?_,m⟩
  have:=Lib.idxBy_hit (λ(_:Aj)(y:Aj)=>y.2.1.toList==nm.toList) l l.length k default c (XB _) (by show (l[k]!.2.1.toList==nm.toList)=true;rw[m];exact beq_self_eq_true _) (λj a=>by
   have:=b j a;have:l[j]!.2.1≠nm:=λe=>this ⟨by omega,e⟩
   exact beq_eq_false_iff_ne.2 (λe=>this (toList_inj e)))
  rw[Ye] at this;exact this
 left;refine⟨?_,λj a e=>h ⟨j,a,e⟩⟩;have:=Lib.idxBy_miss (λ(_:Aj)(y:Aj)=>y.2.1.toList==nm.toList) l l.length default (λj a=>beq_eq_false_iff_ne.2 (λe=>h ⟨j,a,toList_inj e⟩));rw[Ye] at this;exact this
theorem I1.drop{w:Tw}{g o:Nat}{l:List Aj}(h:I1 w g o l)(n:Nat):I1 w g (o+n*7) (l.drop n) :=
 ⟨h.1,λj c i v b=>by
  have a:n+j<l.length:=by simp at c;omega
  have e:(l.drop n)[j]! = l[n+j]! := by simp[List.getElem!_eq_getElem?_getD]
  rw[e] at b;have:=h.2 (n+j) a i v b;rwa[show o+(n+j)*7+i=o+n*7+j*7+i by omega] at this⟩
theorem I1.Fz{w:Tw}{base g n k:Nat}{l:List Aj}(h:w.ownsRow base 72 7 (Zs (some ⟨g,0,none⟩) n k) n (Av l))(e:n=l.length):I1 w g 0 l:=by
 refine⟨(h.lt g rfl).2,λj d i v b=>?_⟩
 have c:i<7:=by
  rcases Yc i 7 with a|a
  ·exact a
  rw[Yb (by rw[Gl];exact a)] at b;cases b
 have:=h.cellAt (j*7+i) (by subst e;omega);rw[Wq l j i d c,b] at this;rw[show 0+j*7+i=j*7+i by omega];exact this
theorem xJ(nm:Tb)(B:Nat)(w:Tw)(b:B<w.heap.size)(a:w.cell? ⟨B,0,none⟩=some (Zt nm)):
 PredBelow prog 34 #[Zp (some ⟨B,0,none⟩)] (λx:Aj=>Zg (Cc x).toArray) (λc=>c.2.1.toList==nm.toList) w:=λW x hb=>by
 have l:W.cell? ⟨B,0,none⟩=some (Zt nm):=(hb.cell (p:=⟨B,0,none⟩) b).trans a;have j:B<W.heap.size:=Ya b hb.size;have k:B≠W.heap.size:=by omega
 obtain⟨c1,d,e,f,g,h,i⟩:=x;show Zc 34 #[Zg #[Zi c1,Zt d,Zi e,Zo f,Zi g,Zi h,Zt i],Zp (some ⟨B,0,none⟩)] W _;go_enter func34,ntmps34;go_wp2
 all_goals (go_ret;exact⟨rfl,hb.alloc hb.size _⟩)
theorem E8(g o c:Nat)(l:List Aj)(nm:Tb)(w:Tw)(h:I1 w g o l)(j:l.length<=8):
 Zc 15 #[Zs (some ⟨g,o,none⟩) l.length c,Zt nm] w λe f=>e=Zr (Zi (Ce l nm))/\Zb w f:=by
 have i:∀args w,(callFunc 34 args).run prog w=.ok (.enter 34 args) w:=enters_of func34 (by kernel_rfl) rfl;have b:I1 (w.alloc (Zk #[Zt nm] 9)) g o l:=h.below (Zal)
 have a:=AnyQ.slices_IndexFunc layIdx 7 isAgg72 sizeOf72 Cc Gl (λc=>c.2.1.toList==nm.toList) 34 #[Zp (some ⟨w.heap.size,0,none⟩)] i g o l.length c l (w.alloc (Zk #[Zt nm] 9))
  (xJ nm w.heap.size _ (by simp) (by simp)) (XB _) (by omega) b.1 b.2
 rw[Ye] at a
 change Zc 33 _ _ (λe f=>e=Zr (Zi (Ce l nm))/\_) at a
 clear h b;generalize Ce l nm=r at a ⊢;go_enter func15,ntmps15;go_wp2_with (go_at_call 33;refine a.mono ?_;rintro e f⟨rfl,d⟩);go_ret;exact⟨rfl,b1c d⟩
theorem Rb(g o c:Nat)(l:List Aj)(w:Tw)(h:I1 w g o l)(s:l.length<=8):
 Zc 103 #[Zs (some ⟨g,o,none⟩) l.length c] w λe p=>∃d b,e=Zr (Zs (some ⟨d,0,none⟩) l.length b)/\p.ownsRow w.heap.size 72 7 (Zs (some ⟨d,0,none⟩) l.length b) l.length (Av l)/\Zb w p:=by
 obtain⟨r,i,k,m,n⟩:=info_parts Kh;refine(AnyE.slices_Clone layClo r L6 7 72 i k m n rfl (by decide) sizeOf72 g o l.length c (Av l) w (Hy l) (by unfold maxLen;omega) (by omega) h.flat (Ni l)).mono ?_;rintro e p⟨v',rfl,a,j,q⟩
 rcases ownsRow_forms a with⟨f,_⟩|⟨d,b,f⟩
 ·exact(j f).elim
 subst f;exact⟨d,b,rfl,a,q⟩
theorem jU{s:Tb}(h:Bv s=true):s.size<=maxLen:=by
 have:Bx s=true:=by simp[Bv] at h;exact h.2
 have:=Rk this;unfold maxLen;omega
theorem nG{k n:Int}{t:Tb}(h:A9 k n t=true):t.size<=40:=by
 unfold A9 at h
 have e0:t.toList.isEmpty=true->t.size<=40:=λe=>by
  have:t.toList=[]:=by simpa using e
  have:=toList_nil.1 this;omega
 split at h
 ·exact e0 (by simp at h;simp[h.2])
 split at h
 ·exact e0 h
 split at h
 ·simp[Vb] at h;exact h.2.1
 cases h
theorem kU{k x y:Int}{t:Tb}(h:Cm k x y t=true):t.size<=maxLen:=by
 have:A9 x y t=true:=by simp[Cm] at h;exact h.1
 have:=nG this;unfold maxLen;omega
namespace F
variable{l:List Aj}{i:Nat}{c:Aj}
abbrev V:=Int×Int×ByteArray
variable{r:List V}{p:List (List V)}
abbrev Fk:=Nat×List S.St×List (List UInt8)
variable{g:Fk}
abbrev s9:=List Aj×List Fk
def zV:V:=(0,0,⟨#[]⟩)
def zC:Aj:=(0,⟨#[]⟩,0,false,0,0,⟨#[]⟩)
def bP(c:Aj):V:=(c.2.2.2.2.1,c.2.2.2.2.2.1,c.2.2.2.2.2.2)
def kd(c:Aj):Int:=c.2.2.1
def ids(l:List Aj):List Int:=l.map (·.1)
def D7(rows:List (List V))(i:Nat):List V:=rows.map λr=>r[i]?.getD zV
def An(l:List Aj)(part:List (List V)):Fk :=
 (part.length,(List.range l.length).map (λi=>S.Iv (D7 part i)),(List.range l.length).map λi=>E.Hv (kd (l[i]?.getD zC)) (D7 part i))
def Dz(rows:List (List V))(k:Nat):List (List V):=(rows.drop (6*k)).take 6
def aF(n:Nat):Nat:=(n+5) / 6
def parts(rows:List (List V)):List (List (List V)):=(List.range (aF rows.length)).map (Dz rows)
def Ay(l:List Aj)(rows:List (List V)):List Fk:=(parts rows).map (An l)
def Mg(l:List Aj)(next:Int)(k:Nat):Bool:=Ko (l[k]?.getD zC) && (decide ((l[k]?.getD zC).1<next) && !(l.take k).any (Ez (l[k]?.getD zC)))
def Be(l:List Aj)(next:Int):Bool:=decide (1<=l.length/\l.length<=8) && (List.range l.length).all (Mg l next)
def Lf:Int:=1099511627777
def Lx(c:Aj)(v:V):Bool:=Cm (kd c) v.1 v.2.1 v.2.2
def Ia:List Aj->List V->Int
 | c :: l,v :: row=>if Lx c v=false then 1 else if (c.2.2.2.1 && v.1==0)=true then 7 else Ia l row
 | _,_=>0
def Hu(l:List Aj)(row:List V):Int:=if row.length=l.length then Ia l row else 1
def De(l:List Aj)(rows:List (List V)):Bool:=Be l Lf && (decide (1<=rows.length/\rows.length<=60) && rows.all λr=>Hu l r==0)
def J9(l:List Aj)(rows:List (List V)):Option s9:=if De l rows then some (l,Ay l rows) else none
def pos(cols:List Aj)(id:Int):Nat:=(ids cols).idxOf id
def Bq(cols:List Aj)(g:Fk)(c:Aj):List V :=
 if pos cols c.1<cols.length then (E.Ll (kd (cols[pos cols c.1]?.getD zC)) (g.2.2[pos cols c.1]?.getD [])).getD [] else List.replicate g.1 (bP c)
def Gb(cols:List Aj)(g:Fk):Bool:=decide (g.2.1.length=cols.length/\g.2.2.length=cols.length/\1<=g.1/\g.1<=6)
def Lh(cols:List Aj)(g:Fk)(a:List Aj):List (List V):=(List.range g.1).map λj=>a.map λc=>(Bq cols g c)[j]?.getD zV
def Ew(cols:List Aj)(g:Fk)(a:List Aj):Option (List (List V)) :=
 if Gb cols g && a.all (λc=>(Bq cols g c).length==g.1) then some (Lh cols g a) else none
def Fb(cols a:List Aj):List (List V)->List Fk->Option (List (List V))
 | acc,[]=>some acc
 | acc,g :: gs=>match Ew cols g a with
   | none=>none
   | some r=>Fb cols a (acc++r) gs
def I3(i:Nat):ByteArray:=⟨#[99,(48+i).toUInt8]⟩
def A7(l:List Aj):List Aj:=(List.range l.length).map λi=>((l[i]?.getD zC).1,I3 i,kd (l[i]?.getD zC),false,0,0,⟨#[]⟩)
open Classical in
noncomputable def madeB (f:s9):Bool:=Be (A7 f.1) Lf && match Fb f.1 (A7 f.1) [] f.2 with
 | none=>false
 | some rows=>match J9 (A7 f.1) rows with
   | none=>false
   | some f'=>decide (f.2=f'.2)
def Eg(c:Aj):List UInt8:=Lib.uvarint c.1.toNat++Lib.uvarint (kd c).toNat
def Dx(s:List UInt8):List UInt8:=Lib.uvarint s.length++s
def Bh(g:Fk):List UInt8:=Lib.uvarint g.1++g.2.2.flatMap Dx
def Cq(f:s9):List UInt8:=Lib.uvarint f.1.length++(f.1.flatMap Eg++(Lib.uvarint f.2.length++f.2.flatMap Bh))
noncomputable def Jn (f:s9):Option (List UInt8):=if madeB f then some (Cq f) else none
def qN(id kind:Int):Aj:=(id,⟨#[]⟩,kind,false,0,0,⟨#[]⟩)
def Ca:Nat->E.St->List Aj×E.St
 | 0,s=>([],s)
 | n+1,s=>(qN (E.Am 1099511627776 s).1 (E.Am 2 (E.Am 1099511627776 s).2).1 :: (Ca n (E.Am 2 (E.Am 1099511627776 s).2).2).1,(Ca n (E.Am 2 (E.Am 1099511627776 s).2).2).2)
def Hl(s:E.St):List UInt8×E.St:=E.C8 (E.Am 9223372036854775807 s).1 (E.Am 9223372036854775807 s).2
def Dk:List Aj->E.St->List (List UInt8)×E.St
 | [],s=>([],s)
 | _ :: l,s=>((Hl s).1 :: (Dk l (Hl s).2).1,(Dk l (Hl s).2).2)
def ABV(c:Aj)(b:List UInt8):S.St:=S.Iv ((E.Ll (kd c) b).getD [])
def Ga(l:List Aj)(bs:List (List UInt8)):List S.St:=List.zipWith ABV l bs
def Cd(l:List Aj)(s:E.St):Fk×E.St :=
 (((E.Am 6 s).1,Ga l (Dk l (E.Am 6 s).2).1,(Dk l (E.Am 6 s).2).1),(Dk l (E.Am 6 s).2).2)
def Bb(l:List Aj):Nat->E.St->List Fk×E.St
 | 0,s=>([],s)
 | n+1,s=>((Cd l s).1 :: (Bb l n (Cd l s).2).1,(Bb l n (Cd l s).2).2)
def Ox(s:List UInt8):List Aj×E.St:=Ca (E.Am 8 (s,false)).1 (E.Am 8 (s,false)).2
def Rr(l:List Aj)(s:E.St):List Fk×E.St:=Bb l (E.Am 60 s).1 (E.Am 60 s).2
def G0(s:List UInt8):s9×E.St:=(((Ox s).1,(Rr (Ox s).1 (Ox s).2).1),(Rr (Ox s).1 (Ox s).2).2)
noncomputable def Kj (s:List UInt8):Option s9:=if (G0 s).2.2 then none else if Jn (G0 s).1=some s then some (G0 s).1 else none
def Es(a b:List Aj):Prop:=ids a=ids b/\a.map kd=b.map kd
def By(l:List Aj):List Aj:=l.map λc=>qN c.1 (kd c)
theorem Es.len{a b:List Aj}(h:Es a b):a.length=b.length:=by have:=congrArg List.length h.1;simpa[ids] using this
theorem Es.kdq{a b:List Aj}(h:Es a b)(i:Nat):kd (a[i]?.getD zC)=kd (b[i]?.getD zC):=by have e:=congrArg (λl=>l[i]?) h.2;simp only[XF] at e;cases ha:a[i]? <;> cases hb:b[i]? <;> simp_all
theorem Es.idq{a b:List Aj}(h:Es a b)(i:Nat):(a[i]?.getD zC).1=(b[i]?.getD zC).1:=by have e:=congrArg (λl=>l[i]?) h.1;simp only[ids,XF] at e;cases ha:a[i]? <;> cases hb:b[i]? <;> simp_all
theorem Es.AKo{a b:List Aj}(h:Es a b)(id:Int):pos a id=pos b id:=by unfold pos;rw[h.1]
theorem Xl(a:List Aj):Es a a:=⟨rfl,rfl⟩
theorem It(l:List Aj):Es (By l) l:=by constructor <;> simp[ids,By,qN,kd,Function.comp_def]
theorem Gh(l:List Aj):Es (A7 l) l:=by
 constructor
 ·apply XM
  intro i;simp only[ids,A7,WM,XF]
  by_cases h:i<l.length
  ·simp[h]
  simp[h]
 apply XM;intro i;simp only[A7,WM,XF]
 by_cases h:i<l.length
 ·simp[h,kd]
 simp[h]
theorem jB{a b:List Aj}(h:Es a b):A7 a=A7 b:=by unfold A7;rw[h.len];apply Yw;intro i _;rw[h.idq,h.kdq]
theorem Ul{a b:List Aj}(h:Es a b)(p:List (List V)):An a p=An b p:=by unfold An;rw[h.len];simp only[h.kdq]
theorem Cx(l:List Aj):(A7 l).length=l.length:=by simp[A7]
theorem M3(h:l[i]? = some c):(A7 l)[i]? = some (c.1,I3 i,kd c,false,0,0,⟨#[]⟩):=by
 have b:i<l.length:=by
  rcases Yc i l.length with a|a
  ·exact a
  rw[Yb a] at h;cases h
 have e:l[i]?.getD zC=c:=by rw[h];rfl
 unfold A7;rw[XF,X' b,XR,e]
theorem qC(rows:List (List V)):∀m,((List.range m).map (Dz rows)).flatten=rows.take (6*m)
 | 0=>by simp
 | m+1=>by rw[List.range_succ,WC,List.flatten_append,qC rows m,show 6*(m+1)=6*m+6 by omega,List.take_add];simp[Dz]
theorem V2(rows:List (List V)):(parts rows).flatten=rows:=by unfold parts;rw[qC,Yd (by unfold aF;omega)]
theorem kD{rows:List (List V)}{k:Nat}(h:k<aF rows.length):1<=(Dz rows k).length/\(Dz rows k).length<=6:=by unfold aF at h;simp only[Dz,List.length_take,List.length_drop];omega
theorem Ij{rows p:List (List V)}(h:p∈parts rows):1<=p.length/\p.length<=6/\∀r∈p,r∈rows:=by simp only[parts,XQ,X6] at h;obtain⟨k,a,rfl⟩:=h;have:=kD a;exact⟨this.1,this.2,λr b=>X4 (Yk b)⟩
theorem Vg(rows:List (List V)):(parts rows).length=aF rows.length:=by simp[parts]
theorem AAI(k n:Int)(t:Tb):E.A9 k n t=A9 k n t:=rfl
theorem AG9(kind:Int)(x:V):E.Wa kind x=!Cm kind x.1 x.2.1 x.2.2:=by unfold E.Wa Cm;rw[AAI];cases A9 x.1 x.2.1 x.2.2 <;> cases (x.1==0) <;> cases (x.1==kind) <;> rfl
def Ks(v:V):Prop := -9223372036854775808<=v.2.1/\v.2.1<=9223372036854775807
def Gr(l:List Aj)(rows:List (List V)):Prop:=∀r∈rows,r.length=l.length/\∀i,i<l.length->Lx (l[i]?.getD zC) (r[i]?.getD zV)=true/\Ks (r[i]?.getD zV)
theorem Gn(rows:List (List V))(i:Nat):(D7 rows i).length=rows.length:=by simp[D7]
theorem Ot{rows:List (List V)}(h:Gr l rows)(f:i<l.length)(c:kd (l[i]?.getD zC)=1\/kd (l[i]?.getD zC)=2):E.Gk (kd (l[i]?.getD zC)) (D7 rows i)=true/\E.Okl (D7 rows i):=by
 have b:∀x∈D7 rows i,Lx (l[i]?.getD zC) x=true/\Ks x:=by intro x a;simp only[D7,XQ] at a;obtain⟨r,g,rfl⟩:=a;exact(h r g).2 i f
 constructor
 ·unfold E.Gk
  rw[XC];constructor
  ·rcases c with c|c <;> simp[c]
  simp only[XT,XU];intro x a;have:=(b x a).1;rw[AG9];unfold Lx at this;simp[this]
 intro x a;obtain⟨e,d⟩:=b x a;exact⟨d.1,d.2,kU e⟩
theorem Ax{α:Type}{l:List α}{x:α}(h:l[i]? = some x):i<l.length:=by
 rcases Yc i l.length with a|a
 ·exact a
 rw[Yb a] at h;cases h
theorem Hc{α:Type}{l:List α}(d:α)(h:i<l.length):l[i]? = some (l[i]?.getD d):=by rw[Y9 h];rfl
def Kl(l:List Aj):Prop:=∀i,i<l.length->kd (l[i]?.getD zC)=1\/kd (l[i]?.getD zC)=2
def AI0(l:List Aj):Prop:=∀i j,i<j->j<l.length->(l[i]?.getD zC).1≠(l[j]?.getD zC).1
theorem zX{l cols:List Aj}{part:List (List V)}(a:Es cols l)(i:Gr l part)(f:Kl l)(g:part.length<=60)(c:Aj):
 Bq cols (An l part) c=if pos l c.1<l.length then D7 part (pos l c.1) else List.replicate part.length (bP c):=by
 unfold Bq;rw[a.AKo,a.len]
 by_cases h:pos l c.1<l.length
 ·rw[if_pos h,if_pos h,a.kdq]
  have e:(An l part).2.2[pos l c.1]?.getD []=E.Hv (kd (l[pos l c.1]?.getD zC)) (D7 part (pos l c.1)):=by simp[An,h]
  obtain⟨b,d⟩:=Ot i h (f _ h);rw[e,E.vE b d (by rw[Gn];exact g)];rfl
 rw[if_neg h,if_neg h];rfl
def pick(l:List Aj)(r:List V)(c:Aj):V:=if pos l c.1<l.length then r[pos l c.1]?.getD zV else bP c
theorem cG{l cols:List Aj}{part:List (List V)}(d:Es cols l)(n:Gr l part)(m:Kl l)(h:1<=part.length)(i:part.length<=6)(a:List Aj):
 Ew cols (An l part) a=some (part.map λr=>a.map (pick l r)):=by
 have e:=zX d n m (by omega)
 have o:Gb cols (An l part)=true:=by
  have f:(An l part).2.1.length=l.length:=by simp[An]
  have g:(An l part).2.2.length=l.length:=by simp[An]
  have b:(An l part).1=part.length:=rfl;unfold Gb;rw[f,g,b,d.len];simp[h,i]
 have k:a.all (λc=>(Bq cols (An l part) c).length==(An l part).1)=true:=by
  rw[XX];intro c _;rw[e c];have b:(An l part).1=part.length:=rfl;rw[b];split
  ·simp[Gn]
  simp
 unfold Ew;rw[o,k];simp only[Bool.and_self,if_true];congr 1;unfold Lh;apply XM;intro j;simp only[XF]
 by_cases hj:j<part.length
 ·rw[X' (by exact hj),Y9 hj]
  simp only[XR];congr 1;apply Yw;intro c _;rw[e c];unfold pick;split
  ·simp[D7,hj]
  simp[hj]
 rw[Yb (by simp[An];omega),Yb (by omega)];rfl
theorem kX{l cols:List Aj}(d:Es cols l)(c:Kl l)(a:List Aj):∀(b:List (List (List V)))(acc:List (List V)),(∀p∈b,Gr l p/\1<=p.length/\p.length<=6) ->
 Fb cols a acc (b.map (An l))=some (acc++b.flatten.map λr=>a.map (pick l r))
 | [],acc,_=>by simp[Fb]
 | p :: b,acc,h=>by obtain⟨e,f,g⟩:=h p (by simp);rw[List.map_cons,Fb,cG d e c f g];simp only;rw[kX d c a b _ (λq i=>h q (by simp[i]))];simp
theorem zK{l cols:List Aj}(e:Es cols l)(c:Kl l)(a:List Aj){rows:List (List V)}(d:Gr l rows):
 Fb cols a [] (Ay l rows)=some (rows.map λr=>a.map (pick l r)):=by
 unfold Ay;rw[kX e c a (parts rows) [] (λp b=>⟨λr hr'=>d r ((Ij b).2.2 r hr'),(Ij b).1,(Ij b).2.1⟩),V2];simp
theorem AII(p:AI0 l)(d:i<l.length):pos l (l[i]?.getD zC).1=i:=by
 have c:∀(m:List Int)(i:Nat)(x:Int),m[i]? = some x->(∀j,j<i->m[j]? ≠some x)->m.idxOf x=i:=by
  intro m
  induction m with
  | nil=>intro i x h;simp at h
  | cons a m ih=>
    intro i x h g;cases i with
    | zero=>simp at h;subst h;simp
    | succ i=>
      have o:a≠x:=λe=>g 0 (by omega) (by simp[e])
      have k:=ih i x (by simpa using h) (λj f=>by have:=g (j+1) (by omega);simpa using this);rw[WG,k,beq_eq_false_iff_ne.2 o];rfl
 unfold pos;refine c (ids l) i _ (by simp[ids,d]) (λj f e=>?_);have n:=p j i f d;have b:j<l.length:=by omega
 apply n;simp only[ids,XF,Y9 b,XR,Option.some.injEq] at e;rw[Y9 b];exact e
theorem AFF{L:List Aj}(c:AI0 l)(a:Es L l)(f:r.length=l.length):L.map (pick l r)=r:=by
 apply XM;intro i;rw[XF]
 by_cases hi:i<l.length
 ·have b:i<L.length:=by rw[a.len];exact hi
  have e:=Hc zC b;rw[e];simp only[XR];have d:pos l (L[i]?.getD zC).1=i:=by rw[a.idq];exact AII c hi
  unfold pick;rw[d,if_pos hi,<-Hc zV (by omega)]
 rw[Yb (by rw[a.len];omega),Yb (by omega)];rfl
structure M7(l:List Aj)(next:Int):Prop where
 one:1<=l.length
 eight:l.length<=8
 may:∀i,i<l.length->Ko (l[i]?.getD zC)=true/\(l[i]?.getD zC).1<next
 apart:∀i j,i<j->j<l.length->Ez (l[j]?.getD zC) (l[i]?.getD zC)=false
theorem K5{next:Int}:Be l next=true↔M7 l next:=by
 unfold Be;rw[XC,decide_eq_true_iff,XX];constructor
 ·rintro⟨⟨e,f⟩,m⟩
  have a:∀k,k<l.length->Mg l next k=true:=λk a=>m k (List.mem_range.2 a)
  refine⟨e,f,λi b=>?_,λi j hij hj=>?_⟩
  ·have:=a i b
   simp only[Mg,XC,decide_eq_true_eq] at this;exact⟨this.1,this.2.1⟩
  have:=a j hj;simp only[Mg,XC,XT,XU] at this;have b:i<l.length:=by omega
  have d:l[i]∈l.take j:=by rw[XW];exact⟨i,by omega,rfl⟩
  have:=this.2.2 _ d;rw[Y9 b];simpa using this
 rintro⟨e,f,d,g⟩;refine⟨⟨e,f⟩,λk a=>?_⟩;rw[X6] at a;simp only[Mg,XC,decide_eq_true_eq,XT,XU];refine⟨(d k a).1,(d k a).2,λc h=>?_⟩;rw[XW] at h;obtain⟨i,b,rfl⟩:=h;have:=g i k (by omega) a;rw[Y9 (show i<l.length by omega)] at this;simpa using this
theorem Vr(h:Ko c=true):(kd c=1\/kd c=2)/\1<=c.1/\Bv c.2.1=true/\Cm (kd c) (bP c).1 (bP c).2.1 (bP c).2.2=true:=by simp only[Ko,XC,XY,beq_iff_eq,decide_eq_true_eq] at h;exact h
theorem M7.kinds{next:Int}(h:M7 l next):Kl l:=λi a=>(Vr (h.may i a).1).1
theorem M7.once{next:Int}(h:M7 l next):AI0 l:=λi j a b e=>by
 have:=h.apart i j a b;simp[Ez,e] at this
theorem Rg:∀{l:List Aj}{r:List V},Ia l r=0->r.length=l.length->∀i,i<l.length->Lx (l[i]?.getD zC) (r[i]?.getD zV)=true
 | [],_,_,_,i,hi=>by simp at hi
 | _ :: _,[],_,hl,_,_=>by simp at hl
 | c :: l,v :: r,h,hl,i,hi=>by
   rw[Ia] at h
   by_cases hf:Lx c v=false
   ·rw[if_pos hf] at h;cases h
   rw[if_neg hf] at h;split at h
   ·cases h
   cases i with
   | zero=>simpa using hf
   | succ i=>simpa using Rg h (by simpa using hl) i (by simpa using hi)
theorem tD:∀{l:List Aj}{r:List V},(∀i,i<l.length->Lx (l[i]?.getD zC) (r[i]?.getD zV)=true/\(l[i]?.getD zC).2.2.2.1=false)->Ia l r=0
 | [],_,_=>by simp[Ia]
 | _ :: _,[],_=>by simp[Ia]
 | c :: l,v :: r,h=>by have a:=h 0 (by simp);simp only[List.getElem?_cons_zero,XD] at a;rw[Ia,if_neg (by simp[a.1]),if_neg (by simp[a.2])];exact tD (λi b=>by have:=h (i+1) (by simpa using b);simpa using this)
def K9(rows:List (List V)):Prop:=∀r∈rows,∀v∈r,Ks v
theorem AEv:Ks zV:=⟨by decide,by decide⟩
theorem Mu{rows:List (List V)}(h:∀r∈rows,Hu l r=0)(a:K9 rows):Gr l rows:=by
 intro r b;have e:=h r b;unfold Hu at e
 by_cases hl:r.length=l.length
 ·rw[if_pos hl] at e
  refine⟨hl,λi c=>⟨Rg e hl i c,?_⟩⟩;cases hv:r[i]? with
  | none=>exact AEv
  | some v=>exact a r b v (XN hv)
 rw[if_neg hl] at e;cases e
theorem B4{rows:List (List V)}:De l rows=true↔M7 l Lf/\1<=rows.length/\rows.length<=60/\∀r∈rows,Hu l r=0:=by
 unfold De;rw[XC,XC,K5,decide_eq_true_iff,XX];simp only[beq_iff_eq];constructor
 ·rintro⟨a,⟨b,c⟩,d⟩;exact⟨a,b,c,d⟩
 rintro⟨a,b,c,d⟩;exact⟨a,⟨b,c⟩,d⟩
theorem AED:∀i,i<8->Bv (I3 i)=true:=by
 have a:Bv (I3 0)=true:=by kernel_rfl
 have b:Bv (I3 1)=true:=by kernel_rfl
 have c:Bv (I3 2)=true:=by kernel_rfl
 have d:Bv (I3 3)=true:=by kernel_rfl
 have e:Bv (I3 4)=true:=by kernel_rfl
 have f:Bv (I3 5)=true:=by kernel_rfl
 have g:Bv (I3 6)=true:=by kernel_rfl
 have h:Bv (I3 7)=true:=by kernel_rfl
 intro i j;have:i=0\/i=1\/i=2\/i=3\/i=4\/i=5\/i=6\/i=7:=by omega
 rcases this with rfl|rfl|rfl|rfl|rfl|rfl|rfl|rfl
 ·exact a
 ·exact b
 ·exact c
 ·exact d
 ·exact e
 ·exact f
 ·exact g
 exact h
theorem vF{j:Nat}(d:j<8)(c:i<j):((I3 i).toList==(I3 j).toList)=false:=by
 have:i<8:=by omega
 rw[beq_eq_false_iff_ne];intro e;rw[ByteArray.toList_eq,ByteArray.toList_eq] at e;have a:(48+i).toUInt8=(48+j).toUInt8:=by simpa[I3] using e
 have b:=congrArg UInt8.toNat a;rw[Lib.toUInt8_toNat (by omega),Lib.toUInt8_toNat (by omega)] at b;omega
theorem AFJ(k:Int):Cm k 0 0 ⟨#[]⟩=true:=by simp[Cm,A9,ByteArray.toList_eq]
theorem Xc(h:M7 l Lf):M7 (A7 l) Lf:=by
 have m:=Gh l;refine⟨by rw[Cx];exact h.one,by rw[Cx];exact h.eight,λi g=>?_,λi j hij hj=>?_⟩
 ·rw[Cx] at g
  rw[M3 (Hc zC g)];simp only[XD];obtain⟨e,f⟩:=h.may i g;obtain⟨a,b,c,d⟩:=Vr e;refine⟨?_,f⟩;have k:=h.eight;simp only[Ko,XC,XY,beq_iff_eq,decide_eq_true_eq];exact⟨a,b,AED i (by omega),AFJ _⟩
 rw[Cx] at hj;rw[M3 (Hc zC hj),M3 (Hc zC (show i<l.length by omega))];simp only[XD];have e:=h.once i j hij hj;have f:=vF (i:=i) (j:=j) (by have:=h.eight;omega) hij;simp only[Ez,XZ];exact⟨by simpa using e,f⟩
theorem ABo{a b:Aj}(h:kd a=kd b)(v:V):Lx a v=Lx b v:=by unfold Lx;rw[h]
theorem ACW(h:Hu l r=0):Hu (A7 l) r=0:=by
 unfold Hu at h ⊢;rw[Cx]
 by_cases hl:r.length=l.length
 ·rw[if_pos hl] at h ⊢
  apply tD;intro i a;rw[Cx] at a;have:=Rg h hl i a;rw[M3 (Hc zC a)];exact⟨this,rfl⟩
 rw[if_neg hl] at h;cases h
theorem jJ{a b:List Aj}(h:Es a b)(rows:List (List V)):Ay a rows=Ay b rows:=by unfold Ay;apply Yw;intro p _;exact Ul h p
theorem o8{l cols:List Aj}{rows:List (List V)}(h:De l rows=true)(i:Es cols l)(f:K9 rows):madeB (cols,Ay l rows)=true:=by
 obtain⟨d,j,e,a⟩:=B4.1 h;have b:=Mu a f;have g:A7 cols=A7 l:=jB i
 have k:Fb cols (A7 cols) [] (Ay l rows)=some rows:=by rw[g,zK i d.kinds (A7 l) b];congr 1;refine Eq.trans (Yw (λr c=>AFF d.once (Gh l) (b r c).1)) (WN rows)
 have m:J9 (A7 cols) rows=some (A7 l,Ay l rows):=by have:De (A7 l) rows=true:=B4.2 ⟨Xc d,j,e,λr c=>ACW (a r c)⟩;rw[g];unfold J9;rw[if_pos this,jJ (Gh l)]
 have c:Be (A7 cols) Lf=true:=by rw[g];exact K5.2 (Xc d)
 unfold madeB;simp only;rw[c,k];simp only;rw[m];simp
theorem eR:∀(l:List Aj)(rest:List UInt8),(∀c∈l,0<=c.1/\c.1<=1099511627776/\0<=kd c/\kd c<=2)->Ca l.length (l.flatMap Eg++rest,false)=(By l,(rest,false))
 | [],rest,_=>by simp[Ca,By]
 | c :: l,rest,h=>by
   obtain⟨f,j,g,k⟩:=h c (by simp)
   have a:E.Am 1099511627776 ((c :: l).flatMap Eg++rest,false)=(c.1.toNat,(Lib.uvarint (kd c).toNat++(l.flatMap Eg++rest),false)):=by rw[XE,Eg,Y',Y'];exact E.F5 (by omega) (by omega) _
   have b:E.Am 2 (Lib.uvarint (kd c).toNat++(l.flatMap Eg++rest),false)=((kd c).toNat,(l.flatMap Eg++rest,false)):=E.F5 (by omega) (by omega) _;have e:=eR l rest (λd i=>h d (by simp[i]));rw[XG,Ca,a];simp only;rw[b];simp only;rw[e,Wb f,Wb g];rfl
theorem ACs(b rest:List UInt8)(a:b.length<=9223372036854775807):Hl (Dx b++rest,false)=(b,(rest,false)):=by unfold Hl Dx;rw[Y',E.F5 (by omega) (by omega)];exact E.M8 rfl _ _
theorem Xy:∀(l:List Aj)(bs:List (List UInt8))(rest:List UInt8),bs.length=l.length->(∀b∈bs,b.length<=9223372036854775807)->Dk l (bs.flatMap Dx++rest,false)=(bs,(rest,false))
 | [],[],rest,_,_=>by simp[Dk]
 | [],_ :: _,_,h,_=>by simp at h
 | _ :: _,[],_,h,_=>by simp at h
 | c :: l,b :: bs,rest,h,hb=>by
   have a:Hl ((b :: bs).flatMap Dx++rest,false)=(b,(bs.flatMap Dx++rest,false)):=by rw[XE,Y'];exact ACs b _ (hb b (by simp))
   rw[Dk,a];simp only;rw[Xy l bs rest (by simpa using h) (λx d=>hb x (by simp[d]))]
def Oj(l:List Aj)(g:Fk):Fk:=(g.1,Ga l g.2.2,g.2.2)
def AHS(n:Nat)(g:Fk):Prop:=g.1<=6/\g.2.2.length=n/\∀b∈g.2.2,b.length<=9223372036854775807
theorem pK(h:AHS l.length g)(rest:List UInt8):Cd l (Bh g++rest,false)=(Oj l g,(rest,false)):=by
 have a:E.Am 6 (Bh g++rest,false)=(g.1,(g.2.2.flatMap Dx++rest,false)):=by unfold Bh;rw[Y'];exact E.F5 (by have:=h.1;omega) (by have:=h.1;omega) _
 unfold Cd;rw[a];simp only;rw[Xy l g.2.2 rest h.2.1 h.2.2];rfl
theorem Si{l:List Aj}:∀(gs:List Fk)(rest:List UInt8),(∀g∈gs,AHS l.length g)->Bb l gs.length (gs.flatMap Bh++rest,false)=(gs.map (Oj l),(rest,false))
 | [],rest,_=>by simp[Bb]
 | g :: gs,rest,h=>by
   have a:Cd l ((g :: gs).flatMap Bh++rest,false)=(Oj l g,(gs.flatMap Bh++rest,false)):=by rw[XE,Y'];exact pK (h g (by simp)) _
   rw[XG,Bb,a];simp only;rw[Si gs rest (λx b=>h x (by simp[b]))];rfl
structure Bnd(f:s9):Prop where
 cols:f.1.length<=8
 Bl:∀c∈f.1,0<=c.1/\c.1<=1099511627776/\0<=kd c/\kd c<=2
 groups:f.2.length<=60
 group:∀g∈f.2,AHS f.1.length g
theorem Je(l:List Aj):(By l).length=l.length:=by simp[By]
theorem vM{f:s9}(h:Bnd f)(rest:List UInt8):G0 (Cq f++rest)=((By f.1,f.2.map (Oj (By f.1))),(rest,false)):=by
 have a:E.Am 8 (Cq f++rest,false)=(f.1.length,(f.1.flatMap Eg++(Lib.uvarint f.2.length++(f.2.flatMap Bh++rest)),false)):=by unfold Cq;rw[Y',Y',Y'];exact E.F5 (by have:=h.cols;omega) (by have:=h.cols;omega) _
 have b:Ox (Cq f++rest)=(By f.1,(Lib.uvarint f.2.length++(f.2.flatMap Bh++rest),false)):=by unfold Ox;rw[a];exact eR f.1 _ h.Bl
 have c:E.Am 60 (Lib.uvarint f.2.length++(f.2.flatMap Bh++rest),false)=(f.2.length,(f.2.flatMap Bh++rest,false)):=E.F5 (by have:=h.groups;omega) (by have:=h.groups;omega) _
 have d:Rr (By f.1) (Lib.uvarint f.2.length++(f.2.flatMap Bh++rest),false)=(f.2.map (Oj (By f.1)),(rest,false)):=by unfold Rr;rw[c];exact Si f.2 rest (λg e=>by rw[Je];exact h.group g e)
 unfold G0;rw[b];simp only;rw[d]
theorem dH{α:Type}(f:α->List UInt8):∀{l:List α}{x:α},x∈l->(f x).length<=(l.flatMap f).length
 | [],_,h=>by simp at h
 | y :: l,x,h=>by
   rw[XE,XA]
   rcases List.mem_cons.1 h with rfl|h
   ·omega
   have:=dH f h;omega
theorem Mp{α:Type}(f:α->List UInt8)(m:Nat):∀{l:List α},(∀x∈l,(f x).length<=m)->(l.flatMap f).length<=l.length*m
 | [],_=>by simp
 | y :: l,h=>by have b:=h y (by simp);have c:=Mp f m (l:=l) (λx a=>h x (by simp[a]));rw[XE,XA,XG,X2];omega
theorem AEt{f:s9}{b:List UInt8}(e:g∈f.2)(d:b∈g.2.2):b.length<=(Cq f).length:=by have a:=dH Dx d;have c:=dH Bh e;simp only[Dx,Bh,Cq,XA] at a c ⊢;omega
theorem Wg(h:M7 l Lf)(g:c∈l):0<=c.1/\c.1<=1099511627776/\0<=kd c/\kd c<=2:=by obtain⟨i,f,rfl⟩:=Yj g;obtain⟨d,e⟩:=h.may i f;rw[Y9 f] at d e;simp only[XD] at d e;obtain⟨a,b,_,_⟩:=Vr d;unfold Lf at e;refine⟨by omega,by omega,?_,?_⟩ <;> rcases a with a|a <;> omega
theorem ACr(a:p.length<=6)(c:∀b∈(An l p).2.2,b.length<=9223372036854775807):AHS l.length (An l p) :=
 ⟨a,by simp[An],c⟩
theorem AAB{n:Nat}(h:n<=60):aF n<=10:=by unfold aF;omega
theorem Sk{a b:List Aj}(h:Es a b)(g:c∈a):∃d∈b,d.1=c.1/\kd d=kd c:=by
 obtain⟨i,f,rfl⟩:=Yj g;have e:i<b.length:=by rw[<-h.len];exact f
 refine⟨b[i],Yh _,?_,?_⟩
 ·have:=h.idq i;rw[Y9 f,Y9 e] at this;exact this.symm
 have:=h.kdq i;rw[Y9 f,Y9 e] at this;exact this.symm
theorem AFM{f:s9}(h:madeB f=true)(t:(Cq f).length<=9223372036854775807):Bnd f:=by
 unfold madeB at h;rw[XC] at h;obtain⟨v,a⟩:=h;have j:=K5.1 v;have m:=Gh f.1;refine⟨by have:=j.eight;rw[Cx] at this;exact this,λc r=>?_,?_,?_⟩
 ·obtain⟨d,s,n,o⟩:=Sk ⟨m.1.symm,m.2.symm⟩ r
  have:=Wg j s;rw[n,o] at this;exact this
 all_goals
  cases ha:Fb f.1 (A7 f.1) [] f.2 with
  | none=>rw[ha] at a;simp at a
  | some rows=>
    rw[ha] at a;simp only at a;unfold J9 at a
    by_cases hk:De (A7 f.1) rows=true
    ·rw[if_pos hk] at a
     simp only[decide_eq_true_eq] at a;obtain⟨_,_,i,_⟩:=B4.1 hk
     first
      | (rw[a,Ay,WH,Vg];have:=AAB i;omega)
      | (intro g k
         have e:=k;rw[a,Ay,XQ] at e;obtain⟨p,u,rfl⟩:=e;have:=ACr (l:=A7 f.1) (Ij u).2.1 (λb q=>XH (AEt k q) t);rw[Cx] at this;exact this)
    rw[if_neg hk] at a;simp at a
theorem mR{l cols:List Aj}(a:Es cols l)(k:Gr l p)(j:Kl l)(g:p.length<=60):Oj cols (An l p)=An l p:=by
 unfold Oj
 have e:Ga cols (An l p).2.2=(An l p).2.1:=by
  apply XM;intro i
  by_cases hi:i<l.length
  ·have h:i<cols.length:=by rw[a.len];exact hi
   obtain⟨d,f⟩:=Ot k hi (j i hi);have b:(An l p).2.2[i]? = some (E.Hv (kd (l[i]?.getD zC)) (D7 p i)):=by simp[An,hi]
   have c:(An l p).2.1[i]? = some (S.Iv (D7 p i)):=by simp[An,hi]
   rw[c];unfold Ga;rw[List.getElem?_zipWith,Hc zC h,b];simp only;unfold ABV;rw[a.kdq,E.vE d f (by rw[Gn];exact g)];rfl
  rw[Yb (by simp[Ga,An,a.len];omega),Yb (by simp[An];omega)]
 rw[e]
theorem uE(l:List Aj)(gs:List Fk):Cq (By l,gs)=Cq (l,gs):=by
 unfold Cq
 have e:(By l).flatMap Eg=l.flatMap Eg:=by unfold By;rw[List.flatMap_map];rfl
 simp only[e,Je]
theorem AAr{kind:Int}{l:List V}(h:E.Gk kind l=true)(c:E.Okl l)(b:l.length<=60):(E.Hv kind l).length<=4019:=by have a:=E.dE h c b;have d:=E.pW (kind:=kind) (E.Qc a);have e:=E.Rp l;have f:=Lib.uvarint_length64 (x:=l.length) (by omega);simp only[E.Hv,XA];omega
theorem Vn{rows:List (List V)}(h:De l rows=true)(e:K9 rows):(Cq (l,Ay l rows)).length<=400000:=by
 obtain⟨f,T,d,a⟩:=B4.1 h;have j:=Mu a e;have y:=AAB d;have m:=f.eight
 have N:(l.flatMap Eg).length<=l.length*20:=Mp _ _ (λc v=>by have w:=Wg f v;have G:=Lib.uvarint_length64 (x:=c.1.toNat) (by omega);have s:=Lib.uvarint_length64 (x:=(kd c).toNat) (by omega);simp only[Eg,XA];omega)
 have t:((Ay l rows).flatMap Bh).length<=(Ay l rows).length*32242:=Mp _ _ (λg o=>by
  simp only[Ay,XQ] at o;obtain⟨p,z,rfl⟩:=o;obtain⟨U,W,D⟩:=Ij z;have G:=Lib.uvarint_length64 (x:=p.length) (by omega)
  have s:((An l p).2.2.flatMap Dx).length<=(An l p).2.2.length*4029:=Mp _ _ (λb n=>by simp only[An,XQ,X6] at n;obtain⟨i,q,rfl⟩:=n;obtain⟨L,M⟩:=Ot (l:=l) (rows:=p) (λr hr=>j r (D r hr)) q (f.kinds i q);have X:=AAr L M (by rw[Gn];omega);have Y:=Lib.uvarint_length64 (x:=(E.Hv (kd (l[i]?.getD zC)) (D7 p i)).length) (by omega);simp only[Dx,XA];omega)
  have I:(An l p).2.2.length=l.length:=by simp[An]
  rw[I] at s;have J:(An l p).1=p.length:=rfl;simp only[Bh,XA,J];have:l.length*4029<=8*4029:=Yn _ m;omega)
 have k:(Ay l rows).length=aF rows.length:=by rw[Ay,WH,Vg]
 have O:=Lib.uvarint_length64 (x:=l.length) (by omega);have u:=Lib.uvarint_length64 (x:=(Ay l rows).length) (by omega);rw[k] at t u;simp only[Cq,XA,k];have P:l.length*20<=8*20:=Yn _ m;have R:aF rows.length*32242<=10*32242:=Yn _ y;omega
theorem tN{rows:List (List V)}(h:De l rows=true)(a:K9 rows):Kj (Cq (l,Ay l rows))=some (By l,Ay l rows):=by
 obtain⟨k,t,j,b⟩:=B4.1 h;have c:=Mu b a;have n:=o8 h (Xl l) a;have m:=AFM n (by have:=Vn h a;omega);have e:=vM m [];rw[WE] at e
 have f:(Ay l rows).map (Oj (By l))=Ay l rows:=by refine Eq.trans (Yw (λg d=>?_)) (WN _);simp only[Ay,XQ] at d;obtain⟨p,o,rfl⟩:=d;obtain⟨u,v,s⟩:=Ij o;exact mR (It l) (λr q=>c r (s r q)) k.kinds (by omega)
 simp only[f] at e;unfold Kj;rw[e];simp only[XK,if_false]
 have i:Jn (By l,Ay l rows)=some (Cq (l,Ay l rows)):=by unfold Jn;rw[if_pos (o8 h (It l) a),uE]
 rw[if_pos i]
variable{k:Nat}{W w:Tw}{v:Tv}{l:List Aj}
theorem Aa{p:Prop}(h:p):Hid p:=h
theorem Ap{a b c:Tw}(h:Zb a b)(k:Zb b c):Zb a c:=h.trans (k.mono h.size)
def F7{α:Type}(k:Nat)(enc:α->List Value)(w:World)(v:Value)(l:List α):Prop :=
 ∃a c,v=.slice a l.length c/\l.length<=c/\(l≠[]->∃b off,a=some ⟨b,off,none⟩/\b<w.heap.size/\∀(j:Nat)x,l[j]? = some x->∀(i:Nat)u,(enc x)[i]? = some u->w.cell? ⟨b,off+j*k+i,none⟩=some u)
theorem F7.up{α:Type}{enc:α->List Tv}{l:List α}(h:F7 k enc w v l)(m:Zb w W):F7 k enc W v l:=by obtain⟨a,c,e,o,r⟩:=h;refine⟨a,c,e,o,λg=>?_⟩;obtain⟨b,off,n,f,d⟩:=r g;exact⟨b,off,n,Ya f m.size,λj x q i u s=>(m.cell (p:=⟨b,off+j*k+i,none⟩) f).trans (d j x q i u s)⟩
theorem F7.slice{α:Type}{k:Nat}{enc:α->List Tv}{w:Tw}{v:Tv}{l:List α}(h:F7 k enc w v l):∃a c,v=Zs a l.length c/\l.length<=c:=by obtain⟨a,c,e,b,_⟩:=h;exact⟨a,c,e,b⟩
theorem F7.cons{α:Type}{enc:α->List Tv}{l:List α}(h:F7 k enc w v l)(d:0<l.length):∃b off c,v=Zs (some ⟨b,off,none⟩) l.length c/\l.length<=c/\b<w.heap.size/\∀(j:Nat)x,l[j]? = some x->∀(i:Nat)u,(enc x)[i]? = some u->w.cell? ⟨b,off+j*k+i,none⟩=some u:=by obtain⟨a,c,e,n,f⟩:=h;obtain⟨b,off,rfl,g,m⟩:=f (by intro e;rw[e] at d;simp at d);exact⟨b,off,c,e,n,g,m⟩
theorem Hi{α:Type}{k:Nat}{enc:α->List Tv}(a:∀x,(enc x).length=k):∀{l:List α}{j:Nat}{x:α}{i:Nat}{u:Tv},l[j]? = some x->(enc x)[i]? = some u->(l.flatMap enc)[j*k+i]? = some u
 | [],_,_,_,_,h,_=>by simp at h
 | y :: l,0,x,i,u,h,hu=>by simp at h;subst h;rw[XE,Nat.zero_mul,WO,List.getElem?_append_left (Ax hu)];exact hu
 | y :: l,j+1,x,i,u,h,hu=>by have b:=Hi a (l:=l) (j:=j) (x:=x) (i:=i) (u:=u) (by simpa using h) hu;rw[XE,List.getElem?_append_right (by rw[a];rw[X2];omega),a,show (j+1)*k+i-k=j*k+i by rw[X2];omega];exact b
theorem F7.Fz{α:Type}{enc:α->List Tv}(o:∀x,(enc x).length=k){B n:Nat}{T:TypeId}{l:List α}(h:w.ownsRow B T k v n (l.flatMap enc))(p:n=l.length):F7 k enc w v l:=by
 subst p
 rcases h.2 with⟨rfl,d⟩|⟨g,b,f,rfl,q,m,a,_,_⟩
 ·exact⟨none,0,by rw[d],by omega,λc=>absurd (Yz d) c⟩
 refine⟨_,b,rfl,a,λ_=>⟨g,0,rfl,E.Ac m,λj x hj i u hu=>?_⟩⟩;have e:=h.cells (g:=g) rfl;simp only[E.addr_add] at e;rw[WO];exact e _ _ (Hi o hj hu)
def encS(s:S.St):List Value:=(S.E6 s).toList
def Mc(b:List UInt8):List Value:=[.string (E.str b)]
def aG(x:Int×Value×Value):List Value:=[Zi x.1,x.2.1,x.2.2]
def encR(v:Value):List Value:=[v]
theorem rG(s:S.St):(encS s).length=8:=rfl
def Xr(w:World)(x:Int×Value×Value)(g:Fk):Prop:=x.1=g.1/\F7 8 encS w x.2.1 g.2.1/\F7 1 Mc w x.2.2 g.2.2
theorem Xr.up{w W:Tw}{x:Int×Tv×Tv}{g:Fk}(h:Xr w x g)(a:Zb w W):Xr W x g:=⟨h.1,h.2.1.up a,h.2.2.up a⟩
def vL(w:World)(v:Value)(gs:List Fk):Prop:=∃xs:List (Int×Value×Value),F7 3 aG w v xs/\xs.length=gs.length/\∀(j:Nat)x g,xs[j]? = some x->gs[j]? = some g->Xr w x g
theorem vL.up{w W:Tw}{v:Tv}{gs:List Fk}(h:vL w v gs)(a:Zb w W):vL W v gs:=by obtain⟨xs,b,c,d⟩:=h;exact⟨xs,b.up a,c,λj x g f e=>(d j x g f e).up a⟩
theorem vL.slice{w:Tw}{v:Tv}{gs:List Fk}(h:vL w v gs):∃a c,v=Zs a gs.length c/\gs.length<=c:=by obtain⟨xs,d,b,_⟩:=h;obtain⟨a,c,e,f⟩:=d.slice;exact⟨a,c,by rw[<-b];exact e,by rw[<-b];exact f⟩
theorem vL.at{gs:List Fk}(h:vL w v gs){g:Fk}(j:gs[k]? = some g):∃b off c n sv d,v=Zs (some ⟨b,off,none⟩) gs.length c/\b<w.heap.size/\n=(g.1:Int)/\w.cell? ⟨b,off+k*3,none⟩=some (Zi n)/\w.cell? ⟨b,off+k*3+1,none⟩=some sv/\w.cell? ⟨b,off+k*3+2,none⟩=some d/\F7 8 encS w sv g.2.1/\F7 1 Mc w d g.2.2:=by obtain⟨xs,l,m,o⟩:=h;have q:=Ax j;obtain⟨b,off,c,e,t,p,a⟩:=l.cons (by omega);obtain⟨⟨n,sv,d⟩,f⟩:∃x,xs[k]? = some x:=⟨_,Y9 (by omega)⟩;obtain⟨r,s,i⟩:=o k _ g f j;exact⟨b,off,c,n,sv,d,by rw[e,m],p,r,a k _ f 0 _ rfl,a k _ f 1 _ rfl,a k _ f 2 _ rfl,s,i⟩
def Hm(w:World)(a b:Value)(f:s9):Prop:=F7 7 Cc w a f.1/\vL w b f.2
theorem Hm.up{w W:Tw}{v u:Tv}{f:s9}(h:Hm w v u f)(a:Zb w W):Hm W v u f:=⟨h.1.up a,h.2.up a⟩
def iJ(w:World)(v:Value)(rows:List (List V)):Prop:=∃a:List Value,F7 1 encR w v a/\a.length=rows.length/\∀(j:Nat)x r,a[j]? = some x->rows[j]? = some r->E.Sl w x r
theorem iJ.up{w W:Tw}{v:Tv}{rows:List (List V)}(h:iJ w v rows)(a:Zb w W):iJ W v rows:=by obtain⟨g,b,c,d⟩:=h;exact⟨g,b.up a,c,λj x r f e=>(d j x r f e).up a⟩
theorem iJ.slice{w:Tw}{v:Tv}{rows:List (List V)}(h:iJ w v rows):∃a c,v=Zs a rows.length c/\rows.length<=c:=by obtain⟨g,d,b,_⟩:=h;obtain⟨a,c,e,f⟩:=d.slice;exact⟨a,c,by rw[<-b];exact e,by rw[<-b];exact f⟩
theorem iJ.at{w:Tw}{v:Tv}{rows:List (List V)}(h:iJ w v rows){k:Nat}{r:List V}(d:rows[k]? = some r):∃b off c g,v=Zs (some ⟨b,off,none⟩) rows.length c/\b<w.heap.size/\w.cell? ⟨b,off+k,none⟩=some g/\E.Sl w g r:=by obtain⟨o,i,j,l⟩:=h;have n:=Ax d;obtain⟨b,off,c,e,p,m,a⟩:=i.cons (by omega);obtain⟨x,f⟩:∃x,o[k]? = some x:=⟨_,Y9 (by omega)⟩;refine⟨b,off,c,x,by rw[e,j],m,?_,l k x r f d⟩;have:=a k x f 0 x rfl;rwa[Nat.mul_one,Nat.add_zero] at this
theorem wR(h:F7 7 Cc w v l)(n:0<l.length):∃g o c,v=Zs (some ⟨g,o,none⟩) l.length c/\l.length<=c/\I1 w g o l:=by obtain⟨b,off,c,e,m,k,a⟩:=h.cons n;refine⟨b,off,c,e,m,k,λj d i u f=>?_⟩;rw[getElem!_pos l j d] at f;exact a j _ (Y9 d) i u f
theorem AI5{g o c:Nat}(h:I1 w g o l)(a:l.length<=c):F7 7 Cc w (Zs (some ⟨g,o,none⟩) l.length c) l :=
 ⟨_,c,rfl,a,λ_=>⟨g,o,rfl,h.1,λj x hj i u hu=>h.2 j (Ax hj) i u (by rw[getElem!_pos l j (Ax hj)];rw[Y9 (Ax hj)] at hj;injection hj with hj;rw[hj];exact hu)⟩⟩
theorem F8{b off:Nat}(h:∀(j:Nat)x,l[j]? = some x->∀(i:Nat)u,(Cc x)[i]? = some u->w.cell? ⟨b,off+j*7+i,none⟩=some u){c1:Int}{s:Tb}{y:Int}{a:Bool}{z t:Int}{p:Tb}(e:l[k]? = some (c1,s,y,a,z,t,p)):
 w.cell? ⟨b,off+k*7,none⟩=some (Zi c1)/\w.cell? ⟨b,off+k*7+1,none⟩=some (Zt s)/\w.cell? ⟨b,off+k*7+2,none⟩=some (Zi y)/\w.cell? ⟨b,off+k*7+3,none⟩=some (Zo a)/\w.cell? ⟨b,off+k*7+4,none⟩=some (Zi z)/\w.cell? ⟨b,off+k*7+5,none⟩=some (Zi t)/\w.cell? ⟨b,off+k*7+6,none⟩=some (Zt p) :=
 ⟨h k _ e 0 _ rfl,h k _ e 1 _ rfl,h k _ e 2 _ rfl,h k _ e 3 _ rfl,h k _ e 4 _ rfl,h k _ e 5 _ rfl,h k _ e 6 _ rfl⟩
theorem b2c{X Y:Obj}(a:Below ((w.alloc X).alloc Y).heap.size ((w.alloc X).alloc Y) W):Zb w W:=Ap (S.Gj w X Y) a
theorem b3(w:Tw)(X Y Z:Obj):Zb w (((w.alloc X).alloc Y).alloc Z):=(S.Gj w X Y).alloc (by simp;omega) _
def cM(cols:List Aj)(id:Int):Int:=if pos cols id<cols.length then (pos cols id:Int) else -1
theorem AA7(id:Int):∀(l:List Aj)(i:Nat),Lib.idxByFrom (λ(_:Aj)(y:Aj)=>y.1==id) default l i=if (ids l).idxOf id<l.length then ((i+(ids l).idxOf id:Nat):Int) else -1
 | [],i=>by simp[Lib.idxByFrom,ids]
 | c :: l,i=>by
   have a:=AA7 id l (i+1);have e:ids (c :: l)=c.1 :: ids l:=rfl;rw[e,WG,Lib.idxByFrom]
   by_cases h:c.1=id
   ·rw[beq_iff_eq.2 h];simp
   rw[beq_eq_false_iff_ne.2 h,a];simp only[XK,if_false,cond_false,XG,Nat.add_lt_add_iff_right];split
   ·congr 1;omega
   rfl
theorem AFU(cols:List Aj)(id:Int):Lib.idxBy (λ(_:Aj)(y:Aj)=>y.1==id) cols default=cM cols id:=by unfold Lib.idxBy cM pos;rw[AA7];simp
theorem ADS(id:Int)(B:Nat)(w:Tw)(b:B<w.heap.size)(a:w.cell? ⟨B,0,none⟩=some (Zi id)):
 PredBelow prog 202 #[Zp (some ⟨B,0,none⟩)] (λx:Aj=>Zg (Cc x).toArray) (λc=>c.1==id) w:=λW x hb=>by
 have l:W.cell? ⟨B,0,none⟩=some (Zi id):=(hb.cell (p:=⟨B,0,none⟩) b).trans a;have j:B<W.heap.size:=Ya b hb.size;have k:B≠W.heap.size:=by omega
 obtain⟨c1,d,e,f,g,h,i⟩:=x;show Zc 202 #[Zg #[Zi c1,Zt d,Zi e,Zo f,Zi g,Zi h,Zt i],Zp (some ⟨B,0,none⟩)] W _;go_enter func202,ntmps202;go_wp2
 all_goals (go_ret;exact⟨rfl,hb.alloc hb.size _⟩)
theorem U9(q s:Tv)(cols:List Aj)(c1:Int)(j:Tb)(k:Int)(l:Bool)(m n:Int)(p:Tb)(w:Tw)(h:F7 7 Cc w q cols)(v:1<=cols.length)(x:cols.length<=8):
 Zc 150 #[Zg #[q,s],Zg #[Zi c1,Zt j,Zi k,Zo l,Zi m,Zi n,Zt p]] w λe i=>e=Zr (Zi (cM cols c1))/\Zb w i:=by
 obtain⟨g,o,c,rfl,z,t⟩:=wR h v;have u:∀args w,(callFunc 202 args).run prog w=.ok (.enter 202 args) w:=enters_of func202 (by kernel_rfl) rfl;have d:=S.Gj w (Zk #[Zs (some ⟨g,o,none⟩) cols.length c,s] 98) (Zk #[Zi c1,Zt j,Zi k,Zo l,Zi m,Zi n,Zt p] 72);have b:=t.below d
 have a:=AnyQ.slices_IndexFunc layIdx 7 isAgg72 sizeOf72 Cc Gl (λc=>c.1==c1) 202 #[Zp (some ⟨w.heap.size+1,0,none⟩)] u g o cols.length c cols _
  (ADS c1 (w.heap.size+1) _ (by simp) (by rw[XP _ _ _ _ (by simp)];rfl)) (XB _) (by omega) b.1 b.2
 rw[Ye] at a
 change Zc 33 _ _ (λe i=>e=Zr (Zi (Lib.idxBy (λ(_:Aj)(y:Aj)=>y.1==c1) cols default))/\_) at a
 rw[AFU] at a;clear h b t;generalize cM cols c1=r at a ⊢;go_enter func150,ntmps150;go_wp2_with (go_at_call 33;refine a.mono ?_;rintro e i⟨rfl,f⟩);go_ret;exact⟨rfl,b2c f⟩
