import Derived.Test.YthafikkkjfielaaGreatDoorCM
set_option maxHeartbeats 40000000
set_option maxRecDepth 100000
open List renaming getElem?_eq_getElem->Y',mem_of_getElem?->XA,length_append->XC,getElem?_map->XH,flatMap_cons->XJ,append_assoc->XK,getElem?_append_right->XM,getElem?_append_left->XO,length_cons->XP,ext_getElem?->XQ,length_take->XR,flatMap_append->XS,all_eq_true->XT,length_map->XX,mem_map->X2,getElem?_range->X',append_toArray->WA,size_toArray->WC,push_toArray->WD,cons_append->WE,range_succ->WG,length_nil->WH,nil_append->WI,mem_range->WJ,setIfInBounds_toArray->WK,getElem?_drop->WL,mem_take_iff_getElem->WM,any_eq_false->WO,length_drop->WQ,drop_of_length_le->WV,map_append->WW,length_replicate->WX,mem_of_mem_drop->WY,set_cons_succ->W8,set_cons_zero->Vv,map_map->VA,not_mem_nil->VE,drop_length->VF,idxOf_cons->VH,length_set->VK,mem_cons->VL,map_id'->VM
open Nat renaming le_refl->XB,zero_le->XG,le_succ->XN,le_trans->X4,le_add_right->X6,lt_succ_self->WS,zero_add->WU,add_assoc->W3,le_of_lt->VC,add_mul->VG,add_zero->VN,mul_one->VO,min_def->VP
open Bool renaming and_eq_true->XD,not_eq_true'->WN,and_false->W0,false_eq_true->W5,or_eq_true->VI,decide_and->VJ
open Go.World renaming size_alloc->XE,news_of_block->XI,ownsRow_nil->XL,putObj_heap_other->WB,cell?_alloc_at->WZ
open Go.RowKit.Below renaming refl->XF,heap_alloc->WR
open Option renaming getD_some->XU,map_some->XW
open Array renaming getElem?_eq_none->XV,replicate_succ->XY,replicate_zero->XZ
open Int renaming eq_ofNat_of_zero_le->WT,toNat_of_nonneg->W1,toNat_natCast->VD
namespace Go.Proofs.YthafikkkjfielaaGreatDoor
open Tryz RowKit Lib Joins Shelf Extern.Stop Stop Extern
open Go.Sort (grow)
theorem I1.drop{w:Tw}{g o:Nat}{l:List Aj}(h:I1 w g o l)(n:Nat):I1 w g (o+n*7) (l.drop n) :=
 ⟨h.1,λj c i v b=>by
  have a:n+j<l.length:=by simp at c;omega
  have e:(l.drop n)[j]! = l[n+j]! := by simp[List.getElem!_eq_getElem?_getD]
  rw[e] at b;have:=h.2 (n+j) a i v b;rwa[show o+(n+j)*7+i=o+n*7+j*7+i by omega] at this⟩
theorem I1.Fz{w:Tw}{base g n k:Nat}{l:List Aj}(h:w.ownsRow base 69 7 (Zs (some (Zd g 0)) n k) n (Av l))(e:n=l.length):I1 w g 0 l:=by
 refine⟨(h.lt g rfl).2,λj d i v b=>?_⟩
 have c:i<7:=by
  rcases Yc i 7 with a|a
  ·exact a
  rw[Yb (by rw[Gl];exact a)] at b;cases b
 have:=h.cellAt (j*7+i) (by subst e;omega);rw[Wq l j i d c,b] at this;rw[show 0+j*7+i=j*7+i by omega];exact this
theorem xJ(nm:Tb)(B:Nat)(w:Tw)(b:B<w.1.size)(a:w.cell? (Zd B 0)=some (Zt nm)):
 PredBelow prog 143 #[Zp (some (Zd B 0))] (λx:Aj=>Zg (Cc x).toArray) (λc=>c.2.1.toList==nm.toList) w:=λW x hb=>by
 have l:W.cell? (Zd B 0)=some (Zt nm):=(hb.cell (p:=Zd B 0) b).trans a;have j:B<W.1.size:=Ya b hb.size;have k:B≠W.1.size:=by omega
 obtain⟨c1,d,e,f,g,h,i⟩:=x;show Zc 143 #[Zg #[Zi c1,Zt d,Zi e,Zo f,Zi g,Zi h,Zt i],Zp (some (Zd B 0))] W _;go_enter func143,ntmps143;go_wp2
 all_goals (go_ret;exact⟨rfl,hb.alloc hb.size _⟩)
theorem E8(g o c:Nat)(l:List Aj)(nm:Tb)(w:Tw)(h:I1 w g o l)(j:l.length<=8):
 Zc 84 #[Zs (some (Zd g o)) l.length c,Zt nm] w λe f=>e=Zr (Zi (Ce l nm))/\Zb w f:=by
 have i:∀args w,(callFunc 143 args).run prog w=.ok (.enter 143 args) w:=enters_of func143 (by kernel_rfl) rfl;have b:I1 (w.alloc (Zk #[Zt nm] 9)) g o l:=h.below (Zal)
 have a:=AnyQ.slices_IndexFunc layIdx 7 isAgg69 sizeOf69 Cc Gl (λc=>c.2.1.toList==nm.toList) 143 #[Zp (some (Zd w.1.size 0))] i g o l.length c l (w.alloc (Zk #[Zt nm] 9))
  (xJ nm w.1.size _ (by simp) (by simp)) (XB _) (by omega) b.1 b.2
 rw[Yg] at a
 change Zc 142 _ _ (λe f=>e=Zr (Zi (Ce l nm))/\_) at a
 clear h b;generalize Ce l nm=r at a ⊢;go_enter func84,ntmps84;go_wp2_with (go_at_call 142;apply a.mono;rintro e f⟨rfl,d⟩);go_ret;exact⟨rfl,b1c d⟩
theorem Rb(g o c:Nat)(l:List Aj)(w:Tw)(h:I1 w g o l)(s:l.length<=8):
 Zc 71 #[Zs (some (Zd g o)) l.length c] w λe p=>∃d b,e=Zr (Zs (some (Zd d 0)) l.length b)/\p.ownsRow w.1.size 69 7 (Zs (some (Zd d 0)) l.length b) l.length (Av l)/\Zb w p:=by
 obtain⟨r,i,k,m,n⟩:=info_parts Kh;refine(AnyE.slices_Clone layClo r L6 7 72 i k m n rfl (by decide) sizeOf69 g o l.length c (Av l) w (Hy l) (by unfold maxLen;omega) (by omega) h.flat (Ni l)).mono ?_;rintro e p⟨v',rfl,a,j,q⟩
 rcases ownsRow_forms a with⟨f,_⟩|⟨d,b,f⟩
 ·exact(j f).elim
 subst f;exact⟨d,b,rfl,a,q⟩
theorem jU{s:Tb}(h:Bv s=true):s.size<=maxLen:=by
 have:Bx s=true:=by simp[Bv] at h;exact h.2
 have:=Rk this;unfold maxLen;omega
theorem nG{k n:Int}{t:Tb}(h:A9 k n t=true):t.size<=40:=by
 unfold A9 at h
 have e0:t.toList.isEmpty=true->t.size<=40:=λe=>by
  have:t.toList=[]:=by simpa using e
  have:=toList_nil.1 this;omega
 split at h
 ·exact e0 (by simp at h;simp[h.2])
 split at h
 ·exact e0 h
 split at h
 ·simp[Vb] at h;exact h.2.1
 cases h
theorem kU{k x y:Int}{t:Tb}(h:Cm k x y t=true):t.size<=maxLen:=by
 have:A9 x y t=true:=by simp[Cm] at h;exact h.1
 have:=nG this;unfold maxLen;omega
namespace F
variable{l:List Aj}{i:Nat}{c:Aj}
abbrev V:=Int×Int×ByteArray
variable{r:List V}{p:List (List V)}
abbrev Fk:=Nat×List S.St×List (List UInt8)
variable{g:Fk}
abbrev s9:=List Aj×List Fk
def zV:V:=(0,0,⟨#[]⟩)
def zC:Aj:=(0,⟨#[]⟩,0,false,0,0,⟨#[]⟩)
def bP(c:Aj):V:=(c.2.2.2.2.1,c.2.2.2.2.2.1,c.2.2.2.2.2.2)
def kd(c:Aj):Int:=c.2.2.1
def ids(l:List Aj):List Int:=l.map (·.1)
def ALc(qj:List (List V))(i:Nat):List V:=qj.map λr=>r[i]?.getD zV
def An(l:List Aj)(part:List (List V)):Fk :=
 (part.length,(List.range l.length).map (λi=>S.Iv (ALc part i)),(List.range l.length).map λi=>E.Hv (kd (l[i]?.getD zC)) (ALc part i))
def Dz(qj:List (List V))(k:Nat):List (List V):=(qj.drop (6*k)).take 6
def aF(n:Nat):Nat:=(n+5) / 6
def parts(qj:List (List V)):List (List (List V)):=(List.range (aF qj.length)).map (Dz qj)
def Ay(l:List Aj)(qj:List (List V)):List Fk:=(parts qj).map (An l)
def Mg(l:List Aj)(next:Int)(k:Nat):Bool:=Ko (l[k]?.getD zC) && (decide ((l[k]?.getD zC).1<next) && !(l.take k).any (Ez (l[k]?.getD zC)))
def Be(l:List Aj)(next:Int):Bool:=decide (1<=l.length/\l.length<=8) && (List.range l.length).all (Mg l next)
def Lf:Int:=1099511627777
def Lx(c:Aj)(v:V):Bool:=Cm (kd c) v.1 v.2.1 v.2.2
def Ia:List Aj->List V->Int
 | c :: l,v :: row=>if Lx c v=false then 1 else if (c.2.2.2.1 && v.1==0)=true then 7 else Ia l row
 | _,_=>0
def Hu(l:List Aj)(row:List V):Int:=if row.length=l.length then Ia l row else 1
def De(l:List Aj)(qj:List (List V)):Bool:=Be l Lf && (decide (1<=qj.length/\qj.length<=60) && qj.all λr=>Hu l r==0)
def J9(l:List Aj)(qj:List (List V)):Option s9:=if De l qj then some (l,Ay l qj) else none
def pos(qz:List Aj)(id:Int):Nat:=(ids qz).idxOf id
def Bq(qz:List Aj)(g:Fk)(c:Aj):List V :=
 if pos qz c.1<qz.length then (E.Ll (kd (qz[pos qz c.1]?.getD zC)) (g.2.2[pos qz c.1]?.getD [])).getD [] else List.replicate g.1 (bP c)
def Gb(qz:List Aj)(g:Fk):Bool:=decide (g.2.1.length=qz.length/\g.2.2.length=qz.length/\1<=g.1/\g.1<=6)
def Lh(qz:List Aj)(g:Fk)(a:List Aj):List (List V):=(List.range g.1).map λj=>a.map λc=>(Bq qz g c)[j]?.getD zV
def Ew(qz:List Aj)(g:Fk)(a:List Aj):Option (List (List V)) :=
 if Gb qz g && a.all (λc=>(Bq qz g c).length==g.1) then some (Lh qz g a) else none
def Fb(qz a:List Aj):List (List V)->List Fk->Option (List (List V))
 | acc,[]=>some acc
 | acc,g :: gs=>match Ew qz g a with
   | none=>none
   | some r=>Fb qz a (acc++r) gs
def I3(i:Nat):ByteArray:=⟨#[99,(48+i).toUInt8]⟩
def A7(l:List Aj):List Aj:=(List.range l.length).map λi=>((l[i]?.getD zC).1,I3 i,kd (l[i]?.getD zC),false,0,0,⟨#[]⟩)
open Classical in
noncomputable def madeB (f:s9):Bool:=Be (A7 f.1) Lf && match Fb f.1 (A7 f.1) [] f.2 with
 | none=>false
 | some qj=>match J9 (A7 f.1) qj with
   | none=>false
   | some f'=>decide (f.2=f'.2)
def Eg(c:Aj):List UInt8:=Lib.uvarint c.1.toNat++Lib.uvarint (kd c).toNat
def Dx(s:List UInt8):List UInt8:=Lib.uvarint s.length++s
def Bh(g:Fk):List UInt8:=Lib.uvarint g.1++g.2.2.flatMap Dx
def Cq(f:s9):List UInt8:=Lib.uvarint f.1.length++(f.1.flatMap Eg++(Lib.uvarint f.2.length++f.2.flatMap Bh))
noncomputable def Jn (f:s9):Option (List UInt8):=if madeB f then some (Cq f) else none
def qN(id kind:Int):Aj:=(id,⟨#[]⟩,kind,false,0,0,⟨#[]⟩)
def Ca:Nat->E.St->List Aj×E.St
 | 0,s=>([],s)
 | n+1,s=>(qN (E.Am 1099511627776 s).1 (E.Am 2 (E.Am 1099511627776 s).2).1 :: (Ca n (E.Am 2 (E.Am 1099511627776 s).2).2).1,(Ca n (E.Am 2 (E.Am 1099511627776 s).2).2).2)
def Hl(s:E.St):List UInt8×E.St:=E.C8 (E.Am 9223372036854775807 s).1 (E.Am 9223372036854775807 s).2
def Dk:List Aj->E.St->List (List UInt8)×E.St
 | [],s=>([],s)
 | _ :: l,s=>((Hl s).1 :: (Dk l (Hl s).2).1,(Dk l (Hl s).2).2)
def ABV(c:Aj)(b:List UInt8):S.St:=S.Iv ((E.Ll (kd c) b).getD [])
def Ga(l:List Aj)(bs:List (List UInt8)):List S.St:=List.zipWith ABV l bs
def Cd(l:List Aj)(s:E.St):Fk×E.St :=
 (((E.Am 6 s).1,Ga l (Dk l (E.Am 6 s).2).1,(Dk l (E.Am 6 s).2).1),(Dk l (E.Am 6 s).2).2)
def Bb(l:List Aj):Nat->E.St->List Fk×E.St
 | 0,s=>([],s)
 | n+1,s=>((Cd l s).1 :: (Bb l n (Cd l s).2).1,(Bb l n (Cd l s).2).2)
def Ox(s:List UInt8):List Aj×E.St:=Ca (E.Am 8 (s,false)).1 (E.Am 8 (s,false)).2
def Rr(l:List Aj)(s:E.St):List Fk×E.St:=Bb l (E.Am 60 s).1 (E.Am 60 s).2
def G0(s:List UInt8):s9×E.St:=(((Ox s).1,(Rr (Ox s).1 (Ox s).2).1),(Rr (Ox s).1 (Ox s).2).2)
noncomputable def Kj (s:List UInt8):Option s9:=if (G0 s).2.2 then none else if Jn (G0 s).1=some s then some (G0 s).1 else none
def Es(a b:List Aj):Prop:=ids a=ids b/\a.map kd=b.map kd
def By(l:List Aj):List Aj:=l.map λc=>qN c.1 (kd c)
theorem Es.len{a b:List Aj}(h:Es a b):a.length=b.length:=by have:=congrArg List.length h.1;simpa[ids] using this
theorem Es.kdq{a b:List Aj}(h:Es a b)(i:Nat):kd (a[i]?.getD zC)=kd (b[i]?.getD zC):=by have e:=congrArg (λl=>l[i]?) h.2;simp only[XH] at e;cases ha:a[i]? <;> cases hb:b[i]? <;> simp_all
theorem Es.idq{a b:List Aj}(h:Es a b)(i:Nat):(a[i]?.getD zC).1=(b[i]?.getD zC).1:=by have e:=congrArg (λl=>l[i]?) h.1;simp only[ids,XH] at e;cases ha:a[i]? <;> cases hb:b[i]? <;> simp_all
theorem Es.AKo{a b:List Aj}(h:Es a b)(id:Int):pos a id=pos b id:=by unfold pos;rw[h.1]
theorem Xl(a:List Aj):Es a a:=⟨rfl,rfl⟩
theorem It(l:List Aj):Es (By l) l:=by constructor <;> simp[ids,By,qN,kd,Function.comp_def]
theorem Gh(l:List Aj):Es (A7 l) l:=by
 constructor
 ·apply XQ
  intro i;simp only[ids,A7,VA,XH]
  by_cases h:i<l.length
  ·simp[h]
  simp[h]
 apply XQ;intro i;simp only[A7,VA,XH]
 by_cases h:i<l.length
 ·simp[h,kd]
 simp[h]
theorem jB{a b:List Aj}(h:Es a b):A7 a=A7 b:=by unfold A7;rw[h.len];apply Yn;intro i _;rw[h.idq,h.kdq]
theorem Ul{a b:List Aj}(h:Es a b)(p:List (List V)):An a p=An b p:=by unfold An;rw[h.len];simp only[h.kdq]
theorem Cx(l:List Aj):(A7 l).length=l.length:=by simp[A7]
theorem M3(h:l[i]? = some c):(A7 l)[i]? = some (c.1,I3 i,kd c,false,0,0,⟨#[]⟩):=by
 have b:i<l.length:=by
  rcases Yc i l.length with a|a
  ·exact a
  rw[Yb a] at h;cases h
 have e:l[i]?.getD zC=c:=by rw[h];rfl
 unfold A7;rw[XH,X' b,XW,e]
theorem qC(qj:List (List V)):∀m,((List.range m).map (Dz qj)).flatten=qj.take (6*m)
 | 0=>by simp
 | m+1=>by rw[WG,WW,List.flatten_append,qC qj m,show 6*(m+1)=6*m+6 by omega,List.take_add];simp[Dz]
theorem V2(qj:List (List V)):(parts qj).flatten=qj:=by unfold parts;rw[qC,Yf (by unfold aF;omega)]
theorem kD{qj:List (List V)}{k:Nat}(h:k<aF qj.length):1<=(Dz qj k).length/\(Dz qj k).length<=6:=by unfold aF at h;simp only[Dz,XR,WQ];omega
theorem Ij{qj p:List (List V)}(h:p∈parts qj):1<=p.length/\p.length<=6/\∀r∈p,r∈qj:=by simp only[parts,X2,WJ] at h;obtain⟨k,a,rfl⟩:=h;have:=kD a;exact⟨this.1,this.2,λr b=>WY (Ym b)⟩
theorem Vg(qj:List (List V)):(parts qj).length=aF qj.length:=by simp[parts]
theorem AAI(k n:Int)(t:Tb):E.A9 k n t=A9 k n t:=rfl
theorem AG9(kind:Int)(x:V):E.Wa kind x=!Cm kind x.1 x.2.1 x.2.2:=by unfold E.Wa Cm;rw[AAI];cases A9 x.1 x.2.1 x.2.2 <;> cases (x.1==0) <;> cases (x.1==kind) <;> rfl
def Ks(v:V):Prop := -9223372036854775808<=v.2.1/\v.2.1<=9223372036854775807
def ALo(l:List Aj)(qj:List (List V)):Prop:=∀r∈qj,r.length=l.length/\∀i,i<l.length->Lx (l[i]?.getD zC) (r[i]?.getD zV)=true/\Ks (r[i]?.getD zV)
theorem Gn(qj:List (List V))(i:Nat):(ALc qj i).length=qj.length:=by simp[ALc]
theorem Ot{qj:List (List V)}(h:ALo l qj)(f:i<l.length)(c:kd (l[i]?.getD zC)=1\/kd (l[i]?.getD zC)=2):E.Gk (kd (l[i]?.getD zC)) (ALc qj i)=true/\E.Okl (ALc qj i):=by
 have b:∀x∈ALc qj i,Lx (l[i]?.getD zC) x=true/\Ks x:=by intro x a;simp only[ALc,X2] at a;obtain⟨r,g,rfl⟩:=a;exact(h r g).2 i f
 constructor
 ·unfold E.Gk
  rw[XD];constructor
  ·rcases c with c|c <;> simp[c]
  simp only[WN,WO];intro x a;have:=(b x a).1;rw[AG9];unfold Lx at this;simp[this]
 intro x a;obtain⟨e,d⟩:=b x a;exact⟨d.1,d.2,kU e⟩
theorem Ax{α:Type}{l:List α}{x:α}(h:l[i]? = some x):i<l.length:=by
 rcases Yc i l.length with a|a
 ·exact a
 rw[Yb a] at h;cases h
theorem Hc{α:Type}{l:List α}(d:α)(h:i<l.length):l[i]? = some (l[i]?.getD d):=by rw[Y' h];rfl
def Kl(l:List Aj):Prop:=∀i,i<l.length->kd (l[i]?.getD zC)=1\/kd (l[i]?.getD zC)=2
def AI0(l:List Aj):Prop:=∀i j,i<j->j<l.length->(l[i]?.getD zC).1≠(l[j]?.getD zC).1
theorem zX{l qz:List Aj}{part:List (List V)}(a:Es qz l)(i:ALo l part)(f:Kl l)(g:part.length<=60)(c:Aj):
 Bq qz (An l part) c=if pos l c.1<l.length then ALc part (pos l c.1) else List.replicate part.length (bP c):=by
 unfold Bq;rw[a.AKo,a.len]
 by_cases h:pos l c.1<l.length
 ·rw[Yae h,Yae h,a.kdq]
  have e:(An l part).2.2[pos l c.1]?.getD []=E.Hv (kd (l[pos l c.1]?.getD zC)) (ALc part (pos l c.1)):=by simp[An,h]
  obtain⟨b,d⟩:=Ot i h (f _ h);rw[e,E.vE b d (by rw[Gn];exact g)];rfl
 rw[Yad h,Yad h];rfl
def pick(l:List Aj)(r:List V)(c:Aj):V:=if pos l c.1<l.length then r[pos l c.1]?.getD zV else bP c
theorem cG{l qz:List Aj}{part:List (List V)}(d:Es qz l)(n:ALo l part)(m:Kl l)(h:1<=part.length)(i:part.length<=6)(a:List Aj):
 Ew qz (An l part) a=some (part.map λr=>a.map (pick l r)):=by
 have e:=zX d n m (by omega)
 have o:Gb qz (An l part)=true:=by
  have f:(An l part).2.1.length=l.length:=by simp[An]
  have g:(An l part).2.2.length=l.length:=by simp[An]
  have b:(An l part).1=part.length:=rfl;unfold Gb;rw[f,g,b,d.len];simp[h,i]
 have k:a.all (λc=>(Bq qz (An l part) c).length==(An l part).1)=true:=by
  rw[XT];intro c _;rw[e c];have b:(An l part).1=part.length:=rfl;rw[b];split
  ·simp[Gn]
  simp
 unfold Ew;rw[o,k];simp only[Bool.and_self,if_true];congr 1;unfold Lh;apply XQ;intro j;simp only[XH]
 by_cases hj:j<part.length
 ·rw[X' (by exact hj),Y' hj]
  simp only[XW];congr 1;apply Yn;intro c _;rw[e c];unfold pick;split
  ·simp[ALc,hj]
  simp[hj]
 rw[Yb (by simp[An];omega),Yb (by omega)];rfl
theorem kX{l qz:List Aj}(d:Es qz l)(c:Kl l)(a:List Aj):∀(b:List (List (List V)))(acc:List (List V)),(∀p∈b,ALo l p/\1<=p.length/\p.length<=6) ->
 Fb qz a acc (b.map (An l))=some (acc++b.flatten.map λr=>a.map (pick l r))
 | [],acc,_=>by simp[Fb]
 | p :: b,acc,h=>by obtain⟨e,f,g⟩:=h p (by simp);rw[List.map_cons,Fb,cG d e c f g];simp only;rw[kX d c a b _ (λq i=>h q (by simp[i]))];simp
theorem zK{l qz:List Aj}(e:Es qz l)(c:Kl l)(a:List Aj){qj:List (List V)}(d:ALo l qj):
 Fb qz a [] (Ay l qj)=some (qj.map λr=>a.map (pick l r)):=by
 unfold Ay;rw[kX e c a (parts qj) [] (λp b=>⟨λr hr'=>d r ((Ij b).2.2 r hr'),(Ij b).1,(Ij b).2.1⟩),V2];simp
theorem AII(p:AI0 l)(d:i<l.length):pos l (l[i]?.getD zC).1=i:=by
 have c:∀(m:List Int)(i:Nat)(x:Int),m[i]? = some x->(∀j,j<i->m[j]? ≠some x)->m.idxOf x=i:=by
  intro m
  induction m with
  | nil=>intro i x h;simp at h
  | cons a m ih=>
    intro i x h g;cases i with
    | zero=>simp at h;subst h;simp
    | succ i=>
      have o:a≠x:=λe=>g 0 (by omega) (by simp[e])
      have k:=ih i x (by simpa using h) (λj f=>by have:=g (j+1) (by omega);simpa using this);rw[VH,k,beq_eq_false_iff_ne.2 o];rfl
 unfold pos;refine c (ids l) i _ (by simp[ids,d]) (λj f e=>?_);have n:=p j i f d;have b:j<l.length:=by omega
 apply n;simp only[ids,XH,Y' b,XW,Option.some.injEq] at e;rw[Y' b];exact e
theorem AFF{L:List Aj}(c:AI0 l)(a:Es L l)(f:r.length=l.length):L.map (pick l r)=r:=by
 apply XQ;intro i;rw[XH]
 by_cases hi:i<l.length
 ·have b:i<L.length:=by rw[a.len];exact hi
  have e:=Hc zC b;rw[e];simp only[XW];have d:pos l (L[i]?.getD zC).1=i:=by rw[a.idq];exact AII c hi
  unfold pick;rw[d,Yae hi,<-Hc zV (by omega)]
 rw[Yb (by rw[a.len];omega),Yb (by omega)];rfl
structure M7(l:List Aj)(next:Int):Prop where
 one:1<=l.length
 eight:l.length<=8
 may:∀i,i<l.length->Ko (l[i]?.getD zC)=true/\(l[i]?.getD zC).1<next
 apart:∀i j,i<j->j<l.length->Ez (l[j]?.getD zC) (l[i]?.getD zC)=false
theorem K5{next:Int}:Be l next=true↔M7 l next:=by
 unfold Be;rw[XD,decide_eq_true_iff,XT];constructor
 ·rintro⟨⟨e,f⟩,m⟩
  have a:∀k,k<l.length->Mg l next k=true:=λk a=>m k (List.mem_range.2 a)
  refine⟨e,f,λi b=>?_,λi j hij hj=>?_⟩
  ·have:=a i b
   simp only[Mg,XD,decide_eq_true_eq] at this;exact⟨this.1,this.2.1⟩
  have:=a j hj;simp only[Mg,XD,WN,WO] at this;have b:i<l.length:=by omega
  have d:l[i]∈l.take j:=by rw[WM];exact⟨i,by omega,rfl⟩
  have:=this.2.2 _ d;rw[Y' b];simpa using this
 rintro⟨e,f,d,g⟩;refine⟨⟨e,f⟩,λk a=>?_⟩;rw[WJ] at a;simp only[Mg,XD,decide_eq_true_eq,WN,WO];refine⟨(d k a).1,(d k a).2,λc h=>?_⟩;rw[WM] at h;obtain⟨i,b,rfl⟩:=h;have:=g i k (by omega) a;rw[Y' (show i<l.length by omega)] at this;simpa using this
theorem Vr(h:Ko c=true):(kd c=1\/kd c=2)/\1<=c.1/\Bv c.2.1=true/\Cm (kd c) (bP c).1 (bP c).2.1 (bP c).2.2=true:=by simp only[Ko,XD,VI,beq_iff_eq,decide_eq_true_eq] at h;exact h
theorem M7.kinds{next:Int}(h:M7 l next):Kl l:=λi a=>(Vr (h.may i a).1).1
theorem M7.once{next:Int}(h:M7 l next):AI0 l:=λi j a b e=>by
 have:=h.apart i j a b;simp[Ez,e] at this
theorem Rg:∀{l:List Aj}{r:List V},Ia l r=0->r.length=l.length->∀i,i<l.length->Lx (l[i]?.getD zC) (r[i]?.getD zV)=true
 | [],_,_,_,i,hi=>by simp at hi
 | _ :: _,[],_,hl,_,_=>by simp at hl
 | c :: l,v :: r,h,hl,i,hi=>by
   rw[Ia] at h
   by_cases hf:Lx c v=false
   ·rw[Yae hf] at h;cases h
   rw[Yad hf] at h;split at h
   ·cases h
   cases i with
   | zero=>simpa using hf
   | succ i=>simpa using Rg h (by simpa using hl) i (by simpa using hi)
theorem tD:∀{l:List Aj}{r:List V},(∀i,i<l.length->Lx (l[i]?.getD zC) (r[i]?.getD zV)=true/\(l[i]?.getD zC).2.2.2.1=false)->Ia l r=0
 | [],_,_=>by simp[Ia]
 | _ :: _,[],_=>by simp[Ia]
 | c :: l,v :: r,h=>by have a:=h 0 (by simp);simp only[List.getElem?_cons_zero,XU] at a;rw[Ia,Yad (by simp[a.1]),Yad (by simp[a.2])];exact tD (λi b=>by have:=h (i+1) (by simpa using b);simpa using this)
def K9(qj:List (List V)):Prop:=∀r∈qj,∀v∈r,Ks v
theorem AEv:Ks zV:=⟨by decide,by decide⟩
theorem Mu{qj:List (List V)}(h:∀r∈qj,Hu l r=0)(a:K9 qj):ALo l qj:=by
 intro r b;have e:=h r b;unfold Hu at e
 by_cases hl:r.length=l.length
 ·rw[Yae hl] at e
  refine⟨hl,λi c=>⟨Rg e hl i c,?_⟩⟩;cases hv:r[i]? with
  | none=>exact AEv
  | some v=>exact a r b v (XA hv)
 rw[Yad hl] at e;cases e
theorem B4{qj:List (List V)}:De l qj=true↔M7 l Lf/\1<=qj.length/\qj.length<=60/\∀r∈qj,Hu l r=0:=by
 unfold De;rw[XD,XD,K5,decide_eq_true_iff,XT];simp only[beq_iff_eq];constructor
 ·rintro⟨a,⟨b,c⟩,d⟩;exact⟨a,b,c,d⟩
 rintro⟨a,b,c,d⟩;exact⟨a,⟨b,c⟩,d⟩
theorem AED:∀i,i<8->Bv (I3 i)=true:=by
 have a:Bv (I3 0)=true:=by kernel_rfl
 have b:Bv (I3 1)=true:=by kernel_rfl
 have c:Bv (I3 2)=true:=by kernel_rfl
 have d:Bv (I3 3)=true:=by kernel_rfl
 have e:Bv (I3 4)=true:=by kernel_rfl
 have f:Bv (I3 5)=true:=by kernel_rfl
 have g:Bv (I3 6)=true:=by kernel_rfl
 have h:Bv (I3 7)=true:=by kernel_rfl
 intro i j;have:i=0\/i=1\/i=2\/i=3\/i=4\/i=5\/i=6\/i=7:=by omega
 rcases this with rfl|rfl|rfl|rfl|rfl|rfl|rfl|rfl
 ·exact a
 ·exact b
 ·exact c
 ·exact d
 ·exact e
 ·exact f
 ·exact g
 exact h
theorem vF{j:Nat}(d:j<8)(c:i<j):((I3 i).toList==(I3 j).toList)=false:=by
 have:i<8:=by omega
 rw[beq_eq_false_iff_ne];intro e;rw[ByteArray.toList_eq,ByteArray.toList_eq] at e;have a:(48+i).toUInt8=(48+j).toUInt8:=by simpa[I3] using e
 have b:=congrArg UInt8.toNat a;rw[Lib.toUInt8_toNat (by omega),Lib.toUInt8_toNat (by omega)] at b;omega
theorem AFJ(k:Int):Cm k 0 0 ⟨#[]⟩=true:=by simp[Cm,A9,ByteArray.toList_eq]
theorem Xc(h:M7 l Lf):M7 (A7 l) Lf:=by
 have m:=Gh l;refine⟨by rw[Cx];exact h.one,by rw[Cx];exact h.eight,λi g=>?_,λi j hij hj=>?_⟩
 ·rw[Cx] at g
  rw[M3 (Hc zC g)];simp only[XU];obtain⟨e,f⟩:=h.may i g;obtain⟨a,b,c,d⟩:=Vr e;refine⟨?_,f⟩;have k:=h.eight;simp only[Ko,XD,VI,beq_iff_eq,decide_eq_true_eq];exact⟨a,b,AED i (by omega),AFJ _⟩
 rw[Cx] at hj;rw[M3 (Hc zC hj),M3 (Hc zC (show i<l.length by omega))];simp only[XU];have e:=h.once i j hij hj;have f:=vF (i:=i) (j:=j) (by have:=h.eight;omega) hij;simp only[Ez,Bool.or_eq_false_iff];exact⟨by simpa using e,f⟩
theorem ABo{a b:Aj}(h:kd a=kd b)(v:V):Lx a v=Lx b v:=by unfold Lx;rw[h]
theorem ACW(h:Hu l r=0):Hu (A7 l) r=0:=by
 unfold Hu at h ⊢;rw[Cx]
 by_cases hl:r.length=l.length
 ·rw[Yae hl] at h ⊢
  apply tD;intro i a;rw[Cx] at a;have:=Rg h hl i a;rw[M3 (Hc zC a)];exact⟨this,rfl⟩
 rw[Yad hl] at h;cases h
theorem jJ{a b:List Aj}(h:Es a b)(qj:List (List V)):Ay a qj=Ay b qj:=by unfold Ay;apply Yn;intro p _;exact Ul h p
theorem o8{l qz:List Aj}{qj:List (List V)}(h:De l qj=true)(i:Es qz l)(f:K9 qj):madeB (qz,Ay l qj)=true:=by
 obtain⟨d,j,e,a⟩:=B4.1 h;have b:=Mu a f;have g:A7 qz=A7 l:=jB i
 have k:Fb qz (A7 qz) [] (Ay l qj)=some qj:=by rw[g,zK i d.kinds (A7 l) b];congr 1;refine Eq.trans (Yn (λr c=>AFF d.once (Gh l) (b r c).1)) (VM qj)
 have m:J9 (A7 qz) qj=some (A7 l,Ay l qj):=by have:De (A7 l) qj=true:=B4.2 ⟨Xc d,j,e,λr c=>ACW (a r c)⟩;rw[g];unfold J9;rw[Yae this,jJ (Gh l)]
 have c:Be (A7 qz) Lf=true:=by rw[g];exact K5.2 (Xc d)
 unfold madeB;simp only;rw[c,k];simp only;rw[m];simp
theorem eR:∀(l:List Aj)(rest:List UInt8),(∀c∈l,0<=c.1/\c.1<=1099511627776/\0<=kd c/\kd c<=2)->Ca l.length (l.flatMap Eg++rest,false)=(By l,(rest,false))
 | [],rest,_=>by simp[Ca,By]
 | c :: l,rest,h=>by
   obtain⟨f,j,g,k⟩:=h c (by simp)
   have a:E.Am 1099511627776 ((c :: l).flatMap Eg++rest,false)=(c.1.toNat,(Lib.uvarint (kd c).toNat++(l.flatMap Eg++rest),false)):=by rw[XJ,Eg,XK,XK];exact E.F5 (by omega) (by omega) _
   have b:E.Am 2 (Lib.uvarint (kd c).toNat++(l.flatMap Eg++rest),false)=((kd c).toNat,(l.flatMap Eg++rest,false)):=E.F5 (by omega) (by omega) _;have e:=eR l rest (λd i=>h d (by simp[i]));rw[XP,Ca,a];simp only;rw[b];simp only;rw[e,W1 f,W1 g];rfl
theorem ACs(b rest:List UInt8)(a:b.length<=9223372036854775807):Hl (Dx b++rest,false)=(b,(rest,false)):=by unfold Hl Dx;rw[XK,E.F5 (by omega) (by omega)];exact E.M8 rfl _ _
theorem Xy:∀(l:List Aj)(bs:List (List UInt8))(rest:List UInt8),bs.length=l.length->(∀b∈bs,b.length<=9223372036854775807)->Dk l (bs.flatMap Dx++rest,false)=(bs,(rest,false))
 | [],[],rest,_,_=>by simp[Dk]
 | [],_ :: _,_,h,_=>by simp at h
 | _ :: _,[],_,h,_=>by simp at h
 | c :: l,b :: bs,rest,h,hb=>by
   have a:Hl ((b :: bs).flatMap Dx++rest,false)=(b,(bs.flatMap Dx++rest,false)):=by rw[XJ,XK];exact ACs b _ (hb b (by simp))
   rw[Dk,a];simp only;rw[Xy l bs rest (by simpa using h) (λx d=>hb x (by simp[d]))]
def Oj(l:List Aj)(g:Fk):Fk:=(g.1,Ga l g.2.2,g.2.2)
def AHS(n:Nat)(g:Fk):Prop:=g.1<=6/\g.2.2.length=n/\∀b∈g.2.2,b.length<=9223372036854775807
theorem pK(h:AHS l.length g)(rest:List UInt8):Cd l (Bh g++rest,false)=(Oj l g,(rest,false)):=by
 have a:E.Am 6 (Bh g++rest,false)=(g.1,(g.2.2.flatMap Dx++rest,false)):=by unfold Bh;rw[XK];exact E.F5 (by have:=h.1;omega) (by have:=h.1;omega) _
 unfold Cd;rw[a];simp only;rw[Xy l g.2.2 rest h.2.1 h.2.2];rfl
theorem Si{l:List Aj}:∀(gs:List Fk)(rest:List UInt8),(∀g∈gs,AHS l.length g)->Bb l gs.length (gs.flatMap Bh++rest,false)=(gs.map (Oj l),(rest,false))
 | [],rest,_=>by simp[Bb]
 | g :: gs,rest,h=>by
   have a:Cd l ((g :: gs).flatMap Bh++rest,false)=(Oj l g,(gs.flatMap Bh++rest,false)):=by rw[XJ,XK];exact pK (h g (by simp)) _
   rw[XP,Bb,a];simp only;rw[Si gs rest (λx b=>h x (by simp[b]))];rfl
structure Bnd(f:s9):Prop where
 qz:f.1.length<=8
 Bl:∀c∈f.1,0<=c.1/\c.1<=1099511627776/\0<=kd c/\kd c<=2
 groups:f.2.length<=60
 group:∀g∈f.2,AHS f.1.length g
theorem Je(l:List Aj):(By l).length=l.length:=by simp[By]
theorem vM{f:s9}(h:Bnd f)(rest:List UInt8):G0 (Cq f++rest)=((By f.1,f.2.map (Oj (By f.1))),(rest,false)):=by
 have a:E.Am 8 (Cq f++rest,false)=(f.1.length,(f.1.flatMap Eg++(Lib.uvarint f.2.length++(f.2.flatMap Bh++rest)),false)):=by unfold Cq;rw[XK,XK,XK];exact E.F5 (by have:=h.qz;omega) (by have:=h.qz;omega) _
 have b:Ox (Cq f++rest)=(By f.1,(Lib.uvarint f.2.length++(f.2.flatMap Bh++rest),false)):=by unfold Ox;rw[a];exact eR f.1 _ h.Bl
 have c:E.Am 60 (Lib.uvarint f.2.length++(f.2.flatMap Bh++rest),false)=(f.2.length,(f.2.flatMap Bh++rest,false)):=E.F5 (by have:=h.groups;omega) (by have:=h.groups;omega) _
 have d:Rr (By f.1) (Lib.uvarint f.2.length++(f.2.flatMap Bh++rest),false)=(f.2.map (Oj (By f.1)),(rest,false)):=by unfold Rr;rw[c];exact Si f.2 rest (λg e=>by rw[Je];exact h.group g e)
 unfold G0;rw[b];simp only;rw[d]
theorem dH{α:Type}(f:α->List UInt8):∀{l:List α}{x:α},x∈l->(f x).length<=(l.flatMap f).length
 | [],_,h=>by simp at h
 | y :: l,x,h=>by
   rw[XJ,XC]
   rcases List.mem_cons.1 h with rfl|h
   ·omega
   have:=dH f h;omega
theorem Mp{α:Type}(f:α->List UInt8)(m:Nat):∀{l:List α},(∀x∈l,(f x).length<=m)->(l.flatMap f).length<=l.length*m
 | [],_=>by simp
 | y :: l,h=>by have b:=h y (by simp);have c:=Mp f m (l:=l) (λx a=>h x (by simp[a]));rw[XJ,XC,XP,VG];omega
theorem AEt{f:s9}{b:List UInt8}(e:g∈f.2)(d:b∈g.2.2):b.length<=(Cq f).length:=by have a:=dH Dx d;have c:=dH Bh e;simp only[Dx,Bh,Cq,XC] at a c ⊢;omega
theorem Wg(h:M7 l Lf)(g:c∈l):0<=c.1/\c.1<=1099511627776/\0<=kd c/\kd c<=2:=by obtain⟨i,f,rfl⟩:=Yk g;obtain⟨d,e⟩:=h.may i f;rw[Y' f] at d e;simp only[XU] at d e;obtain⟨a,b,_,_⟩:=Vr d;unfold Lf at e;refine⟨by omega,by omega,?_,?_⟩ <;> rcases a with a|a <;> omega
theorem ACr(a:p.length<=6)(c:∀b∈(An l p).2.2,b.length<=9223372036854775807):AHS l.length (An l p) :=
 ⟨a,by simp[An],c⟩
theorem AAB{n:Nat}(h:n<=60):aF n<=10:=by unfold aF;omega
theorem Sk{a b:List Aj}(h:Es a b)(g:c∈a):∃d∈b,d.1=c.1/\kd d=kd c:=by
 obtain⟨i,f,rfl⟩:=Yk g;have e:i<b.length:=by rw[<-h.len];exact f
 refine⟨b[i],Yh _,?_,?_⟩
 ·have:=h.idq i;rw[Y' f,Y' e] at this;exact this.symm
 have:=h.kdq i;rw[Y' f,Y' e] at this;exact this.symm
theorem AFM{f:s9}(h:madeB f=true)(t:(Cq f).length<=9223372036854775807):Bnd f:=by
 unfold madeB at h;rw[XD] at h;obtain⟨v,a⟩:=h;have j:=K5.1 v;have m:=Gh f.1;refine⟨by have:=j.eight;rw[Cx] at this;exact this,λc r=>?_,?_,?_⟩
 ·obtain⟨d,s,n,o⟩:=Sk ⟨m.1.symm,m.2.symm⟩ r
  have:=Wg j s;rw[n,o] at this;exact this
 all_goals
  cases ha:Fb f.1 (A7 f.1) [] f.2 with
  | none=>rw[ha] at a;simp at a
  | some qj=>
    rw[ha] at a;simp only at a;unfold J9 at a
    by_cases hk:De (A7 f.1) qj=true
    ·rw[Yae hk] at a
     simp only[decide_eq_true_eq] at a;obtain⟨_,_,i,_⟩:=B4.1 hk
     first
      | (rw[a,Ay,XX,Vg];have:=AAB i;omega)
      | (intro g k
         have e:=k;rw[a,Ay,X2] at e;obtain⟨p,u,rfl⟩:=e;have:=ACr (l:=A7 f.1) (Ij u).2.1 (λb q=>X4 (AEt k q) t);rw[Cx] at this;exact this)
    rw[Yad hk] at a;simp at a
theorem mR{l qz:List Aj}(a:Es qz l)(k:ALo l p)(j:Kl l)(g:p.length<=60):Oj qz (An l p)=An l p:=by
 unfold Oj
 have e:Ga qz (An l p).2.2=(An l p).2.1:=by
  apply XQ;intro i
  by_cases hi:i<l.length
  ·have h:i<qz.length:=by rw[a.len];exact hi
   obtain⟨d,f⟩:=Ot k hi (j i hi);have b:(An l p).2.2[i]? = some (E.Hv (kd (l[i]?.getD zC)) (ALc p i)):=by simp[An,hi]
   have c:(An l p).2.1[i]? = some (S.Iv (ALc p i)):=by simp[An,hi]
   rw[c];unfold Ga;rw[List.getElem?_zipWith,Hc zC h,b];simp only;unfold ABV;rw[a.kdq,E.vE d f (by rw[Gn];exact g)];rfl
  rw[Yb (by simp[Ga,An,a.len];omega),Yb (by simp[An];omega)]
 rw[e]
theorem uE(l:List Aj)(gs:List Fk):Cq (By l,gs)=Cq (l,gs):=by
 unfold Cq
 have e:(By l).flatMap Eg=l.flatMap Eg:=by unfold By;rw[List.flatMap_map];rfl
 simp only[e,Je]
theorem AAr{kind:Int}{l:List V}(h:E.Gk kind l=true)(c:E.Okl l)(b:l.length<=60):(E.Hv kind l).length<=4019:=by have a:=E.dE h c b;have d:=E.pW (kind:=kind) (E.Qc a);have e:=E.Rp l;have f:=Lib.uvarint_length64 (x:=l.length) (by omega);simp only[E.Hv,XC];omega
theorem Vn{qj:List (List V)}(h:De l qj=true)(e:K9 qj):(Cq (l,Ay l qj)).length<=400000:=by
 obtain⟨f,T,d,a⟩:=B4.1 h;have j:=Mu a e;have y:=AAB d;have m:=f.eight
 have N:(l.flatMap Eg).length<=l.length*20:=Mp _ _ (λc v=>by have w:=Wg f v;have G:=Lib.uvarint_length64 (x:=c.1.toNat) (by omega);have s:=Lib.uvarint_length64 (x:=(kd c).toNat) (by omega);simp only[Eg,XC];omega)
 have t:((Ay l qj).flatMap Bh).length<=(Ay l qj).length*32242:=Mp _ _ (λg o=>by
  simp only[Ay,X2] at o;obtain⟨p,z,rfl⟩:=o;obtain⟨U,W,D⟩:=Ij z;have G:=Lib.uvarint_length64 (x:=p.length) (by omega)
  have s:((An l p).2.2.flatMap Dx).length<=(An l p).2.2.length*4029:=Mp _ _ (λb n=>by simp only[An,X2,WJ] at n;obtain⟨i,q,rfl⟩:=n;obtain⟨L,M⟩:=Ot (l:=l) (qj:=p) (λr hr=>j r (D r hr)) q (f.kinds i q);have X:=AAr L M (by rw[Gn];omega);have Y:=Lib.uvarint_length64 (x:=(E.Hv (kd (l[i]?.getD zC)) (ALc p i)).length) (by omega);simp only[Dx,XC];omega)
  have I:(An l p).2.2.length=l.length:=by simp[An]
  rw[I] at s;have J:(An l p).1=p.length:=rfl;simp only[Bh,XC,J];have:l.length*4029<=8*4029:=Yo _ m;omega)
 have k:(Ay l qj).length=aF qj.length:=by rw[Ay,XX,Vg]
 have O:=Lib.uvarint_length64 (x:=l.length) (by omega);have u:=Lib.uvarint_length64 (x:=(Ay l qj).length) (by omega);rw[k] at t u;simp only[Cq,XC,k];have P:l.length*20<=8*20:=Yo _ m;have R:aF qj.length*32242<=10*32242:=Yo _ y;omega
theorem tN{qj:List (List V)}(h:De l qj=true)(a:K9 qj):Kj (Cq (l,Ay l qj))=some (By l,Ay l qj):=by
 obtain⟨k,t,j,b⟩:=B4.1 h;have c:=Mu b a;have n:=o8 h (Xl l) a;have m:=AFM n (by have:=Vn h a;omega);have e:=vM m [];rw[List.append_nil] at e
 have f:(Ay l qj).map (Oj (By l))=Ay l qj:=by refine Eq.trans (Yn (λg d=>?_)) (VM _);simp only[Ay,X2] at d;obtain⟨p,o,rfl⟩:=d;obtain⟨u,v,s⟩:=Ij o;exact mR (It l) (λr q=>c r (s r q)) k.kinds (by omega)
 simp only[f] at e;unfold Kj;rw[e];simp only[W5,if_false]
 have i:Jn (By l,Ay l qj)=some (Cq (l,Ay l qj)):=by unfold Jn;rw[Yae (o8 h (It l) a),uE]
 rw[Yae i]
variable{i j k n:Nat}{W w:Tw}{v y:Tv}{T:TypeId}{g:Fk}{l:List Aj}{a:Act}{X:List Tv}{x:V}{L:List (List V)}{c:Aj}{K:Act->Tw->Prop}
theorem Aa{p:Prop}(h:p):Hid p:=h
theorem Ap{a b c:Tw}(h:Zb a b)(k:Zb b c):Zb a c:=h.trans (k.mono h.size)
def F7{α:Type}(k:Nat)(enc:α->List Value)(w:World)(v:Value)(l:List α):Prop :=
 ∃a c,v=.slice a l.length c/\l.length<=c/\(l≠[]->∃b off,a=some ⟨b,off,none⟩/\b<w.1.size/\∀(j:Nat)x,l[j]? = some x->∀(i:Nat)u,(enc x)[i]? = some u->w.cell? ⟨b,off+j*k+i,none⟩=some u)
theorem F7.up{α:Type}{enc:α->List Tv}{l:List α}(h:F7 k enc w v l)(m:Zb w W):F7 k enc W v l:=by obtain⟨a,c,e,o,r⟩:=h;refine⟨a,c,e,o,λg=>?_⟩;obtain⟨b,off,n,f,d⟩:=r g;exact⟨b,off,n,Ya f m.size,λj x q i u s=>(m.cell (p:=Zd b (off+j*k+i)) f).trans (d j x q i u s)⟩
theorem F7.slice{α:Type}{k:Nat}{enc:α->List Tv}{w:Tw}{v:Tv}{l:List α}(h:F7 k enc w v l):∃a c,v=Zs a l.length c/\l.length<=c:=by obtain⟨a,c,e,b,_⟩:=h;exact⟨a,c,e,b⟩
theorem F7.cons{α:Type}{enc:α->List Tv}{l:List α}(h:F7 k enc w v l)(d:0<l.length):∃b off c,v=Zs (some (Zd b off)) l.length c/\l.length<=c/\b<w.1.size/\∀(j:Nat)x,l[j]? = some x->∀(i:Nat)u,(enc x)[i]? = some u->w.cell? (Zd b (off+j*k+i))=some u:=by obtain⟨a,c,e,n,f⟩:=h;obtain⟨b,off,rfl,g,m⟩:=f (by intro e;rw[e] at d;simp at d);exact⟨b,off,c,e,n,g,m⟩
theorem Hi{α:Type}{k:Nat}{enc:α->List Tv}(a:∀x,(enc x).length=k):∀{l:List α}{j:Nat}{x:α}{i:Nat}{u:Tv},l[j]? = some x->(enc x)[i]? = some u->(l.flatMap enc)[j*k+i]? = some u
 | [],_,_,_,_,h,_=>by simp at h
 | y :: l,0,x,i,u,h,hu=>by simp at h;subst h;rw[XJ,Nat.zero_mul,WU,XO (Ax hu)];exact hu
 | y :: l,j+1,x,i,u,h,hu=>by have b:=Hi a (l:=l) (j:=j) (x:=x) (i:=i) (u:=u) (by simpa using h) hu;rw[XJ,XM (by rw[a];rw[VG];omega),a,show (j+1)*k+i-k=j*k+i by rw[VG];omega];exact b
theorem F7.Fz{α:Type}{enc:α->List Tv}(o:∀x,(enc x).length=k){B n:Nat}{l:List α}(h:w.ownsRow B T k v n (l.flatMap enc))(p:n=l.length):F7 k enc w v l:=by
 subst p
 rcases h.2 with⟨rfl,d⟩|⟨g,b,f,rfl,q,m,a,_,_⟩
 ·exact⟨none,0,by rw[d],by omega,λc=>absurd (Yz d) c⟩
 refine⟨_,b,rfl,a,λ_=>⟨g,0,rfl,E.Ac m,λj x hj i u hu=>?_⟩⟩;have e:=h.cells (g:=g) rfl;simp only[E.addr_add] at e;rw[WU];exact e _ _ (Hi o hj hu)
def encS(s:S.St):List Value:=(S.E6 s).toList
def Mc(b:List UInt8):List Value:=[.string (E.str b)]
def aG(x:Int×Value×Value):List Value:=[Zi x.1,x.2.1,x.2.2]
def encR(v:Value):List Value:=[v]
theorem rG(s:S.St):(encS s).length=8:=rfl
def Xr(w:World)(x:Int×Value×Value)(g:Fk):Prop:=x.1=g.1/\F7 8 encS w x.2.1 g.2.1/\F7 1 Mc w x.2.2 g.2.2
theorem Xr.up{w W:Tw}{x:Int×Tv×Tv}{g:Fk}(h:Xr w x g)(a:Zb w W):Xr W x g:=⟨h.1,h.2.1.up a,h.2.2.up a⟩
def vL(w:World)(v:Value)(gs:List Fk):Prop:=∃xs:List (Int×Value×Value),F7 3 aG w v xs/\xs.length=gs.length/\∀(j:Nat)x g,xs[j]? = some x->gs[j]? = some g->Xr w x g
theorem vL.up{w W:Tw}{v:Tv}{gs:List Fk}(h:vL w v gs)(a:Zb w W):vL W v gs:=by obtain⟨xs,b,c,d⟩:=h;exact⟨xs,b.up a,c,λj x g f e=>(d j x g f e).up a⟩
theorem vL.slice{w:Tw}{v:Tv}{gs:List Fk}(h:vL w v gs):∃a c,v=Zs a gs.length c/\gs.length<=c:=by obtain⟨xs,d,b,_⟩:=h;obtain⟨a,c,e,f⟩:=d.slice;exact⟨a,c,by rw[<-b];exact e,by rw[<-b];exact f⟩
theorem vL.at{gs:List Fk}(h:vL w v gs)(j:gs[k]? = some g):∃b off c n sv d,v=Zs (some (Zd b off)) gs.length c/\b<w.1.size/\n=(g.1:Int)/\w.cell? (Zd b (off+k*3))=some (Zi n)/\w.cell? (Zd b (off+k*3+1))=some sv/\w.cell? (Zd b (off+k*3+2))=some d/\F7 8 encS w sv g.2.1/\F7 1 Mc w d g.2.2:=by obtain⟨xs,l,m,o⟩:=h;have q:=Ax j;obtain⟨b,off,c,e,t,p,a⟩:=l.cons (by omega);obtain⟨⟨n,sv,d⟩,f⟩:∃x,xs[k]? = some x:=⟨_,Y' (by omega)⟩;obtain⟨r,s,i⟩:=o k _ g f j;exact⟨b,off,c,n,sv,d,by rw[e,m],p,r,a k _ f 0 _ rfl,a k _ f 1 _ rfl,a k _ f 2 _ rfl,s,i⟩
def Hm(w:World)(a b:Value)(f:s9):Prop:=F7 7 Cc w a f.1/\vL w b f.2
theorem Hm.up{w W:Tw}{v u:Tv}{f:s9}(h:Hm w v u f)(a:Zb w W):Hm W v u f:=⟨h.1.up a,h.2.up a⟩
def iJ(w:World)(v:Value)(qj:List (List V)):Prop:=∃a:List Value,F7 1 encR w v a/\a.length=qj.length/\∀(j:Nat)x r,a[j]? = some x->qj[j]? = some r->E.Sl w x r
theorem iJ.up{w W:Tw}{v:Tv}{qj:List (List V)}(h:iJ w v qj)(a:Zb w W):iJ W v qj:=by obtain⟨g,b,c,d⟩:=h;exact⟨g,b.up a,c,λj x r f e=>(d j x r f e).up a⟩
theorem iJ.slice{w:Tw}{v:Tv}{qj:List (List V)}(h:iJ w v qj):∃a c,v=Zs a qj.length c/\qj.length<=c:=by obtain⟨g,d,b,_⟩:=h;obtain⟨a,c,e,f⟩:=d.slice;exact⟨a,c,by rw[<-b];exact e,by rw[<-b];exact f⟩
theorem iJ.at{w:Tw}{v:Tv}{qj:List (List V)}(h:iJ w v qj){k:Nat}{r:List V}(d:qj[k]? = some r):∃b off c g,v=Zs (some (Zd b off)) qj.length c/\b<w.1.size/\w.cell? (Zd b (off+k))=some g/\E.Sl w g r:=by obtain⟨o,i,j,l⟩:=h;have n:=Ax d;obtain⟨b,off,c,e,p,m,a⟩:=i.cons (by omega);obtain⟨x,f⟩:∃x,o[k]? = some x:=⟨_,Y' (by omega)⟩;refine⟨b,off,c,x,by rw[e,j],m,?_,l k x r f d⟩;have:=a k x f 0 x rfl;rwa[VO,VN] at this
theorem wR(h:F7 7 Cc w v l)(n:0<l.length):∃g o c,v=Zs (some (Zd g o)) l.length c/\l.length<=c/\I1 w g o l:=by obtain⟨b,off,c,e,m,k,a⟩:=h.cons n;refine⟨b,off,c,e,m,k,λj d i u f=>?_⟩;rw[getElem!_pos l j d] at f;exact a j _ (Y' d) i u f
theorem AI5{g o c:Nat}(h:I1 w g o l)(a:l.length<=c):F7 7 Cc w (Zs (some (Zd g o)) l.length c) l :=
 ⟨_,c,rfl,a,λ_=>⟨g,o,rfl,h.1,λj x hj i u hu=>h.2 j (Ax hj) i u (by rw[getElem!_pos l j (Ax hj)];rw[Y' (Ax hj)] at hj;injection hj with hj;rw[hj];exact hu)⟩⟩
theorem F8{b off:Nat}(h:∀(j:Nat)x,l[j]? = some x->∀(i:Nat)u,(Cc x)[i]? = some u->w.cell? (Zd b (off+j*7+i))=some u){c1:Int}{s:Tb}{y:Int}{a:Bool}{z t:Int}{p:Tb}(e:l[k]? = some (c1,s,y,a,z,t,p)):
 w.cell? (Zd b (off+k*7))=some (Zi c1)/\w.cell? (Zd b (off+k*7+1))=some (Zt s)/\w.cell? (Zd b (off+k*7+2))=some (Zi y)/\w.cell? (Zd b (off+k*7+3))=some (Zo a)/\w.cell? (Zd b (off+k*7+4))=some (Zi z)/\w.cell? (Zd b (off+k*7+5))=some (Zi t)/\w.cell? (Zd b (off+k*7+6))=some (Zt p) :=
 ⟨h k _ e 0 _ rfl,h k _ e 1 _ rfl,h k _ e 2 _ rfl,h k _ e 3 _ rfl,h k _ e 4 _ rfl,h k _ e 5 _ rfl,h k _ e 6 _ rfl⟩
theorem b2c{X Y:Obj}(a:Below ((w.alloc X).alloc Y).heap.size ((w.alloc X).alloc Y) W):Zb w W:=Ap (S.Gj w X Y) a
theorem b3(w:Tw)(X Y Z:Obj):Zb w (((w.alloc X).alloc Y).alloc Z):=(S.Gj w X Y).alloc (by simp;omega) _
def cM(qz:List Aj)(id:Int):Int:=if pos qz id<qz.length then (pos qz id:Int) else -1
theorem AA7(id:Int):∀(l:List Aj)(i:Nat),Lib.idxByFrom (λ(_:Aj)(y:Aj)=>y.1==id) default l i=if (ids l).idxOf id<l.length then ((i+(ids l).idxOf id:Nat):Int) else -1
 | [],i=>by simp[Lib.idxByFrom,ids]
 | c :: l,i=>by
   have a:=AA7 id l (i+1);have e:ids (c :: l)=c.1 :: ids l:=rfl;rw[e,VH,Lib.idxByFrom]
   by_cases h:c.1=id
   ·rw[beq_iff_eq.2 h];simp
   rw[beq_eq_false_iff_ne.2 h,a];simp only[W5,if_false,cond_false,XP,Nat.add_lt_add_iff_right];split
   ·congr 1;omega
   rfl
theorem AFU(qz:List Aj)(id:Int):Lib.idxBy (λ(_:Aj)(y:Aj)=>y.1==id) qz default=cM qz id:=by unfold Lib.idxBy cM pos;rw[AA7];simp
theorem ADS(id:Int)(B:Nat)(w:Tw)(b:B<w.1.size)(a:w.cell? (Zd B 0)=some (Zi id)):
 PredBelow prog 254 #[Zp (some (Zd B 0))] (λx:Aj=>Zg (Cc x).toArray) (λc=>c.1==id) w:=λW x hb=>by
 have l:W.cell? (Zd B 0)=some (Zi id):=(hb.cell (p:=Zd B 0) b).trans a;have j:B<W.1.size:=Ya b hb.size;have k:B≠W.1.size:=by omega
 obtain⟨c1,d,e,f,g,h,i⟩:=x;show Zc 254 #[Zg #[Zi c1,Zt d,Zi e,Zo f,Zi g,Zi h,Zt i],Zp (some (Zd B 0))] W _;go_enter func254,ntmps254;go_wp2
 all_goals (go_ret;exact⟨rfl,hb.alloc hb.size _⟩)
theorem U9(q s:Tv)(qz:List Aj)(c1:Int)(j:Tb)(k:Int)(l:Bool)(m n:Int)(p:Tb)(w:Tw)(h:F7 7 Cc w q qz)(v:1<=qz.length)(x:qz.length<=8):
 Zc 213 #[Zg #[q,s],Zg #[Zi c1,Zt j,Zi k,Zo l,Zi m,Zi n,Zt p]] w λe i=>e=Zr (Zi (cM qz c1))/\Zb w i:=by
 obtain⟨g,o,c,rfl,z,t⟩:=wR h v;have u:∀args w,(callFunc 254 args).run prog w=.ok (.enter 254 args) w:=enters_of func254 (by kernel_rfl) rfl;have d:=S.Gj w (Zk #[Zs (some (Zd g o)) qz.length c,s] 146) (Zk #[Zi c1,Zt j,Zi k,Zo l,Zi m,Zi n,Zt p] 69);have b:=t.below d
 have a:=AnyQ.slices_IndexFunc layIdx 7 isAgg69 sizeOf69 Cc Gl (λc=>c.1==c1) 254 #[Zp (some (Zd (w.1.size+1) 0))] u g o qz.length c qz _
  (ADS c1 (w.1.size+1) _ (by simp) (by rw[WZ _ _ _ _ (by simp)];rfl)) (XB _) (by omega) b.1 b.2
 rw[Yg] at a
 change Zc 142 _ _ (λe i=>e=Zr (Zi (Lib.idxBy (λ(_:Aj)(y:Aj)=>y.1==c1) qz default))/\_) at a
 rw[AFU] at a;clear h b t;generalize cM qz c1=r at a ⊢;go_enter func213,ntmps213;go_wp2_with (go_at_call 142;apply a.mono;rintro e i⟨rfl,f⟩);go_ret;exact⟨rfl,b2c f⟩
theorem Kt(w:Tw)(X Y:Obj):((w.alloc X).alloc Y).heap.size=w.1.size+2/\((w.alloc X).alloc Y).heap[w.1.size]? = some X/\((w.alloc X).alloc Y).heap[w.1.size+1]? = some Y/\Below w.1.size w ((w.alloc X).alloc Y):=by
 refine⟨by simp,?_,?_,S.Gj w X Y⟩
 ·exact(WR _ _ _ (by simp)).trans (Yac _ _)
 have:=Yac (w.alloc X) Y;rwa[XE] at this
theorem J5{b:Nat}{x z:Tv}(h:W.1[b]? = some (Zk #[x,y,z] T)):W.cell? (Zd b 0)=some x/\W.cell? (Zd b 1)=some y/\W.cell? (Zd b 2)=some z/\W.frozen? (Zd b 0)=false/\W.frozen? (Zd b 1)=false/\W.frozen? (Zd b 2)=false:=by refine⟨by simp[World.cell?,h],by simp[World.cell?,h],by simp[World.cell?,h],Yaf W b 0 _ T h,Yaf W b 1 _ T h,Yaf W b 2 _ T h⟩
theorem Hg{b:Nat}{x:Tv}(h:W.1[b]? = some (Zk #[x,y] T)):W.cell? (Zd b 0)=some x/\W.cell? (Zd b 1)=some y:=by refine⟨by simp[World.cell?,h],by simp[World.cell?,h]⟩
theorem nL(k:Nat)(V W:Tv)(qz:List Aj)(gs:List Fk)(g:Fk)(w:Tw)(hc:F7 7 Cc w V qz)(X:vL w W gs)(R:gs[k]? = some g):
 Zc 174 #[Zg #[V,W],Zi k] w λe j=>∃sv M,e=Zr (Zu #[Zg #[Zi g.1,sv,M],Zo (Gb qz g)])/\F7 8 encS w sv g.2.1/\F7 1 Mc w M g.2.2/\Below w.1.size w j:=by
 obtain⟨n,st,bs⟩:=g;obtain⟨b,off,N,n',sv,M,rfl,d,rfl,z,D,G,i,f⟩:=X.at R;have m:=Aa i;have l:=Aa f;obtain⟨I,J,rfl,_⟩:=i.slice;obtain⟨x,y,rfl,_⟩:=f.slice;obtain⟨O,P,rfl,_⟩:=hc.slice;have ad:=Ax R;have ac:(k:Int)<(gs.length:Int):=by omega
 have ab:¬(k:Int)<0:=by omega
 clear i f X hc R;simp only at z D G m l ⊢;obtain⟨u,Y,hY,s⟩:=Kt w (Zk #[Zs O qz.length P,Zs (some (Zd b off)) gs.length N] 146) (Zk #[Zi 0,Zs none 0 0,Zs none 0 0] 207);replace z:=(s.cell (p:=Zd b (off+k*3)) d).trans z;replace D:=(s.cell (p:=Zd b (off+k*3+1)) d).trans D;replace G:=(s.cell (p:=Zd b (off+k*3+2)) d).trans G;obtain⟨r0,r1⟩:=Hg Y;obtain⟨y0,y1,y2,f0,f1,f2⟩:=J5 hY;have U:=Aa s
 have HW:Hid (Gb qz (n,st,bs)=(decide (st.length=qz.length) && (decide (bs.length=qz.length) && (decide (1<=n) && decide (n<=6))))):=Aa (by simp only[Gb,VJ])
 rw[HW.o];have z1:((st.length:Int)==(qz.length:Int))=decide (st.length=qz.length):=by by_cases h:st.length=qz.length <;> simp[h];omega
 have z2:((bs.length:Int)==(qz.length:Int))=decide (bs.length=qz.length):=by by_cases h:bs.length=qz.length <;> simp[h];omega
 have z3:decide ((1:Int)<=(n:Int))=decide (1<=n):=by by_cases h:1<=n <;> simp[h] <;> omega
 have z4:decide ((n:Int)<=(6:Int))=decide (n<=6):=by by_cases h:n<=6 <;> simp[h] <;> omega
 generalize decide (st.length=qz.length)=t1 at *;generalize decide (bs.length=qz.length)=t2 at *;generalize decide (1<=n)=t3 at *;generalize decide (n<=6)=t4 at *;have aa:¬b=w.1.size+2:=by omega
 clear Y hY s;go_enter func174,ntmps174;go_wp2_with fail;generalize (w.alloc (Zk #[Zs O qz.length P,Zs (some (Zd b off)) gs.length N] 146)).alloc (Zk #[Zi 0,Zs none 0 0,Zs none 0 0] 207)=q at *;generalize T:w.1.size=sz at *
 go_region_held3 (λj=>j.cell? (Zd b (off+k*3))=some (Zi n)/\j.cell? (Zd b (off+k*3+1))=some (Zs I st.length J)/\j.cell? (Zd b (off+k*3+2))=some (Zs x bs.length y)/\j.cell? (Zd sz 0)=some (Zs O qz.length P)/\j.cell? (Zd sz 1)=some (Zs (some (Zd b off)) gs.length N)) (go_keep) (fail)
 generalize a:(q.alloc (Zk #[Zi n,Zs I st.length J,Zs x bs.length y] 207)).drew=r
 have c:r.1[sz+2]? = some (Zk #[Zi n,Zs I st.length J,Zs x bs.length y] 207):=by rw[<-a,<-u];exact Yac _ _
 have t:Below sz w r:=by rw[<-a];exact(U.o.alloc (by omega) _).drew
 have keep:∀o,r.cell? (Zd (sz+1) o)=q.cell? (Zd (sz+1) o)/\r.frozen? (Zd (sz+1) o)=q.frozen? (Zd (sz+1) o):=λo=>by
  have hb:Below q.1.size q r:=by rw[<-a];exact(Zal).drew
  exact⟨hb.cell (p:=Zd (sz+1) o) (by show sz+1<_;omega),hb.frozen (p:=Zd (sz+1) o) (by show sz+1<_;omega)⟩
 rw[<-(keep 0).1] at y0;rw[<-(keep 1).1] at y1;rw[<-(keep 2).1] at y2;rw[<-(keep 0).2] at f0;rw[<-(keep 1).2] at f1;rw[<-(keep 2).2] at f2;obtain⟨x0,x1,x2,_,_,_⟩:=J5 c;have L:=Aa t;clear a c t keep U z D G r0 r1 u;cases t1 <;> cases t2 <;> cases t3 <;> cases t4
 all_goals
  go_wp2_with fail
  go_region
  go_wp2;refine bodyPost_ret (v:=Zu #[Zg #[Zi n,Zs I st.length J,Zs x bs.length y],Zo _]) ?hres rfl ⟨_,_,rfl,m.o,l.o,?hbel⟩
  case hbel=>rw[T];exact(((L.o.setCell (p:=Zd (sz+1) 0) (XN _) _).setCell (p:=Zd (sz+1) 1) (XN _) _).setCell (p:=Zd (sz+1) 2) (XN _) _).drew
  case hres=>simp[results,results174,go_sem,y0,y1,y2]
theorem Jl(w:Tw)(X Y Z:Obj):(((w.alloc X).alloc Y).alloc Z).heap.size=w.1.size+3/\(((w.alloc X).alloc Y).alloc Z).heap[w.1.size]? = some X/\(((w.alloc X).alloc Y).alloc Z).heap[w.1.size+1]? = some Y/\(((w.alloc X).alloc Y).alloc Z).heap[w.1.size+2]? = some Z/\Zb w (((w.alloc X).alloc Y).alloc Z):=by
 obtain⟨a,b,c,d⟩:=Kt w X Y;refine⟨by simp,?_,?_,?_,b3 w X Y Z⟩
 ·exact(WR _ _ _ (by omega)).trans b
 ·exact(WR _ _ _ (by omega)).trans c
 have:=Yac ((w.alloc X).alloc Y) Z;rwa[a] at this
theorem AG6{qz:List Aj}{id:Int}(h:pos qz id<qz.length):cM qz id=(pos qz id:Int):=by unfold cM;rw[Yae h]
theorem Ag(a:Zb w W){b o:Nat}(h:w.cell? (Zd b o)=some v):W.cell? (Zd b o)=some v:=(a.cell (p:=Zd b o) (World.block_lt_of_cell? w (Zd b o) h)).trans h
theorem Lb(cv:Tv)(I:To)(M J:Nat)(qz:List Aj)(n:Nat)(T:To)(V U:Nat)(bv:Tv)(bs:List (List UInt8))(c1:Int)(u:Tb)(v:Int)(y:Bool)(z D:Int)(G:Tb)(w:Tw)(hc:F7 7 Cc w cv qz)(O:F7 1 Mc w bv bs)(h1:1<=qz.length)(h8:qz.length<=8)(ab:bs.length=qz.length)(hp:pos qz c1<qz.length)(P:∀b∈bs,b.length<=1000000):
 Zc 175 #[Zg #[cv,Zs I M J],Zg #[Zi n,Zs T V U,bv],Zg #[Zi c1,Zt u,Zi v,Zo y,Zi z,Zi D,Zt G]] w
  λe h=>∃v',e=Zr v'/\h.ownsRow w.1.size 67 3 v' ((E.Ll (kd (qz[pos qz c1]?.getD zC)) (bs[pos qz c1]?.getD [])).getD []).length (E.AKn ((E.Ll (kd (qz[pos qz c1]?.getD zC)) (bs[pos qz c1]?.getD [])).getD []))/\Zb w h:=by
 have Y:=Aa (λW r=>U9 cv (Zs I M J) qz c1 u v y z D G W (hc.up r) h1 h8);rw[AG6 hp] at Y;generalize pos qz c1=p at *;obtain⟨g,o,q,rfl,af,ag,i⟩:=hc.cons (by omega);obtain⟨j,a,m,rfl,ae,f,d⟩:=O.cons (by omega);obtain⟨⟨k1,k2,l,k4,k5,k6,k7⟩,hk⟩:∃x,qz[p]? = some x:=⟨_,Y' hp⟩;obtain⟨bb,k⟩:∃x,bs[p]? = some x:=⟨_,Y' (by omega)⟩;obtain⟨_,_,u2,_,_,_,_⟩:=F8 i hk;have u3:=d p bb k 0 _ rfl;rw[VO,VN] at u3;rw[hk,k];simp only[XU];have ac:=P bb (XA k);have s:=Aa (λW=>E.AMz l (E.str bb) W (by rw[E.Ds];exact ac));rw[E.Eo] at s;have ek:kd (k1,k2,l,k4,k5,k6,k7)=l:=rfl;rw[ek];obtain⟨ad,hX,hY,hZ,N⟩:=Jl w (Zk #[Zs (some (Zd g o)) qz.length q,Zs I M J] 146) (Zk #[Zi n,Zs T V U,Zs (some (Zd j a)) bs.length m] 207) (Zk #[Zi c1,Zt u,Zi v,Zo y,Zi z,Zi D,Zt G] 69);have t:=Aa (Y.o _ N);have r0:=(Hg hX).1;have y2:=(J5 hY).2.2.1
 have R:Hid (∀W,Below (((w.alloc (Zk #[Zs (some (Zd g o)) qz.length q,Zs I M J] 146)).alloc (Zk #[Zi n,Zs T V U,Zs (some (Zd j a)) bs.length m] 207)).alloc (Zk #[Zi c1,Zt u,Zi v,Zo y,Zi z,Zi D,Zt G] 69)).1.size (((w.alloc (Zk #[Zs (some (Zd g o)) qz.length q,Zs I M J] 146)).alloc (Zk #[Zi n,Zs T V U,Zs (some (Zd j a)) bs.length m] 207)).alloc (Zk #[Zi c1,Zt u,Zi v,Zo y,Zi z,Zi D,Zt G] 69)) W->W.cell? (Zd w.1.size 0)=some (Zs (some (Zd g o)) qz.length q)/\W.cell? (Zd g (o+p*7+2))=some (Zi l)/\W.cell? (Zd (w.1.size+1) 2)=some (Zs (some (Zd j a)) bs.length m)/\W.cell? (Zd j (a+p))=some (Zt (E.str bb))):=Aa (λW r=>⟨Ag r r0,Ag r (Ag N u2),Ag r y2,Ag r (Ag N u3)⟩)
 have X:=Aa N;have aj:(p:Int)<(qz.length:Int):=by omega
 have ai:(p:Int)<(bs.length:Int):=by omega
 have ah:(0:Int)<=(p:Int):=by omega
 have ak:¬(p:Int)<0:=by omega
 clear hX hY hZ N r0 y2 u2 u3 i d hk k P ad Y hc O ab;generalize E.str bb=sb at *;cases hd:E.Ll l bb with
 | none=>
   rw[hd] at s;go_enter func175,ntmps175;go_wp2_with fail;apply t.o.mono;rintro e w1⟨rfl,c⟩;obtain⟨q0,q1,q2,q3⟩:=R.o w1 c;go_wp2_with fail
   go_region_held3 (λh=>h.cell? (Zd w.1.size 0)=some (Zs (some (Zd g o)) qz.length q)/\h.cell? (Zd g (o+p*7+2))=some (Zi l)/\h.cell? (Zd (w.1.size+1) 2)=some (Zs (some (Zd j a)) bs.length m)/\h.cell? (Zd j (a+p))=some (Zt sb))
    (first|(go_keep;done)|exact R.o _ (Ap c.drew f)|fail)
    (first|(go_at_call 215;refine(s.o _).mono ?_;rintro e w2⟨rfl,f⟩)|fail)
   go_wp2;go_ret;exact⟨_,rfl,XL _ _ _ _,Ap (Ap X.o c.drew) f⟩
 | some L=>
   rw[hd] at s;go_enter func175,ntmps175;go_wp2_with fail;apply t.o.mono;rintro e w1⟨rfl,c⟩;obtain⟨q0,q1,q2,q3⟩:=R.o w1 c;go_wp2_with fail
   go_region_held3 (λh=>h.cell? (Zd w.1.size 0)=some (Zs (some (Zd g o)) qz.length q)/\h.cell? (Zd g (o+p*7+2))=some (Zi l)/\h.cell? (Zd (w.1.size+1) 2)=some (Zs (some (Zd j a)) bs.length m)/\h.cell? (Zd j (a+p))=some (Zt sb))
    (first|(go_keep;done)|exact R.o _ (Ap c.drew f)|fail)
    (first|(go_at_call 215;refine(s.o _).mono ?_;rintro e w2⟨v2,rfl,aa,f⟩)|fail)
   go_wp2;go_ret;exact⟨_,rfl,E.Ai aa (Ap X.o c.drew).size,Ap (Ap X.o c.drew) f⟩
structure RI(B R:Nat)(W:World)(vs:List Value)(L:List (List V)):Prop where
 len:vs.length=L.length
 row:W.ownsRow B 71 1 (.slice (some ⟨R,0,none⟩) L.length L.length) L.length vs
 each:∀(i:Nat)v l,vs[i]? = some v->L[i]? = some l->W.ownsRow B 67 3 v l.length (E.AKn l)
 dis:∀(i j:Nat)v u,i≠j->vs[i]? = some v->vs[j]? = some u->∀q,v.ownBlock=some q->u.ownBlock≠some q
theorem RI.kept{B R:Nat}(h:RI B R W X L)(a:Zb W w):RI B R w X L :=
 ⟨h.len,E.Ad h.row a,λi v l c b=>E.Ad (h.each i v l c b) a,h.dis⟩
theorem RI.AIM{B R:Nat}(h:RI B R W X L){l:List V}(d:X[i]? = some v)(b:L[i]? = some l):W.cell? (Zd R i)=some v/\W.frozen? (Zd R i)=false/\R<W.1.size/\B<=R/\∃a c,v=Zs a l.length c:=by have f:=Ax b;refine⟨(h.row.cellAt i (by omega)).trans d,h.row.frozenAt i,(h.row.lt R rfl).2,(h.row.lt R rfl).1,?_⟩;obtain⟨a,c,e,_⟩:=E.Ak (h.each i v l d b);exact⟨a,c,e⟩
theorem RI.ne{B R:Nat}{W:Tw}{X:List Tv}{L:List (List V)}(h:RI B R W X L){i:Nat}{v:Tv}{l:List V}(o:X[i]? = some v)(n:L[i]? = some l):some R≠v.ownBlock:=by
 intro e
 rcases (h.each i v l o n).2 with⟨rfl,_⟩|⟨g,j,k,rfl,_,m,_⟩
 ·cases e
 injection e with e;subst e
 rcases h.row.2 with⟨c,_⟩|⟨p,d,f,c,_,a,_⟩
 ·cases c
 injection c with b _ _;injection b with b;injection b with b _ _;subst b;rw[m] at a;injection a with a;injection a with _ a _;exact absurd a (by decide)
theorem RI.step{B R:Nat}(h:RI B R W X L){l:List V}(t:X[i]? = some v)(D:L[i]? = some l){g:Nat}(J:w.ownsRow B 67 3 (Zs (some (Zd g 0)) (l.length+1) n) (l.length+1) (E.AKn l++E.AKn [x]))(z:W.grownBy w v.ownBlock)(p:v.ownBlock=some g\/W.1.size<=g):
 RI B R (w.setCell (Zd R i) (Zs (some (Zd g 0)) (l.length+1) n)) (X.set i (Zs (some (Zd g 0)) (l.length+1) n)) (L.set i (l++[x])):=by
 have s:=Ax D;have c:w.ownsRow B 71 1 (Zs (some (Zd R 0)) L.length L.length) L.length X:=E.ALN h.row (h.each i v l t D) (by decide) z;obtain⟨s1,s2⟩:=c.stored i (Zs (some (Zd g 0)) (l.length+1) n);have own:(Value.slice (some (Zd g 0)) (l.length+1) n).ownBlock=some g:=rfl;refine⟨by simp[h.len],by rw[VK];exact s1,λj u m b d=>?_,λj k u u' hne b a q f=>?_⟩
 ·by_cases e:j=i
  ·subst e
   rw[Yj (by rw[h.len];exact s)] at b;rw[Yj s] at d;injection b with b;injection d with d;subst b d;rw[XC,YE,E.Jk];exact E.ALN J c (by decide) s2
  rw[Yq (λx=>e x.symm)] at b d;have G:=h.each j u m b d
  have I:w.ownsRow B 67 3 u m.length (E.AKn m):=by
   refine G.kept z ?_;cases hub:u.ownBlock with
   | none=>exact .inl rfl
   | some q=>exact .inr (λx=>h.dis j i u v e b t q hub x.symm)
  exact E.ALN I c (by decide) s2
 by_cases e:j=i
 ·subst e
  rw[Yj (by rw[h.len];exact s)] at b;rw[Yq hne] at a;injection b with b;subst b;rw[own] at f;injection f with f;subst f
  rcases p with o|o
  ·exact h.dis j k v u' hne t a g o
  intro r;have y:=Ax a;obtain⟨m,d⟩:∃m,L[k]? = some m:=⟨_,Y' (by rw[<-h.len];exact y)⟩;have:=((h.each k u' m a d).lt g r).2;omega
 rw[Yq (λx=>e x.symm)] at b
 by_cases e':k=i
 ·subst e'
  rw[Yj (by rw[h.len];exact s)] at a;injection a with a;subst a;rw[own];intro r;injection r with r;subst r
  rcases p with o|o
  ·exact h.dis j k u v hne b t g f o
  obtain⟨m,d⟩:∃m,L[j]? = some m:=⟨_,Y' (by rw[<-h.len];exact Ax b)⟩;have:=((h.each j u m b d).lt g f).2;omega
 rw[Yq (λx=>e' x.symm)] at a;exact h.dis j k u u' hne b a q f
theorem AJx(a:List Tv):a.flatMap encR=a:=by
 induction a with
 | nil=>rfl
 | cons v a ih=>rw[XJ,ih];rfl
def Sc(B:Nat)(w:World)(v:Value)(qj:List (List V)):Prop:=∃a:List Value,a.length=qj.length/\w.ownsRow B 71 1 v qj.length a/\∀(j:Nat)x r,a[j]? = some x->qj[j]? = some r->w.ownsRow 0 67 3 x r.length (E.AKn r)
theorem Sc.up{B:Nat}{qj:List (List V)}(h:Sc B w v qj)(a:Zb w W):Sc B W v qj:=by obtain⟨g,b,c,d⟩:=h;exact⟨g,b,E.Ad c a,λj x r f e=>E.Ad (d j x r f e) a⟩
theorem Sc.slr{B:Nat}{qj:List (List V)}(h:Sc B w v qj):iJ w v qj:=by obtain⟨c,a,b,d⟩:=h;refine⟨c,?_,a,λj x r f e=>E.Cy (d j x r f e)⟩;rw[<-AJx c] at b;exact F7.Fz (k:=1) (enc:=encR) (λ_=>rfl) b a.symm
theorem Sc.one{B:Nat}{qj:List (List V)}(g:X.length=qj.length)(b:∀(j:Nat)x r,X[j]? = some x->qj[j]? = some r->w.ownsRow B 67 3 x r.length (E.AKn r)):∀u∈X,u.oneCell'=true:=by intro u f;obtain⟨j,d,rfl⟩:=Yk f;obtain⟨a,c,e,_⟩:=E.Ak (b j _ _ (Y' d) (Y' (by omega)));rw[e];rfl
theorem Sc.app{B:Nat}{v v':Tv}{a b:List (List V)}{Y:List Tv}(h:X.length=a.length)(l:Y.length=b.length)(k:w.ownsRow B 71 1 v a.length X)(g:∀(j:Nat)x r,X[j]? = some x->a[j]? = some r->w.ownsRow 0 67 3 x r.length (E.AKn r))(f:∀(j:Nat)x r,Y[j]? = some x->b[j]? = some r->w.ownsRow 0 67 3 x r.length (E.AKn r))(e:W.ownsRow B 71 1 v' (a.length+b.length) (X++Y))(i:w.grownBy W v.ownBlock):Sc B W v' (a++b):=by
 refine⟨X++Y,by simp[h,l],by rw[XC];exact e,λj x r d c=>?_⟩
 by_cases hj:j<a.length
 ·rw[XO (by omega)] at d
  rw[XO hj] at c;exact E.ALN (g j x r d c) k (by decide) i
 rw[XM (by omega),h] at d;rw[XM (by omega)] at c;exact E.ALN (f _ x r d c) k (by decide) i
theorem ABG(B:Nat)(w:Tw):Sc B w (Zs none 0 0) []:=⟨[],rfl,XL _ _ _ _,λj x r a=>by simp at a⟩
def Jm(a:Aj->List V)(b:List Aj)(n j i:Nat):List (List V):=(List.range n).map λm=>(b.take (if m<i then j+1 else j)).map λc=>(a c)[m]?.getD zV
theorem Ka(a:Aj->List V)(b:List Aj)(n j i:Nat):(Jm a b n j i).length=n:=by simp[Jm]
theorem kG(a:Aj->List V)(c:List Aj)(n:Nat):Jm a c n 0 0=List.replicate n []:=by rw[List.eq_replicate_iff];refine⟨Ka _ _ _ _ _,λb d=>?_⟩;simp only[Jm,X2] at d;obtain⟨m,_,rfl⟩:=d;simp
theorem mJ(a:Aj->List V)(b:List Aj)(n j:Nat):Jm a b n j n=Jm a b n (j+1) 0:=by unfold Jm;apply Yn;intro m c;rw[WJ] at c;simp[c]
theorem AA9(a:Aj->List V)(b:List Aj)(d:i<n):(Jm a b n j i)[i]? = some ((b.take j).map λc=>(a c)[i]?.getD zV):=by simp[Jm,d]
theorem pU(a:Aj->List V)(d:i<n)(b:l[j]? = some c)(f:(a c)[i]? = some x):
 (Jm a l n j i).set i (((l.take j).map λc=>(a c)[i]?.getD zV)++[x])=Jm a l n j (i+1):=by
 apply XQ;intro m
 by_cases hm:m<n
 ·by_cases e:m=i
  ·subst e
   rw[Yj (by rw[Ka];exact d)];simp only[Jm,XH,X' hm,XW,WS,if_true];rw[E.Br b];simp[f]
  rw[Yq (λy=>e y.symm)];simp only[Jm,XH,X' hm,XW];congr 2
  by_cases h:m<i
  ·rw[Yae h,Yae (by omega)]
  rw[Yad h,Yad (by omega)]
 rw[Yb (by rw[VK,Ka];omega),Yb (by rw[Ka];omega)]
theorem uC(qz:List Aj)(g:Fk)(a:List Aj):Jm (Bq qz g) a g.1 a.length 0=Lh qz g a:=by unfold Jm Lh;simp
theorem AAq{B R n:Nat}(h:W.ownsRow B 71 1 (Zs (some (Zd R 0)) n n) n (List.replicate n (Zs none 0 0))):RI B R W (List.replicate n (Zs none 0 0)) (List.replicate n []):=by
 refine⟨by simp,by rw[WX];exact h,λi v l b d=>?_,λi j v u _ b _ q hq=>?_⟩
 ·have a:v=Zs none 0 0:=YC (XA b)
  have c:l=[]:=YC (XA d);subst a c;exact XL _ _ _ _
 have a:v=Zs none 0 0:=YC (XA b);subst a;cases hq
def dM(r:Option (List (List V)))(w:World)(e:Ending)(a:World):Prop:=match r with
 | none=>e=.returned (.tuple #[.slice none 0 0,.iface 91 (Zi 2)])/\Zb w a
 | some qj=>∃v',e=.returned (.tuple #[v',.nilIface])/\Sc 0 a v' qj/\Zb w a
theorem eI:(prog.info? 71).map (λi=>(i.zero,i.size,i.bytes))=some (some (Zs none 0 0),1,24):=by kernel_rfl
theorem AFW(n:Nat):(madeCells (#[Zs none 0 0]:Array Tv) n).toList=List.replicate n (Zs none 0 0):=by
 apply XQ;intro j
 by_cases h:j<n
 ·have a:j % 1=0:=by omega
  simp[madeCells,h,a]
 simp[madeCells,h]
theorem tF{qz l:List Aj}(a:c∈l)(h:(Bq qz g c).length≠g.1):Ew qz g l=none:=by
 unfold Ew
 have:l.all (λc=>(Bq qz g c).length==g.1)=false:=by rw[List.all_eq_false];exact⟨c,a,by simpa using h⟩
 rw[this];simp
theorem mC{qz l:List Aj}(b:Gb qz g=true)(h:∀c∈l,(Bq qz g c).length=g.1):Ew qz g l=some (Lh qz g l):=by
 unfold Ew
 have:l.all (λc=>(Bq qz g c).length==g.1)=true:=by rw[XT];exact λc a=>by simpa using h c a
 rw[this,b];simp
theorem kK{qz:List Aj}{st:List S.St}{bs:List (List UInt8)}(h:pos qz c.1<qz.length):Bq qz (n,st,bs) c=(E.Ll (kd (qz[pos qz c.1]?.getD zC)) (bs[pos qz c.1]?.getD [])).getD []:=by unfold Bq;rw[Yae h]
def Apt(v:Value)(a:List Value):Prop:=∀(i:Nat)u,a[i]? = some u->∀q,u.ownBlock=some q->v.ownBlock≠some q
theorem Apt.step{u:Tv}{g H:Nat}(h:Apt v X)(l:X[i]? = some u)(c:u.ownBlock=some g\/H<=g)(m:∀q,v.ownBlock=some q->q<H):Apt v (X.set i (Zs (some (Zd g 0)) n k)):=by
 intro j x a q b
 by_cases e:j=i
 ·subst e
  rw[Yj (Ax l)] at a;injection a with a;subst a;injection b with b;subst b
  rcases c with f|f
  ·exact h j u l g f
  intro d;have:=m g d;omega
 rw[Yq (λy=>e y.symm)] at a;exact h j x a q b
theorem ACn{qz l:List Aj}{r:List (List V)}(h:Ew qz g l=some r):r.length=g.1/\g.1<=6:=by
 unfold Ew at h;split at h
 ·rename_i hw
  injection h with h;rw[XD] at hw;have a:g.1<=6:=by have:=hw.1;simp only[Gb,decide_eq_true_eq] at this;exact this.2.2.2
  exact⟨by rw[<-h];simp[Lh],a⟩
 cases h
theorem Nb{qz l:List Aj}{acc:List (List V)}{gs:List Fk}(h:Ew qz g l=none):Fb qz l acc (g :: gs)=none:=by rw[Fb,h]
theorem Nx{qz l:List Aj}{acc r:List (List V)}{gs:List Fk}(h:Ew qz g l=some r):Fb qz l acc (g :: gs)=Fb qz l (acc++r) gs:=by rw[Fb,h]
theorem Ds(b:List UInt8):(E.str b).size=b.length:=by simp[E.str,ByteArray.size]
theorem o7(b:List UInt8):Lib.strCells (E.str b)=Lib.byteCells b:=by rw[E.fU];simp[E.str]
def Du(g:Fk)(k:Nat):List UInt8:=Lib.uvarint g.1++(g.2.2.take k).flatMap Dx
theorem X5(g:Fk):Du g g.2.2.length=Bh g:=by unfold Du Bh;rw[Yg]
theorem nJ{b:List UInt8}(h:g.2.2[k]? = some b):Du g (k+1)=(Du g k++Lib.uvarint b.length)++b:=by unfold Du;rw[E.Br h];simp[Dx]
theorem Xz(m:g.1<=6)(a:∀b∈g.2.2,b.length<=1000000)(k:Nat):(Du g k).length<=10+k*1000010:=by
 unfold Du;have f:(Lib.uvarint g.1).length<=10:=Lib.uvarint_length64 (by omega)
 have h:=Mp Dx 1000010 (l:=g.2.2.take k) (λb d=>by have e:=a b (Ym d);have i:(Lib.uvarint b.length).length<=10:=Lib.uvarint_length64 (by omega);simp only[Dx,XC];omega)
 have c:(g.2.2.take k).length<=k:=by rw[XR];omega
 have j:=Yo 1000010 c;rw[XC];omega
theorem aI(B n:Nat)(N:Tv)(xs:List Tv)(g:Fk)(sa:To)(sn sc:Nat)(tv:Tv)(w0 w:Tw)(d:w.ownsRow B 5 1 N n xs)(aa:w0.1.size<=B)(ab:B<=w.1.size)(ac:Zb w0 w)(hg:F7 1 Mc w0 tv g.2.2)(hr:g.1<=6)(am:g.2.2.length<=8)(q:∀b∈g.2.2,b.length<=1000000)(hn:n<=1000000000):
 Zc 139 #[N,Zg #[Zi g.1,Zs sa sn sc,tv]] w λe r=>∃v',e=Zr v'/\r.ownsRow B 5 1 v' (n+(Bh g).length) (xs++Lib.byteCells (Bh g))/\E.Wr B w r:=by
 obtain⟨i0,hi,I,J,L⟩:=info_parts E.bX;have M:=Zy hi I J L;clear hi I J L;have HO:=Aa d;have HG:=Aa hg;have V:=Aa q;obtain⟨ta,tc,rfl,_⟩:=hg.slice
 have HA:Hid (Zc 138 #[N,.int .u64 g.1] (w.alloc (Zk #[Zi g.1,Zs sa sn sc,Zs ta g.2.2.length tc] 207)) λe r=>∃v',e=Zr v'/\r.ownsRow B 5 1 v' (n+(Du g 0).length) (xs++Lib.byteCells (Du g 0))/\E.Wr B w r/\r.1[w.1.size]? = some (Zk #[Zi g.1,Zs sa sn sc,Zs ta g.2.2.length tc] 207)):=Aa (by rw[show Du g 0=Lib.uvarint g.1 by simp[Du]];exact(E.Dq B n g.1 (by omega) N xs _ (d.alloc _) (by simp;omega) (by omega)).mono λe r⟨v',he,h2,h3⟩=>⟨v',he,h2,((E.Wr.refl B w).alloc ab _).trans h3,E.Hw h3 (Yac _ _) (by decide)⟩)
 have t:=Aa (Xz hr q);have HN:=Aa hn;clear d hg q hn;generalize f:g.2.2.length=m at *;have s:=Aa f;clear f;go_enter func139,ntmps139;go_wp2_with fail;apply HA.o.mono;rintro e w1⟨v1,rfl,o,D,a⟩;obtain⟨b0,b1,b2,_⟩:=J5 a;obtain⟨va,vc,rfl,_⟩:=E.Ak o;have U:=Aa o;have W:=Aa D;have al:=Aa a;clear o D a;go_wp2
 go_loopw [0,15] (λvb vi wr=>∃k:Nat,k<=m/\vi=Zi k/\Hid (wr.ownsRow B 5 1 vb (n+(Du g k).length) (xs++Lib.byteCells (Du g k)))/\Hid (E.Wr B w wr)) (λ_ vi _=>m-(intOf vi).toNat)
 case atStart=>exact⟨0,XG _,rfl,U,W⟩
 case round=>
  obtain⟨k,hk,rfl,ho,P⟩:=hrel;obtain⟨ca,cc,rfl,_⟩:=E.Ak ho.o;have ak:=P.o.1.size
  by_cases hlt:k<m
  ·have f:=s.o
   obtain⟨b,O⟩:∃b,g.2.2[k]? = some b:=⟨_,Y' (by omega)⟩;have ai:(E.str b).size<=1000000:=by rw[Ds];exact V.o b (XA O)
   obtain⟨tb,ah,an,et,_,_,c⟩:=(HG.o.up (ac.trans (P.o.1.mono aa))).cons (by omega);injection et with X em Y;clear em;subst X Y;have q0:wr.cell? (Zd tb (ah+k))=some (Zt (E.str b)):=by have:=c k b O 0 _ rfl;simpa using this
   have ae:(k:Int)<(m:Int):=by omega
   have af:=t.o k;have j:(Du g k).length<=9000000:=by have:k*1000010<=8*1000010:=Yo _ (by omega);omega
   have y:=HN.o;have R:=Aa (E.Dq B (n+(Du g k).length) (E.str b).size (by omega) _ _ wr ho.o (by omega) (by omega));have z:(Lib.uvarint (E.str b).size).length<=10:=Lib.uvarint_length64 (by omega);have T:Hid (Du g (k+1)=(Du g k++Lib.uvarint (E.str b).size)++b):=Aa (by rw[nJ O,Ds]);clear c af O f;have x:=Aa z;have v:=Aa y;have u:=Aa j;clear z y j;go_wp2_with fail;apply R.o.mono;rintro e w2⟨v2,rfl,p,G⟩;obtain⟨c2,d2,rfl,_⟩:=E.Ak p;have aj:=G.1.size;go_wp2_with (at_builtin;refine Lib.wpList_append_own_string _ rfl _ _ 90 9 rfl B 5 i0 underlying90 underlying9 M.o.1 M.o.2.1 M.o.2.2.1 M.o.2.2.2 _ _ _ rfl p _ rfl ?d1 ?d2 ?d3 ?_)
   case d1=>have:=x.o;have:=v.o;have:=u.o;unfold maxLen;omega
   case d2=>have:=x.o;have:=v.o;have:=u.o;omega
   case d3=>omega
   intro v3 w3 i ad _;have ag:=E.Wr.grown (P.o.trans G) p ad (by omega);obtain⟨c3,d3,rfl,_⟩:=E.Ak i
   have l:Hid (w3.ownsRow B 5 1 (Zs c3 (n+(Du g k).length+(Lib.uvarint (E.str b).size).length+(E.str b).size) d3) (n+(Du g (k+1)).length) (xs++Lib.byteCells (Du g (k+1)))):=Aa (by rw[T.o,E.Bg,E.Bg];rw[o7] at i;simpa[W3,Ds] using i)
   clear i;go_wp2;exact⟨⟨k+1,by omega,by go_num,l,Aa ag⟩,by simp[intOf];omega⟩
  have ae:¬(k:Int)<(m:Int):=by omega
  have ek:k=m:=by omega
  have l:Hid (wr.ownsRow B 5 1 (Zs ca (n+(Du g k).length) cc) (n+(Bh g).length) (xs++Lib.byteCells (Bh g))):=Aa (by have h:=ho.o;rw[show k=g.2.2.length by rw[s.o];exact ek,X5] at h ⊢;exact h)
  clear ek;go_wp2;go_ret;exact⟨_,rfl,l.o,P.o⟩
theorem Ih{c:Array Oper}{o:Oper}{Q:Exit->Act->Tw->Prop}{E:Prop}(d:o.guard=none)(f:Nat)(xs:Array Operand)(ts:Array TypeId)(p:o.op=.call { callee:=.value (.func f),args:=xs,argTypes:=ts })(args:Array Tv)(k:xs.map a.eval=args)(j:∀args w,(callFunc f args).run prog w=.ok (.enter f args) w)(R:Ending->Tw->Prop)(l:Zc f args W R)(h:∀e i,R e i->∃v,e=Zr v/\K (a.put o.dst v) i):
 if Region.wanted o (yielded c a.tmps)=true then Oper.wp prog o a W K Q else E:=by
 have q:Region.wanted o (yielded c a.tmps)=true:=by simp[Region.wanted,d]
 rw[Yae q]
 have b:(execOp a.eval o).run prog W=.ok (.enter f args) W:=by simp[execOp,p,resolve,invoke,k,j,Act.eval,Deferred.ofValue]
 unfold Oper.wp;rw[b,Oper.upon_enter];refine l.mono λe g m=>?_
 obtain⟨v,rfl,n⟩:=h e g m;exact n
theorem I6{c:Array Oper}{o:Oper}{Q:Exit->Act->Tw->Prop}{E:Prop}(b:o.guard=none)(f:Nat)(x:Operand)(t:TypeId)(j:o.op=.call { callee:=.value (.func f),args:=#[x],argTypes:=#[t] })(u:Tv)(k:a.eval x=u)(g:∀args w,(callFunc f args).run prog w=.ok (.enter f args) w)(R:Ending->Tw->Prop)(i:Zc f #[u] W R)(h:∀e d,R e d->∃v,e=Zr v/\K (a.put o.dst v) d):
 if Region.wanted o (yielded c a.tmps)=true then Oper.wp prog o a W K Q else E :=
 Ih b f #[x] #[t] j #[u] (by simp[k]) g R i h
theorem Gc{c:Array Oper}{o:Oper}{Q:Exit->Act->Tw->Prop}{E:Prop}(b:o.guard=none)(f:Nat)(x y:Operand)(t s:TypeId)(j:o.op=.call { callee:=.value (.func f),args:=#[x,y],argTypes:=#[t,s] })(u v:Tv)(k:a.eval x=u)(l:a.eval y=v)(g:∀args w,(callFunc f args).run prog w=.ok (.enter f args) w)(R:Ending->Tw->Prop)(i:Zc f #[u,v] W R)(h:∀e d,R e d->∃v,e=Zr v/\K (a.put o.dst v) d):
 if Region.wanted o (yielded c a.tmps)=true then Oper.wp prog o a W K Q else E :=
 Ih b f #[x,y] #[t,s] j #[u,v] (by simp[k,l]) g R i h
theorem AGG:(prog.info? 261).map (λi=>(i.zero,i.size,i.bytes))=some (some (.agg #[.int .i64 0,.int .i64 0,.int .i64 0,.int .i64 0,.string ⟨#[]⟩,.int .i64 0,.int .i64 0,.string ⟨#[]⟩]),8,80):=by kernel_rfl
theorem Uz:(prog.info? 9).map (λi=>(i.zero,i.size,i.bytes))=some (some (.string ⟨#[]⟩),1,16):=by kernel_rfl
theorem r9(s:S.St):∀u∈encS s,u.oneCell'=true:=by
 intro u a;simp only[encS,S.E6,VL,VE,or_false] at a
 rcases a with rfl|rfl|rfl|rfl|rfl|rfl|rfl|rfl <;> rfl
def ACb(part:List (List V))(k:Nat):List S.St:=(List.range k).map λi=>S.Iv (ALc part i)
def ACO(l:List Aj)(part:List (List V))(k:Nat):List (List UInt8):=(List.range k).map λi=>E.Hv (kd (l[i]?.getD zC)) (ALc part i)
theorem ACc(part:List (List V))(k:Nat):ACb part (k+1)=ACb part k++[S.Iv (ALc part k)]:=by simp[ACb,WG]
theorem ACu(l:List Aj)(part:List (List V))(k:Nat):ACO l part (k+1)=ACO l part k++[E.Hv (kd (l[k]?.getD zC)) (ALc part k)]:=by simp[ACO,WG]
theorem AAf{part:List (List V)}{r:List V}(a:part[j]? = some r)(b:r[k]? = some x):(ALc part k).take (j+1)=(ALc part k).take j++[x]:=by refine E.Br ?_;unfold ALc;rw[XH,a];simp[b]
theorem ABc{B e z n b:Nat}{xs:List Tv}(h:W.ownsRow B e z v n xs)(a:b<B)(x y u:Tv):(((W.setCell ⟨b,0,none⟩ x).setCell ⟨b,1,none⟩ y).setCell ⟨b,2,none⟩ u).ownsRow B e z v n xs :=
 E.Dc h a (E.Al (E.Ar _ _ _ _) (E.Al (E.Ar _ _ _ _) (E.Ar _ _ _ _)))
theorem AB7(lv rv:Tv)(l:List Aj)(part:List (List V))(w:Tw)(hl:F7 7 Cc w lv l)(hp:iJ w rv part)(h8:l.length<=8)(da:1<=part.length)(db:part.length<=6)(b3:ALo l part)(hk:Kl l):
 Zc 136 #[lv,rv] w λe w'=>∃sv bv,e=.returned (.agg #[.int .i64 part.length,sv,bv])/\w'.ownsRow w.1.size 261 8 sv l.length ((An l part).2.1.flatMap encS)/\w'.ownsRow w.1.size 9 1 bv l.length ((An l part).2.2.flatMap Mc)/\Below w.1.size w w':=by
 have HL:=Aa hl;have HP:=Aa hp;have bo:=Aa b3;have HK:=Aa hk;obtain⟨la,lc,rfl,_⟩:=hl.slice;obtain⟨ra,rc,rfl,_⟩:=hp.slice;obtain⟨iV,b1,cb,aw,az⟩:=info_parts E.Ip;have ah:=Zy b1 cb aw az;obtain⟨iS,bz,b9,au,ax⟩:=info_parts AGG;have af:=Zy bz b9 au ax;obtain⟨iT,b0,ca,av,ay⟩:=info_parts Uz;have ag:=Zy b0 ca av ay;have bt:∀args w,(callFunc 187 args).run prog w=.ok (.enter 187 args) w:=enters_of func187 (by kernel_rfl) rfl;have bj:=Aa bt;clear hl hp b3 hk b1 cb aw az bz b9 au ax b0 ca av ay bt;obtain⟨b4,hX,hY,hB⟩:=Kt w (.cells #[.int .i64 0,.slice none 0 0,.slice none 0 0] 207) (.cells #[.int .i64 part.length,.slice none 0 0,.slice none 0 0] 207);have HX:=Aa hX;have HY:=Aa hY;have HB:=Aa hB;have cf:=Aa b4;clear hX hY hB b4;go_enter func136,ntmps136;go_wp2
 go_loopw [18] (λvi wr=>∃k:Nat,k<=l.length/\vi=.int .i64 k/\(∃sv bv,Hid (wr.1[w.1.size+1]? = some (.cells #[.int .i64 part.length,sv,bv] 207))/\Hid (wr.ownsRow (w.1.size+2) 261 8 sv k ((ACb part k).flatMap encS))/\Hid (wr.ownsRow (w.1.size+2) 9 1 bv k ((ACO l part k).flatMap Mc)))/\Hid (wr.1[w.1.size]? = some (.cells #[.int .i64 0,.slice none 0 0,.slice none 0 0] 207))/\Hid (Below w.1.size w wr)/\w.1.size+2<=wr.1.size) (λvi _=>l.length-(intOf vi).toNat)
 case atStart=>exact⟨0,XG _,rfl,⟨_,_,HY,Aa (XL _ _ _ _),Aa (XL _ _ _ _)⟩,HX,HB,by have:=cf.o;omega⟩
 case round=>
  obtain⟨k,hk,rfl,⟨sv,bv,hg,ac,U⟩,ab,T,de⟩:=hrel;obtain⟨sa,sc,rfl,_⟩:=E.Ak ac.o;obtain⟨ba,bc,rfl,_⟩:=E.Ak U.o
  by_cases hlt:k<l.length
  ·obtain⟨⟨c1,c2,G,c4,c5,c6,c7⟩,hc⟩:∃c,l[k]? = some c:=⟨_,Y' hlt⟩
   obtain⟨lb,lo,dg,el,_,c9,o⟩:=(HL.o.up T.o).cons (by omega);injection el with cj _ ck;subst cj ck;obtain⟨q0,q1,q2,q3,q4,q5,q6⟩:=F8 o hc;have HC:=Aa hc;obtain⟨X,ar⟩:=Ot bo.o hlt (HK.o k hlt);have a6:kd (l[k]?.getD zC)=G:=by rw[hc];rfl
   rw[a6] at X;have al:Hid (E.Me G (ALc part k)=.tuple #[.string (E.str (E.Hv G (ALc part k))),.nilIface]):=Aa (by unfold E.Me;rw[X];simp[Gn,show part.length<=60 by omega]);have ce:Hid (ACO l part (k+1)=ACO l part k++[E.Hv G (ALc part k)]):=Aa (by rw[ACu,a6]);have am:=Aa ar;have cs:(k:Int)<(l.length:Int):=by omega
   have bh:Hid (Below wr.1.size wr (wr.alloc (.cells #[.int .i64 c1,.string c2,.int .i64 G,.bool c4,.int .i64 c5,.int .i64 c6,.string c7] 69))):=Aa (Zal);have bi:=Aa (Yac wr (.cells #[.int .i64 c1,.string c2,.int .i64 G,.bool c4,.int .i64 c5,.int .i64 c6,.string c7] 69));clear o hc X ar a6;go_wp2;clear q0 q1 q2 q3 q4 q5 q6;rename Tw=>wo
   have J:=Aa (λ(W:Tw)(hW:Below (wo.1.size+1) (wo.alloc (.cells #[.int .i64 c1,.string c2,.int .i64 G,.bool c4,.int .i64 c5,.int .i64 c6,.string c7] 69)) W)=>Ap bh.o (by change Below _ _ _;rw[XE];exact hW))
   go_loopw [8,25] (λvv vi wi=>∃j:Nat,j<=part.length/\vi=.int .i64 j/\Hid (wi.ownsRow (wo.1.size+1) 67 3 vv j (E.AKn ((ALc part k).take j)))/\Hid (Below (wo.1.size+1) (wo.alloc (.cells #[.int .i64 c1,.string c2,.int .i64 G,.bool c4,.int .i64 c5,.int .i64 c6,.string c7] 69)) wi)) (λ_ vi _=>part.length-(intOf vi).toNat)
   case atStart=>exact⟨0,XG _,rfl,Aa (XL _ _ _ _),Aa (XF _ _)⟩
   case round=>
    obtain⟨j,hj,rfl,ae,D⟩:=hrel;obtain⟨va,vc,rfl,_⟩:=E.Ak ae.o;have cv:=D.o.size;simp only[XE] at cv
    by_cases hjl:j<part.length
    ·obtain⟨r,hr⟩:∃r,part[j]? = some r:=⟨_,Y' hjl⟩
     have b:Below w.1.size w wr:=Ap T.o (J.o _ D.o);obtain⟨pb,po,pc,rv,ep,dc,cp,cn⟩:=(HP.o.up b).at hr;injection ep with cl _ cm;subst cl cm;have a8:r.length=l.length:=(bo.o r (XA hr)).1;obtain⟨xa,xc,rfl,_,b8⟩:=cn;obtain⟨xb,xo,rfl,df,t⟩:=b8 (by intro e;rw[e] at a8;simp at a8;omega);obtain⟨⟨vk,vn,vt⟩,hv⟩:∃x,r[k]? = some x:=⟨_,Y' (by omega)⟩;obtain⟨y0,y1,y2⟩:=t k _ hv;have ci:=Aa (AAf hr hv);have cr:(j:Int)<(part.length:Int):=by omega
     have c8:(k:Int)<(r.length:Int):=by omega
     clear t b8 hr hv a8 b;go_wp2_with (at_builtin;refine wpList_append_own _ rfl _ _ 71 rfl (wo.1.size+1) 67 iV (.agg #[.int .i64 0,.int .i64 0,.string ⟨#[]⟩]) 3 32 underlying71 ah.o.1 ah.o.2.1 ah.o.2.2.1 ah.o.2.2.2 rfl (by decide) _ _ _ rfl (ae.o.alloc _) ⟨wr.1.size,0,none⟩ 1 1 [.int .i64 vk,.int .i64 vn,.string vt] rfl rfl (λj u hj=>XI (Yac _ _) j u hj) (E.Hf [(vk,vn,vt)]) ?d3 ?d4 ?d5 ?_)
     case d3=>unfold maxLen;omega
     case d4=>omega
     case d5=>first|omega|(simp;omega)
     intro v2 w2 cu cq _;have co:=E.Bj (D.o.alloc (by omega) _) (ae.o.alloc _) cq (by simp;omega);go_wp2;exact⟨⟨j+1,by omega,by go_num,Aa (by rw[ci.o,E.Jk];exact cu),Aa co⟩,by simp[intOf];omega⟩
    have ej:j=part.length:=by omega
    have cr:¬(j:Int)<(part.length:Int):=by omega
    have bs:Hid (wr.ownsRow (wo.1.size+1) 67 3 (.slice va j vc) (ALc part k).length (E.AKn (ALc part k))):=Aa (by have O:=ae.o;rw[Yf (by rw[Gn];omega)] at O;rw[Gn,<-ej];exact O)
    have a5:=Aa (E.Cy bs.o);have c0:j<=6:=by omega
    have b:Below wo.1.size wo wr:=J.o _ D.o;have bu:=(D.o.block wo.1.size (WS _)).trans bi.o;have cK:wr.cell? ⟨wo.1.size,2,none⟩=some (.int .i64 G):=by simp[World.cell?,bu]
    have bl:=Aa ((b.block (w.1.size+1) (by omega)).trans hg.o);have an:=Aa ((b.block w.1.size (by omega)).trans ab.o);have bp:=Aa (E.Ad ac.o b);have bd:=Aa (E.Ad U.o b);have bb:=Aa (Ap T.o b);have bk:=Aa (E.gM G (.slice va j vc) (ALc part k) wr a5.o (by rw[Gn];omega) am.o);rw[al.o] at bk;clear ae bu hg ab ac U T D b ej bh J bi;go_wp2_with fail;apply bk.o.mono;rintro e w3⟨rfl,i⟩;have ap:=Aa (a5.o.up i);have a0:=Aa ((i.block (w.1.size+1) (by omega)).trans bl.o);have L:=Aa ((i.block w.1.size (by omega)).trans an.o);have h:=Aa (E.Ad bp.o i);have I:=Aa (E.Ad bd.o i);have aj:=Aa (Ap bb.o i);have dd:=i.size;clear bl an bp bd bb a5 cK i bs;obtain⟨⟨s1,s2,⟨k1,n1,t1⟩,⟨k2,n2,t2⟩⟩,a9⟩:∃s,S.Iv (ALc part k)=s:=⟨_,rfl⟩
    have bn:Hid (∀W,Below w3.1.size w3 W->Zc 187 #[.slice va j vc] W λe w'=>e=.returned (.agg #[.int .i64 s1,.int .i64 s2,.int .i64 k1,.int .i64 n1,.string t1,.int .i64 k2,.int .i64 n2,.string t2])/\Below W.1.size W w'):=Aa (λW hW=>by have O:=S.yU (.slice va j vc) (ALc part k) W (ap.o.up hW) (by rw[Gn];omega);rw[a9] at O;exact O)
    have ch:Hid (ACb part (k+1)=ACb part k++[(s1,s2,(k1,n1,t1),(k2,n2,t2))]):=Aa (by rw[ACc,a9]);have bx:w.1.size+1<w3.1.size:=by omega
    have a2:=Aa (λ(W:Tw)(hW:Below w3.1.size w3 W)=>J5 ((hW.block (w.1.size+1) bx).trans a0.o));obtain⟨_,g1,g2,_,z1,z2⟩:=a2.o w3 (XF _ _);clear a9 g2 z2;go_wp2_with fail
    go_region_law
     (first
       | (refine I6 (by rfl) 187 (.tmp 46) 71 (by rfl) (.slice va j vc) (by rfl) bj.o _ (bn.o _ (XF _ _).drew) ?_
          rintro e w4⟨rfl,aq⟩;have R:Below w3.1.size w3 w4:=Ap (XF _ _).drew aq;refine⟨_,rfl,?_⟩;obtain⟨_,p1,_,_,o1,_⟩:=a2.o w4 R;have cw:=Ag ((XF w4.1.size w4).alloc (XB _) (.cells #[.int .i64 s1,.int .i64 s2,.int .i64 k1,.int .i64 n1,.string t1,.int .i64 k2,.int .i64 n2,.string t2] 261)) p1;have b5:=R.size;have ct:w4.1.size≠w.1.size+1:=(λe=>by rw[e] at b5;omega))
       | (refine step_append_lies _ (by rfl) (.tmp 45) (.tmp 48) 204 (by rfl) (w.1.size+2) 261 iS (.agg #[.int .i64 0,.int .i64 0,.int .i64 0,.int .i64 0,.string ⟨#[]⟩,.int .i64 0,.int .i64 0,.string ⟨#[]⟩]) 8 80 underlying204 af.o.1 af.o.2.1 af.o.2.2.1 af.o.2.2.2 rfl (by decide) (.slice sa k sc) k _ (by rfl) ((E.Ad h.o R).alloc _) ⟨w4.1.size,0,none⟩ 1 1 [.int .i64 s1,.int .i64 s2,.int .i64 k1,.int .i64 n1,.string t1,.int .i64 k2,.int .i64 n2,.string t2] (by rfl) rfl (λj u hj=>XI (Yac _ _) j u hj) (r9 (s1,s2,(k1,n1,t1),(k2,n2,t2))) (by omega) (by unfold maxLen;omega) (by omega) (by simp;omega) _ rfl ?_
          intro g N w5 a7 d bw b2;have y:Hid (some (w.1.size+1)≠(Value.slice sa k sc).ownBlock):=Aa (λe=>by have:=(h.o.lt _ e.symm).1;omega);have r1:=(d.cell_far ⟨w.1.size+1,1,none⟩ (by simp;omega) y.o).trans (Ag (Zal) p1);have r2:=(d.frozen_far ⟨w.1.size+1,1,none⟩ (by simp;omega) y.o).trans (((XF w4.1.size w4).alloc (XB _) (.cells #[.int .i64 s1,.int .i64 s2,.int .i64 k1,.int .i64 n1,.string t1,.int .i64 k2,.int .i64 n2,.string t2] 261)).frozen (p:=⟨w.1.size+1,1,none⟩) (by show w.1.size+1<_;omega) |>.trans o1))
       | fail)
    all_goals
     have a:Below w3.1.size w3 (w4.alloc (.cells #[.int .i64 s1,.int .i64 s2,.int .i64 k1,.int .i64 n1,.string t1,.int .i64 k2,.int .i64 n2,.string t2] 261)):=Ap R (Zal);have M:=Aa (E.Ad h.o a);have ak:=Aa (E.Ad I.o a);have ad:w.1.size+2<(w4.alloc (.cells #[.int .i64 s1,.int .i64 s2,.int .i64 k1,.int .i64 n1,.string t1,.int .i64 k2,.int .i64 n2,.string t2] 261)).1.size:=by simp;omega
     have z:=(d.block (w.1.size+1) (by omega) y.o).trans ((a.block (w.1.size+1) bx).trans a0.o);have P:=(d.block w.1.size (by omega) (λe=>by have:=(h.o.lt _ e.symm).1;omega)).trans ((a.block w.1.size (by omega)).trans L.o);have Y:=E.Ar w5 (w.1.size+1) 1 (.slice (some ⟨g,0,none⟩) (k+1) N);have a1:=Aa (heap_setCell_same w5 (w.1.size+1) 1 _ 207 (.slice (some ⟨g,0,none⟩) (k+1) N) z);have a3:=Aa ((Y.block w.1.size (by have:=d.size;omega) (by simp)).trans P);have ao:=Aa (a7.kept Y (.inr (λe=>by have:=(a7.lt _ e).1;omega)))
     have f:=Aa ((E.ALN ak.o M.o (by decide) d).kept Y (by
      cases hob:(Value.slice ba k bc).ownBlock with
      | none=>exact .inl rfl
      | some q=>exact .inr (λe=>by injection e with e;have:=(I.o.lt q hob).1;omega)))
     have cc:=Aa ((E.Bj (Ap aj.o a) (E.Ai M.o (X6 _ 2)) d (by omega)).setCell (p:=⟨w.1.size+1,1,none⟩) (XN _) (.slice (some ⟨g,0,none⟩) (k+1) N));have cy:w.1.size+2<(w5.setCell ⟨w.1.size+1,1,none⟩ (.slice (some ⟨g,0,none⟩) (k+1) N)).1.size:=by have:=d.size;have:=Y.size;omega
     clear z P Y M ak a ad r1 r2 a7 d bw b2 p1 cw o1 R aq b5 ct y;generalize w5.setCell ⟨w.1.size+1,1,none⟩ (.slice (some ⟨g,0,none⟩) (k+1) N)=w6 at *;simp only[WK,W8,Vv] at a1;obtain⟨_,_,cz,_,_,dh⟩:=J5 a1.o;generalize b6:E.str (E.Hv G (ALc part k))=sb at *;have cg:=Aa b6;clear b6 bn a2 a0 L h I aj ap g1 z1 al am;have cx:¬w.1.size+1=w6.1.size:=by omega
     go_wp2_with (at_builtin;refine wpList_append_own _ rfl _ _ 205 rfl (w.1.size+2) 9 iT (.string ⟨#[]⟩) 1 16 underlying205 ag.o.1 ag.o.2.1 ag.o.2.2.1 ag.o.2.2.2 rfl (by decide) _ _ _ rfl (f.o.alloc _) ⟨w6.1.size,0,none⟩ 1 1 [.string sb] rfl rfl (λj u hj=>XI (Yac _ _) j u hj) (by simp[Value.oneCell']) ?d3 ?d4 ?d5 ?_)
     case d3=>unfold maxLen;omega
     case d4=>omega
     case d5=>first|omega|(simp;omega)
     intro v7 w7 ai m _;obtain⟨g7,n,rfl,_,_⟩:=ai.form (by omega);have a:Below w6.1.size w6 (w6.alloc (.cells #[.string sb] 9)):=Zal;have ad:w.1.size+2<(w6.alloc (.cells #[.string sb] 9)).1.size:=by simp;omega
     have y:Hid (some (w.1.size+1)≠(Value.slice ba k bc).ownBlock):=Aa (λe=>by have:=(f.o.lt _ e.symm).1;omega);have z:=(m.block (w.1.size+1) (by omega) y.o).trans ((a.block (w.1.size+1) (by omega)).trans a1.o);have P:=(m.block w.1.size (by omega) (λe=>by have:=(f.o.lt _ e.symm).1;omega)).trans ((a.block w.1.size (by omega)).trans a3.o);obtain⟨_,_,p2,_,_,o2⟩:=J5 z;have aa:=E.Ar w7 (w.1.size+1) 2 (.slice (some ⟨g7,0,none⟩) (k+1) n);have bm:=Aa (heap_setCell_same w7 (w.1.size+1) 2 _ 207 (.slice (some ⟨g7,0,none⟩) (k+1) n) z);simp only[WK,W8,Vv] at bm;have a4:=Aa ((aa.block w.1.size (by have:=m.size;omega) (by simp)).trans P);have bf:=Aa (ai.kept aa (.inr (λe=>by have:=(ai.lt _ e).1;omega)));have bq:=Aa ((E.ALN (E.Ad ao.o a) (f.o.alloc (.cells #[.string sb] 9)) (by decide) m).kept aa (.inr (λe=>by have:=(ao.o.lt _ e).1;omega)));have cd:=Aa ((E.Bj (Ap cc.o a) (E.Ai (f.o.alloc (.cells #[.string sb] 9)) (X6 _ 2)) m (by omega)).setCell (p:=⟨w.1.size+1,2,none⟩) (XN _) (.slice (some ⟨g7,0,none⟩) (k+1) n));have b7:w.1.size+2<=(w7.setCell ⟨w.1.size+1,2,none⟩ (.slice (some ⟨g7,0,none⟩) (k+1) n)).1.size:=by have:=m.size;have:=aa.size;omega
     clear z P aa m ai a ad;go_wp2;refine⟨⟨k+1,by omega,by go_num,⟨_,_,bm,Aa ?_,Aa ?_⟩,a4,cd,b7⟩,by simp[intOf];omega⟩
     ·rw[ch.o,XS];exact bq.o
     rw[ce.o,XS];have e:[E.Hv G (ALc part k)].flatMap Mc=[.string sb]:=by rw[<-cg.o];rfl
     rw[e];exact bf.o
  have ek:k=l.length:=by omega
  have cs:¬(k:Int)<(l.length:Int):=by omega
  obtain⟨g0,g1,g2,_,_,_⟩:=J5 hg.o;obtain⟨y0,y1,y2,z0,z1,z2⟩:=J5 ab.o;have br:Hid (wr.ownsRow (w.1.size+2) 261 8 (.slice sa k sc) l.length ((An l part).2.1.flatMap encS)):=Aa (by have O:=ac.o;rw[ek] at O ⊢;exact O);have bg:Hid (wr.ownsRow (w.1.size+2) 9 1 (.slice ba k bc) l.length ((An l part).2.2.flatMap Mc)):=Aa (by have O:=U.o;rw[ek] at O ⊢;exact O);clear ek ac U;go_wp2;refine bodyPost_ret (v:=.agg #[.int .i64 part.length,.slice sa k sc,.slice ba k bc]) (by simp[results,results136,go_sem,y0,y1,y2]) rfl ⟨_,_,rfl,?_,?_,?_⟩
  ·exact E.Ai (ABc br.o (by omega) _ _ _) (X6 _ 2)
  ·exact E.Ai (ABc bg.o (by omega) _ _ _) (X6 _ 2)
  exact((T.o.setCell (p:=⟨w.1.size,0,none⟩) (XB _) _).setCell (p:=⟨w.1.size,1,none⟩) (XB _) _).setCell (p:=⟨w.1.size,2,none⟩) (XB _) _
theorem ADE(h:i<8):(⟨#[99]⟩++⟨(Lib.decDigits i).toArray⟩:Tb)=I3 i:=by rw[Lib.decDigits,dif_pos (by omega)];rfl
theorem yR(h:l[k]? = some c):((A7 l).take (k+1)).flatMap Cc=((A7 l).take k).flatMap Cc++[Zi c.1,Zt (I3 k),Zi c.2.2.1,Zo false,Zi 0,Zi 0,Zt ⟨#[]⟩]:=by rw[E.Br (M3 h),XS];rfl
theorem ADI(lv:Tv)(l:List Aj)(w:Tw)(hl:F7 7 Cc w lv l)(h8:l.length<=8):
 Zc 188 #[lv] w λe V=>∃v',e=Zr v'/\V.ownsRow w.1.size 69 7 v' l.length ((A7 l).flatMap Cc)/\Zb w V:=by
 have HL:=Aa hl;obtain⟨la,lc,rfl,_⟩:=hl.slice;clear hl;obtain⟨iC,R,U,n,o⟩:=info_parts Kh;have b:=Zy R U n o;clear R U n o;go_enter func188,ntmps188;go_wp2
 go_loopw [3,8] (λvp vi wr=>∃k:Nat,k<=l.length/\vi=Zi k/\Hid (wr.ownsRow w.1.size 69 7 vp k (((A7 l).take k).flatMap Cc))/\Hid (Zb w wr)) (λ_ vi _=>l.length-(intOf vi).toNat)
 case atStart=>exact⟨0,XG _,rfl,Aa (XL _ _ _ _),Aa (XF _ _)⟩
 case round=>
  obtain⟨k,hk,rfl,X,g⟩:=hrel;obtain⟨pa,Y,rfl,_⟩:=E.Ak X.o;have T:=g.o.size
  by_cases hlt:k<l.length
  ·obtain⟨⟨c1,G,f,I,J,L,M⟩,hc⟩:∃c,l[k]? = some c:=⟨_,Y' hlt⟩
   obtain⟨lb,lo,al,el,_,ak,a⟩:=(HL.o.up g.o).cons (by omega);injection el with ae _ af;subst ae af;obtain⟨q0,q1,q2,q3,q4,q5,q6⟩:=F8 a hc;have ab:=Aa (yR hc);have ai:(k:Int)<(l.length:Int):=by omega
   have s:=Aa (ADE (i:=k) (by omega));have v:=Aa (λW=>Any.strconv_Itoa_small laysM171.ton171 k (by omega) W);obtain⟨d,hd⟩:∃d,(⟨(Lib.decDigits k).toArray⟩:Tb)=d:=⟨_,rfl⟩;rw[hd] at s v;have ah:d.size=1:=by rw[<-hd,Lib.decDigits,dif_pos (by omega)];rfl
   clear hd;have aj:k<8:=by omega
   clear a hc;go_wp2_with fail;clear q0 q1 q2 q3 q4 q5 q6;have x:=Aa (Yac wr (Zk #[Zi c1,Zt G,Zi f,Zo I,Zi J,Zi L,Zt M] 69));have O:=(X.o.alloc (Zk #[Zi c1,Zt G,Zi f,Zo I,Zi J,Zi L,Zt M] 69));have N:Zb w (wr.alloc (Zk #[Zi c1,Zt G,Zi f,Zo I,Zi J,Zi L,Zt M] 69)):=g.o.alloc T _;have P:(wr.alloc (Zk #[Zi c1,Zt G,Zi f,Zo I,Zi J,Zi L,Zt M] 69)).1.size=wr.1.size+1:=XE _ _;generalize wr.alloc (Zk #[Zi c1,Zt G,Zi f,Zo I,Zi J,Zi L,Zt M] 69)=r at *;have q0:r.cell? (Zd wr.1.size 0)=some (Zi c1):=by simp[World.cell?,x.o]
   have q2:r.cell? (Zd wr.1.size 2)=some (Zi f):=by simp[World.cell?,x.o]
   have z:=Aa P;have y:=Aa O;have q:=Aa N;have t:Hid (∀j,(Value.slice pa k Y).ownBlock=some j->j<wr.1.size):=Aa (λj hj=>(X.o.lt j hj).2)
   have aa:Hid (∀W D,Below (wr.1.size+1) r W->W.grownBy D (Value.slice pa k Y).ownBlock->D.cell? (Zd wr.1.size 0)=some (Zi c1)/\D.cell? (Zd wr.1.size 2)=some (Zi f)):=Aa (λW D hW hg=>by
    have hs:=hW.size;have far:∀i,D.cell? (Zd wr.1.size i)=r.cell? (Zd wr.1.size i):=λi=>(hg.cell_far (Zd wr.1.size i) (by show wr.1.size<_;omega) (λe=>by have:=t.o _ e.symm;exact absurd this (YX _))).trans (hW.cell (p:=Zd wr.1.size i) (WS _))
    exact⟨(far 0).trans q0,(far 2).trans q2⟩)
   clear O N P
   go_region_held3 (λV=>V.cell? (Zd wr.1.size 0)=some (Zi c1)/\V.cell? (Zd wr.1.size 2)=some (Zi f))
    (first
      | (go_keep;done)
      | exact m
      | fail)
    (first
      | (go_at_call 79;refine(v.o _).mono ?_;rintro e w3⟨rfl,rfl⟩)
      | (refine step_append_lies _ (by rfl) (.tmp 13) (.tmp 22) 32 (by rfl) w.1.size 69 iC L6 7 72 underlying32 b.o.1 b.o.2.1 b.o.2.2.1 b.o.2.2.2 rfl (by decide) (.slice pa k Y) k (((A7 l).take k).flatMap Cc) (by rfl) (y.o.drew.alloc _) (Zd r.1.size 0) 1 1 [Zi c1,.string (⟨#[99]⟩++d),Zi f,.bool false,Zi 0,Zi 0,.string ⟨#[]⟩] (by rfl) rfl (λj u hj=>XI (Yac _ _) j u hj) (by simp[Value.oneCell']) (by omega) (by unfold maxLen;omega) (by omega) (by have:=z.o;simp;omega) _ rfl ?_;intro g4 cap4 w4 ho4 hg4 _ _;have m:=aa.o _ _ (((XF _ r).drew).alloc (by have:=z.o;simp;omega) _) hg4;clear ah)
      | fail)
   have ag:=E.Bj (q.o.drew.alloc (by have:=q.o.size;simp;omega) _) (y.o.drew.alloc _) hg4 (by have:=q.o.size;simp;omega);have ad:Hid (w4.ownsRow w.1.size 69 7 (Zs (some (Zd g4 0)) (k+1) cap4) (k+1) (((A7 l).take (k+1)).flatMap Cc)):=Aa (by rw[ab.o,<-s.o];exact ho4);clear ho4 hg4 m;go_wp2;exact⟨⟨k+1,by omega,by go_num,ad,Aa ag⟩,by simp[intOf];omega⟩
  have ai:¬(k:Int)<(l.length:Int):=by omega
  have ac:Hid (wr.ownsRow w.1.size 69 7 (Zs pa k Y) l.length ((A7 l).flatMap Cc)):=Aa (by
   have h:=X.o;have ek:k=l.length:=by omega
   rw[Yf (by rw[Cx];omega)] at h;rw[<-ek];exact h)
  go_wp2;go_ret;exact⟨_,rfl,ac.o,g.o⟩
def AEe(x y:V):Bool:=x.1==y.1 && (x.2.1==y.2.1 && x.2.2.toList==y.2.2.toList)
def eqS(x y:S.St):Bool:=x.1==y.1 && (x.2.1==y.2.1 && (AEe x.2.2.1 y.2.2.1 && AEe x.2.2.2 y.2.2.2))
theorem AK2:NeqAt prog 261 (λx:S.St=>Zg (encS x).toArray) eqS:=by
 refine⟨λx y w=>?_,GuardAt.agg _ (by kernel_rfl)⟩;obtain⟨f,g,⟨h,i,j⟩,⟨k,l,m⟩⟩:=x;obtain⟨n,o,⟨p,q,r⟩,⟨s,t,u⟩⟩:=y;have c:prog.underlying 261=some (.struct (prog.fieldsOf 261)):=by kernel_rfl
 have d:prog.stoodInHeld 261=false:=by kernel_rfl
 have a:prog.underlying 67=some (.struct (prog.fieldsOf 67)):=by kernel_rfl
 have b:prog.stoodInHeld 67=false:=by kernel_rfl
 have I:=underlying2;have z:=isAgg2;have M:=sizeOf2;have J:=underlying3;have D:=isAgg3;have N:=sizeOf3;have L:=underlying9;have G:=isAgg9;have O:=sizeOf9;have e:=isAgg67;have v:=sizeOf67;simp only[encS,S.E6,eqS,AEe];rw[run_neq_struct,show (10000:Nat)=9999+1 from rfl,run_equalIn_agg w 9999 261 _ _ c d];simp only[Program.fieldsOf,underlying261];clear c d a b;go_simp
 by_cases h1:f=n
 case neg=>rw[Yad h1];simp[h1]
 rw[Yae h1]
 by_cases h2:g=o
 case neg=>rw[Yad h2];simp[h2]
 rw[Yae h2]
 by_cases h3:h=p
 case neg=>rw[Yad h3];simp[h3]
 rw[Yae h3]
 by_cases h4:i=q
 case neg=>rw[Yad h4];simp[h4]
 rw[Yae h4]
 by_cases h5:j.toList=r.toList
 case neg=>rw[Yad h5];simp[h5]
 rw[Yae h5]
 by_cases h6:k=s
 case neg=>rw[Yad h6];simp[h6]
 rw[Yae h6]
 by_cases h7:l=t
 case neg=>rw[Yad h7];simp[h7]
 rw[Yae h7]
 by_cases h8:m.toList=u.toList
 case neg=>rw[Yad h8];simp[h8]
 rw[Yae h8];simp[h1,h2,h3,h4,h5,h6,h7,h8]
theorem AEb(x y:V):AEe x y=true↔x=y:=by
 obtain⟨a,b,c⟩:=x;obtain⟨d,e,f⟩:=y;simp only[AEe,XD,beq_iff_eq,Prod.mk.injEq];constructor
 ·rintro⟨h,i,g⟩;exact⟨h,i,by rw[ByteArray.toList_eq,ByteArray.toList_eq] at g;exact ByteArray.ext (Array.toList_inj.1 g)⟩
 rintro⟨h,i,g⟩;exact⟨h,i,by rw[g]⟩
theorem AHA(x y:S.St):eqS x y=true↔x=y:=by obtain⟨a,b,c,d⟩:=x;obtain⟨e,f,g,h⟩:=y;simp only[eqS,XD,beq_iff_eq,Prod.mk.injEq,AEb]
theorem P5{α:Type}{eq:α->α->Bool}(h:∀x y,eq x y=true↔x=y):∀l m:List α,Lib.allEq eq l m=true↔l=m
 | [],[]=>by simp[Lib.allEq]
 | [],_ :: _=>by simp[Lib.allEq]
 | _ :: _,[]=>by simp[Lib.allEq]
 | x :: l,y :: m=>by simp only[Lib.allEq,XD,P5 h l m,List.cons.injEq,h x y]
theorem F7.flat{α:Type}[Inhabited α]{enc:α->List Tv}{b off n c:Nat}{l:List α}(h:F7 k enc w (Zs (some (Zd b off)) n c) l)(p:0<l.length):∀j,j<l.length->∀i v,(enc l[j]!)[i]? = some v->w.cell? (Zd b (off+j*k+i))=some v:=by obtain⟨q,g,r,e,_,_,o⟩:=h.cons p;injection e with a _ _;injection a with a;injection a with a m _;subst a m;intro j d i v f;rw[getElem!_pos l j d] at f;exact o j _ (Y' d) i v f
theorem AAR(f g:Tv)(l m:List S.St)(w:Tw)(a:F7 8 encS w f l)(b:F7 8 encS w g m)(c:0<l.length)(d:0<m.length)(n:l.length<=1000)(o:m.length<=1000):
 Zc 230 #[f,g] w λe h=>e=Zr (Zo (Lib.allEq eqS l m))/\Zb w h:=by
 obtain⟨i,p,c1,rfl,_,_,_⟩:=a.cons c;obtain⟨j,r,k,rfl,_,_,_⟩:=b.cons d;refine(AnyQ.slices_Equal layEqS 8 isAgg261 sizeOf261 encS rG eqS AK2 i p l.length c1 j r m.length k l m w (XB _) (XB _) (by omega) (by omega) (a.flat c) (b.flat d)).mono ?_;rintro e h⟨rfl,q,rfl⟩;exact⟨by rw[Yg,Yg],⟨rfl,rfl,rfl,XB _,λ_ _=>rfl⟩⟩
def eqT(x y:List UInt8):Bool:=x==y
theorem AG5(x y:List UInt8):eqT x y=true↔x=y:=by simp[eqT]
theorem AKu:NeqAt prog 9 (λb:List UInt8=>Zt (E.str b)) eqT:=by refine⟨λx y w=>?_,λop a b x y w=>(NeqAt.string prog 9).2 op a b (E.str x) (E.str y) w⟩;rw[(NeqAt.string prog 9).1 (E.str x) (E.str y) w];simp[eqT,E.str,ByteArray.toList_eq]
theorem xE(g h:Tv)(l m:List (List UInt8))(w:Tw)(a:F7 1 Mc w g l)(c:F7 1 Mc w h m)(d:0<l.length)(f:0<m.length)(p:l.length<=1000)(r:m.length<=1000):
 Zc 231 #[g,h] w λe i=>e=Zr (Zo (Lib.allEq eqT l m))/\Zb w i:=by
 obtain⟨k,s,c1,rfl,_,_,_⟩:=a.cons d;obtain⟨n,t,o,rfl,_,_,_⟩:=c.cons f;refine(AnyE.slices_Equal layEqT (λb:List UInt8=>Zt (E.str b)) eqT AKu k s l.length c1 n t m.length o l m w (XB _) (XB _) (by omega) (by omega) (λj hj=>by have:=a.flat d j hj 0 _ rfl;simpa using this) (λj hj=>by have:=c.flat f j hj 0 _ rfl;simpa using this)).mono ?_;rintro e i⟨rfl,q,rfl⟩;exact⟨by rw[Yg,Yg],⟨rfl,rfl,rfl,XB _,λ_ _=>rfl⟩⟩
def J7(a b:Fk):Bool:=decide ((a.1:Int)=b.1) && (Lib.allEq eqS a.2.1 b.2.1 && Lib.allEq eqT a.2.2 b.2.2)
theorem ABk(a b:Fk):J7 a b=true↔a=b:=by
 obtain⟨n,s,t⟩:=a;obtain⟨m,u,v⟩:=b;simp only[J7,XD,decide_eq_true_eq,P5 AHA,P5 AG5,Prod.mk.injEq];constructor
 ·rintro⟨e,c,d⟩;exact⟨by omega,c,d⟩
 rintro⟨e,c,d⟩;exact⟨by omega,c,d⟩
theorem AGI(x y:Int×Tv×Tv)(a b:Fk)(w:Tw)(hx:Xr w x a)(hy:Xr w y b)(O:0<a.2.1.length)(P:0<a.2.2.length)(R:0<b.2.1.length)(T:0<b.2.2.length)(U:a.2.1.length<=1000)(V:a.2.2.length<=1000)(X:b.2.1.length<=1000)(Y:b.2.2.length<=1000):
 Zc 190 #[Zg #[Zi x.1,x.2.1,x.2.2],Zg #[Zi y.1,y.2.1,y.2.2]] w λe w'=>e=Zr (Zo (J7 a b))/\Zb w w':=by
 obtain⟨x1,xs,xt⟩:=x;obtain⟨y1,ys,yt⟩:=y;obtain⟨M,f,g⟩:=hx;obtain⟨N,h,i⟩:=hy;dsimp only at M f g N h i;subst M N;have HS:=Aa (λW(j:Zb w W)=>AAR xs ys a.2.1 b.2.1 W (f.up j) (h.up j) O R U X);have HT:=Aa (λW(j:Zb w W)=>xE xt yt a.2.2 b.2.2 W (g.up j) (i.up j) P T V Y);obtain⟨u,v,rfl,_⟩:=f.slice;obtain⟨z,D,rfl,_⟩:=h.slice;obtain⟨q,r,rfl,_⟩:=g.slice;obtain⟨s,t,rfl,_⟩:=i.slice;clear f h g i O P R T U V X Y;obtain⟨l,m,n,L⟩:=Kt w (Zk #[Zi a.1,Zs u a.2.1.length v,Zs q a.2.2.length r] 207) (Zk #[Zi b.1,Zs z b.2.1.length D,Zs s b.2.2.length t] 207)
 have HK:Hid (∀W,Below (w.1.size+2) ((w.alloc (Zk #[Zi a.1,Zs u a.2.1.length v,Zs q a.2.2.length r] 207)).alloc (Zk #[Zi b.1,Zs z b.2.1.length D,Zs s b.2.2.length t] 207)) W->W.1[w.1.size]? = some (Zk #[Zi a.1,Zs u a.2.1.length v,Zs q a.2.2.length r] 207)/\W.1[w.1.size+1]? = some (Zk #[Zi b.1,Zs z b.2.1.length D,Zs s b.2.2.length t] 207)/\Zb w W):=Aa (λW j=>by
  have k:Below ((w.alloc (Zk #[Zi a.1,Zs u a.2.1.length v,Zs q a.2.2.length r] 207)).alloc (Zk #[Zi b.1,Zs z b.2.1.length D,Zs s b.2.2.length t] 207)).1.size ((w.alloc (Zk #[Zi a.1,Zs u a.2.1.length v,Zs q a.2.2.length r] 207)).alloc (Zk #[Zi b.1,Zs z b.2.1.length D,Zs s b.2.2.length t] 207)) W:=by rw[l];exact j
  exact⟨(k.block w.1.size (by omega)).trans m,(k.block (w.1.size+1) (by omega)).trans n,Ap L k⟩)
 have J:=Aa l;have I:=Aa L;obtain⟨p0,p1,p2,_⟩:=J5 m;obtain⟨r0,r1,r2,_⟩:=J5 n;clear m n L l;have d:Hid (J7 a b=(decide ((a.1:Int)=b.1) && (Lib.allEq eqS a.2.1 b.2.1 && Lib.allEq eqT a.2.2 b.2.2))):=Aa rfl;generalize (a.1:Int)=n1 at *;generalize (b.1:Int)=n2 at *
 by_cases e1:n1=n2
 ·subst e1
  have G:Hid (J7 a b=(Lib.allEq eqS a.2.1 b.2.1 && Lib.allEq eqT a.2.2 b.2.2)):=Aa (by rw[d.o];simp);clear d;generalize Lib.allEq eqS a.2.1 b.2.1=q1 at *;generalize Lib.allEq eqT a.2.2 b.2.2=q2 at *;go_enter func190,ntmps190;go_wp2_with fail;refine(HS.o _ (by first|exact I.o|exact I.o.drew)).mono ?_;rintro e w1⟨rfl,o⟩;obtain⟨m,n,c⟩:=HK.o w1 (by have:=J.o;first|(rw[<-this];exact o)|(rw[<-this];exact Ap (XF _ _).drew o));obtain⟨p0,p1,p2,_⟩:=J5 m;obtain⟨r0,r1,r2,_⟩:=J5 n;cases q1 with
  | false=>go_wp2;go_ret;rw[G.o];exact⟨rfl,c⟩
  | true=>go_wp2_with fail;refine(HT.o _ (by first|exact c|exact c.drew)).mono ?_;rintro e w2⟨rfl,p⟩;go_wp2;go_ret;rw[G.o];exact⟨rfl,by first|exact Ap c p|exact Ap c.drew p⟩
 have G:Hid (J7 a b=false):=Aa (by rw[d.o,decide_eq_false e1];rfl);clear d;go_enter func190,ntmps190;go_wp2;go_ret;rw[G.o];exact⟨rfl,I.o⟩
theorem vL.get{gs:List Fk}(h:vL w v gs)(q:gs[k]? = some g):∃b off c d e f i,v=Zs (some (Zd b off)) gs.length c/\b<w.1.size/\w.cell? (Zd b (off+k*3))=some (Zi g.1)/\w.cell? (Zd b (off+k*3+1))=some (Zs d g.2.1.length e)/\w.cell? (Zd b (off+k*3+2))=some (Zs f g.2.2.length i)/\Xr w (g.1,Zs d g.2.1.length e,Zs f g.2.2.length i) g:=by obtain⟨xs,s,hlen,t⟩:=h;have u:=Ax q;obtain⟨x,a⟩:∃x,xs[k]? = some x:=⟨_,Y' (by omega)⟩;have p:=t k x g a q;obtain⟨b,off,c,rfl,_,r,l⟩:=s.cons (by omega);obtain⟨y,xs',z⟩:=x;have j:=p;obtain⟨m,n,o⟩:=p;dsimp only at m n o;subst m;obtain⟨d,e,rfl,_⟩:=n.slice;obtain⟨f,i,rfl,_⟩:=o.slice;exact⟨b,off,c,d,e,f,i,by rw[hlen],r,l k _ a 0 _ rfl,l k _ a 1 _ rfl,l k _ a 2 _ rfl,j⟩
theorem yD{α:Type}{eq:α->α->Bool}{l m:List α}{x y:α}(a:l[k]? = some x)(b:m[k]? = some y):Lib.allEq eq (l.drop k) (m.drop k)=(eq x y && Lib.allEq eq (l.drop (k+1)) (m.drop (k+1))):=by
 have c:l.drop k=x :: l.drop (k+1):=by rw[Yl (Ax a)];rw[Y' (Ax a)] at a;injection a with a;rw[a]
 have d:m.drop k=y :: m.drop (k+1):=by rw[Yl (Ax b)];rw[Y' (Ax b)] at b;injection b with b;rw[b]
 rw[c,d,Lib.allEq]
theorem allEq_len{α:Type}{eq:α->α->Bool}:∀{l m:List α},l.length≠m.length->Lib.allEq eq l m=false
 | [],[],h=>absurd rfl h
 | [],_ :: _,_=>rfl
 | _ :: _,[],_=>rfl
 | x :: l,y :: m,h=>by
   have a:l.length≠m.length:=by intro e;exact h (by simp[e])
   rw[Lib.allEq,allEq_len a,W0]
def AEE(g:Fk):Prop:=0<g.2.1.length/\0<g.2.2.length/\g.2.1.length<=1000/\g.2.2.length<=1000
theorem zR(v1 v2:Tv)(l m:List Fk)(w:Tw)(h1:vL w v1 l)(h2:vL w v2 m)(hl:l.length<=1000)(_hm:m.length<=1000)(t:∀g∈l,AEE g)(u:∀g∈m,AEE g):
 Zc 189 #[v1,v2,.func (.func 190) #[] #[]] w λe M=>e=Zr (Zo (Lib.allEq J7 l m))/\Zb w M:=by
 have H1:=Aa h1;have H2:=Aa h2;have P:=Aa t;have R:=Aa u;obtain⟨a1,c1,rfl,_⟩:=h1.slice;obtain⟨a2,c2,rfl,_⟩:=h2.slice;clear h1 h2 t u
 by_cases hn:l.length=m.length
 ·have HN:=Aa hn
  generalize hq:m.length=n at *;have HQ:=Aa hq;clear hq;rw[hn] at H1 hl ⊢;clear hn;go_enter func189,ntmps189;go_wp2
  go_loopw [17] (λvi wr=>∃k:Nat,k<=n/\vi=Zi k/\Hid (Lib.allEq J7 l m=Lib.allEq J7 (l.drop k) (m.drop k))/\Hid (Zb w wr)) (λvi _=>n-(intOf vi).toNat)
  case atStart=>exact⟨0,XG _,rfl,Aa rfl,Aa (XF _ _)⟩
  case round=>
   obtain⟨k,hk,rfl,o,f⟩:=hrel
   by_cases hlt:k<n
   ·obtain⟨a,h⟩:∃g,l[k]? = some g:=⟨_,Y' (by have:=HN.o;omega)⟩
    obtain⟨b,i⟩:∃g,m[k]? = some g:=⟨_,Y' (by have:=HQ.o;omega)⟩;obtain⟨b1,o1,d1,v,x,y,z,e1,ac,p0,p1,p2,hA⟩:=(H1.o.up f.o).get h;obtain⟨b2,o2,d2,G,I,J,L,e2,ad,r0,r1,r2,j⟩:=(H2.o.up f.o).get i;injection e1 with e11 U V;injection e2 with W X Y;clear U X;subst e11 V W Y;have c:=Aa (And.intro hA (And.intro j (And.intro (P.o a (XA h)) (R.o b (XA i)))));have p:Hid (Lib.allEq J7 l m=(J7 a b && Lib.allEq J7 (l.drop (k+1)) (m.drop (k+1)))):=Aa (by rw[o.o,yD h i]);have aa:(k:Int)<(n:Int):=by omega
    have d:Zb wr (wr.alloc (Zk #[Zi a.1,Zs v a.2.1.length x,Zs y a.2.2.length z] 207)):=Zal;replace r0:=Ag d r0;replace r1:=Ag d r1;replace r2:=Ag d r2;obtain⟨ab,hX,hY,D⟩:=Kt wr (Zk #[Zi a.1,Zs v a.2.1.length x,Zs y a.2.2.length z] 207) (Zk #[Zi b.1,Zs G b.2.1.length I,Zs J b.2.2.length L] 207);obtain⟨x0,x1,x2,_⟩:=J5 hX;obtain⟨y0,y1,y2,_⟩:=J5 hY;have T:Hid (Zc 190 #[Zg #[Zi a.1,Zs v a.2.1.length x,Zs y a.2.2.length z],Zg #[Zi b.1,Zs G b.2.1.length I,Zs J b.2.2.length L]] ((wr.alloc (Zk #[Zi a.1,Zs v a.2.1.length x,Zs y a.2.2.length z] 207)).alloc (Zk #[Zi b.1,Zs G b.2.1.length I,Zs J b.2.2.length L] 207)) λe M=>e=Zr (Zo (J7 a b))/\Zb wr M):=Aa ((AGI (a.1,Zs v a.2.1.length x,Zs y a.2.2.length z) (b.1,Zs G b.2.1.length I,Zs J b.2.2.length L) a b _ (hA.up D) (j.up D) c.o.2.2.1.1 c.o.2.2.1.2.1 c.o.2.2.2.1 c.o.2.2.2.2.1 c.o.2.2.1.2.2.1 c.o.2.2.1.2.2.2 c.o.2.2.2.2.2.1 c.o.2.2.2.2.2.2).mono λe M⟨he,hb⟩=>⟨he,Ap D hb⟩);have N:=Aa f.o;clear h i o hX hY D ab d hA j c;generalize J7 a b=q at *;go_wp2_with fail;apply T.o.mono;rintro e w1⟨rfl,r⟩;have s:=Ap N.o r;cases q with
    | false=>go_wp2;go_ret;rw[p.o];exact⟨rfl,s⟩
    | true=>go_wp2;exact⟨⟨k+1,by omega,by go_num,p,Aa s⟩,by simp[intOf];omega⟩
   have aa:¬(k:Int)<(n:Int):=by omega
   have O:Hid (Lib.allEq J7 l m=true):=Aa (by rw[o.o,WV (by have:=HN.o;omega),WV (by have:=HQ.o;omega)];rfl);go_wp2;go_ret;rw[O.o];exact⟨rfl,f.o⟩
 have O:Hid (Lib.allEq J7 l m=false):=Aa (allEq_len hn);have ae:¬(l.length:Int)=(m.length:Int):=by omega
 generalize l.length=n1 at *;generalize m.length=n2 at *;clear hn;go_enter func189,ntmps189;go_wp2;go_ret;rw[O.o];exact⟨rfl,XF _ _⟩
theorem wQ{o:Oper}{Q:Exit->Act->Tw->Prop}{l:Nat}(b:∀c,o.op≠.defer c)(h:o.wp prog a w K Q):o.wpIn (Fence.wide.inRound l) n prog a w K Q:=by
 refine⟨λ_ _=>trivial,?_⟩;rw[show (Fence.wide.inRound l).round=some l from rfl,Oper.semAt_some l a.eval o b];unfold Oper.wp at h;generalize (execOp a.eval o).run prog w=r at h ⊢;cases r with
 | ok nx w'=>
   cases nx with
   | value v=>exact h
   | skip=>exact h
   | defer d=>exact h
   | enter f args=>exact⟨(λh=>by cases h),CallsIn.inRound l (callsIn_wide.2 h)⟩
   | row r args=>exact⟨(λh=>by cases h),λc cs _=>let ⟨v,w',hr,hst⟩:=h c cs;⟨v,w',hr,stepsIn_wide.2 hst⟩⟩
   | _=>exact h.elim
 | halt hh w'=>
   cases hh with
   | panic v=>exact h
   | _=>exact h.elim
theorem Qe{e:Array Oper}{g:Region.Mode}{Q:Exit->Act->Tw->Prop}{l n:Nat}(b:∀(i:Nat)(o:Oper),e[i]? = some o->∀c,o.op≠.defer c)(f:¬LetsOut Q):∀(fuel:Nat)(listed:Array Bool)(a:Act)(w:Tw),wpAny prog g e Q fuel listed a w->wpAnyIn (Fence.wide.inRound l) n prog g e Q fuel listed a w
 | 0,_,_,_,h=>h
 | fuel+1,listed,a,w,h=>by
   refine⟨h.1,λi j=>?_⟩;have d:=h.2 i j;unfold wpOp at d;unfold wpOpIn;cases ho:e[i]? with
   | none=>rw[ho] at d;exact Qe b f fuel _ a w d
   | some o=>
     rw[ho] at d;simp only at d ⊢;split
     ·rename_i hw
      rw[Yae hw] at d
      rcases d with d|⟨_,d⟩
      ·refine wQ (b i o ho) ?_
       exact Oper.wp_mono (λa w k=>Qe b f fuel _ a w k) d
      exact absurd d f
     rename_i hw;rw[Yad hw] at d;exact⟨λ_ _=>trivial,Qe b f fuel _ _ w d⟩
attribute [local go_sem] Oper.semAt_some
theorem ACB(b:To)(len a:Nat)(w:Tw):
 Zc 51 #[Zs b len a,Zi 6] w λe c=>e=Zr (.func (.func 88) #[] #[Zp (some (Zd w.1.size 0)),Zp (some (Zd (w.1.size+1) 0))])/\c=(w.alloc (Zk #[Zs b len a] 33)).alloc (Zk #[Zi 6] 3):=by
 go_enter func51,ntmps51;go_wp2;go_ret;exact⟨rfl,rfl⟩
abbrev CK(n:Nat):={ k:Nat // 6*k<n }
def ckN{n:Nat}(x:CK n):Nat:=x.1
def ckL(n k:Nat):Nat:=if n-6*k<6 then n-6*k else 6
def ckV(b off n:Nat)(k:CK n):Value:=.slice (some ⟨b,off+6*k.1,none⟩) (ckL n k.1) (ckL n k.1)
def KpC(b a:Nat)(W c:World):Prop:=c.cell? ⟨b,0,none⟩=W.cell? ⟨b,0,none⟩/\c.cell? ⟨a,0,none⟩=W.cell? ⟨a,0,none⟩
theorem KpC.t{n i:Nat}{A B C:Tw}(h:KpC n i A B)(k:KpC n i B C):KpC n i A C:=⟨k.1.trans h.1,k.2.trans h.2⟩
theorem ADo(n:Nat)(_hn:1<=n)(l g f b off len a:Nat)(hlen:len<=1000)(L:len<=a)(J D:List (CK len)->Tw->Prop)(u:∀pre W,J pre W->J pre W.drew)(V:∀pre x W,J pre W->pre.length<aF len->YieldAt Fence.wide (n-1) prog l #[ckV b off len x] W λe d=>
   (e=Zr (Zo true)/\J (pre++[x]) d/\KpC g f W d)\/(e=Zr (Zo false)/\D (pre++[x]) d))(W:Tw)(s:W.cell? (Zd g 0)=some (Zs (some (Zd b off)) len a))(r:W.cell? (Zd f 0)=some (Zi 6))(T:J [] W):
 CallsIn Fence.wide n prog 88 #[.func (.yield l) #[] #[],Zp (some (Zd g 0)),Zp (some (Zd f 0))] W λe d=>(∃v,e=Zr v) /\
  ((∃O:List (CK len),O.map ckN=List.range (aF len)/\J O d)\/(∃pre:List (CK len),True/\D pre d)):=by
 refine callsIn_of_wp func88 rfl trivial ?_ rfl;simp only[ntmps88,WC,XP,WH,Nat.reduceAdd,Nat.reduceSub,XY,XZ,WD,WA,WI,WE];gi_wp2
 gi_loopw [4] (λi wr=>∃(k:Nat)(pre:List (CK len)),k<=aF len/\i=Zi ((6*k:Nat):Int)/\pre.map ckN=List.range k/\J pre wr/\wr.cell? (Zd g 0)=some (Zs (some (Zd b off)) len a)/\wr.cell? (Zd f 0)=some (Zi 6))
  (λi _=>len+6-(intOf i).toNat)
 case atStart=>exact⟨0,[],XG _,rfl,rfl,T,s,r⟩
 case round=>
  obtain⟨k,pre,hk,rfl,c,h,q0,q1⟩:=hrel;have y:pre.length=k:=by have:=congrArg List.length c;simpa using this
  by_cases hlt:6*k<len
  ·obtain⟨fn,tmps,assign,body,z,U⟩:=V pre ⟨k,hlt⟩ wr.drew (u _ _ h) (by rw[y];unfold aF;omega)
   have q:=Aa hlt;have w:k<aF len:=by unfold aF;omega
   obtain⟨m,p⟩:∃m,6*k=m:=⟨_,rfl⟩;have I:ckL len k=(((m:Int)+min 6 ((len-m:Nat):Int)).toNat-m):=by unfold ckL;rw[p];split <;> omega
   unfold ckV at z;dsimp only at z;rw[I,p] at z;rw[p] at hlt ⊢;have M:(m:Int)<(len:Int):=by omega
   have N:(m:Int)<=(len:Int):=by omega
   have aa:(0:Int)<=(m:Int):=by omega
   have X:¬a=m:=by omega
   have ab:m<=a:=by omega
   have P:=Aa p;clear I p;gi_wp2;refine wpIn_wide.2 ?_
   go_region
   all_goals gi_wp2
   apply U.mono;rintro e G (⟨rfl,t,o⟩|⟨rfl,j⟩)
   ·have p0:G.cell? (Zd g 0)=some (Zs (some (Zd b off)) len a):=o.1.trans q0
    have p1:G.cell? (Zd f 0)=some (Zi 6):=o.2.trans q1;gi_wp2
    go_roundw
    case rel=>
     refine⟨k+1,pre++[⟨k,q.o⟩],w,?_,?_,t,p0,p1⟩
     ·have:=P.o
      congr 1;omega
     rw[WW,c,WG];rfl
    case measure=>simp[intOf];omega
   gi_wp2;refine bodyPost_ret (results_none rfl _ _ _) rfl ?_;exact⟨⟨_,rfl⟩,.inr ⟨_,trivial,j⟩⟩
  have Y:¬((6*k:Nat):Int)<(len:Int):=by omega
  have R:k=aF len:=by unfold aF at hk ⊢;omega
  gi_wp2
  go_end0
  exact⟨⟨_,rfl⟩,.inl ⟨pre,by rw[c,R],h⟩⟩
theorem rS(n:Nat)(k:1<=n)(d c b off len a:Nat)(hlen:len<=1000)(f:len<=a)(w:Tw)(i:d<w.1.size)(g:c<w.1.size)(m:w.cell? (Zd d 0)=some (Zs (some (Zd b off)) len a))(j:w.cell? (Zd c 0)=some (Zi 6)):
 SeqStopsK Fence.wide n prog 88 #[Zp (some (Zd d 0)),Zp (some (Zd c 0))] (λx:CK len=>#[ckV b off len x]) (KpC d c) (λys=>ys.map ckN=List.range (aF len)) (λ_=>True) (aF len) w:=λl J Jx W hW hJ _ hY h0=>
 ADo n k l d c b off len a hlen f J Jx (λpre W h=>hJ pre W _ none h ⟨rfl,rfl,rfl,XB _,λ_ _ _=>rfl⟩ (λr e=>by cases e)) hY W ((hW.cell (p:=Zd d 0) i).trans m) ((hW.cell (p:=Zd c 0) g).trans j) h0
variable{W w:Tw}{x:Int×Tv×Tv}{g:Fk}{v:Tv}{l:List Aj}
def U7(w:World)(x:Int×Value×Value)(g:Fk):Prop:=x.1=g.1/\w.ownsRow 0 261 8 x.2.1 g.2.1.length (g.2.1.flatMap encS)/\w.ownsRow 0 9 1 x.2.2 g.2.2.length (g.2.2.flatMap Mc)
theorem U7.at(h:U7 w x g):Xr w x g:=⟨h.1,F7.Fz rG h.2.1 rfl,F7.Fz (k:=1) (enc:=Mc) (λ_=>rfl) h.2.2 rfl⟩
theorem U7.up(h:U7 w x g)(a:Zb w W):U7 W x g:=⟨h.1,E.Ad h.2.1 a,E.Ad h.2.2 a⟩
theorem U7.other{row:Option Nat}(h:U7 w x g)(f:w.grownBy W row)(i:∀r a fr,row=some r->w.1[r]? ≠some (Zk a 261 fr)/\w.1[r]? ≠some (Zk a 9 fr)):U7 W x g:=by
 refine⟨h.1,h.2.1.kept f ?_,h.2.2.kept f ?_⟩
 ·rcases h.2.1.2 with⟨e,_⟩|⟨q,b,a,e,_,d,_⟩
  ·rw[e];exact .inl rfl
  rw[e];exact .inr (λc=>(i q a (0,0) c.symm).1 d)
 rcases h.2.2.2 with⟨e,_⟩|⟨q,b,a,e,_,d,_⟩
 ·rw[e];exact .inl rfl
 rw[e];exact .inr (λc=>(i q a (0,0) c.symm).2 d)
def Wn(B:Nat)(w:World)(v:Value)(gs:List Fk):Prop:=∃xs:List (Int×Value×Value),xs.length=gs.length/\w.ownsRow B 207 3 v gs.length (xs.flatMap aG)/\∀(j:Nat)x g,xs[j]? = some x->gs[j]? = some g->U7 w x g
theorem Wn.slg{B:Nat}{gs:List Fk}(h:Wn B w v gs):vL w v gs:=by obtain⟨xs,a,b,c⟩:=h;exact⟨xs,F7.Fz (k:=3) (enc:=aG) (λ_=>rfl) b a.symm,a,λj x g hx hg=>(c j x g hx hg).at⟩
theorem Wn.kept{B:Nat}{w W:Tw}{v:Tv}{gs:List Fk}{row:Option Nat}(h:Wn B w v gs)(m:w.grownBy W row)(y:∀r,row=some r->∃o:Obj,w.1[r]? = some o/\(o.isCells=false\/∃a,o=Zk a 146 (0,0))):Wn B W v gs:=by
 have c:∀(T:TypeId),T≠146->∀r a fr,row=some r->w.1[r]? ≠some (Zk a T fr):=by
  intro T u r a fr e i;obtain⟨o,d,b⟩:=y r e;rw[i] at d;injection d with d;subst d
  rcases b with b|⟨k,b⟩
  ·cases b
  injection b with _ b _;exact u b
 obtain⟨xs,s,l,t⟩:=h;refine⟨xs,s,l.kept m ?_,λj x g z f=>(t j x g z f).other m (λr a fr e=>⟨c _ (by decide) r a fr e,c _ (by decide) r a fr e⟩)⟩
 rcases l.2 with⟨e,_⟩|⟨q,n,a,e,_,i,_⟩
 ·rw[e];exact .inl rfl
 rw[e];exact .inr (λp=>c _ (by decide) q a (0,0) p.symm i)
theorem uW(B:Nat)(w:Tw):Wn B w (Zs none 0 0) []:=⟨[],rfl,XL _ _ _ _,λj x g a=>by simp at a⟩
theorem Wn.app{B:Nat}{v v':Tv}{gs:List Fk}{xs:List (Int×Tv×Tv)}(m:xs.length=gs.length)(u:w.ownsRow B 207 3 v gs.length (xs.flatMap aG))(s:∀(j:Nat)x g,xs[j]? = some x->gs[j]? = some g->U7 w x g)(z:U7 w x g)(i:W.ownsRow B 207 3 v' (gs.length+1) (xs.flatMap aG++aG x))(n:w.grownBy W v.ownBlock):Wn B W v' (gs++[g]):=by
 have o:∀r a fr,v.ownBlock=some r->w.1[r]? ≠some (Zk a 261 fr)/\w.1[r]? ≠some (Zk a 9 fr):=by
  intro r a fr e
  rcases u.2 with⟨d,_⟩|⟨q,p,l,d,_,t,_⟩
  ·rw[d] at e;cases e
  rw[d] at e;injection e with e;subst e;rw[t];constructor <;> (intro h;injection h with h;injection h with _ h _;revert h;decide)
 refine⟨xs++[x],by simp[m],by rw[XC,XS];simpa using i,λj y k c b=>?_⟩
 by_cases hj:j<gs.length
 ·rw[XO (by omega)] at c
  rw[XO hj] at b;exact(s j y k c b).other n o
 rw[XM (by omega),m] at c;rw[XM (by omega)] at b;have f:j-gs.length=0:=by have:=Ax b;simp at this;omega
 rw[f] at c b;simp at c b;subst c b;exact z.other n o
def MkI(l:List Aj)(qj:List (List V))(fb:Nat)(b:Value)(w5:World)(pre:List (CK qj.length))(W:World):Prop:=(∃a,W.1[fb]? = some (.cells #[b,a] 146)/\Wn (fb+3) W a (pre.map λk=>An l (Dz qj k.1)))/\Below fb w5 W/\fb+3<=W.1.size
theorem MkI.own{qj:List (List V)}{fb B:Nat}{w5:Tw}(f:fb<=w5.1.size)(n:fb<=B):OwnFrom B (MkI l qj fb v w5):=λs A C row p b h=>by
 obtain⟨⟨j,d,g⟩,i,m⟩:=p;refine⟨⟨j,(b.block fb (E.Ac d) (λe=>?_)).trans d,g.kept b (λr e=>by obtain⟨_,o,a,c⟩:=h r e;exact⟨o,a,.inl c⟩)⟩,i.grown b (X4 f i.size) (λk e=>X4 n (h k e).1),X4 m b.size⟩;obtain⟨_,_,a,c⟩:=h fb e.symm;rw[d] at a;injection a with a;subst a;cases c
theorem Ie{A B:Tw}(h:Zb A B):KeepsOthers A B:=⟨h.size,λk _ a _=>(h.block k (Array.getElem?_eq_some_iff.1 a).1).trans a⟩
theorem P0{qj:List (List V)}{fb B:Nat}{u:Tv}{w5 W w s:Tw}{xs:List (Int×Tv×Tv)}{pre:List (CK qj.length)}{k:CK qj.length}{z t:To}{n i m d:Nat}(M:Zb W w)(X:xs.length=pre.length)(I:W.ownsRow (fb+3) 207 3 u pre.length (xs.flatMap aG))(U:∀(j:Nat)x g,xs[j]? = some x->(pre.map λk=>An l (Dz qj k.1))[j]? = some g->U7 W x g)(R:w.ownsRow W.1.size 261 8 (Zs z l.length n) l.length ((An l (Dz qj k.1)).2.1.flatMap encS))(N:w.ownsRow W.1.size 9 1 (Zs t l.length i) l.length ((An l (Dz qj k.1)).2.2.flatMap Mc))(O:s.ownsRow (fb+3) 207 3 (Zs (some (Zd m 0)) (pre.length+1) d) (pre.length+1) (xs.flatMap aG++[Zi (Dz qj k.1).length,Zs z l.length n,Zs t l.length i]))(c:(w.alloc (Zk #[Zi (Dz qj k.1).length,Zs z l.length n,Zs t l.length i] 207)).grownBy s u.ownBlock)(hf:W.1[fb]? = some (Zk #[v,u] 146))(h5:Below fb w5 W)(h3:fb+3<=W.1.size):
 s.cell? (Zd fb 1)=some u/\s.frozen? (Zd fb 1)=false/\∀(Y:Code->List (CK qj.length)->Tw->Prop)(a:Act),ownPostG B (KpC (fb+1) (fb+2)) (MkI l qj fb v w5) Y (pre++[k]) W .normal a (s.setCell (Zd fb 1) (Zs (some (Zd m 0)) (pre.length+1) d)):=by
 have b:Zb W (w.alloc (Zk #[Zi (Dz qj k.1).length,Zs z l.length n,Zs t l.length i] 207)):=Ap M (Zal);have P:fb+3<=(w.alloc (Zk #[Zi (Dz qj k.1).length,Zs z l.length n,Zs t l.length i] 207)).1.size:=X4 h3 b.size;have y:=E.Ad I b;have far:∀q,q<fb+3->some q≠u.ownBlock:=λq hq e=>by have:=(I.lt q e.symm).1;omega
 have h:s.1[fb]? = some (Zk #[v,u] 146):=(c.block fb (by omega) (far fb (by omega))).trans ((b.block fb (by omega)).trans hf);have f:∀q,q<fb+3->s.cell? (Zd q 0)=W.cell? (Zd q 0):=λq hq=>(c.cell_far (Zd q 0) (by show q<_;omega) (far q hq)).trans (b.cell (p:=Zd q 0) (by show q<_;omega))
 obtain⟨c0,c1⟩:=Hg h;refine⟨c1,Yaf s fb 1 _ _ h,λY a=>⟨?_,?_,?_,?_,X4 (X4 P c.size) (E.Ar s fb 1 (Zs (some (Zd m 0)) (pre.length+1) d)).size⟩⟩
 ·refine KeepsOthers.from (((Ie b).trans (KeepsOthers.of_grownBy c (λj o e J=>?_))).trans (KeepsOthers.setCell _ _ _)) _
  rcases y.2 with⟨L,_⟩|⟨q,aa,ab,L,_,hh,_⟩
  ·rw[L] at e;cases e
  rw[L] at e;injection e with e;subst e;rw[hh] at J;injection J with J;subst J;rfl
 ·have hs:=E.Ar s fb 1 (Zs (some (Zd m 0)) (pre.length+1) d)
  have h9:=c.size;exact⟨(hs.cell_far (Zd (fb+1) 0) (by show fb+1<_;omega) (by simp)).trans (f _ (by omega)),(hs.cell_far (Zd (fb+2) 0) (by show fb+2<_;omega) (by simp)).trans (f _ (by omega))⟩
 ·have G:=heap_setCell_same s fb 1 _ _ (Zs (some (Zd m 0)) (pre.length+1) d) h
  refine⟨_,G,?_⟩;rw[WW]
  have T:U7 (w.alloc (Zk #[Zi (Dz qj k.1).length,Zs z l.length n,Zs t l.length i] 207)) ((Dz qj k.1).length,Zs z l.length n,Zs t l.length i) (An l (Dz qj k.1)):=by
   have e1:(An l (Dz qj k.1)).2.1.length=l.length:=by simp[An]
   have e2:(An l (Dz qj k.1)).2.2.length=l.length:=by simp[An]
   refine⟨rfl,?_,?_⟩
   ·rw[e1];exact(E.Ai R (XG _)).alloc _
   rw[e2];exact(E.Ai N (XG _)).alloc _
  have D:=Wn.app (v':=Zs (some (Zd m 0)) (pre.length+1) d) (gs:=pre.map λk=>An l (Dz qj k.1)) (by simpa using X) (by rw[XX];exact y) (λj x g T hg=>(U j x g T hg).up b) T (by rw[XX];exact O) c;refine D.kept (E.Ar s fb 1 (Zs (some (Zd m 0)) (pre.length+1) d)) (λr e=>?_);injection e with e;subst e;exact⟨_,h,.inr ⟨_,rfl⟩⟩
 exact(E.Bj (h5.trans (b.mono (by have:=h5.size;omega))) (E.Ai y (X6 fb 3)) c (by omega)).setCell (p:=Zd fb 1) (XB _) _
theorem ADs{b off n c:Nat}{qj:List (List V)}(h:iJ w (Zs (some (Zd b off)) n c) qj)(J:n=qj.length)(k:CK qj.length):iJ w (ckV b off qj.length k) (Dz qj k.1):=by
 obtain⟨m,q,s,t⟩:=h;have I:=k.2;obtain⟨z,l,D,e,G,v,a⟩:=q.cons (by omega);injection e with g _ _;injection g with g;injection g with o p _;subst o p;have y:(Dz qj k.1).length=ckL qj.length k.1:=by simp only[Dz,XR,WQ,ckL];split <;> omega
 have d:((m.drop (6*k.1)).take 6).length=ckL qj.length k.1:=by simp only[XR,WQ,ckL,s];split <;> omega
 refine⟨(m.drop (6*k.1)).take 6,⟨_,ckL qj.length k.1,by rw[d];rfl,by rw[d];exact XB _,λ_=>⟨b,off+6*k.1,rfl,v,λj x hx i u hu=>?_⟩⟩,by rw[y,d],λj x r hx hr=>?_⟩
 ·have f:j<6:=by have:=Ax hx;rw[XR] at this;omega
  rw[Yi f,WL] at hx;have:=a (6*k.1+j) x hx i u hu;rwa[show off+(6*k.1+j)*1+i=off+6*k.1+j*1+i by omega] at this
 have f:j<6:=by have:=Ax hx;rw[XR] at this;omega
 rw[Yi f,WL] at hx;unfold Dz at hr;rw[Yi f,WL] at hr;exact t _ x r hx hr
def L8(x:Int):Value:=if x=0 then .nilIface else .iface 91 (Zi x)
theorem wM{r:List V}{k:Nat}{c:Aj}{v:V}(a:l[k]? = some c)(b:r[k]? = some v):Ia (l.drop k) (r.drop k)=if Lx c v=false then 1 else if (c.2.2.2.1 && v.1==0)=true then 7 else Ia (l.drop (k+1)) (r.drop (k+1)):=by
 have d:l.drop k=c :: l.drop (k+1):=by rw[Yl (Ax a)];rw[Y' (Ax a)] at a;injection a with a;rw[a]
 have e:r.drop k=v :: r.drop (k+1):=by rw[Yl (Ax b)];rw[Y' (Ax b)] at b;injection b with b;rw[b]
 rw[d,e,Ia]
theorem AA2(lv rv:Tv)(l:List Aj)(r:List V)(w:Tw)(hl:F7 7 Cc w lv l)(hr:E.Sl w rv r)(hlen:l.length<=1000)(ht:∀v∈r,v.2.2.size<=maxLen):
 Zc 134 #[lv,rv] w λe w'=>e=Zr (L8 (Hu l r))/\Below w.1.size w w':=by
 have HL:=Aa hl;have HT:=Aa ht;obtain⟨la,lc,rfl,_⟩:=hl.slice;obtain⟨ra,rc,rfl,ai,d⟩:=hr;have Y:=Aa d;clear hl ht d
 by_cases hne:r.length=l.length
 ·rw[<-hne]
  have U:Hid (Hu l r=Ia (l.drop 0) (r.drop 0)):=Aa (by unfold Hu;rw[Yae hne];rfl);have z:=Aa hne;have aj:r.length<=1000:=by omega
  clear hne;go_enter func134,ntmps134;go_wp2
  go_loopw [15] (λvi wr=>∃k:Nat,k<=r.length/\vi=Zi k/\Hid (Hu l r=Ia (l.drop k) (r.drop k))/\Hid (Below w.1.size w wr)) (λvi _=>r.length-(intOf vi).toNat)
  case atStart=>exact⟨0,XG _,rfl,U,Aa (XF _ _)⟩
  case round=>
   obtain⟨k,hk,rfl,t,b⟩:=hrel
   by_cases hlt:k<r.length
   ·have ac:k<l.length:=by rw[<-z.o];exact hlt
    obtain⟨⟨g,o,p⟩,I⟩:∃x,r[k]? = some x:=⟨_,Y' hlt⟩;obtain⟨⟨c1,c2,D,u,c5,c6,c7⟩,hc⟩:∃x,l[k]? = some x:=⟨_,Y' ac⟩;obtain⟨rb,ro,rfl,ah,h⟩:=Y.o (by intro e;rw[e] at hlt;simp at hlt);obtain⟨lb,f,ak,el,_,ag,c⟩:=(HL.o.up b.o).cons (by omega);injection el with aa _ ab;subst aa ab;obtain⟨J,L,M,N,O,P,R⟩:=F8 c hc;obtain⟨v0,v1,v2⟩:=h k _ I;replace v0:=Ag b.o v0;replace v1:=Ag b.o v1;replace v2:=Ag b.o v2;have HF:=Aa (λW=>Sn c1 c2 D u c5 c6 c7 g o p W (HT.o _ (XA I)));have X:Hid (Hu l r=if Cm D g o p=false then 1 else if (u && g==0)=true then 7 else Ia (l.drop (k+1)) (r.drop (k+1))):=Aa (by rw[t.o,wM hc I];rfl);have af:(k:Int)<(r.length:Int):=by omega
    have a:Below wr.1.size wr (wr.alloc (Zk #[Zi g,Zi o,Zt p] 67)):=Zal;obtain⟨x0,x1,x2⟩:=E.Ei (Yac wr (Zk #[Zi g,Zi o,Zt p] 67));have T:=Aa (Ap b.o a);clear h c t I hc;go_wp2_with fail;replace J:=Ag a J;replace L:=Ag a L;replace M:=Ag a M;replace N:=Ag a N;replace O:=Ag a O;replace P:=Ag a P;replace R:=Ag a R;clear v0 v1 v2 a b;generalize wr.alloc (Zk #[Zi g,Zi o,Zt p] 67)=G at *;generalize wr.1.size=y at *;have HU:Hid (∀W,Below G.1.size G W->(W.cell? (Zd lb (f+k*7))=some (Zi c1)/\W.cell? (Zd lb (f+k*7+1))=some (Zt c2)/\W.cell? (Zd lb (f+k*7+2))=some (Zi D)/\W.cell? (Zd lb (f+k*7+3))=some (Zo u)/\W.cell? (Zd lb (f+k*7+4))=some (Zi c5)/\W.cell? (Zd lb (f+k*7+5))=some (Zi c6)/\W.cell? (Zd lb (f+k*7+6))=some (Zt c7)/\W.cell? (Zd y 0)=some (Zi g)/\W.cell? (Zd y 1)=some (Zi o)/\W.cell? (Zd y 2)=some (Zt p))):=Aa (λW i=>⟨Ag i J,Ag i L,Ag i M,Ag i N,Ag i O,Ag i P,Ag i R,Ag i x0,Ag i x1,Ag i x2⟩)
    go_region_held3 (λW=>W.cell? (Zd lb (f+k*7))=some (Zi c1)/\W.cell? (Zd lb (f+k*7+1))=some (Zt c2)/\W.cell? (Zd lb (f+k*7+2))=some (Zi D)/\W.cell? (Zd lb (f+k*7+3))=some (Zo u)/\W.cell? (Zd lb (f+k*7+4))=some (Zi c5)/\W.cell? (Zd lb (f+k*7+5))=some (Zi c6)/\W.cell? (Zd lb (f+k*7+6))=some (Zt c7)/\W.cell? (Zd y 0)=some (Zi g)/\W.cell? (Zd y 1)=some (Zi o)/\W.cell? (Zd y 2)=some (Zt p))
     (first|(go_keep;done)|exact HU.o _ s|fail)
     (first|(go_at_call 130;refine(HF.o _).mono ?_;rintro e w1⟨rfl,n⟩;have s:Below G.1.size G w1:=Ap (XF _ _).drew n)|fail)
    obtain⟨_,_,_,p3,_,_,_,p7,_,_⟩:=HU.o w1 s;have m:=Ap T.o s;clear J L M N O P R x0 x1 x2 HU n;cases hf:Cm D g o p with
    | false=>have j:Hid (Hu l r=1):=Aa (by rw[X.o,hf];rfl);go_wp2;go_ret;rw[j.o];exact⟨rfl,m⟩
    | true=>
      have q:Hid (Hu l r=if (u && g==0)=true then 7 else Ia (l.drop (k+1)) (r.drop (k+1))):=Aa (by rw[X.o,hf];rfl);clear X hf;cases u with
      | false=>
        have j:Hid (Hu l r=Ia (l.drop (k+1)) (r.drop (k+1))):=Aa (by rw[q.o];rfl);go_wp2
        go_roundw
        case rel=>exact⟨k+1,by omega,by go_num,j,Aa m⟩
        case measure=>simp[intOf];omega
      | true=>
        by_cases hv0:g=0
        ·subst hv0
         have j:Hid (Hu l r=7):=Aa (by rw[q.o];rfl);go_wp2;go_ret;rw[j.o];exact⟨rfl,m⟩
        have ad:(g==0)=false:=by simpa using hv0
        have j:Hid (Hu l r=Ia (l.drop (k+1)) (r.drop (k+1))):=Aa (by rw[q.o,ad];rfl);clear hv0;go_wp2
        go_roundw
        case rel=>exact⟨k+1,by omega,by go_num,j,Aa m⟩
        case measure=>simp[intOf];omega
   have ek:k=r.length:=by omega
   subst ek;have j:Hid (Hu l r=0):=Aa (by rw[t.o,z.o,VF];rfl);go_wp2;go_ret;rw[j.o];exact⟨rfl,b.o⟩
 have ae:((r.length:Int)==(l.length:Int))=false:=by simp;omega
 have U:Hid (Hu l r=1):=Aa (by unfold Hu;rw[Yad hne]);clear hne;go_enter func134,ntmps134;go_wp2;go_ret;rw[U.o];exact⟨rfl,XF _ _⟩
theorem AOI(c:Aj):Ko c=Go.Proofs.YthafikkkjfielaaGreatDoor.Ko c:=rfl
theorem ANg(l:List Aj)(next:Int):Be l next=Go.Proofs.YthafikkkjfielaaGreatDoor.Be l next:=by
 unfold Be Go.Proofs.YthafikkkjfielaaGreatDoor.Be
 have h:(List.range l.length).all (Mg l next)=(List.range l.length).all (Go.Proofs.YthafikkkjfielaaGreatDoor.Mg l next):=by
  rw[YZ,XT,XT];refine forall₂_congr λk b=>?_
  have a:=List.mem_range.1 b;unfold Mg Go.Proofs.YthafikkkjfielaaGreatDoor.Mg;rw[getElem!_pos l k a,Y' a,XU,AOI,show Ez l[k]=Go.Proofs.YthafikkkjfielaaGreatDoor.Ez l[k] from rfl,show (!decide (next<=l[k].1))=decide (l[k].1<next) from by rw[YZ];simp]
 rw[h,VJ,Bool.and_assoc]
theorem kR(f:Tv)(l:List Aj)(next:Int)(w:Tw)(h:F7 7 Cc w f l)(_hlen:l.length<=1000)(d:∀x∈l,x.2.1.size<=maxLen/\x.2.2.2.2.2.2.size<=maxLen)(j:Lw w):
 Zc 40 #[f,Zi next] w λe k=>e=Zr (Zo (Be l next))/\Zb w k:=by
 rw[ANg]
 by_cases hl:1<=l.length/\l.length<=8
 ·obtain⟨g,o,c,rfl,b,i⟩:=wR h (by omega)
  exact Go.Proofs.YthafikkkjfielaaGreatDoor.AE6 g o c l next w i hl.1 hl.2 b j d
 obtain⟨a,c,rfl,_⟩:=h.slice;rw[<-Go.Proofs.YthafikkkjfielaaGreatDoor.xO hl];exact Go.Proofs.YthafikkkjfielaaGreatDoor.ACH a l.length c next w hl
end F
def Ob(w:World):Prop:=w.cell? ⟨1,0,none⟩=some (.iface 359 (.agg #[.pointer (some ⟨11,45,none⟩)]))
theorem Ob.lt{w:Tw}(h:Ob w):1<w.1.size:=by
 rcases Yc 1 w.1.size with a|a
 ·exact a
 unfold Ob at h;simp[World.cell?,XV a] at h
theorem Ob.below{w W:Tw}(h:Ob w)(a:Zb w W):Ob W:=(a.cell (p:=Zd 1 0) h.lt).trans h
theorem vQ(t:Addr)(w:Tw):(ReflectliteValue.unpack (Zf 281 (Zp (some t)))).run prog w
 = .ok (Zg #[Zp (some (Zd 11 281)),Zp (some (Zd w.1.size 0)),.int .u64 150]) (w.alloc (Zk #[Zp (some t)] 281)):=by kernel_rfl
theorem type102(a:Addr)(w:Tw):(ReflectliteValue.methodAny (ReflectliteValue.valueError "reflectlite.Value.Type" 0) (λt _ _ _=>ReflectliteType.toType t) #[Zg #[Zp (some (Zd 11 281)),Zp (some a),.int .u64 150]]).run prog w
 = .ok (Zf 359 (Zg #[Zp (some (Zd 11 281))])) w:=by kernel_rfl
theorem wL(h:Tv)(w:Tw):(Go.method 563 359 (Zg #[h]) "Kind").run prog w=.ok (366,h) w:=by kernel_rfl
theorem AHH(w:Tw):((ReflectliteType.abiMethod λt=>(λa:Nat=>Value.int IntKind.u8 (a:Int)) <$> Rtype.kind t) #[Zp (some (Zd 11 281))]).run prog w=.ok (.int .u8 22) w:=by kernel_rfl
theorem AIi(w:Tw):((ReflectliteType.abiMethod λt=>(λa:Nat=>Value.int IntKind.u8 (a:Int)) <$> Rtype.kind t) #[Zp (some (Zd 11 91))]).run prog w=.ok (.int .u8 2) w:=by kernel_rfl
theorem sJ(a:Addr)(w:Tw):(ReflectliteValue.parts (Zg #[Zp (some (Zd 11 281)),Zp (some a),.int .u64 150])).run prog w=.ok (some (281,a,150)) w:=by kernel_rfl
theorem AGU(a p:Addr)(W:Tw)(b:W.cell? a=some (Zp (some p))):
 (ReflectliteValue.method (ReflectliteValue.valueError "reflectlite.Value.IsNil" 0) ReflectliteValue.isNil #[Zg #[Zp (some (Zd 11 281)),Zp (some a),.int .u64 150]]).run prog W=.ok (Zo false) W:=by
 rw[Lib.rl_method];simp only[Sem.run_bind,sJ,Result.andThen];simp[ReflectliteValue.isNil,loadVar,isAgg,underlying,underlying281,b,Result.andThen]
theorem wS(h:Tv)(w:Tw):(Go.method 563 359 (Zg #[h]) "Elem").run prog w=.ok (380,Zg #[h]) w:=by kernel_rfl
theorem Vt(h:Tv)(w:Tw):(Go.method 563 359 (Zg #[h]) "Implements").run prog w=.ok (381,Zg #[h]) w:=by kernel_rfl
theorem Rx(h:Tv)(w:Tw):(Go.method 563 359 (Zg #[h]) "AssignableTo").run prog w=.ok (378,Zg #[h]) w:=by kernel_rfl
theorem AHg(w:Tw):(ReflectliteType.method ReflectliteType.elem #[Zg #[Zp (some (Zd 11 281))]]).run prog w=.ok (Zf 359 (Zg #[Zp (some (Zd 11 91))])) w:=by kernel_rfl
theorem nD(w:Tw):(ReflectliteType.relation "Implements" ReflectliteType.implements_ #[Zg #[Zp (some (Zd 11 91))],Zf 359 (Zg #[Zp (some (Zd 11 45))])]).run prog w=.ok (Zo true) w:=by kernel_rfl
theorem AEN(v:Tv)(w:Tw):(ReflectliteType.typeOf #[Zf 91 v]).run prog w=.ok (Zf 359 (Zg #[Zp (some (Zd 11 91))])) w:=by kernel_rfl
theorem nM(w:Tw):(ReflectliteType.relation "AssignableTo" ReflectliteType.assignableTo #[Zg #[Zp (some (Zd 11 91))],Zf 359 (Zg #[Zp (some (Zd 11 91))])]).run prog w=.ok (Zo true) w:=by kernel_rfl
theorem ABj(x:Int)(w:Tw):(ReflectliteValue.unpack (Zf 91 (Zi x))).run prog w
 = .ok (Zg #[Zp (some (Zd 11 91)),Zp (some (Zd w.1.size 0)),.int .u64 130]) (w.alloc (Zk #[Zi x] 91)):=by kernel_rfl
theorem ABv(w:Tw):(Rtype.elem? 281).run prog w=.ok (some 91) w:=by kernel_rfl
theorem AK6(p:Addr)(w:Tw):(ReflectliteValue.mk 91 p ReflectliteValue.flagAddr).run prog w=.ok (Zg #[Zp (some (Zd 11 91)),Zp (some p),.int .u64 386]) w:=by kernel_rfl
theorem AFG(a p:Addr)(W:Tw)(b:W.cell? a=some (Zp (some p))):
 (ReflectliteValue.method (ReflectliteValue.valueError "reflectlite.Value.Elem" 0) ReflectliteValue.elem #[Zg #[Zp (some (Zd 11 281)),Zp (some a),.int .u64 150]]).run prog W
   = .ok (Zg #[Zp (some (Zd 11 91)),Zp (some p),.int .u64 386]) W:=by
 rw[Lib.rl_method];simp only[Sem.run_bind,sJ,Result.andThen];simp[ReflectliteValue.elem,loadVar,isAgg,underlying,underlying281,b,Result.andThen,ABv,AK6]
theorem ADu{m:Array Tv->Type}(a b:Tv)(c:(v x:Tv)->m #[v,x])(d:(x:Array Tv)->m x):ReflectliteValue.set.match_3 m #[a,b] c d=c a b:=rfl
theorem AEo(a:Addr)(w:Tw):(ReflectliteValue.parts (Zg #[Zp (some (Zd 11 91)),Zp (some a),.int .u64 386])).run prog w=.ok (some (91,a,386)) w:=by kernel_rfl
theorem AGw(a:Addr)(w:Tw):(ReflectliteValue.parts (Zg #[Zp (some (Zd 11 91)),Zp (some a),.int .u64 130])).run prog w=.ok (some (91,a,130)) w:=by kernel_rfl
theorem AFE(w:Tw):(Rtype.directlyAssignable 91 91).run prog w=.ok true w:=by kernel_rfl
theorem AJy(a b:Addr)(x:Int)(c:Tv)(W:Tw)(d:W.cell? b=some (Zi x))(f:W.cell? a=some c)(e:W.frozen? a=false):
 (ReflectliteValue.set #[Zg #[Zp (some (Zd 11 91)),Zp (some a),.int .u64 386],Zg #[Zp (some (Zd 11 91)),Zp (some b),.int .u64 130]]).run prog W
   = .ok (Zu #[]) (W.setCell a (Zi x)):=by
 delta ReflectliteValue.set
 rw[ADu];simp only[Sem.run_bind,AEo,AGw,Result.andThen];simp[ReflectliteValue.flagAddr,loadVar,isAgg,underlying,underlying91,d,Result.andThen,AFE,storeVar,Value.cells,storeCells,Addr.add];rw[run_store prog W a _ _ (by rfl)];simp[f,e]
theorem AIm(x:Int)(t:Addr)(d:Tv)(w:Tw)(e:Ob w)(b:w.cell? t=some d)(f:w.frozen? t=false):
 Zc 185 #[Zf 91 (Zi x),Zf 281 (Zp (some t))] w λj z=>j=Zr (Zo true)/\z=((((w.alloc (Zk #[Zp (some t)] 281)).alloc (Zk #[Zp (some (Zd 11 281)),Zp (some (Zd w.1.size 0)),.int .u64 150] 320)).alloc (Zk #[Zp (some (Zd 11 281)),Zp (some (Zd w.1.size 0)),.int .u64 150] 320)).alloc (Zk #[Zi x] 91)).setCell t (Zi x):=by
 have J:=@run_callFunc_extern prog 220 _ (λargs=>ReflectliteValue.unpack (args.getD 0 (Zu #[]))) func220 (by kernel_rfl) (by kernel_rfl) (by kernel_rfl) (by kernel_rfl);have L:=@run_callFunc_extern prog 221 _ (ReflectliteValue.methodAny (ReflectliteValue.valueError "reflectlite.Value.Type" 0) (λt _ _ _=>ReflectliteType.toType t)) func221 (by kernel_rfl) (by kernel_rfl) (by kernel_rfl) (by kernel_rfl);have M:=@run_callFunc_extern prog 222 _ (ReflectliteValue.method (ReflectliteValue.valueError "reflectlite.Value.IsNil" 0) ReflectliteValue.isNil) func222 (by kernel_rfl) (by kernel_rfl) (by kernel_rfl) (by kernel_rfl);have n:=@run_callFunc_extern prog 366 _ (ReflectliteType.abiMethod λt=>do pure (.int .u8 (<-Rtype.kind t))) func366 (by kernel_rfl) (by kernel_rfl) (by kernel_rfl) (by kernel_rfl);have p:=@run_callFunc_extern prog 380 _ (ReflectliteType.method ReflectliteType.elem) func380 (by kernel_rfl) (by kernel_rfl) (by kernel_rfl) (by kernel_rfl);have q:=@run_callFunc_extern prog 381 _ (ReflectliteType.relation "Implements" ReflectliteType.implements_) func381 (by kernel_rfl) (by kernel_rfl) (by kernel_rfl) (by kernel_rfl);have k:=@run_callFunc_extern prog 263 _ ReflectliteType.typeOf func263 (by kernel_rfl) (by kernel_rfl) (by kernel_rfl) (by kernel_rfl);have o:=@run_callFunc_extern prog 378 _ (ReflectliteType.relation "AssignableTo" ReflectliteType.assignableTo) func378 (by kernel_rfl) (by kernel_rfl) (by kernel_rfl) (by kernel_rfl);have l:=@run_callFunc_extern prog 264 _ (ReflectliteValue.method (ReflectliteValue.valueError "reflectlite.Value.Elem" 0) ReflectliteValue.elem) func264 (by kernel_rfl) (by kernel_rfl) (by kernel_rfl) (by kernel_rfl);have m:=@run_callFunc_extern prog 265 _ ReflectliteValue.set func265 (by kernel_rfl) (by kernel_rfl) (by kernel_rfl) (by kernel_rfl);have U:=AEN;have N:=Rx;have g:=nM;have y:=ABj;have G:=vQ;have I:=type102;have R:=wL;have O:=wS;have P:=Vt;have v:=AHH;have u:=AIi;have i:=AHg;have s:=nD;have T:=AGU (Zd w.1.size 0) t ((w.alloc (Zk #[Zp (some t)] 281)).alloc (Zk #[Zp (some (Zd 11 281)),Zp (some (Zd w.1.size 0)),.int .u64 150] 320)) (by simp);have a:1<w.1.size:=e.lt;have e:w.cell? (Zd 1 0)=some (Zf 359 (Zg #[Zp (some (Zd 11 45))])):=e
 have r:((w.alloc (Zk #[Zp (some t)] 281)).alloc (Zk #[Zp (some (Zd 11 281)),Zp (some (Zd w.1.size 0)),.int .u64 150] 320)).cell? (Zd 1 0)=some (Zf 359 (Zg #[Zp (some (Zd 11 45))])):=by rw[Yp _ _ (Zd 1 0) (by rw[XE];exact Nat.lt_succ_of_lt a),Yp _ _ (Zd 1 0) a];exact e
 have c:t.block<w.1.size:=by
  rcases Yc t.block w.1.size with h|h
  ·exact h
  simp[World.cell?,XV h] at b
 have D:=AFG (Zd w.1.size 0) t (((w.alloc (Zk #[Zp (some t)] 281)).alloc (Zk #[Zp (some (Zd 11 281)),Zp (some (Zd w.1.size 0)),.int .u64 150] 320)).alloc (Zk #[Zp (some (Zd 11 281)),Zp (some (Zd w.1.size 0)),.int .u64 150] 320)) (by rw[Yp _ _ (Zd w.1.size 0) (by simp;omega)];simp)
 have st:=AJy t (Zd (w.1.size+1+1+1) 0) x d ((((w.alloc (Zk #[Zp (some t)] 281)).alloc (Zk #[Zp (some (Zd 11 281)),Zp (some (Zd w.1.size 0)),.int .u64 150] 320)).alloc (Zk #[Zp (some (Zd 11 281)),Zp (some (Zd w.1.size 0)),.int .u64 150] 320)).alloc (Zk #[Zi x] 91))
  (by rw[WZ _ _ _ _ (by simp)];rfl)
  (by rw[Yp _ _ t (by simp;omega),Yp _ _ t (by simp;omega),Yp _ _ t (by simp;omega),Yp _ _ t c];exact b)
  (by rw[YL _ _ t (by simp;omega),YL _ _ t (by simp;omega),YL _ _ t (by simp;omega),YL _ _ t (Nat.ne_of_lt c)];exact f)
 go_enter func185,ntmps185;go_wp2;refine wp_loop_rounds 1 ?_;rw[rounds_succ];go_wp2;go_ret;exact⟨rfl,rfl⟩
theorem AGB(x:Int)(w:Tw)(g:Ob w):Zc 135 #[Zf 91 (Zi x)] w λe b=>e=Zr (Zi x)/\Zb w b:=by
 have i:Hid (∀W t,Ob W->W.cell? t=some (Zi 0)->W.frozen? t=false->w.1.size<=t.block->Zb w W->Zc 185 #[Zf 91 (Zi x),Zf 281 (Zp (some t))] W λe b=>e=Zr (Zo true)/\b.cell? t=some (Zi x)/\Zb w b):=by
  intro W t k c l m a
  have f:t.block<W.1.size:=by
   rcases Yc t.block W.1.size with h|h
   ·exact h
   simp[World.cell?,XV h] at c
  refine(AIm x t _ W k c l).mono ?_;rintro e b⟨rfl,rfl⟩;refine⟨rfl,?_,?_⟩
  ·refine World.cell?_setCell_same _ _ _ (u:=Zi 0) ?_
   rw[Yp _ _ t (by simp;omega),Yp _ _ t (by simp;omega),Yp _ _ t (by simp;omega),Yp _ _ t f];exact c
  exact((((a.alloc (by have:=a.size;omega) _).alloc (by have:=a.size;simp;omega) _).alloc (by have:=a.size;simp;omega) _).alloc (by have:=a.size;simp;omega) _).setCell m _
 have j:Hid (∀o,Ob (w.alloc o)):=λo=>g.below (Zal)
 clear g;go_enter func135,ntmps135
 go_wp2_with (first
  | (go_at_call 185;refine(i.o _ (Zd w.1.size 0) (j.o _) (by simp) (by simp) (XB _) (Zal)).mono ?_;rintro e p⟨rfl,n,d⟩))
 go_ret;exact⟨rfl,d⟩
namespace F
variable{l:List Aj}
attribute [local go_sem] Oper.semAt_some
def gK(r:Option s9)(w:World)(e:Ending)(a:World):Prop:=match r with
 | none=>∃T v,e=.returned (.tuple #[.agg #[.slice none 0 0,.slice none 0 0],.iface T v])/\Zb w a
 | some f=>∃b c,e=.returned (.tuple #[.agg #[b,c],.nilIface])/\Hm a b c f/\Zb w a
theorem Ss{qj:List (List V)}(h:De l qj=false):J9 l qj=none:=by unfold J9;rw[Yad (by simp[h])]
theorem lG{qj:List (List V)}(h:De l qj=true):J9 l qj=some (l,Ay l qj):=by unfold J9;rw[Yae h]
theorem AGV:(prog.info? 207).map (λi=>(i.zero,i.size,i.bytes))=some (some (Zg #[Zi 0,Zs none 0 0,Zs none 0 0]),3,56):=by kernel_rfl
theorem rW(lv rv:Tv)(l:List Aj)(qj:List (List V))(w:Tw)(hl:F7 7 Cc w lv l)(hr:iJ w rv qj)(hlen:l.length<=1000)(dp:qj.length<=100000)(b9:∀x∈l,x.2.1.size<=maxLen/\x.2.2.2.2.2.2.size<=maxLen)(ht:∀r∈qj,∀v∈r,v.2.2.size<=maxLen)(bp:K9 qj)(hw:Lw w)(hg:Ob w):
 Zc 77 #[lv,rv] w (gK (J9 l qj) w):=by
 have HL:=Aa hl;have HR:=Aa hr;have HT:=Aa ht;have cd:=Aa bp;have HG:=Aa hg;obtain⟨la,s,rfl,dk⟩:=hl.slice;obtain⟨ra,rc,rfl,c9⟩:=hr.slice;obtain⟨ac,hX,hY,hB⟩:=Kt w (Zk #[Zs la l.length s] 32) (Zk #[Zs none 0 0,Zs none 0 0] 146);have c1:((w.alloc (Zk #[Zs la l.length s] 32)).alloc (Zk #[Zs none 0 0,Zs none 0 0] 146)).cell? (Zd w.1.size 0)=some (Zs la l.length s):=by simp[World.cell?,hX]
 have X:=Aa (kR (Zs la l.length s) l 1099511627777 _ (hl.up hB) hlen b9 (hw.below hB));have HX:=Aa hX;have HY:=Aa hY;have HB:=Aa hB;have af:=Aa ac;clear hl hr ht bp hw hg b9 hX hY hB ac;cases hR:Be l 1099511627777 with
 | false=>rw[hR] at X;have HE:Hid (J9 l qj=none):=Aa (Ss (by unfold De Lf;rw[hR];rfl));obtain⟨y0,y1⟩:=Hg HY.o;refine callsIn_wide (n:=5).1 ?_;refine callsIn_of_wp_marks func77 rfl trivial ?_ rfl;simp only[ntmps77,WC,XP,WH,Nat.reduceAdd,Nat.reduceSub,XY,XZ,WD,WA,WI,WE];refine wpIn_wide.2 ?_;go_wp2_with fail;apply X.o.mono;rintro e w1⟨rfl,O⟩;have z:=(O.block (w.1.size+1) (by have:=af.o;omega)).trans HY.o;obtain⟨z0,z1⟩:=Hg z;have f0:=Yaf w1 (w.1.size+1) 0 _ _ z;have f1:=Yaf w1 (w.1.size+1) 1 _ _ z;go_wp2;refine⟨Zu #[Zg #[Zs none 0 0,Zs none 0 0],Zf 91 (Zi 1)],by simp[results,results77,go_sem,z0,z1],?_⟩;rw[HE.o];exact⟨_,_,rfl,((Ap HB.o O).setCell (p:=Zd (w.1.size+1) 0) (XN _) _).setCell (p:=Zd (w.1.size+1) 1) (XN _) _⟩
 | true=>
   rw[hR] at X;have ar:=K5.1 hR;have c0:=ar.one;have b4:=ar.eight;have bn:=Aa ar;clear ar c1
   have a7:Hid (∀W,Below (w.1.size+2) ((w.alloc (Zk #[Zs la l.length s] 32)).alloc (Zk #[Zs none 0 0,Zs none 0 0] 146)) W->W.cell? (Zd w.1.size 0)=some (Zs la l.length s)/\W.1[w.1.size+1]? = some (Zk #[Zs none 0 0,Zs none 0 0] 146)/\Below w.1.size w W):=Aa (λW hW=>by
    have N:Below ((w.alloc (Zk #[Zs la l.length s] 32)).alloc (Zk #[Zs none 0 0,Zs none 0 0] 146)).1.size ((w.alloc (Zk #[Zs la l.length s] 32)).alloc (Zk #[Zs none 0 0,Zs none 0 0] 146)) W:=by rw[af.o];exact hW
    have hc:((w.alloc (Zk #[Zs la l.length s] 32)).alloc (Zk #[Zs none 0 0,Zs none 0 0] 146)).cell? (Zd w.1.size 0)=some (Zs la l.length s):=by simp[World.cell?,HX.o]
    exact⟨Ag N hc,(N.block (w.1.size+1) (by rw[af.o];omega)).trans HY.o,Ap HB.o N⟩)
   have ac:=af.o
   by_cases h60:1<=qj.length/\qj.length<=60
   ·obtain⟨c4,b7⟩:=h60
    have df:¬(qj.length:Int)<1:=by omega
    have c6:¬(60:Int)<(qj.length:Int):=by omega
    refine(callsIn_wide (n:=5)).1 ?_;refine callsIn_of_wp_marks func77 rfl trivial ?_ rfl;simp only[ntmps77,WC,XP,WH,Nat.reduceAdd,Nat.reduceSub,XY,XZ,WD,WA,WI,WE];refine wpIn_wide.2 ?_;go_wp2_with fail;apply X.o.mono;rintro e w1⟨rfl,O⟩;have ce:Hid (Below (w.1.size+2) ((w.alloc (Zk #[Zs la l.length s] 32)).alloc (Zk #[Zs none 0 0,Zs none 0 0] 146)) w1):=Aa (by rw[<-ac];exact O);clear O X;generalize (w.alloc (Zk #[Zs la l.length s] 32)).alloc (Zk #[Zs none 0 0,Zs none 0 0] 146)=W2 at *;go_wp2
    go_loopw [28] (λvi wr=>∃i:Nat,i<=qj.length/\vi=Zi i/\Hid (∀j r,j<i->qj[j]? = some r->Hu l r=0)/\Hid (Below (w.1.size+2) W2 wr)) (λvi _=>qj.length-(intOf vi).toNat)
    case atStart=>exact⟨0,XG _,rfl,Aa (λj r hj=>absurd hj (Yr _)),ce⟩
    case round=>
     obtain⟨i,hi,rfl,bh,bb⟩:=hrel;obtain⟨q0,ao,Y⟩:=a7.o wr bb.o;have a0:=bb.o.size;rw[ac] at a0
     by_cases hlt:i<qj.length
     ·obtain⟨r,hr⟩:∃r,qj[i]? = some r:=⟨_,Y' hlt⟩
      obtain⟨T,U,dc,xv,er,dn,cx,bt⟩:=(HR.o.up Y).at hr;injection er with a8 _ cn;subst a8 cn;have ad:=Aa (AA2 (Zs la l.length s) xv l r wr (HL.o.up Y) bt hlen (HT.o r (XA hr)));obtain⟨xa,xc,rfl,_,_⟩:=bt;have b3:(i:Int)<(qj.length:Int):=by omega
      have bo:=Aa hr;clear hr
      by_cases hz:Hu l r=0
      ·have he:L8 (Hu l r)=Zn:=by unfold L8;rw[Yae hz]
       rw[he] at ad
       have ci:Hid (∀j r,j<i+1->qj[j]? = some r->Hu l r=0):=Aa (λj r' hj an=>by
        by_cases e:j=i
        ·subst e;rw[bo.o] at an;injection an with an;rw[<-an];exact hz
        exact bh.o j r' (by omega) an)
       clear he hz;go_wp2_with fail;apply ad.o.mono;rintro e w3⟨rfl,ak⟩;have cu:=bb.o.trans (ak.mono a0);go_wp2;exact⟨⟨i+1,by omega,by go_num,ci,Aa cu⟩,by simp[intOf];omega⟩
      have he:L8 (Hu l r)=Zf 91 (Zi (Hu l r)):=by unfold L8;rw[Yad hz]
      rw[he] at ad
      have HE:Hid (J9 l qj=none):=Aa (Ss (by
       cases h:De l qj with
       | false=>rfl
       | true=>exact absurd ((B4.1 h).2.2.2 r (XA bo.o)) hz))
      generalize Hu l r=x at *;clear he hz;go_wp2_with fail;apply ad.o.mono;rintro e w3⟨rfl,ak⟩;have cj:=Aa (AGB x w3 (HG.o.below (Ap Y ak)));go_wp2_with fail;apply cj.o.mono;rintro e w4⟨rfl,bz⟩;have ay:Below w4.1.size w4 (w4.alloc (Zk #[Zi x,Zi i] 192)):=Zal;have au:=((Ap (Ap ak bz) ay).block (w.1.size+1) (by omega)).trans ao;obtain⟨z0,z1⟩:=Hg au;have f0:=Yaf _ (w.1.size+1) 0 _ _ au;have f1:=Yaf _ (w.1.size+1) 1 _ _ au;have bx:=Ap Y (Ap (Ap ak bz) ay);clear au;go_wp2;refine⟨Zu #[Zg #[Zs none 0 0,Zs none 0 0],Zf 190 (Zp (some (Zd w4.1.size 0)))],by simp[results,results77,go_sem,z0,z1],?_⟩;rw[HE.o];exact⟨_,_,rfl,(bx.setCell (p:=Zd (w.1.size+1) 0) (XN _) _).setCell (p:=Zd (w.1.size+1) 1) (XN _) _⟩
     have ei:i=qj.length:=by omega
     have b3:¬(i:Int)<(qj.length:Int):=by omega
     have bl:Hid (De l qj=true):=Aa (B4.2 ⟨bn.o,c4,b7,λr hr=>by obtain⟨j,hj,rfl⟩:=Yk hr;exact bh.o j _ (by omega) (Y' hj)⟩)
     obtain⟨g,o,c,eC,di,bs⟩:=wR (HL.o.up Y) c0;injection eC with ck _ cl;subst ck cl
     obtain⟨T,U,c8⟩:∃T U,ra=some (Zd T U):=by obtain⟨vs,da,ds,dt⟩:=HR.o;obtain⟨T,U,dc,er,_,_,_⟩:=da.cons (by omega);injection er with a8 _ _;exact⟨T,U,a8⟩
     subst c8;have bk:=Aa (Rb g o s l wr bs b4);clear ei bh bs;go_wp2_with fail;apply bk.o.mono;rintro e w5⟨g5,c5,rfl,b5,a9⟩;have a4:=Aa (ACB (some (Zd T U)) qj.length rc (w5.alloc (Zk #[Zs (some (Zd g5 0)) l.length c5,Zs none 0 0] 146)));simp only[XE,W3,Nat.reduceAdd] at a4;have ch:=Aa b5;have cf:=Aa a9;have dq:=a9.size;clear b5 a9 bk;go_wp2_with fail;apply a4.o.mono;rintro e w6⟨rfl,rfl⟩;clear a4;obtain⟨dr,cp,br,bq,cr⟩:=Jl w5 (Zk #[Zs (some (Zd g5 0)) l.length c5,Zs none 0 0] 146) (Zk #[Zs (some (Zd T U)) qj.length rc] 33) (Zk #[Zi 6] 3);go_wp2_with fail;generalize ((w5.alloc (Zk #[Zs (some (Zd g5 0)) l.length c5,Zs none 0 0] 146)).alloc (Zk #[Zs (some (Zd T U)) qj.length rc] 33)).alloc (Zk #[Zi 6] 3)=W7 at *;have cw:W7.cell? (Zd (w5.1.size+1) 0)=some (Zs (some (Zd T U)) qj.length rc):=by simp[World.cell?,br]
     have cv:W7.cell? (Zd (w5.1.size+2) 0)=some (Zi 6):=by simp[World.cell?,bq]
     obtain⟨iG,b2,ca,a2,a3⟩:=info_parts AGV;have d:=Zy b2 ca a2 a3;have ae:=Aa (enters_of func136 (by kernel_rfl) rfl)
     have HW:Hid (∀W,Below w5.1.size w5 W->F7 7 Cc W (Zs (some (Zd g o)) l.length s) l/\iJ W (Zs (some (Zd T U)) qj.length rc) qj/\W.cell? (Zd w.1.size 0)=some (Zs (some (Zd g o)) l.length s)/\W.1[w.1.size+1]? = some (Zk #[Zs none 0 0,Zs none 0 0] 146)/\Below w.1.size w W):=Aa (λW hW=>by have hb:=Ap cf.o hW;have bd:=Ap Y hb;exact⟨HL.o.up bd,HR.o.up bd,Ag hb q0,(hb.block (w.1.size+1) (by omega)).trans ao,bd⟩)
     have bm:Hid (∀k,k<aF qj.length->ALo l (Dz qj k)/\1<=(Dz qj k).length/\(Dz qj k).length<=6):=Aa (λk hk=>⟨λr hr=>Mu (B4.1 bl.o).2.2.2 cd.o r (WY (Ym hr)),kD hk⟩);have cg:=Aa bn.o.kinds;clear b2 ca a2 a3 br bq q0 ao Y;refine(wpIn_wide (n:=5)).1 ?_
     refine wpIn_rangeFunc_ownG (w0:=W7) rfl (by decide) (gf:=88) (lb:=#[Zp (some (Zd (w5.1.size+1) 0)),Zp (some (Zd (w5.1.size+2) 0))]) (by rfl) trivial (enters_of func88 (by kernel_rfl) rfl)
      (rS _ (by decide) (w5.1.size+1) (w5.1.size+2) T U qj.length rc (by omega) c9 W7 (by omega) (by omega) cw cv) KpC.t ?hKb (XF _ _) (λ_=>rfl) (MkI l qj w5.1.size (Zs (some (Zd g5 0)) l.length c5) w5) (λ_ _ _=>False) (MkI.own (XB _) (by omega)) (λ_ _ _ _ _ h _ _=>h) ⟨⟨_,cp,uW _ _⟩,cr,by omega⟩ ?a1 ?assign ?body ?done ?stop
     case hKb=>
      intro W q o1 o2 hq dm _ _;constructor
      ·unfold World.cell?;rw[WB (by show w5.1.size+1≠q;omega)]
      unfold World.cell?;rw[WB (by show w5.1.size+2≠q;omega)]
     case assign=>intro q x W K hK;gi_wp2;exact hK
     case stop=>rintro D c pre W _ _ h _;exact h.elim
     case body=>
      rintro q pre k W⟨⟨gv,R,⟨xs,ap,M,av⟩⟩,I,J⟩dl;simp only[XX] at ap M;have dj:=k.2;have cz:k.1<aF qj.length:=by unfold aF;omega
      have cc:aF qj.length<=10:=by unfold aF;omega
      obtain⟨az,c2,c3⟩:=bm.o k.1 cz;obtain⟨bu,bw,cq,_,_⟩:=HW.o W I;have de:=I.size;have a5:=Aa (λ(W':Tw)(N:Below W.1.size W W')=>AB7 _ _ l (Dz qj k.1) W' (bu.up N) (iJ.up (ADs bw rfl k) N) b4 c2 c3 az cg.o);have a6:=Aa (λ(W':Tw)(N:Below W.1.size W W')=>Ag N (Hg R).2);have q1:W.drew.cell? (Zd w5.1.size 1)=some gv:=(Hg R).2;have q2:W.drew.cell? (Zd w.1.size 0)=some (Zs (some (Zd g o)) l.length s):=cq;clear bu bw az HW bm;refine wpIn_block ?_;refine wpIn_region_any (by kernel_rfl) (Qe ?hops ?hQ _ _ _ _ ?_)
      case hops=>
       intro i o h c hc;have h:=Array.mem_of_getElem? h;simp only[List.mem_toArray,VL,VE,or_false] at h
       rcases h with rfl|rfl|rfl|rfl|rfl|rfl|rfl|rfl|rfl <;> simp at hc
      case hQ=>rintro⟨a,W',h⟩;exact h
      refine wpAny_take (i:=0) (v:=Zp (some (Zd w5.1.size 1))) rfl (by kernel_rfl) (by kernel_rfl) (by kernel_rfl) (λ_ _ _ h=>h) (Or.inl ⟨by rfl,?t0⟩) ?_
      case t0=>(intro w;go_simp)
      refine wpAny_take (i:=3) (v:=ckV T U qj.length k) rfl (by kernel_rfl) (by kernel_rfl) (by kernel_rfl) (λ_ _ _ h=>h) (Or.inl ⟨by rfl,?t3⟩) ?_
      case t3=>(intro w;go_simp)
      refine wpAny_ready (rs:=[1,2]) (by kernel_rfl) (by simp) ?_;refine AllReady.cons rfl (λK hK=>?_) ?_
      ·go_simp
       refine hK _ _ ?_;clear hK K;refine wpAny_ready (rs:=[2]) (by kernel_rfl) (by simp) ?_;refine AllReady.cons rfl (λK hK=>?_) ?_
       ·go_simp
        refine hK _ _ ?_;clear hK K;refine wpAny_ready (rs:=[4]) (by kernel_rfl) (by simp) ?_;refine AllReady.cons rfl (λK hK=>?_) ?_
        ·refine Gc (by rfl) 136 (.tmp 54) (.tmp 55) 32 33 (by rfl) (Zs (some (Zd g o)) l.length s) (ckV T U qj.length k) (by rfl) (by rfl) ae.o _ (a5.o _ (XF _ _).drew) ?_
         rintro e y⟨sv,bv,rfl,L,G,P⟩;have f:Below W.1.size W y:=Ap (XF _ _).drew P;have b8:=f.size;obtain⟨sa,sc,ai,_⟩:=E.Ak L;obtain⟨ba,bc,ah,_⟩:=E.Ak G;subst ai ah;refine⟨_,rfl,?_⟩;have p1:=a6.o y f;have cb:(y.alloc (Zk #[Zi (Dz qj k.1).length,Zs sa l.length sc,Zs ba l.length bc] 207)).cell? (Zd w5.1.size 1)=some gv:=Ag ((XF y.1.size y).alloc (XB _) _) p1
         try go_simp
         refine hK _ _ ?_;clear hK K;refine wpAny_ready (rs:=[5]) (by kernel_rfl) (by simp) ?_;refine AllReady.cons rfl (λK hK=>?_) ?_
         ·go_simp
          refine hK _ _ ?_;clear hK K;refine wpAny_ready (rs:=[6]) (by kernel_rfl) (by simp) ?_;refine AllReady.cons rfl (λK hK=>?_) ?_
          ·refine step_append_lies _ (by rfl) (.tmp 53) (.tmp 57) 144 (by rfl) (w5.1.size+3) 207 iG (.agg #[Zi 0,.slice none 0 0,.slice none 0 0]) 3 56 underlying144 d.o.1 d.o.2.1 d.o.2.2.1 d.o.2.2.2 rfl (by decide) gv pre.length (xs.flatMap aG) (by rfl) ((E.Ad M f).alloc _) (Zd y.1.size 0) 1 1 [Zi (Dz qj k.1).length,.slice sa l.length sc,.slice ba l.length bc] (by rfl) rfl (λj u hj=>XI (Yac _ _) j u hj) (by simp[Value.oneCell']) (by omega) (by unfold maxLen;omega) (by omega) (by simp;omega) _ rfl ?_
           intro g9 ag w9 ab aa aj am;have b:=Aa (P0 (B:=W7.1.size) (l:=l) (qj:=qj) (pre:=pre) (k:=k) f ap M av L G ab aa R I J);obtain⟨r1,r2,_⟩:=b.o
           try go_simp
           refine hK _ _ ?_;clear hK K;refine wpAny_take (i:=7) (v:=Zp (some (Zd w5.1.size 1))) rfl (by kernel_rfl) (by kernel_rfl) (by kernel_rfl) (λ_ _ _ h=>h) (Or.inl ⟨by rfl,?t7⟩) ?_
           case t7=>(intro w;go_simp)
           refine wpAny_ready (rs:=[8]) (by kernel_rfl) (by simp) ?_;refine AllReady.cons rfl (λK hK=>?_) ?_
           ·go_simp
            refine hK _ _ ?_;clear hK K;refine wpAny_done (by kernel_rfl) ?_ _;exact b.o.2.2 (λ_ _ _=>False) { tmps:=#[],defers:=[] }
           exact AllReady.nil
          exact AllReady.nil
         exact AllReady.nil
        exact AllReady.nil
       exact AllReady.nil
      refine AllReady.cons rfl (λK hK=>?_) ?_
      ·go_simp
       refine hK _ _ ?_;clear hK K;refine wpAny_ready (rs:=[1,4]) (by kernel_rfl) (by simp) ?_;refine AllReady.cons rfl (λK hK=>?_) ?_
       ·go_simp
        refine hK _ _ ?_;clear hK K;refine wpAny_ready (rs:=[4]) (by kernel_rfl) (by simp) ?_;refine AllReady.cons rfl (λK hK=>?_) ?_
        ·refine Gc (by rfl) 136 (.tmp 54) (.tmp 55) 32 33 (by rfl) (Zs (some (Zd g o)) l.length s) (ckV T U qj.length k) (by rfl) (by rfl) ae.o _ (a5.o _ (XF _ _).drew) ?_
         rintro e y⟨sv,bv,rfl,L,G,P⟩;have f:Below W.1.size W y:=Ap (XF _ _).drew P;have b8:=f.size;obtain⟨sa,sc,ai,_⟩:=E.Ak L;obtain⟨ba,bc,ah,_⟩:=E.Ak G;subst ai ah;refine⟨_,rfl,?_⟩;have p1:=a6.o y f;have cb:(y.alloc (Zk #[Zi (Dz qj k.1).length,Zs sa l.length sc,Zs ba l.length bc] 207)).cell? (Zd w5.1.size 1)=some gv:=Ag ((XF y.1.size y).alloc (XB _) _) p1
         try go_simp
         refine hK _ _ ?_;clear hK K;refine wpAny_ready (rs:=[5]) (by kernel_rfl) (by simp) ?_;refine AllReady.cons rfl (λK hK=>?_) ?_
         ·go_simp
          refine hK _ _ ?_;clear hK K;refine wpAny_ready (rs:=[6]) (by kernel_rfl) (by simp) ?_;refine AllReady.cons rfl (λK hK=>?_) ?_
          ·refine step_append_lies _ (by rfl) (.tmp 53) (.tmp 57) 144 (by rfl) (w5.1.size+3) 207 iG (.agg #[Zi 0,.slice none 0 0,.slice none 0 0]) 3 56 underlying144 d.o.1 d.o.2.1 d.o.2.2.1 d.o.2.2.2 rfl (by decide) gv pre.length (xs.flatMap aG) (by rfl) ((E.Ad M f).alloc _) (Zd y.1.size 0) 1 1 [Zi (Dz qj k.1).length,.slice sa l.length sc,.slice ba l.length bc] (by rfl) rfl (λj u hj=>XI (Yac _ _) j u hj) (by simp[Value.oneCell']) (by omega) (by unfold maxLen;omega) (by omega) (by simp;omega) _ rfl ?_
           intro g9 ag w9 ab aa aj am;have b:=Aa (P0 (B:=W7.1.size) (l:=l) (qj:=qj) (pre:=pre) (k:=k) f ap M av L G ab aa R I J);obtain⟨r1,r2,_⟩:=b.o
           try go_simp
           refine hK _ _ ?_;clear hK K;refine wpAny_take (i:=7) (v:=Zp (some (Zd w5.1.size 1))) rfl (by kernel_rfl) (by kernel_rfl) (by kernel_rfl) (λ_ _ _ h=>h) (Or.inl ⟨by rfl,?t7⟩) ?_
           case t7=>(intro w;go_simp)
           refine wpAny_ready (rs:=[8]) (by kernel_rfl) (by simp) ?_;refine AllReady.cons rfl (λK hK=>?_) ?_
           ·go_simp
            refine hK _ _ ?_;clear hK K;refine wpAny_done (by kernel_rfl) ?_ _;exact b.o.2.2 (λ_ _ _=>False) { tmps:=#[],defers:=[] }
           exact AllReady.nil
          exact AllReady.nil
         exact AllReady.nil
        exact AllReady.nil
       refine AllReady.cons rfl (λK hK=>?_) ?_
       ·refine Gc (by rfl) 136 (.tmp 54) (.tmp 55) 32 33 (by rfl) (Zs (some (Zd g o)) l.length s) (ckV T U qj.length k) (by rfl) (by rfl) ae.o _ (a5.o _ (XF _ _).drew) ?_
        rintro e y⟨sv,bv,rfl,L,G,P⟩;have f:Below W.1.size W y:=Ap (XF _ _).drew P;have b8:=f.size;obtain⟨sa,sc,ai,_⟩:=E.Ak L;obtain⟨ba,bc,ah,_⟩:=E.Ak G;subst ai ah;refine⟨_,rfl,?_⟩;have p1:=a6.o y f;have cb:(y.alloc (Zk #[Zi (Dz qj k.1).length,Zs sa l.length sc,Zs ba l.length bc] 207)).cell? (Zd w5.1.size 1)=some gv:=Ag ((XF y.1.size y).alloc (XB _) _) p1
        try go_simp
        refine hK _ _ ?_;clear hK K;refine wpAny_ready (rs:=[1,5]) (by kernel_rfl) (by simp) ?_;refine AllReady.cons rfl (λK hK=>?_) ?_
        ·go_simp
         refine hK _ _ ?_;clear hK K;refine wpAny_ready (rs:=[5]) (by kernel_rfl) (by simp) ?_;refine AllReady.cons rfl (λK hK=>?_) ?_
         ·go_simp
          refine hK _ _ ?_;clear hK K;refine wpAny_ready (rs:=[6]) (by kernel_rfl) (by simp) ?_;refine AllReady.cons rfl (λK hK=>?_) ?_
          ·refine step_append_lies _ (by rfl) (.tmp 53) (.tmp 57) 144 (by rfl) (w5.1.size+3) 207 iG (.agg #[Zi 0,.slice none 0 0,.slice none 0 0]) 3 56 underlying144 d.o.1 d.o.2.1 d.o.2.2.1 d.o.2.2.2 rfl (by decide) gv pre.length (xs.flatMap aG) (by rfl) ((E.Ad M f).alloc _) (Zd y.1.size 0) 1 1 [Zi (Dz qj k.1).length,.slice sa l.length sc,.slice ba l.length bc] (by rfl) rfl (λj u hj=>XI (Yac _ _) j u hj) (by simp[Value.oneCell']) (by omega) (by unfold maxLen;omega) (by omega) (by simp;omega) _ rfl ?_
           intro g9 ag w9 ab aa aj am;have b:=Aa (P0 (B:=W7.1.size) (l:=l) (qj:=qj) (pre:=pre) (k:=k) f ap M av L G ab aa R I J);obtain⟨r1,r2,_⟩:=b.o
           try go_simp
           refine hK _ _ ?_;clear hK K;refine wpAny_take (i:=7) (v:=Zp (some (Zd w5.1.size 1))) rfl (by kernel_rfl) (by kernel_rfl) (by kernel_rfl) (λ_ _ _ h=>h) (Or.inl ⟨by rfl,?t7⟩) ?_
           case t7=>(intro w;go_simp)
           refine wpAny_ready (rs:=[8]) (by kernel_rfl) (by simp) ?_;refine AllReady.cons rfl (λK hK=>?_) ?_
           ·go_simp
            refine hK _ _ ?_;clear hK K;refine wpAny_done (by kernel_rfl) ?_ _;exact b.o.2.2 (λ_ _ _=>False) { tmps:=#[],defers:=[] }
           exact AllReady.nil
          exact AllReady.nil
         exact AllReady.nil
        refine AllReady.cons rfl (λK hK=>?_) ?_
        ·go_simp
         refine hK _ _ ?_;clear hK K;refine wpAny_ready (rs:=[1]) (by kernel_rfl) (by simp) ?_;refine AllReady.cons rfl (λK hK=>?_) ?_
         ·go_simp
          refine hK _ _ ?_;clear hK K;refine wpAny_ready (rs:=[6]) (by kernel_rfl) (by simp) ?_;refine AllReady.cons rfl (λK hK=>?_) ?_
          ·refine step_append_lies _ (by rfl) (.tmp 53) (.tmp 57) 144 (by rfl) (w5.1.size+3) 207 iG (.agg #[Zi 0,.slice none 0 0,.slice none 0 0]) 3 56 underlying144 d.o.1 d.o.2.1 d.o.2.2.1 d.o.2.2.2 rfl (by decide) gv pre.length (xs.flatMap aG) (by rfl) ((E.Ad M f).alloc _) (Zd y.1.size 0) 1 1 [Zi (Dz qj k.1).length,.slice sa l.length sc,.slice ba l.length bc] (by rfl) rfl (λj u hj=>XI (Yac _ _) j u hj) (by simp[Value.oneCell']) (by omega) (by unfold maxLen;omega) (by omega) (by simp;omega) _ rfl ?_
           intro g9 ag w9 ab aa aj am;have b:=Aa (P0 (B:=W7.1.size) (l:=l) (qj:=qj) (pre:=pre) (k:=k) f ap M av L G ab aa R I J);obtain⟨r1,r2,_⟩:=b.o
           try go_simp
           refine hK _ _ ?_;clear hK K;refine wpAny_take (i:=7) (v:=Zp (some (Zd w5.1.size 1))) rfl (by kernel_rfl) (by kernel_rfl) (by kernel_rfl) (λ_ _ _ h=>h) (Or.inl ⟨by rfl,?t7⟩) ?_
           case t7=>(intro w;go_simp)
           refine wpAny_ready (rs:=[8]) (by kernel_rfl) (by simp) ?_;refine AllReady.cons rfl (λK hK=>?_) ?_
           ·go_simp
            refine hK _ _ ?_;clear hK K;refine wpAny_done (by kernel_rfl) ?_ _;exact b.o.2.2 (λ_ _ _=>False) { tmps:=#[],defers:=[] }
           exact AllReady.nil
          exact AllReady.nil
         exact AllReady.nil
        exact AllReady.nil
       exact AllReady.nil
      exact AllReady.nil
     case done=>
      rintro D ys W hD db⟨⟨gv,R,b0⟩,I,dd⟩hK;obtain⟨_,_,_,m,ct⟩:=HW.o W I;obtain⟨f0,f1⟩:=Hg R;obtain⟨z0,z1⟩:=Hg m;have y0:=Yaf W (w.1.size+1) 0 _ _ m;have y1:=Yaf W (w.1.size+1) 1 _ _ m;obtain⟨ga,gc,rfl,_⟩:=vL.slice b0.slg;gi_wp2;go_wp2;have dh:w5.1.size+3<=D:=by omega
      have co:=E.Ac hK;have bg:W.grownBy ((W.setCell (Zd (w.1.size+1) 0) (Zs (some (Zd g5 0)) l.length c5)).setCell (Zd (w.1.size+1) 1) (Zs ga ys.length gc)) (some (w.1.size+1)):=E.Al (E.Ar W (w.1.size+1) 0 _) (E.Ar _ (w.1.size+1) 1 _);have aq:=(bg.block D co (by simp;omega)).trans hK;have bi:=heap_setCell_same _ (w.1.size+1) 1 _ _ (Zs ga ys.length gc) (heap_setCell_same W (w.1.size+1) 0 _ _ (Zs (some (Zd g5 0)) l.length c5) m);have cs:Below w.1.size w ((W.setCell (Zd (w.1.size+1) 0) (Zs (some (Zd g5 0)) l.length c5)).setCell (Zd (w.1.size+1) 1) (Zs ga ys.length gc)):=(ct.setCell (p:=Zd (w.1.size+1) 0) (XN _) _).setCell (p:=Zd (w.1.size+1) 1) (XN _) _;have b6:=E.Dc (E.Ad ch.o (Below.mono I (XB _))) (show w.1.size+1<wr.1.size by omega) bg;have b1:=b0.kept bg (λr e=>by injection e with e;subst e;exact⟨_,m,.inr ⟨_,rfl⟩⟩);refine⟨by simp,.inl ⟨_,_,rfl,run_takeDeferred aq,?_⟩⟩;generalize (W.setCell (Zd (w.1.size+1) 0) (Zs (some (Zd g5 0)) l.length c5)).setCell (Zd (w.1.size+1) 1) (Zs ga ys.length gc)=W9 at *;have c7:=(WB (w:=W9) (r:=D) (k:=w.1.size+1) (o:=.deferred none) (by omega)).trans bi;obtain⟨x0,x1⟩:=Hg c7;refine⟨Zu #[Zg #[Zs (some (Zd g5 0)) l.length c5,Zs ga ys.length gc],Zn],by simp[results,results77,go_sem,x0,x1],?_⟩;rw[lG bl.o];refine⟨_,_,rfl,⟨F7.Fz (k:=7) (enc:=Cc) (λ_=>rfl) (ownsRow_putObj b6 _ aq rfl) rfl,?_⟩,cs.trans (belowK_b (w:=w) (XB _) W9 D _ _ (by omega) aq rfl rfl)⟩;have cy:=(b1.kept (grownBy_putObj' W9 D (.deferred none)) (λr e=>by injection e with e;subst e;exact⟨_,aq,.inl rfl⟩)).slg;have cm:(ys.map λk=>An l (Dz qj k.1))=Ay l qj:=by unfold Ay parts;rw[<-db];simp[VA,ckN,Function.comp_def]
      show vL _ _ (Ay l qj);rw[<-cm];simpa only [XX] using cy
   have HE:Hid (J9 l qj=none):=Aa (Ss (by
    cases h:De l qj with
    | false=>rfl
    | true=>exact absurd ⟨(B4.1 h).2.1,(B4.1 h).2.2.1⟩ h60))
   have hY:=HY.o;have aw:=Aa a7;have bf:qj.length<1\/60<qj.length:=by omega
   have al:(qj.length:Int)<1\/(60:Int)<(qj.length:Int):=by omega
   refine(callsIn_wide (n:=5)).1 ?_;refine callsIn_of_wp_marks func77 rfl trivial ?_ rfl;simp only[ntmps77,WC,XP,WH,Nat.reduceAdd,Nat.reduceSub,XY,XZ,WD,WA,WI,WE];refine wpIn_wide.2 ?_;go_wp2_with fail;apply X.o.mono;rintro e w1⟨rfl,O⟩;obtain⟨_,z,ax⟩:=aw.o w1 (by rw[<-ac];exact O);obtain⟨z0,z1⟩:=Hg z;have f0:=Yaf w1 (w.1.size+1) 0 _ _ z;have f1:=Yaf w1 (w.1.size+1) 1 _ _ z;have dg:=Aa z;have bj:=Aa ax;clear z ax O X a7 aw hY HY ac af HB HX h60 bf
   rcases al with al|al
   all_goals go_wp2
   all_goals
    refine⟨Zu #[Zg #[Zs none 0 0,Zs none 0 0],Zf 91 (Zi 4)],by simp[results,results77,go_sem,z0,z1],?_⟩;rw[HE.o];exact⟨_,_,rfl,(bj.o.setCell (p:=Zd (w.1.size+1) 0) (XN _) _).setCell (p:=Zd (w.1.size+1) 1) (XN _) _⟩
variable{c:Aj}{W w:Tw}{a:Array Tv}{v:Tv}{g:Fk}{I k n:Nat}{r:List (List V)}
theorem AC2(n:Nat)(b:1<=n)(c:n<=6)(w:Tw):Zc 206 #[.int .u64 1,.int .u64 n] w λe a=>e=Zr (Zu #[.int .u64 0,.int .u64 n])/\a=w:=by
 obtain rfl|rfl|rfl|rfl|rfl|rfl:n=1\/n=2\/n=3\/n=4\/n=5\/n=6:=by omega
 all_goals
  go_enter func206,ntmps206;go_wp2;go_ret2;exact⟨rfl,rfl⟩
theorem AIJ(n:Nat)(c:1<=n)(d:n<=6)(w:Tw):Zc 159 #[.int .u64 1,.int .u64 n] w λe a=>e=Zr (Zu #[.int .u64 0,.int .u64 n])/\a=w:=by
 have b:=Aa (λ(W:Tw)=>AC2 n c d W)
 go_enter func159,ntmps159
 go_wp2_with (first
  | (go_at_call 206;refine(b.o _).mono ?_;rintro e f⟨rfl,rfl⟩))
 go_ret2;exact⟨rfl,rfl⟩
def AHE(v:V):List Value:=[Zi v.1,Zi v.2.1,.string v.2.2]
def rep(v:V)(m:Nat):List Value:=(List.replicate m v).flatMap AHE
theorem Iy(v:V)(m:Nat):(rep v m).length=m*3:=by
 unfold rep
 induction m with
 | zero=>rfl
 | succ m ih=>rw[YJ,XJ,XC,ih];simp[AHE];omega
theorem ABO(v:V)(m c:Nat):rep v (m+c)=rep v m++rep v c:=by unfold rep;rw[<-List.replicate_append_replicate,XS]
theorem AEP(v:V){m c:Nat}(h:c<=m):(rep v m).take (c*3)=rep v c:=by obtain⟨d,rfl⟩:∃d,m=c+d:=⟨m-c,by omega⟩;rw[ABO,Yy (by rw[Iy];exact XB _),Yf (by rw[Iy];exact XB _)]
theorem ABb(v:V)(m:Nat):∀u∈rep v m,u.oneCell'=true:=by
 intro u a;simp only[rep,List.mem_flatMap] at a;obtain⟨x,_,b⟩:=a;simp[AHE] at b
 rcases b with rfl|rfl|rfl <;> rfl
theorem kO{P:Program}(w:Tw)(dT sT z elem:TypeId)(g o c e:Nat)(a:Addr)(d k:Nat)(b:Array Tv)(t:TypeId)(cs:List Tv)(m:Nat)(y:P.underlying dT=some (.slice elem))(p:(P.info? elem).map (·.size)=some 3)(r:w.1[g]? = some (Zk b t (0,0)))(u:m=Nat.min d c)(x:cs.length=m*3)(h:∀j v,cs[j]? = some v->w.cell? (a.add j)=some v)(f:o+cs.length<=b.size)(q:∀v∈cs,v.oneCell'=true):
 (Builtin.copy_ #[dT,sT] z #[Zs (some (Zd g o)) c e,Zs (some a) d k]).run P w =
   .ok (goInt m) (w.setRow g (b.toList.take o++cs++b.toList.drop (o+cs.length)).toArray):=by
 have n:=run_loadCells_list (P:=P) w a cs h;have l:=run_storeCells_at P g o t cs 0 b w r (by simpa using f) q;rw[x] at n;cases hq:P.info? elem with
 | none=>simp[hq] at p
 | some i=>
   have s:i.size=3:=by simpa[hq] using p
   simp[Builtin.copy_,run_underlying y,Builtin.lenOf,Builtin.firstCells,sizeOf,typeInfo,hq,s,<-u,n,l]
theorem AEK:(prog.info? 67).map (·.size)=some 3:=by kernel_rfl
theorem pG{p:Array Oper}{rest:List Oper}{o:Oper}{a:Act}{Q:Exit->Act->Tw->Prop}(r:o.guard=none)(d s:Operand)(J:o.op=.call { callee:=.builtin .copy,args:=#[d,s],argTypes:=#[71,71] })(g off c f:Nat)(q:Addr)(e i:Nat)(z:a.eval d=Zs (some (Zd g off)) c f)(L:a.eval s=Zs (some q) e i)(b:Array Tv)(t:TypeId)(D:w.1[g]? = some (Zk b t (0,0)))(cs:List Tv)(m:Nat)(G:m=Nat.min e c)(I:cs.length=m*3)(n:∀j v,cs[j]? = some v->w.cell? (q.add j)=some v)(k:off+cs.length<=b.size)(y:∀v∈cs,v.oneCell'=true)(h:∀u,u=w.setRow g (b.toList.take off++cs++b.toList.drop (off+cs.length)).toArray->wpList prog p Q rest (a.put o.dst (goInt m)) u):wpList prog p Q (o :: rest) a w:=by
 refine wpList_plain r λK hK=>?_
 have l:=kO (P:=prog) w 71 71 o.type 67 g off c f q e i b t cs m underlying71 AEK D G I n k y;unfold Oper.wp;have x:=h _ rfl;simp[execOp,J,resolve,invoke,builtin,z,L,l,Result.andThen];exact hK _ _ (by simpa using x)
def Rw(w0:World)(g n:Nat)(v:V)(m:Nat)(w:World):Prop:=∃a:Array Value,w.1[g]? = some (.cells a 67 (0,0))/\a.size=n*3/\a.toList.take (m*3)=rep v m/\Zb w0 w
theorem Rw.step{w0 w W:Tw}{g n m c off:Nat}{v:V}(f:w.1[g]? = some (Zk a 67 (0,0)))(k:a.size=n*3)(i:a.toList.take (m*3)=rep v m)(d:Zb w0 w)(b:w0.1.size<=g)(h:off=m*3)(j:m+c<=n)(e:W=w.setRow g (a.toList.take off++rep v c++a.toList.drop (off+(rep v c).length)).toArray):Rw w0 g n v (m+c) W:=by
 subst h;subst e;refine⟨_,setRow_heap w g _ _ _ _ f,?_,?_,below_setRow d b _⟩
 ·simp[Iy]
  omega
 rw[i,ABO];rw[Yy (by simp[Iy];omega),Yf (by simp[Iy];omega)]
theorem Rw.cells{w:Tw}{g m c:Nat}{v:V}{a:Array Tv}(e:w.1[g]? = some (Zk a 67 (0,0)))(i:a.toList.take (m*3)=rep v m)(d:c<=m):∀j u,(rep v c)[j]? = some u->w.cell? (((Zd g 0):Addr).add j)=some u:=by
 intro j u b
 have f:j<c*3:=by
  rcases Yc j (c*3) with h|h
  ·exact h
  rw[Yb (by rw[Iy];exact h)] at b;cases b
 rw[<-AEP v d,<-i,Yi f,Yi (by omega)] at b;rw[Addr.add_lit];simp[World.cell?,e];simpa using b
theorem AF8{B g n:Nat}{xs:List Tv}(h:w.ownsRow B 67 3 (Zs (some (Zd g 0)) n n) n xs):∃a,w.1[g]? = some (Zk a 67 (0,0))/\a.size=n*3:=by
 obtain⟨_,⟨b,_⟩|⟨f,c,a,b,_,d,_,_,e,_⟩⟩:=h
 ·cases b
 cases b;exact⟨a,d,e⟩
theorem AFi{w0:Tw}{g:Nat}{v:V}(f:w.1[g]? = some (Zk a 67 (0,0)))(h:a.size=n*3)(d:Zb w0 w)(b:w0.1.size<=g)(i:1<=n)(e:W=w.setRow g (a.toList.take 0++rep v 1++a.toList.drop (0+(rep v 1).length)).toArray):Rw w0 g n v 1 W:=by have:=Rw.step (m:=0) (c:=1) (v:=v) f h (by simp[rep]) d b rfl (by omega) e;simpa using this
theorem AIA{v:V}(b:w.1[n]? = some (Zk #[Zi v.1,Zi v.2.1,Zt v.2.2] 67 (0,0))):∀j u,(rep v 1)[j]? = some u->w.cell? (((Zd n 0):Addr).add j)=some u:=by intro j u a;rw[Addr.add_lit];simp only[World.cell?,b,WU];simpa[rep,AHE] using a
theorem zA(l xc n:Nat)(v:V)(w:Tw)(N:1<=n)(h6:n<=6)(G:w.1[l]? = some (Zk #[Zi v.1,Zi v.2.1,Zt v.2.2] 67 (0,0))):
 Zc 255 #[Zs (some (Zd l 0)) 1 xc,Zi n] w λe I=>∃v',e=Zr v'/\I.ownsRow w.1.size 67 3 v' n (rep v n)/\Zb w I:=by
 obtain⟨iV,R,X,t,u⟩:=info_parts E.Ip;have HM:=Aa (λ(W:Tw)=>AIJ n N h6 W)
 have HX:=Aa G
 have U:l<w.1.size:=by
  rcases Yc l w.1.size with h|h
  ·exact h
  rw[XV h] at G;cases G
 have ah:¬(n:Int)<0:=by omega
 clear G;go_enter func255,ntmps255
 go_wp2_with (first
  | (go_at_call 159;refine(HM.o _).mono ?_;rintro e w1⟨rfl,hw⟩;rw[hw];clear hw)
  | (refine wpList_make_full _ rfl _ _ 71 rfl w.1.size 67 iV (.agg #[Zi 0,Zi 0,.string ⟨#[]⟩]) 3 underlying71 R X t .i64 .i64 _ _ n rfl rfl rfl rfl (by rw[u];omega) (by unfold maxLen;omega) (XB _) ?_;intro w2 r q;obtain⟨cur2,hc2,hs2⟩:=AF8 r;have g:=Aa ((XF _ w).grown q (XB _) (λj hj=>by cases hj));have o:=Aa ((g.o.block l U).trans HX.o);have a:=Aa (And.intro hc2 hs2);clear r q hc2 hs2)
  | (refine pG rfl _ _ rfl w.1.size 0 n n (Zd l 0) 1 xc rfl rfl cur2 67 a.o.1 (rep v 1) 1 (by simp[VP];omega) (by rw[Iy]) (AIA o.o) (by rw[Iy,a.o.2];omega) (ABb v 1) ?_;intro w3 s;have L:=Aa (AFi a.o.1 a.o.2 g.o (XB _) N s);clear s))
 clear a o g
 go_loopw [8] (λY wr=>∃m:Nat,1<=m/\m<=n/\Y=Zi m/\Hid (Rw w w.1.size n v m wr)) (λY _=>n-(intOf Y).toNat)
 case atStart=>exact⟨1,XB _,N,rfl,L⟩
 case round=>
  obtain⟨m,ae,af,rfl,i⟩:=hrel
  by_cases hlt:m<n
  ·have aa:(m:Int)<(n:Int):=by omega
   have ad:(0:Int)<=(m:Int):=by omega
   have ag:¬n=m:=by omega
   obtain⟨b,y,z,D,x⟩:=i.o;obtain⟨c,p⟩:∃c,c=Nat.min m (n-m):=⟨_,rfl⟩;have O:c<=m:=by rw[p];exact Nat.min_le_left _ _
   have ac:c<=n-m:=by rw[p];exact Nat.min_le_right _ _
   have ab:0<c:=by rw[p];simp[VP];split <;> omega
   have d:=Zy y z D x;have J:=Aa p;clear y z D x i p;go_wp2;have f:=kO (P:=prog) wr.drew 71 71 3 67 w.1.size (m*3) (n-m) (n-m) (Zd w.1.size 0) m n b 67 (rep v c) c underlying71 AEK d.o.1 J.o (Iy v c) (Rw.cells (w:=wr.drew) d.o.1 d.o.2.2.1 O) (by rw[Iy,d.o.2.1];omega) (ABb v c);obtain⟨w5,k⟩:∃w5,w5=wr.drew.setRow w.1.size (b.toList.take (m*3)++rep v c++b.toList.drop (m*3+(rep v c).length)).toArray:=⟨_,rfl⟩;rw[<-k] at f;simp only[goInt] at f;have M:=Aa k;clear k
   go_region
   go_wp2
   go_roundw
   case rel=>exact⟨m+c,by omega,by omega,by simp,Rw.step (w:=wr.drew) d.o.1 d.o.2.1 d.o.2.2.1 d.o.2.2.2.drew (XB _) rfl (by omega) M.o⟩
   case measure=>simp[intOf];omega
  have T:m=n:=by omega
  subst T;go_wp2;go_ret;obtain⟨b,y,z,D,x⟩:=i.o;exact⟨_,rfl,⟨Iy v m,.inr ⟨w.1.size,m,b,rfl,XB _,y,XB _,by unfold maxLen;omega,z,D⟩⟩,x⟩
theorem Sf(n:Nat)(sv q:Tv)(y m:To)(D z p o:Nat)(c1:Int)(r:Tb)(s:Int)(t:Bool)(a b:Int)(c:Tb)(w:Tw)(I:1<=n)(J:n<=6)(es:sv=Zs y D z)(G:q=Zs m p o):
 Zc 214 #[Zg #[Zi n,sv,q],Zg #[Zi c1,Zt r,Zi s,Zo t,Zi a,Zi b,Zt c]] w λe d=>∃v',e=Zr v'/\d.ownsRow w.1.size 67 3 v' n (rep (a,b,c) n)/\Zb w d:=by
 subst es G
 have l:Hid (∀W f k,Zb w W->W.1[f]? = some (Zk #[Zi a,Zi b,Zt c] 67 (0,0))->Zc 255 #[Zs (some (Zd f 0)) 1 k,Zi n] W λe d=>∃v',e=Zr v'/\d.ownsRow w.1.size 67 3 v' n (rep (a,b,c) n)/\Zb w d):=by intro W f k x M;refine(zA f k n (a,b,c) W I J M).mono ?_;rintro e d⟨v',rfl,L,h⟩;exact⟨v',rfl,E.Ai L x.size,Ap x h⟩
 obtain⟨_,_,_,v,u⟩:=Jl w (Zk #[Zi n,Zs y D z,Zs m p o] 207) (Zk #[Zi c1,Zt r,Zi s,Zo t,Zi a,Zi b,Zt c] 69) (Zk #[Zi a,Zi b,Zt c] 67);have g:=Aa (l.o _ (w.1.size+2) 1 u v);clear v u l;go_enter func214,ntmps214;go_wp2_with (go_at_call 255;apply g.o.mono;rintro e O⟨N,rfl,j,i⟩);go_ret;exact⟨_,rfl,j,i⟩
theorem ABF{qz:List Aj}{id:Int}(h:¬pos qz id<qz.length):cM qz id = -1:=by unfold cM;rw[Yad h]
theorem AC1(D:Tv)(G:To)(J I:Nat)(qz:List Aj)(n:Nat)(t:To)(v u:Nat)(p:To)(r q:Nat)(c1:Int)(j:Tb)(k:Int)(l:Bool)(c d:Int)(f:Tb)(w:Tw)(O:F7 7 Cc w D qz)(h1:1<=qz.length)(h8:qz.length<=8)(hp:¬pos qz c1<qz.length)(P:1<=n)(R:n<=6):
 Zc 175 #[Zg #[D,Zs G J I],Zg #[Zi n,Zs t v u,Zs p r q],Zg #[Zi c1,Zt j,Zi k,Zo l,Zi c,Zi d,Zt f]] w
  λe m=>∃v',e=Zr v'/\m.ownsRow w.1.size 67 3 v' n (rep (c,d,f) n)/\Zb w m:=by
 have y:=Aa (λW s=>U9 D (Zs G J I) qz c1 j k l c d f W (O.up s) h1 h8);rw[ABF hp] at y;obtain⟨g,o,cc,rfl,aa,ab,h⟩:=O.cons (by omega);obtain⟨U,hX,V,X,L⟩:=Jl w (Zk #[Zs (some (Zd g o)) qz.length cc,Zs G J I] 146) (Zk #[Zi n,Zs t v u,Zs p r q] 207) (Zk #[Zi c1,Zt j,Zi k,Zo l,Zi c,Zi d,Zt f] 69);have z:=Aa (y.o _ L)
 have HD:Hid (∀W,Zb w W->Zc 214 #[Zg #[Zi n,Zs t v u,Zs p r q],Zg #[Zi c1,Zt j,Zi k,Zo l,Zi c,Zi d,Zt f]] W λe m=>∃v',e=Zr v'/\m.ownsRow w.1.size 67 3 v' n (rep (c,d,f) n)/\Zb w m):=by intro W s;refine(Sf n _ _ t p v u r q c1 j k l c d f W P R rfl rfl).mono ?_;rintro e m⟨v',rfl,ho,M⟩;exact⟨v',rfl,E.Ai ho s.size,Ap s M⟩
 obtain⟨Y,y1,y2,_,_,_⟩:=J5 V;have b:=Zy Y y1 y2 X;have HB:=Aa L;clear hX V X L Y y1 y2 h U y O;go_enter func175,ntmps175;go_wp2_with fail;apply z.o.mono;rintro e i⟨rfl,a⟩;have q0:=Ag a b.o.1;have q1:=Ag a b.o.2.1;have q2:=Ag a b.o.2.2.1;have z0:i.cell? (Zd (w.1.size+1+1) 0)=some (Zi c1):=Ag a (by simp only[World.cell?,b.o.2.2.2];rfl);have z1:i.cell? (Zd (w.1.size+1+1) 1)=some (Zt j):=Ag a (by simp only[World.cell?,b.o.2.2.2];rfl);have z2:i.cell? (Zd (w.1.size+1+1) 2)=some (Zi k):=Ag a (by simp only[World.cell?,b.o.2.2.2];rfl);have z3:i.cell? (Zd (w.1.size+1+1) 3)=some (Zo l):=Ag a (by simp only[World.cell?,b.o.2.2.2];rfl);have z4:i.cell? (Zd (w.1.size+1+1) 4)=some (Zi c):=Ag a (by simp only[World.cell?,b.o.2.2.2];rfl);have z5:i.cell? (Zd (w.1.size+1+1) 5)=some (Zi d):=Ag a (by simp only[World.cell?,b.o.2.2.2];rfl);have z6:i.cell? (Zd (w.1.size+1+1) 6)=some (Zt f):=Ag a (by simp only[World.cell?,b.o.2.2.2];rfl);have x:=Aa (Ap HB.o a);go_wp2_with (go_at_call 214;refine(HD.o _ x.o).mono ?_;rintro e w2⟨v2,rfl,T,N⟩);go_ret;exact⟨_,rfl,T,N⟩
theorem xR{qz:List Aj}{st:List S.St}{bs:List (List UInt8)}(h:¬pos qz c.1<qz.length):Bq qz (n,st,bs) c=List.replicate n (bP c):=by unfold Bq;rw[Yad h]
theorem wW(j:Tv)(o:To)(q p:Nat)(qz:List Aj)(n:Nat)(x:To)(z y:Nat)(k:To)(m l:Nat)(st:List S.St)(bs:List (List UInt8))(c1:Int)(a:Tb)(d:Int)(f:Bool)(g h:Int)(i:Tb)(w:Tw)(J:F7 7 Cc w j qz)(s:F7 1 Mc w (Zs k m l) bs)(G:1<=qz.length)(I:qz.length<=8)(r:bs.length=qz.length)(v:∀b∈bs,b.length<=1000000)(t:1<=n)(u:n<=6):
 Zc 175 #[Zg #[j,Zs o q p],Zg #[Zi n,Zs x z y,Zs k m l],Zg #[Zi c1,Zt a,Zi d,Zo f,Zi g,Zi h,Zt i]] w
  λe D=>∃v',e=Zr v'/\D.ownsRow w.1.size 67 3 v' (Bq qz (n,st,bs) (c1,a,d,f,g,h,i)).length (E.AKn (Bq qz (n,st,bs) (c1,a,d,f,g,h,i)))/\Zb w D:=by
 by_cases hp:pos qz c1<qz.length
 ·rw[kK (n:=n) (st:=st) (c:=(c1,a,d,f,g,h,i)) hp]
  exact Lb j o q p qz n x z y _ bs c1 a d f g h i w J s G I r hp v
 rw[xR (n:=n) (st:=st) (bs:=bs) (c:=(c1,a,d,f,g,h,i)) hp];refine(AC1 j o q p qz n x z y k m l c1 a d f g h i w J G I hp t u).mono ?_;rintro e D⟨v',rfl,M,L⟩;refine⟨v',rfl,?_,L⟩;rw[WX];exact M
def yF(I:Nat)(w:World)(v:Value)(qj:List (List V)):Prop:=∃a:List Value,a.length=qj.length/\w.ownsRow 0 71 1 v qj.length a/\∀(j:Nat)x r,a[j]? = some x->qj[j]? = some r->w.ownsRow I 67 3 x r.length (E.AKn r)
theorem yF.o{qj:List (List V)}(h:yF I w v qj):Sc 0 w v qj:=by obtain⟨f,a,b,c⟩:=h;exact⟨f,a,b,λj x r e d=>E.Ai (c j x r e d) (XG _)⟩
theorem yF.low{I I':Nat}{qj:List (List V)}(h:yF I w v qj)(d:I'<=I):yF I' w v qj:=by obtain⟨g,a,b,c⟩:=h;exact⟨g,a,b,λj x r f e=>E.Ai (c j x r f e) d⟩
theorem yF.up{qj:List (List V)}(h:yF I w v qj)(a:Zb w W):yF I W v qj:=by obtain⟨g,b,c,d⟩:=h;exact⟨g,b,E.Ad c a,λj x r f e=>E.Ad (d j x r f e) a⟩
def l4(r:Option (List (List V)))(w:World)(e:Ending)(a:World):Prop:=match r with
 | none=>e=.returned (.tuple #[.slice none 0 0,.iface 91 (Zi 2)])/\Zb w a
 | some qj=>∃v',e=.returned (.tuple #[v',.nilIface])/\yF w.1.size a v' qj/\Zb w a
theorem RI.AIj{B R I:Nat}{X:List Tv}{L:List (List V)}(h:RI B R W X L)(a:I<=B):yF I W (Zs (some (Zd R 0)) L.length L.length) L :=
 ⟨X,h.len,E.Ai h.row (XG _),λj x r c b=>E.Ai (h.each j x r c b) a⟩
theorem AFP(k:Nat)(cv gv lv:Tv)(qz:List Aj)(gs:List Fk)(g:Fk)(d:List Aj)(w:Tw)(hF:Hm w cv gv (qz,gs))(hk:gs[k]? = some g)(hn:F7 7 Cc w lv d)(cx:d.length<=8)(h1:1<=qz.length)(h8:qz.length<=8)(bx:∀b∈g.2.2,b.length<=1000000):
 Zc 110 #[Zg #[cv,gv],Zi k,lv] w (l4 (Ew qz g d) w):=by
 obtain⟨n,st,bs⟩:=g;obtain⟨hC,hG⟩:=hF;have HA:=Aa (λW hW=>nL k cv gv qz gs (n,st,bs) W (hC.up hW) (hG.up hW) hk);have HC:=Aa hC;have HN:=Aa hn;obtain⟨ga,gc,rfl,_⟩:=hG.slice;obtain⟨la,lc,rfl,_⟩:=hn.slice;obtain⟨ca,cc,rfl,_⟩:=hC.slice;have a0:Below w.1.size w (w.alloc (Zk #[Zs ca qz.length cc,Zs ga gs.length gc] 146)):=Zal;have aa:=Aa (HA.o _ a0);have hX:=Yac w (Zk #[Zs ca qz.length cc,Zs ga gs.length gc] 146);obtain⟨f0,f1⟩:=Hg hX;have a9:Hid (∀W,Below (w.alloc (Zk #[Zs ca qz.length cc,Zs ga gs.length gc] 146)).1.size (w.alloc (Zk #[Zs ca qz.length cc,Zs ga gs.length gc] 146)) W->W.cell? (Zd w.1.size 0)=some (Zs ca qz.length cc)/\W.cell? (Zd w.1.size 1)=some (Zs ga gs.length gc)):=Aa (λW hW=>⟨Ag hW f0,Ag hW f1⟩);have N:=Aa a0;clear hC hG hn HA a0 hX f0 f1;cases hw:Gb qz (n,st,bs) with
 | false=>have HR:Hid (Ew qz (n,st,bs) d=none):=Aa (by unfold Ew;rw[hw];rfl);simp only[hw] at aa;go_enter func110,ntmps110;go_wp2_with fail;apply aa.o.mono;rintro e t⟨sv,bv,rfl,ag,R,s⟩;obtain⟨sa,sc,rfl,_⟩:=ag.slice;obtain⟨ba,bc,rfl,_⟩:=R.slice;clear ag R;go_wp2;go_ret2;rw[HR.o];exact⟨rfl,(Ap N.o s).alloc (Ap N.o s).size _⟩
 | true=>
   simp only[hw] at aa;have cq:st.length=qz.length/\bs.length=qz.length/\1<=n/\n<=6:=by simpa[Gb] using hw
   obtain⟨ak,bn,bt,ck⟩:=cq;have b2:=Aa bn;have HW:=Aa hw;have b9:=Aa bx;obtain⟨iS,bo,bz,ar,av⟩:=info_parts eI;have ah:=Zy bo bz ar av;obtain⟨iV,bp,b0,au,aw⟩:=info_parts E.Ip;have ai:=Zy bp b0 au aw;clear hw bx bn ak bo bz ar av bp b0 au aw hk;go_enter func110,ntmps110;go_wp2_with fail;apply aa.o.mono;rintro e t⟨sv,bv,rfl,ag,R,s⟩;have a7:=Aa (R.up s);obtain⟨sa,sc,rfl,_⟩:=ag.slice;obtain⟨ba,bc,rfl,_⟩:=R.slice;clear ag R;have cy:¬(n:Int)<0:=by omega
   have bw:=s.size;simp only[XE] at bw;go_wp2_with (refine wpList_make_full _ rfl _ _ 33 rfl (t.1.size+1) 71 iS (.slice none 0 0) 1 underlying33 ah.o.1 ah.o.2.1 ah.o.2.2.1 .i64 .i64 _ _ n rfl rfl rfl rfl ?m1 ?m2 ?m3 ?_)
   case m1=>rw[ah.o.2.2.2];omega
   case m2=>unfold maxLen;omega
   case m3=>simp
   intro w3 bu T;have bl:=Yac t (Zk #[Zi n,Zs sa st.length sc,Zs ba bs.length bc] 207);obtain⟨g0,g1,g2,_,_,_⟩:=J5 bl;have aq:Below (t.1.size+1) (t.alloc (Zk #[Zi n,Zs sa st.length sc,Zs ba bs.length bc] 207)) w3:=⟨T.os,T.tape,T.output,T.size,λk hk=>T.block k (by simp;omega) (by simp)⟩;have J:Below w.1.size w (t.alloc (Zk #[Zi n,Zs sa st.length sc,Zs ba bs.length bc] 207)):=(Ap N.o s).alloc (Ap N.o s).size _;have af:Below t.1.size t (t.alloc (Zk #[Zi n,Zs sa st.length sc,Zs ba bs.length bc] 207)):=Zal
   have bb:Hid (∀W,Below (t.1.size+1) w3 W->(W.cell? (Zd w.1.size 0)=some (Zs ca qz.length cc)/\W.cell? (Zd w.1.size 1)=some (Zs ga gs.length gc))/\(W.cell? (Zd t.1.size 0)=some (Zi n)/\W.cell? (Zd t.1.size 1)=some (Zs sa st.length sc)/\W.cell? (Zd t.1.size 2)=some (Zs ba bs.length bc))/\F7 7 Cc W (Zs ca qz.length cc) qz/\F7 7 Cc W (Zs la d.length lc) d/\F7 1 Mc W (Zs ba bs.length bc) bs/\Below w.1.size w W):=Aa (λW hW=>by
    have y:Below (t.alloc (Zk #[Zi n,Zs sa st.length sc,Zs ba bs.length bc] 207)).1.size (t.alloc (Zk #[Zi n,Zs sa st.length sc,Zs ba bs.length bc] 207)) W:=by change Below _ _ _;rw[XE];exact aq.trans hW
    exact⟨a9.o W (Ap (Ap s af) y),⟨Ag y g0,Ag y g1,Ag y g2⟩,HC.o.up (Ap J y),HN.o.up (Ap J y),a7.o.up (Ap af y),Ap J y⟩)
   have b5:Hid (RI (t.1.size+1) (t.1.size+1) w3 (List.replicate n (Zs none 0 0)) (Jm (Bq qz (n,st,bs)) d n 0 0)):=Aa (by rw[kG];refine AAq ?_;rw[<-AFW];exact bu)
   have b3:=Aa (Ap N.o s).size;clear bu T bl g0 g1 g2 aq J af a9 HC HN a7 N aa bw;generalize hR:t.1.size=gb at *;clear hR s;go_wp2
   go_loopw [30] (λvi wr=>∃j:Nat,j<=d.length/\vi=Zi j/\Hid (∀c∈d.take j,(Bq qz (n,st,bs) c).length=n)/\(∃vs,Hid (RI (gb+1) (gb+1) wr vs (Jm (Bq qz (n,st,bs)) d n j 0)))/\Hid (Below (gb+1) w3 wr)) (λvi _=>d.length-(intOf vi).toNat)
   case atStart=>exact⟨0,XG _,rfl,Aa (by simp),⟨_,b5⟩,Aa (XF _ _)⟩
   case round=>
    obtain⟨j,hj,rfl,ae,⟨vs,ad⟩,a3⟩:=hrel
    by_cases hlt:j<d.length
    ·obtain⟨⟨c1,c2,c3,c4,c5,c6,c7⟩,hc⟩:∃c,d[j]? = some c:=⟨_,Y' hlt⟩
     obtain⟨⟨f0,f1⟩,⟨g0,g1,g2⟩,bk,bm,bj,aj⟩:=bb.o wr a3.o;obtain⟨lb,lo,da,el,_,ct,M⟩:=bm.cons (by omega);injection el with ce _ cf;subst ce cf;obtain⟨q0,q1,q2,q3,q4,q5,q6⟩:=F8 M hc;have o:Below wr.1.size wr (wr.alloc (Zk #[Zi c1,Zt c2,Zi c3,Zo c4,Zi c5,Zi c6,Zt c7] 69)):=Zal;replace f0:=Ag o f0;replace f1:=Ag o f1;replace g0:=Ag o g0;replace g1:=Ag o g1;replace g2:=Ag o g2;have HV:=Aa (wW (Zs ca qz.length cc) ga gs.length gc qz n sa st.length sc ba bs.length bc st bs c1 c2 c3 c4 c5 c6 c7 _ (bk.up o) (bj.up o) h1 h8 b2.o b9.o bt ck);have bf:=Aa (XA hc);have a8:=Aa hc;have bq:(j:Int)<(d.length:Int):=by omega
     have b4:Hid (Bq qz (n,st,bs) (c1,c2,c3,c4,c5,c6,c7)=Bq qz (n,st,bs) (c1,c2,c3,c4,c5,c6,c7)):=Aa rfl;generalize hL:Bq qz (n,st,bs) (c1,c2,c3,c4,c5,c6,c7)=L at HV;have HL:=Aa hL;clear hL b4 bk bm bj M hc
     by_cases hlen:L.length=n
     ·rw[hlen] at HV
      have al:=Aa hlen;clear hlen;go_wp2_with fail;apply HV.o.mono;rintro e w5⟨v5,rfl,D,h⟩;obtain⟨va,vc,rfl,cp⟩:=E.Ak D;have co:=h.size;simp only[XE] at co;have ci:=(ad.o.row.lt (gb+1) rfl).2
      have b1:Hid (Apt (Zs va n vc) vs):=Aa (λi u hu q hq hv=>by obtain⟨m,hm⟩:∃m,(Jm (Bq qz (n,st,bs)) d n j 0)[i]? = some m:=⟨_,Y' (by rw[<-ad.o.len];exact Ax hu)⟩;have a1:=((ad.o.each i u m hu hm).lt q hq).2;have a2:=(D.lt q hv).1;simp only[XE] at a2;omega)
      have bh:=Aa (ad.o.kept (Ap o h));have a5:=Aa (a3.o.trans ((Ap o h).mono (VC ci)));have b6:Hid (w5.ownsRow (wr.1.size+1) 67 3 (Zs va n vc) n (E.AKn L)):=Aa (by simpa only [XE] using D);clear D h o f0 f1 g0 g1 g2 q0 q1 q2 q3 q4 q5 q6 aj;go_wp2
      go_loopw [46] (λvi wi=>∃i:Nat,i<=n/\vi=Zi i/\(∃us,Hid (RI (gb+1) (gb+1) wi us (Jm (Bq qz (n,st,bs)) d n j i))/\Hid (Apt (Zs va n vc) us))/\Hid (wi.ownsRow (wr.1.size+1) 67 3 (Zs va n vc) n (E.AKn L))/\Hid (Below (gb+1) w3 wi)) (λvi _=>n-(intOf vi).toNat)
      case atStart=>exact⟨0,XG _,rfl,⟨vs,bh,b1⟩,b6,a5⟩
      case round=>
       obtain⟨i,hi,rfl,⟨us,f,bi⟩,O,h⟩:=hrel
       by_cases hlt2:i<n
       ·have G:=AA9 (Bq qz (n,st,bs)) d (j:=j) hlt2
        obtain⟨l,hl⟩:∃l,(Jm (Bq qz (n,st,bs)) d n j i)[i]? = some l:=⟨_,G⟩;have bd:Hid (l=(d.take j).map λc=>(Bq qz (n,st,bs) c)[i]?.getD zV):=Aa (by rw[hl] at G;injection G);have cu:l.length<=8:=by rw[bd.o];simp;omega
        obtain⟨v,hv⟩:∃v,us[i]? = some v:=⟨_,Y' (by rw[f.o.len,Ka];exact hlt2)⟩;obtain⟨s0,s1,s2,s3,a,c,rfl⟩:=f.o.AIM hv hl;have ao:=Aa (f.o.each i _ l hv hl);obtain⟨q,az,e5,cn,c0⟩:=O.o.form (by omega);injection e5 with cb _ cd;subst cb cd;obtain⟨⟨U,V,X⟩,hx⟩:=E.Hk (l:=L) (k:=i) (by rw[al.o];exact hlt2);obtain⟨t0,t1,t2⟩:=E.Hr hx;have y0:wr.cell? (Zd q (i*3))=some (Zi U):=(O.o.cellAt _ (by omega)).trans t0;have y1:wr.cell? (Zd q (i*3+1))=some (Zi V):=(O.o.cellAt _ (by omega)).trans t1;have y2:wr.cell? (Zd q (i*3+2))=some (Zt X):=(O.o.cellAt _ (by omega)).trans t2;have HX:=Aa hx;have ac:=Aa hv;have ax:=Aa hl;have cj:(i:Int)<(n:Int):=by omega
        have c8:=h.o.size;clear t0 t1 t2 hx hv hl G;have P:Below wr.1.size wr (wr.alloc (Zk #[Zi U,Zi V,Zt X] 67)):=Zal;have an:=Aa (f.o.kept P);obtain⟨x0,x1,x2⟩:=E.Ei (Yac wr (Zk #[Zi U,Zi V,Zt X] 67));have am:=Aa (E.Ad O.o P);have a6:=Aa (h.o.trans (P.mono (VC s2)));have c9:wr.1.size<(wr.alloc (Zk #[Zi U,Zi V,Zt X] 67)).1.size:=by simp
        have bg:=Aa (f.o.ne ac.o ax.o);have ay:Hid (∀q,(Value.slice a l.length c).ownBlock=some q->q<wr.1.size):=Aa (λq hq=>(ao.o.lt q hq).2);go_wp2_with fail;replace s0:=Ag P s0;replace s1:=(P.frozen (p:=Zd (gb+1) i) s2).trans s1;replace s2:gb+1<(wr.alloc (Zk #[Zi U,Zi V,Zt X] 67)).1.size:=by simp;omega
        clear P y0 y1 y2 ao f O h cn;generalize wr.alloc (Zk #[Zi U,Zi V,Zt X] 67)=Wb at *;generalize wr.1.size=xb at *;have r:Hid (∀Y,Below Wb.1.size Wb (Wb.drew.alloc Y)):=Aa (λY=>(XF _ _).drew.alloc (XB _) _);have ab:=Aa (an.o.each i _ l ac.o ax.o);have bt:Wb.1.size≠gb+1:=by omega
        have cw:Wb.1.size≠xb:=by omega
        go_region_law
         (first
           | (refine step_append_lies _ (by rfl) (.tmp 56) (.tmp 58) 71 (by rfl) (gb+1) 67 iV (.agg #[Zi 0,Zi 0,.string ⟨#[]⟩]) 3 32 underlying71 ai.o.1 ai.o.2.1 ai.o.2.2.1 ai.o.2.2.2 rfl (by decide) (.slice a l.length c) l.length (E.AKn l) (by rfl) (E.Ad ab.o (r.o _)) (Zd Wb.1.size 0) 1 1 [Zi U,Zi V,.string X] (by rfl) rfl (λj u hj=>XI (Yac _ _) j u hj) (E.Hf [(U,V,X)]) (by omega) (by unfold maxLen;omega) (by omega) (by simp;omega) _ rfl ?_
              intro g az w6 cl z ap cr;have p0:=(z.cell_far (Zd (gb+1) i) (by simp;omega) bg.o).trans (Ag (r.o _) s0);have p1:=(z.cell_far (Zd xb 0) (by simp;omega) (λe=>YX _ (ay.o _ e.symm))).trans (Ag (r.o _) x0);have p2:=(z.cell_far (Zd xb 1) (by simp;omega) (λe=>YX _ (ay.o _ e.symm))).trans (Ag (r.o _) x1);have p3:=(z.cell_far (Zd xb 2) (by simp;omega) (λe=>YX _ (ay.o _ e.symm))).trans (Ag (r.o _) x2);have p4:=(z.frozen_far (Zd (gb+1) i) (by simp;omega) bg.o).trans (((r.o _).frozen (p:=Zd (gb+1) i) s2).trans s1))
           | fail)
        all_goals
         go_wp2;have ak:=(an.o.kept (r.o (Zk #[Zi U,Zi V,Zt X] 67))).step (x:=(U,V,X)) ac.o ax.o cl z (ap.imp_right (λe=>Nat.le_of_eq e.symm));have br:=pU (Bq qz (n,st,bs)) (x:=(U,V,X)) hlt2 a8.o (by rw[HL.o];exact HX.o);rw[<-bd.o] at br;rw[br] at ak;have cz:=(am.o.lt q rfl).1;have cm:=((E.Ad am.o (r.o (Zk #[Zi U,Zi V,Zt X] 67))).kept z (.inr (λe=>bi.o i _ ac.o q e.symm rfl))).kept (E.Ar w6 (gb+1) i (Zs (some (Zd g 0)) (l.length+1) az)) (.inr (λe=>by simp[Value.ownBlock] at e;omega));have cg:=(E.Bj (a6.o.trans ((r.o (Zk #[Zi U,Zi V,Zt X] 67)).mono (VC s2))) (E.Ad ab.o (r.o _)) z (by simp;omega)).setCell (p:=Zd (gb+1) i) (XB _) (Zs (some (Zd g 0)) (l.length+1) az);exact⟨⟨i+1,by omega,by go_num,⟨_,Aa ak,Aa (bi.o.step (H:=Wb.1.size+1) ac.o (ap.imp_right (λe=>by rw[e];simp)) (λq' e=>by simp[Value.ownBlock] at e;omega))⟩,Aa cm,Aa cg⟩,by simp[intOf];omega⟩
       have cj:¬(i:Int)<(n:Int):=by omega
       have ei:i=n:=by omega
       have b8:Hid (RI (gb+1) (gb+1) wr us (Jm (Bq qz (n,st,bs)) d n (j+1) 0)):=Aa (by rw[<-mJ,<-ei];rw[ei] at f ⊢;exact f.o)
       have a4:Hid (∀c∈d.take (j+1),(Bq qz (n,st,bs) c).length=n):=Aa (by
        intro c hc;rw[E.Br a8.o,List.mem_append,List.mem_singleton] at hc
        rcases hc with hc|rfl
        ·exact ae.o c hc
        rw[HL.o];exact al.o)
       clear ei;go_wp2;exact⟨⟨j+1,by omega,by go_num,a4,⟨us,b8⟩,h⟩,by simp[intOf];omega⟩
     have cs:((L.length:Int)==(n:Int))=false:=by simp;omega
     have HR:=Aa (tF bf.o (by rw[HL.o];exact hlen));clear hlen;go_wp2_with fail;apply HV.o.mono;rintro e w5⟨v5,rfl,D,h⟩;obtain⟨va,vc,rfl,cp⟩:=E.Ak D;have ch:=Ap (Ap aj o) h;clear D;go_wp2;go_ret2;rw[HR.o];exact⟨rfl,ch⟩
    have bq:¬(j:Int)<(d.length:Int):=by omega
    have ej:j=d.length:=by omega
    have HR:=Aa (mC HW.o (λc hc=>by rw[ej,Yg] at ae;exact ae.o c hc))
    have b7:Hid (yF w.1.size wr (Zs (some (Zd (gb+1) 0)) n n) (Lh qz (n,st,bs) d)):=Aa (by have hm:=uC qz (n,st,bs) d;simp only at hm;rw[<-hm];have h3:=ad.o;rw[ej] at h3;have h4:=h3.AIj (I:=w.1.size) (by have:=b3.o;omega);rwa[Ka] at h4)
    have aj:=(bb.o wr a3.o).2.2.2.2.2;clear ej;go_wp2;go_ret2;rw[HR.o];exact⟨_,rfl,b7.o,aj⟩
theorem AOw(k:Nat)(c d l:Tv)(qz:List Aj)(gs:List Fk)(g:Fk)(a:List Aj)(w:Tw)(q:Hm w c d (qz,gs))(s:gs[k]? = some g)(t:F7 7 Cc w l a)(i:a.length<=8)(f:1<=qz.length)(p:qz.length<=8)(j:∀b∈g.2.2,b.length<=1000000):
 Zc 110 #[Zg #[c,d],Zi k,l] w (dM (Ew qz g a) w) :=
 (AFP k c d l qz gs g a w q s t i f p j).mono λe u h=>by
   cases hr:Ew qz g a with
   | none=>rw[hr] at h;exact h
   | some r=>rw[hr] at h;obtain⟨v,m,f,n⟩:=h;exact⟨v,m,f.o,n⟩
theorem AG2{qz:List Aj}(n:pos qz c.1<qz.length)(d:∀b∈g.2.2,b.length<=1000000):∀v∈Bq qz g c,Ks v/\v.2.2.size<=maxLen:=by
 unfold Bq;rw[Yae n];intro v a;cases hd:E.Ll (kd (qz[pos qz c.1]?.getD zC)) (g.2.2[pos qz c.1]?.getD []) with
 | none=>rw[hd] at a;simp at a
 | some m=>
   rw[hd] at a;obtain⟨_,_,l⟩:=E.l3 hd
   have j:(g.2.2[pos qz c.1]?.getD []).length<=1000000:=by
    cases hx:g.2.2[pos qz c.1]? with
    | none=>simp
    | some b=>exact d b (XA hx)
   have e:=(E.nO (k:=kd (qz[pos qz c.1]?.getD zC)) j).1;rw[<-l] at e;obtain⟨f,h,i⟩:=e v a;exact⟨⟨f,h⟩,i⟩
theorem AD7{qz l:List Aj}(h:Ew qz g l=some r)(f:∀c∈l,pos qz c.1<qz.length)(a:∀b∈g.2.2,b.length<=1000000):∀row∈r,∀v∈row,Ks v/\v.2.2.size<=maxLen:=by
 unfold Ew at h;split at h
 ·injection h with h
  subst h;intro row d v i;unfold Lh at d;obtain⟨j,_,rfl⟩:=List.mem_map.1 d;obtain⟨c,e,rfl⟩:=List.mem_map.1 i;cases hx:(Bq qz g c)[j]? with
  | none=>exact⟨AEv,XG _⟩
  | some u=>exact AG2 (f c e) a u (XA hx)
 cases h
theorem sX{qz l:List Aj}(e:∀c∈l,pos qz c.1<qz.length):∀{gs:List Fk}{acc qj:List (List V)},Fb qz l acc gs=some qj->(∀g∈gs,∀b∈g.2.2,b.length<=1000000)->(∀row∈acc,∀v∈row,Ks v/\v.2.2.size<=maxLen)->∀row∈qj,∀v∈row,Ks v/\v.2.2.size<=maxLen
 | [],acc,qj,h,_,ha=>by rw[Fb] at h;injection h with h;subst h;exact ha
 | g :: gs,acc,qj,h,hs,ha=>by
   cases hr:Ew qz g l with
   | none=>rw[Nb hr] at h;cases h
   | some r=>
     rw[Nx hr] at h;refine sX e h (λf i=>hs f (Yd _ i)) (λrow a=>?_)
     rcases List.mem_append.1 a with d|d
     ·exact ha row d
     exact AD7 hr e (hs g Ye) row d
theorem ABu{qz l:List Aj}(h:Ew qz g l=some r)(b:1<=qz.length)(c:qz.length<=8):AEE g:=by
 unfold Ew at h;split at h
 ·rename_i a
  rw[XD] at a;have a:=a.1;simp only[Gb,decide_eq_true_eq] at a;exact⟨by omega,by omega,by omega,by omega⟩
 cases h
theorem lM{qz l:List Aj}(b:1<=qz.length)(c:qz.length<=8):∀{gs:List Fk}{acc qj:List (List V)},Fb qz l acc gs=some qj->∀g∈gs,AEE g
 | [],_,_,_=>by simp
 | g :: gs,acc,qj,h=>by
   cases hr:Ew qz g l with
   | none=>rw[Nb hr] at h;cases h
   | some r=>
     rw[Nx hr] at h;intro d a
     rcases List.mem_cons.1 a with rfl|a
     ·exact ABu hr b c
     exact lM b c h d a
theorem ADP{l:List Aj}{qj:List (List V)}{f:s9}(h:J9 l qj=some f)(b:1<=l.length)(c:l.length<=8):(∀g∈f.2,AEE g)/\f.2.length<=qj.length+5:=by
 unfold J9 at h;split at h
 ·injection h with h
  subst h;refine⟨λg a=>?_,?_⟩
  ·obtain⟨p,_,rfl⟩:=List.mem_map.1 a
   refine⟨?_,?_,?_,?_⟩ <;> simp[An] <;> omega
  simp[Ay,parts,aF];omega
 cases h
theorem lR(l:List Aj):∀c∈A7 l,pos l c.1<l.length:=λc a=>by
 have b:c.1∈ids l:=by rw[<-(Gh l).1];exact List.mem_map.2 ⟨c,a,rfl⟩
 have:=List.idxOf_lt_length_of_mem b;unfold pos;simpa[ids] using this
theorem AM2(l:List Aj):∀x∈A7 l,x.2.1.size<=maxLen/\x.2.2.2.2.2.2.size<=maxLen:=λx a=>by
 unfold A7 at a;obtain⟨i,_,rfl⟩:=List.mem_map.1 a;constructor
 ·show (I3 i).size<=maxLen
  have:(I3 i).size=2:=rfl;rw[this];unfold maxLen;omega
 show (ByteArray.mk #[]).size<=maxLen;exact XG _
theorem rN{qz:List Aj}{gs:List Fk}(h:Be (A7 qz) 1099511627777=false):madeB (qz,gs)=false:=by unfold madeB Lf;rw[h];rfl
theorem bL{qz:List Aj}{gs:List Fk}(h:Fb qz (A7 qz) [] gs=none):madeB (qz,gs)=false:=by unfold madeB;simp only[h,W0]
theorem AC3{qz:List Aj}{gs:List Fk}{qj:List (List V)}(h:Fb qz (A7 qz) [] gs=some qj)(a:J9 (A7 qz) qj=none):madeB (qz,gs)=false:=by unfold madeB;simp only[h,a,W0]
theorem wP{qz:List Aj}{gs:List Fk}{qj:List (List V)}{f:s9}{b:Bool}(c:Be (A7 qz) 1099511627777=true)(h:Fb qz (A7 qz) [] gs=some qj)(d:J9 (A7 qz) qj=some f)(a:b=true↔gs=f.2):madeB (qz,gs)=b:=by
 unfold madeB Lf;simp only[c,h,d,Bool.true_and];cases b with
 | true=>simpa using a.1 rfl
 | false=>simp;intro e;cases a.2 e
theorem AFk(cv gv:Tv)(qz:List Aj)(gs:List Fk)(w:Tw)(hF:Hm w cv gv (qz,gs))(h8:qz.length<=8)(az:∀g∈gs,∀b∈g.2.2,b.length<=1000000)(bp:gs.length<=60)(hw:Lw w)(q:Ob w):
 Zc 137 #[Zg #[cv,gv]] w λe w'=>e=Zr (Zo (madeB (qz,gs)))/\Below w.1.size w w':=by
 have HF:=Aa hF;have au:=Aa az;have HW:=Aa hw;have HG:=Aa q;obtain⟨hC,hG⟩:=hF;obtain⟨P,R,rfl,_⟩:=hG.slice;obtain⟨N,O,rfl,_⟩:=hC.slice;have ae:Below w.1.size w (w.alloc (Zk #[Zs N qz.length O,Zs P gs.length R] 146)):=Zal;obtain⟨f0,f1⟩:=Hg (Yac w (Zk #[Zs N qz.length O,Zs P gs.length R] 146));have ar:=Aa (ADI (Zs N qz.length O) qz _ (hC.up ae) h8)
 have s:Hid (∀W,Below (w.1.size+1) (w.alloc (Zk #[Zs N qz.length O,Zs P gs.length R] 146)) W->W.cell? (Zd w.1.size 0)=some (Zs N qz.length O)/\W.cell? (Zd w.1.size 1)=some (Zs P gs.length R)/\Below w.1.size w W):=Aa (λW hW=>by
  have ad:Below (w.alloc (Zk #[Zs N qz.length O,Zs P gs.length R] 146)).1.size (w.alloc (Zk #[Zs N qz.length O,Zs P gs.length R] 146)) W:=by change Below _ _ _;rw[XE];exact hW
  exact⟨Ag ad f0,Ag ad f1,Ap ae ad⟩)
 obtain⟨iS,aw,a7,U,X⟩:=info_parts eI;have t:=Zy aw a7 U X;clear hC hG az hw q aw a7 U X ae;go_enter func137,ntmps137;go_wp2_with fail;apply ar.o.mono;rintro e w1⟨v1,rfl,aj,D⟩;obtain⟨pa,pc,rfl,_⟩:=E.Ak aj;have f:Below (w.1.size+1) (w.alloc (Zk #[Zs N qz.length O,Zs P gs.length R] 146)) w1:=by change Below _ _ _ at D;rw[XE] at D;exact D
 obtain⟨q0,q1,p⟩:=s.o w1 f;have ax:=f.size;rw[XE] at ax;have ap:=Aa (F7.Fz (k:=7) (enc:=Cc) (λ_=>rfl) aj (Cx qz).symm);have y:=Aa (kR (Zs pa qz.length pc) (A7 qz) 1099511627777 w1 ap.o (by rw[Cx];omega) (AM2 qz) (HW.o.below p));have a8:=Aa f;have am:=Aa p;clear D f aj ar p f0 f1;cases hR:Be (A7 qz) 1099511627777 with
 | false=>rw[hR] at y;have bc:=Aa (rN (gs:=gs) hR);go_wp2_with fail;apply y.o.mono;rintro e w2⟨rfl,c⟩;go_wp2;go_ret;rw[bc.o];exact⟨rfl,Ap am.o c⟩
 | true=>
   rw[hR] at y;have HR:=Aa hR;have ai:1<=qz.length:=by have:=(K5.1 hR).one;rwa[Cx] at this
   clear hR;go_wp2_with fail;apply y.o.mono;rintro e w2⟨rfl,c⟩;have ac:=a8.o.trans (c.mono ax);obtain⟨q0,q1,bk⟩:=s.o w2 ac;have aq:=Aa (ap.o.up c);have bq:=c.size;go_wp2
   go_loopw [4,19] (λvo vi wr=>∃(k:Nat)(acc:List (List V)),k<=gs.length/\vi=Zi k/\acc.length<=6*k/\Hid (Fb qz (A7 qz) [] gs=Fb qz (A7 qz) acc (gs.drop k))/\Hid (Sc w2.1.size wr vo acc)/\Hid (Below w2.1.size w2 wr)) (λ_ vi _=>gs.length-(intOf vi).toNat)
   case atStart=>exact⟨0,[],XG _,rfl,by simp,Aa rfl,Aa (ABG _ _),Aa (XF _ _)⟩
   case round=>
    obtain⟨k,acc,hk,rfl,bj,I,J,o⟩:=hrel;obtain⟨q0,q1,d⟩:=s.o wr (ac.trans (o.o.mono (by omega)));have a0:=o.o.size;have M:=Aa (aq.o.up o.o);have bb:=Aa (HF.o.up d)
    by_cases hlt:k<gs.length
    ·obtain⟨g,q⟩:∃g,gs[k]? = some g:=⟨_,Y' hlt⟩
     have z:=Aa (AOw k _ _ (Zs pa qz.length pc) qz gs g (A7 qz) wr bb.o q M.o (by rw[Cx];exact h8) ai h8 (au.o g (XA q)));have an:Hid (Fb qz (A7 qz) [] gs=Fb qz (A7 qz) acc (g :: gs.drop (k+1))):=Aa (by rw[I.o,Yl hlt];rw[Y' hlt] at q;injection q with q;rw[q]);have bf:(k:Int)<(gs.length:Int):=by omega
     obtain⟨vs,a3,al,a4⟩:=J.o;obtain⟨oa,oc,rfl,_⟩:=E.Ak al;have ab:=Aa (And.intro a3 (And.intro al a4));clear q I a3 al a4 J;cases i:Ew qz g (A7 qz) with
     | none=>rw[i] at z;have L:=Aa (bL (by rw[an.o,Nb i]));clear i;go_wp2_with fail;apply z.o.mono;rintro e w3⟨rfl,h⟩;go_wp2;go_ret;rw[L.o];exact⟨rfl,Ap d h⟩
     | some r=>
       rw[i] at z;obtain⟨bi,bh⟩:=ACn i;have bl:r.length<=6:=by omega
       have L:Hid (Fb qz (A7 qz) [] gs=Fb qz (A7 qz) (acc++r) (gs.drop (k+1))):=Aa (by rw[an.o,Nx i]);clear i bi bh;go_wp2_with fail;apply z.o.mono;rintro e w3⟨v1,rfl,⟨us,a1,ak,a2⟩,h⟩;obtain⟨ra,rc,rfl,_⟩:=E.Ak ak;have l:=Aa (And.intro a1 (And.intro ak a2));have aa:=Aa (E.Ad ab.o.2.1 h);have br:=h.size;clear a1 ak a2;go_wp2_with (at_builtin;refine E.Ck rfl _ _ 33 rfl w2.1.size 71 iS (.slice none 0 0) 1 24 underlying33 t.o.1 t.o.2.1 t.o.2.2.1 t.o.2.2.2 rfl (by decide) _ _ _ rfl aa.o _ _ _ _ rfl l.o.2.1 (Sc.one l.o.1 l.o.2.2) ?f1 ?f2 ?f3 ?_)
       case f1=>unfold maxLen;omega
       case f2=>omega
       case f3=>omega
       intro v2 w4 bg av;have ay:=Sc.app ab.o.1 l.o.1 aa.o (λj x r hx i=>E.Ad (ab.o.2.2 j x r hx i) h) l.o.2.2 bg av;have c:=E.Bj (o.o.trans (h.mono a0)) aa.o av (by omega);go_wp2;exact⟨⟨k+1,acc++r,by omega,by go_num,by simp;omega,L,Aa ay,Aa c⟩,by simp[intOf];omega⟩
    have ek:k=gs.length:=by omega
    have L:Hid (Fb qz (A7 qz) [] gs=some acc):=Aa (by rw[I.o,ek,VF];rfl);have bf:¬(k:Int)<(gs.length:Int):=by omega
    have bo:acc.length<=360:=by omega
    have ao:=Aa (sX (lR qz) L.o au.o (by simp));have u:=Aa (rW (Zs pa qz.length pc) _ (A7 qz) acc wr M.o J.o.slr (by rw[Cx];omega) (by omega) (AM2 qz) (λr i v hv=>(ao.o r i v hv).2) (λr i v hv=>(ao.o r i v hv).1) (HW.o.below d) (HG.o.below d));obtain⟨oa,oc,rfl,_⟩:=J.o.slr.slice;clear ek I;cases hm:J9 (A7 qz) acc with
    | none=>rw[hm] at u;have Y:=Aa (AC3 L.o hm);clear hm;go_wp2_with fail;apply u.o.mono;rintro e w5⟨T5,v5,rfl,n⟩;have af:=(Ap d n).alloc (by have:=n.size;have:=d.size;omega) (Zk #[Zs none 0 0,Zs none 0 0] 146);go_wp2;go_ret;rw[Y.o];exact⟨rfl,af⟩
    | some f'=>rw[hm] at u;obtain⟨l',a⟩:=f';go_wp2_with fail;apply u.o.mono;rintro e w5⟨bm,bn,rfl,m,n⟩;obtain⟨a5,c5,rfl,_⟩:=m.1.slice;obtain⟨a6,c6,rfl,_⟩:=m.2.slice;dsimp only at m ⊢;have G:Below w5.1.size w5 (w5.alloc (Zk #[Zs a5 l'.length c5,Zs a6 a.length c6] 146)):=Zal;have T:=Ap (Ap d n) G;obtain⟨q0,q1,_⟩:=s.o (w5.alloc (Zk #[Zs a5 l'.length c5,Zs a6 a.length c6] 146)) ((ac.trans (o.o.mono (by omega))).trans ((Ap n G).mono (by omega)));obtain⟨x0,x1⟩:=Hg (Yac w5 (Zk #[Zs a5 l'.length c5,Zs a6 a.length c6] 146));obtain⟨ah,ag⟩:=ADP hm (by rw[Cx];exact ai) (by rw[Cx];exact h8);dsimp only at ah ag;have ba:=Aa (zR (Zs P gs.length R) (Zs a6 a.length c6) gs a _ (HF.o.up T).2 (m.2.up G) (by omega) (by have:=ag;omega) (lM ai h8 L.o) ah);have Y:=Aa (wP HR.o L.o hm (P5 ABk gs a));have a9:=Aa T;clear ah ag m hm G;go_wp2_with fail;apply ba.o.mono;rintro e w6⟨rfl,af⟩;have bd:=Ap a9.o af;go_wp2;go_ret;rw[Y.o];exact⟨rfl,bd⟩
theorem A4{b i:Nat}{cs:Array Tv}{T:TypeId}(h:W.1[b]? = some (Zk cs T))(a:cs[i]? = some v):W.cell? (Zd b i)=some v:=by simp[World.cell?,h,a]
def ADK(r:Option (List UInt8))(w:World)(e:Ending)(a:World):Prop:=match r with
 | none=>e=.returned (.tuple #[.string ⟨#[]⟩,.iface 91 (Zi 1)])/\Zb w a
 | some b=>e=.returned (.tuple #[.string (E.str b),.nilIface])/\Zb w a
def Fj(qz:List Aj)(k:Nat):List UInt8:=Lib.uvarint qz.length++(qz.take k).flatMap Eg
def Fl(qz:List Aj)(gs:List Fk)(k:Nat):List UInt8:=(Fj qz qz.length++Lib.uvarint gs.length)++(gs.take k).flatMap Bh
theorem xF(qz:List Aj)(gs:List Fk):Fl qz gs gs.length=Cq (qz,gs):=by unfold Fl Fj Cq;rw[Yg,Yg];simp
theorem qG{qz:List Aj}(h:qz[k]? = some c):Fj qz (k+1)=(Fj qz k++Lib.uvarint c.1.toNat)++Lib.uvarint (kd c).toNat:=by unfold Fj;rw[E.Br h];simp[Eg]
theorem qJ{qz:List Aj}{gs:List Fk}(h:gs[k]? = some g):Fl qz gs (k+1)=Fl qz gs k++Bh g:=by unfold Fl;rw[E.Br h];simp
theorem xB{qz:List Aj}(o:qz.length<=8)(h:∀c∈qz,0<=c.1/\c.1<=1099511627776/\0<=kd c/\kd c<=2)(k:Nat):(Fj qz k).length<=200:=by
 unfold Fj;have i:(Lib.uvarint qz.length).length<=10:=Lib.uvarint_length64 (by omega)
 have j:=Mp Eg 20 (l:=qz.take k) (λc f=>by obtain⟨a,b,d,e⟩:=h c (Ym f);have m:(Lib.uvarint c.1.toNat).length<=10:=Lib.uvarint_length64 (by omega);have g:(Lib.uvarint (kd c).toNat).length<=10:=Lib.uvarint_length64 (by omega);simp only[Eg,XC];omega)
 have g:(qz.take k).length<=8:=by rw[XR];omega
 have n:=Yo 20 g;rw[XC];omega
theorem Xi{qz:List Aj}{gs:List Fk}(h:madeB (qz,gs)=true):Be (A7 qz) 1099511627777=true/\∃qj,Fb qz (A7 qz) [] gs=some qj:=by
 constructor
 ·cases hr:Be (A7 qz) 1099511627777 with
  | true=>rfl
  | false=>rw[rN hr] at h;cases h
 cases ha:Fb qz (A7 qz) [] gs with
 | some qj=>exact⟨qj,rfl⟩
 | none=>rw[bL ha] at h;cases h
theorem ACG{qz:List Aj}{gs:List Fk}(h:madeB (qz,gs)=true):∀c∈qz,0<=c.1/\c.1<=1099511627776/\0<=kd c/\kd c<=2:=λc e=>by
 obtain⟨d,f,a,b⟩:=Sk (show Es qz (A7 qz) from⟨(Gh qz).1.symm,(Gh qz).2.symm⟩) e;have:=Wg (K5.1 (Xi h).1) f;rwa[a,b] at this
theorem Xk{qz l:List Aj}:∀{gs:List Fk}{acc qj:List (List V)},Fb qz l acc gs=some qj->∀g∈gs,g.1<=6/\g.2.2.length=qz.length
 | [],_,_,_=>by simp
 | g :: gs,acc,qj,h=>by
   cases hr:Ew qz g l with
   | none=>rw[Nb hr] at h;cases h
   | some r=>
     rw[Nx hr] at h;intro c b
     rcases List.mem_cons.1 b with rfl|b
     ·unfold Ew at hr
      split at hr
      ·rename_i a
       rw[XD] at a;have a:=a.1;simp only[Gb,decide_eq_true_eq] at a;exact⟨a.2.2.2,a.2.1⟩
      cases hr
     exact Xk h c b
theorem AJQ(n:Nat):0<(Lib.uvarint n).length:=by rw[Lib.uvarint];split <;> simp
theorem cR(d:g.1<=6)(c:g.2.2.length<=8)(a:∀b∈g.2.2,b.length<=1000000):(Bh g).length<=9000000:=by have h:=Xz d a g.2.2.length;rw[X5] at h;have:g.2.2.length*1000010<=8*1000010:=Yo _ c;omega
theorem lH(cv gv:Tv)(qz:List Aj)(gs:List Fk)(w:Tw)(hF:Hm w cv gv (qz,gs))(h8:qz.length<=8)(ah:∀g∈gs,∀b∈g.2.2,b.length<=1000000)(bs:gs.length<=60)(q:Lw w)(I:Ob w):
 Zc 78 #[Zg #[cv,gv]] w (ADK (Jn (qz,gs)) w):=by
 have HF:=Aa hF;have bf:=Aa ah;have am:=Aa (λW(hW:Below w.1.size w W)=>AFk cv gv qz gs W (hF.up hW) h8 ah bs (q.below hW) (I.below hW));obtain⟨hC,hG⟩:=hF;obtain⟨Y,gc,rfl,_⟩:=hG.slice;obtain⟨T,V,rfl,_⟩:=hC.slice;have n:Below w.1.size w (w.alloc (Zk #[Zs T qz.length V,Zs Y gs.length gc] 146)):=Zal;obtain⟨f0,f1⟩:=Hg (Yac w (Zk #[Zs T qz.length V,Zs Y gs.length gc] 146))
 have a1:Hid (∀W,Below (w.1.size+1) (w.alloc (Zk #[Zs T qz.length V,Zs Y gs.length gc] 146)) W->W.cell? (Zd w.1.size 0)=some (Zs T qz.length V)/\W.cell? (Zd w.1.size 1)=some (Zs Y gs.length gc)/\Below w.1.size w W):=Aa (λW hW=>by
  have aa:Below (w.alloc (Zk #[Zs T qz.length V,Zs Y gs.length gc] 146)).1.size (w.alloc (Zk #[Zs T qz.length V,Zs Y gs.length gc] 146)) W:=by change Below _ _ _;rw[XE];exact hW
  exact⟨Ag aa f0,Ag aa f1,Ap n aa⟩)
 have r:=Aa (am.o _ n);clear hC hG ah q I;cases hm:madeB (qz,gs) with
 | false=>rw[hm] at r;have HE:Hid (Jn (qz,gs)=none):=Aa (by unfold Jn;rw[Yad (by simp[hm])]);clear hm;have ak:=Aa n;clear n;go_enter func78,ntmps78;go_wp2_with fail;apply r.o.mono;rintro e d⟨rfl,o⟩;go_wp2;go_ret2;rw[HE.o];exact⟨rfl,Ap ak.o o⟩
 | true=>
   rw[hm] at r;have HM:=Aa hm;have HE:Hid (Jn (qz,gs)=some (Cq (qz,gs))):=Aa (by unfold Jn;rw[Yae hm]);clear hm;have ak:=Aa n;clear n;go_enter func78,ntmps78;go_wp2_with fail;apply r.o.mono;rintro e d⟨rfl,o⟩;have s:Below (w.1.size+1) (w.alloc (Zk #[Zs T qz.length V,Zs Y gs.length gc] 146)) d:=by change Below _ _ _ at o;rw[XE] at o;exact o
   obtain⟨q0,q1,G⟩:=a1.o d s;have bv:=s.size;rw[XE] at bv;have u:=Aa (E.Dq d.1.size 0 qz.length (by omega) (Zs none 0 0) [] d (XL _ _ _ _) (XB _) (by omega));go_wp2_with fail;apply u.o.mono;rintro e w2⟨v2,rfl,x,ai⟩;rw[WU] at x;obtain⟨a2,c2,rfl,_⟩:=E.Ak x
   have a9:Hid (w2.ownsRow d.1.size 5 1 (Zs a2 (Lib.uvarint qz.length).length c2) (Fj qz 0).length (Lib.byteCells (Fj qz 0))):=Aa (by
    have e0:Fj qz 0=Lib.uvarint qz.length:=by simp[Fj]
    rw[e0];simpa using x)
   have bg:=Aa ai;have al:=Aa (ACG HM.o);have bj:=Aa (Xk (Xi HM.o).2.choose_spec);have D:=Aa (xB h8 al.o);have b7:=(ai.1.cell (p:=Zd w.1.size 0) (by show w.1.size<_;omega)).trans q0;have bd:=Aa q1;have z:=Aa G;clear x ai u o s q0 q1 G r am f0 f1;go_wp2
   go_loopw [4,21] (λvb vi wr=>∃k:Nat,k<=qz.length/\vi=Zi k/\Hid (wr.ownsRow d.1.size 5 1 vb (Fj qz k).length (Lib.byteCells (Fj qz k)))/\Hid (E.Wr d.1.size d wr)) (λ_ vi _=>qz.length-(intOf vi).toNat)
   case atStart=>exact⟨0,XG _,rfl,a9,bg⟩
   case round=>
    obtain⟨k,hk,rfl,ho,q⟩:=hrel;obtain⟨b3,b0,rfl,_⟩:=E.Ak ho.o;have t:=q.o.1.size;have f:Below w.1.size w wr:=z.o.trans (q.o.1.mono (by omega))
    by_cases hlt:k<qz.length
    ·obtain⟨⟨c1,c2,c3,c4,c5,c6,c7⟩,hc⟩:∃c,qz[k]? = some c:=⟨_,Y' hlt⟩
     obtain⟨g1,g2,g3,g4⟩:=al.o _ (XA hc);dsimp only [kd] at g1 g2 g3 g4;have m:=Aa (qG hc);obtain⟨lb,lo,b5,el,_,b4,i⟩:=(HF.o.up f).1.cons (by show 0<qz.length;omega);injection el with bp em bq;clear em;subst bp bq;obtain⟨q0,q1,q2,q3,q4,q5,q6⟩:=F8 i hc;obtain⟨n1,rfl⟩:=WT g1;obtain⟨n3,rfl⟩:=WT g3;dsimp only [kd] at m;rw[VD,VD] at m;have a:=D.o k;have bu:(k:Int)<(qz.length:Int):=by omega
     have au:(Lib.uvarint n1).length<=10:=Lib.uvarint_length64 (by omega);have l:=Aa (Yac wr (Zk #[Zi n1,Zt c2,Zi n3,Zo c4,Zi c5,Zi c6,Zt c7] 69));have x0:(wr.alloc (Zk #[Zi n1,Zt c2,Zi n3,Zo c4,Zi c5,Zi c6,Zt c7] 69)).cell? (Zd wr.1.size 0)=some (Zi n1):=A4 l.o rfl;have u:=Aa (E.Dq d.1.size (Fj qz k).length n1 (by omega) _ _ _ (ho.o.alloc (Zk #[Zi n1,Zt c2,Zi n3,Zo c4,Zi c5,Zi c6,Zt c7] 69)) (by simp;omega) (by omega));have R:=Aa (q.o.alloc t (Zk #[Zi n1,Zt c2,Zi n3,Zo c4,Zi c5,Zi c6,Zt c7] 69));have O:=Aa (And.intro a au);clear i hc a au;go_wp2_with fail;apply u.o.mono;rintro e w3⟨v3,rfl,ad,y⟩;obtain⟨a3,d3,rfl,_⟩:=E.Ak ad;have x2:w3.cell? (Zd wr.1.size 2)=some (Zi n3):=A4 (E.Hw y l.o (by decide)) rfl;have ay:=Aa (E.Dq d.1.size _ n3 (by omega) _ _ w3 ad (by have:=y.1.size;simp at this;omega) (by have:=O.o;omega));have bk:=Aa (R.o.trans y);clear ad y q0 q1 q2 q3 q4 q5 q6 x0;go_wp2_with fail;apply ay.o.mono;rintro e w4⟨v4,rfl,ae,aw⟩;obtain⟨a4,d4,rfl,_⟩:=E.Ak ae
     have ba:Hid (w4.ownsRow d.1.size 5 1 (Zs a4 ((Fj qz k).length+(Lib.uvarint n1).length+(Lib.uvarint n3).length) d4) (Fj qz (k+1)).length (Lib.byteCells (Fj qz (k+1)))):=Aa (by rw[m.o,E.Bg,E.Bg];simpa[W3] using ae)
     have bh:=Aa (bk.o.trans aw);clear ae aw;go_wp2;exact⟨⟨k+1,by omega,by go_num,ba,bh⟩,by simp[intOf];omega⟩
    have ek:k=qz.length:=by omega
    have bu:¬(k:Int)<(qz.length:Int):=by omega
    have q1:=(q.o.1.cell (p:=Zd w.1.size 1) (by show w.1.size<_;omega)).trans bd.o;have a:=D.o k;have az:=Aa (E.Dq d.1.size (Fj qz k).length gs.length (by omega) _ _ wr ho.o (by omega) (by omega));have HK:=Aa ek;have av:(Lib.uvarint gs.length).length<=10:=Lib.uvarint_length64 (by omega);have O:=Aa (And.intro a av);clear ek a av;go_wp2_with fail;apply az.o.mono;rintro e w5⟨v5,rfl,af,aj⟩;obtain⟨a5,d5,rfl,_⟩:=E.Ak af;have b8:=(aj.1.cell (p:=Zd w.1.size 1) (by show w.1.size<_;omega)).trans q1
    have bb:Hid (w5.ownsRow d.1.size 5 1 (Zs a5 ((Fj qz k).length+(Lib.uvarint gs.length).length) d5) (Fl qz gs 0).length (Lib.byteCells (Fl qz gs 0))):=Aa (by
     have e0:Fl qz gs 0=Fj qz k++Lib.uvarint gs.length:=by rw[HK.o];simp[Fl]
     rw[e0,E.Bg];simpa using af)
    have ap:=Aa (q.o.trans aj);clear af aj q1;go_wp2;have bz:=ap.o.1.size
    go_loopw [4,45] (λvb vi wr=>∃j:Nat,j<=gs.length/\vi=Zi j/\(Fl qz gs j).length<=300+j*9000000/\Hid (wr.ownsRow d.1.size 5 1 vb (Fl qz gs j).length (Lib.byteCells (Fl qz gs j)))/\Hid (E.Wr d.1.size d wr)) (λ_ vi _=>gs.length-(intOf vi).toNat)
    case atStart=>
     refine⟨0,XG _,rfl,?_,bb,ap⟩;have e0:Fl qz gs 0=Fj qz k++Lib.uvarint gs.length:=by rw[HK.o];simp[Fl]
     have:=O.o;rw[e0,XC];omega
    case round=>
     obtain⟨j,hj,rfl,b2,ho,q⟩:=hrel;obtain⟨b6,v,rfl,_⟩:=E.Ak ho.o;have t:=q.o.1.size;have f:Below w.1.size w wr:=z.o.trans (q.o.1.mono (by omega))
     by_cases hlt:j<gs.length
     ·obtain⟨g,I⟩:∃g,gs[j]? = some g:=⟨_,Y' hlt⟩
      obtain⟨gb,go,gd,J,L,M,N,eg,_,p0,p1,p2,aq⟩:=HF.o.2.get I;replace p0:=Ag f p0;replace p1:=Ag f p1;replace p2:=Ag f p2;injection eg with bn em bo;clear em;subst bn bo;obtain⟨ac,br⟩:=bj.o g (XA I);have ao:=Aa (bf.o g (XA I));have ar:=cR ac (by omega) ao.o;have m:=Aa (qJ (qz:=qz) I);have bt:(j:Int)<(gs.length:Int):=by omega
      have l:=Aa (Yac wr (Zk #[Zi g.1,Zs J g.2.1.length L,Zs M g.2.2.length N] 207));have x0:(wr.alloc (Zk #[Zi g.1,Zs J g.2.1.length L,Zs M g.2.2.length N] 207)).cell? (Zd wr.1.size 0)=some (Zi g.1):=A4 l.o rfl;have x1:(wr.alloc (Zk #[Zi g.1,Zs J g.2.1.length L,Zs M g.2.2.length N] 207)).cell? (Zd wr.1.size 1)=some (Zs J g.2.1.length L):=A4 l.o rfl;have x2:(wr.alloc (Zk #[Zi g.1,Zs J g.2.1.length L,Zs M g.2.2.length N] 207)).cell? (Zd wr.1.size 2)=some (Zs M g.2.2.length N):=A4 l.o rfl;have a0:=Aa (aI d.1.size (Fl qz gs j).length _ _ g J g.2.1.length L (Zs M g.2.2.length N) w _ (ho.o.alloc (Zk #[Zi g.1,Zs J g.2.1.length L,Zs M g.2.2.length N] 207)) (by omega) (by simp;omega) (f.alloc (by omega) _) aq.2.2 ac (by omega) ao.o (by omega));have R:=Aa (q.o.alloc t (Zk #[Zi g.1,Zs J g.2.1.length L,Zs M g.2.2.length N] 207));have a6:=Aa ar;clear I aq ac br ar;go_wp2_with fail;apply a0.o.mono;rintro e w7⟨v7,rfl,ag,ax⟩;obtain⟨a7,d7,rfl,_⟩:=E.Ak ag
      have bc:Hid (w7.ownsRow d.1.size 5 1 (Zs a7 ((Fl qz gs j).length+(Bh g).length) d7) (Fl qz gs (j+1)).length (Lib.byteCells (Fl qz gs (j+1)))):=Aa (by rw[m.o,E.Bg];simpa using ag)
      have bi:=Aa (R.o.trans ax);have a8:Hid ((Fl qz gs (j+1)).length<=300+(j+1)*9000000):=Aa (by have:=a6.o;rw[m.o,XC];omega);clear ag ax;go_wp2;exact⟨⟨j+1,by omega,by go_num,a8.o,bc,bi⟩,by simp[intOf];omega⟩
     have ej:j=gs.length:=by omega
     have bt:¬(j:Int)<(gs.length:Int):=by omega
     have P:Hid (wr.ownsRow d.1.size 5 1 (Zs b6 (Fl qz gs j).length v) (Cq (qz,gs)).length (Lib.byteCells (Cq (qz,gs)))):=Aa (by have h:=ho.o;rw[ej,xF] at h ⊢;exact h)
     have bw:0<(Cq (qz,gs)).length:=by have:=AJQ qz.length;simp only[Cq,XC];omega
     obtain⟨g8,bx,e8⟩:∃g U,(Value.slice b6 (Fl qz gs j).length v)=Zs (some (Zd g 0)) (Cq (qz,gs)).length U:=by
      rcases P.o.2 with⟨_,h0⟩|⟨g,U,b1,e,_⟩
      ·omega
      exact⟨g,U,e⟩
     injection e8 with bl X bm;subst bl bm;have an:Hid (wr.ownsRow d.1.size 5 1 (Zs (some (Zd g8 0)) (Cq (qz,gs)).length v) (Cq (qz,gs)).length (Lib.byteCells (Cq (qz,gs)))):=Aa (by have h:=P.o;rw[X] at h;exact h);have ab:=run_convert_bytes_back wr 90 9 5 (Zd g8 0) v (Cq (qz,gs)) underlying90 underlying5 underlying9 (λj hj=>an.o.cells rfl j _ (by simp[Lib.byteCells,hj]));rw[<-X] at ab;clear ej X P an bw;go_wp2;go_ret2;rw[HE.o];exact⟨rfl,f⟩
