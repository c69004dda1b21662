import Derived.Test.YtneakjbkbmfleaaGreatDoorRN
import Derived.Stop.Asserts
import Derived.Lib.VarintDec
import Derived.Lib.VarintMem
import Derived.Lib.VarintBits
import Derived.Lib.Zigzag
import Derived.Laws.AppendOwnNone
set_option maxHeartbeats 40000000
set_option maxRecDepth 100000
open Bool renaming and_eq_true->Y',and_eq_false_iff->XM,not_eq_true'->XT
open Nat renaming le_refl->XA,zero_le->XE,le_trans->XG,add_assoc->XQ,add_comm->WD
open List renaming length_append->XB,length_cons->XC,mem_append->XI,mem_cons->XL,getElem?_eq_getElem->XN,mem_of_getElem?->XR,append_assoc->XU,mem_of_mem_drop->XW,drop_succ_cons->XX,take_succ_cons->XY,map_cons->XZ,size_toArray->X6,all_eq_true->WA,length_nil->WB,map_map->WC
open Go.RowKit.Below renaming refl->XD,heap_alloc->XF,heap_setCell->X4
open Go.World renaming ownsRow_nil->XH,block_lt_of_cell?->XO,cell?_alloc_mark->XP,cell?_drewN->X',drewN_drewN->Wb
open Array renaming getElem?_eq_none->XJ,length_toList->XS,getElem?_modify->XV
open Option renaming bind_some->XK
namespace Go.Proofs.YtneakjbkbmfleaaGreatDoor
open Tryz RowKit Lib Joins Maps Extern.Stop Stop Extern Go.Sort Shelf
open Go.Sort (grow)
variable{W:Tw}{u v:Tv}{L:List Gx}
def uK(l:List UInt8)(s:ByteArray)(c:Dn):Prop:=Js l=some c/\Cv c=true/\C6 c=s
def Kx(l:List UInt8)(s:ByteArray)(w:World)(e:Ending)(g:World):Prop :=
 Zb w g/\((∃(tx:ByteArray)(f:Bool)(A:List A5)(a:Option Addr)(d b:Nat),uK l s (tx,f,A)/\e=.returned (.tuple #[.agg #[.string tx,.bool f,.slice a d b],.nilIface])/\Dt g (.slice a d b) A) \/
  ((∀c,¬uK l s c)/\e=.returned (.tuple #[.agg #[.string ⟨#[]⟩,.bool false,.slice none 0 0],.iface 83 (Zi 3)])))
theorem Sa{base:Nat}{t T:TypeId}{z:Nat}{n:Nat}{xs:List Tv}{b i:Nat}{cs:Array Tv}(h:W.ownsRow base t z v n xs)(a:W.heap[b]? = some (Zk cs T (0,0)))(c:t≠T):(W.setCell ⟨b,i,none⟩ u).ownsRow base t z v n xs :=
 Az h (Aq W b i u) (λk f e=>by obtain⟨c1,d⟩:=Ho h f;injection e with e;subst e;rw[d] at a;injection a with a;injection a with _ a;exact c a)
theorem zF{a b:Tb}(h:a.toList=b.toList):a=b:=by rw[ByteArray.toList_eq,ByteArray.toList_eq] at h;obtain⟨x⟩:=a;obtain⟨y⟩:=b;have c:x=y:=Array.toList_inj.1 h;rw[c]
def oW(W:World)(v:Value)(L:List Gx):Prop:=W.ownsRow 0 129 6 v L.length (Ci L)/\∀q∈L,pC 0 W q
theorem oW.up{Y:Tw}(h:oW W v L)(a:Zb W Y):oW Y v L:=⟨Bc h.1 a,λq b=>⟨Bc (h.2 q b).1 a,Bc (h.2 q b).2 a⟩⟩
theorem oW.set{b i:Nat}{cs:Array Tv}(h:oW W v L)(a:W.heap[b]? = some (Zk cs 63 (0,0))):oW (W.setCell ⟨b,i,none⟩ u) v L :=
 ⟨Sa h.1 a (by decide),λq c=>⟨Sa (h.2 q c).1 a (by decide),Sa (h.2 q c).2 a (by decide)⟩⟩
theorem jF(hP:S0)(s:Tb)(w:Tw)(hs:s.size<=1000000)(he:Ik w)(hw:Lw w)(ht:Jp w)(hF:∀tx b A,Js s.data.toList=some (tx,b,A)->A.length<=600000/\tx.size<=maxLen/\∀a∈A,pM a/\(Ch a=true->Fh a)):
 Zc 43 #[Zt s] w (Kx s.data.toList s w):=by
 have r:Hid (Zb w (w.alloc (Zk #[Zt ⟨#[]⟩,Zo false,Zs none 0 0] 63))):=Aa (Zal);have p:=Aa (Yac w (Zk #[Zt ⟨#[]⟩,Zo false,Zs none 0 0] 63));have HR:=Aa (Pq hP s (w.alloc (Zk #[Zt ⟨#[]⟩,Zo false,Zs none 0 0] 63)) hs (he.below r.o));generalize hl:s.data.toList=l at *;cases hc:Js l with
 | none=>
   have y:Hid (Zc 76 #[Zt s] (w.alloc (Zk #[Zt ⟨#[]⟩,Zo false,Zs none 0 0] 63)) λe t=>∃(tx:Tb)(b:Bool)(d:To)(g f:Nat),e=Zr (Zu #[Zg #[Zt tx,Zo b,Zs d g f],Zo false])/\Zb w t/\t.heap[w.heap.size]? = some (Zk #[Zt ⟨#[]⟩,Zo false,Zs none 0 0] 63)):=Aa (HR.o.mono (by
    rintro e t⟨tx,b,d,g,f,ok,rfl,z,⟨_,L,h,_⟩|⟨rfl,_⟩⟩
    ·rw[hc] at h;cases h
    exact⟨tx,b,d,g,f,rfl,Below.Ap r.o z,(z.block _ (Ac p.o)).trans p.o⟩))
   have P:Hid (∀c,¬uK l s c):=Aa (λc h=>by have:=h.1;rw[hc] at this;cases this);clear HR hc hF he hw ht hl p r;go_enter func43,ntmps43
   go_wp2_with (first
    | (go_at_call 76;refine y.o.mono ?_;rintro e u⟨tx,b,d,g,f,rfl,j,i⟩
       have o:Hid (Zb w (u.alloc (Zk #[Zt tx,Zo b,Zs d g f] 63))):=Aa (j.alloc j.size _);have n:=Aa ((XF u (Zk #[Zt tx,Zo b,Zs d g f] 63) _ (Ac i)).trans i);obtain⟨T,U,V,X⟩:=Db n.o;clear j i))
   clear T U V X;obtain⟨M,N,O⟩:=mH (pF _ _ _ _ _ (Zt ⟨#[]⟩) (Zo false) (Zs none 0 0) _ n.o);refine bodyPost_ret (v:=Zu #[Zg #[Zt ⟨#[]⟩,Zo false,Zs none 0 0],Zf 83 (Zi 3)]) (by simp[results,results43,go_sem,M,N,O]) rfl ⟨Fi o.o (XA _) _ _ _,.inr ⟨P.o,rfl⟩⟩
 | some c=>
   obtain⟨tx,b,A⟩:=c;obtain⟨hA,aj,J⟩:=hF tx b A hc
   have y:Hid (Zc 76 #[Zt s] (w.alloc (Zk #[Zt ⟨#[]⟩,Zo false,Zs none 0 0] 63)) λe t=>∃(d:To)(g f:Nat)(L:List Gx),e=Zr (Zu #[Zg #[Zt tx,Zo b,Zs d g f],Zo true])/\Zb w t/\t.heap[w.heap.size]? = some (Zk #[Zt ⟨#[]⟩,Zo false,Zs none 0 0] 63)/\L.map (·.1)=A/\oW t (Zs d g f) L):=Aa (HR.o.mono (by
    rintro e t⟨ao,am,d,g,f,ok,rfl,z,⟨rfl,L,h,ak,h1,h2⟩|⟨rfl,h⟩⟩
    ·rw[hc] at h
     simp only[Option.some.injEq,Prod.mk.injEq] at h;obtain⟨rfl,rfl,rfl⟩:=h;exact⟨d,g,f,L,rfl,Below.Ap r.o z,(z.block _ (Ac p.o)).trans p.o,rfl,h1,h2⟩
    rw[hc] at h;cases h))
   have Y:Hid (∀W v L,L.map (·.1)=A->oW W v L->Dt W v A):=Aa (λW v L e h=>by subst e;exact sP h.1 h.2 (λq hq=>(J q.1 (Y1 hq)).1))
   have ae:Hid (∀W d g f L,L.map (·.1)=A->oW W (Zs d g f) L->Zb w W->Zc 52 #[Zg #[Zt tx,Zo b,Zs d g f]] W λe t=>e=Zr (Hz (tx,b,A))/\Zb W t):=Aa (λW d g f L e h z=>lW tx b A d g f W (Y.o W _ L e h) hA aj (λa ha=>(J a ha).2) (hw.below z) (ht.below z));have HC:=Aa hc;clear HR hF he hw ht hl hc J p r
   have P:Hid (Cv (tx,b,A)=false\/C6 (tx,b,A)≠s->∀c,¬uK l s c):=Aa (λh c hk=>by
    have h1:=hk.1;rw[HC.o] at h1;cases h1
    rcases h with h|h
    ·rw[hk.2.1] at h;cases h
    exact h hk.2.2)
   cases hp:Cv (tx,b,A) with
   | false=>
     have I:Hid (Hz (tx,b,A)=Zu #[Zt ⟨#[]⟩,Zf 83 (Zi 1)]):=Aa (by unfold Hz;rw[hp];rfl);have D:=Aa (P.o (.inl hp));clear P hp;go_enter func43,ntmps43
     go_wp2_with (first
      | (go_at_call 76;refine y.o.mono ?_;rintro e u⟨d,g,f,L,rfl,j,i,R,hO⟩
         have o:Hid (Zb w (u.alloc (Zk #[Zt tx,Zo b,Zs d g f] 63))):=Aa (j.alloc j.size _);have n:=Aa ((XF u (Zk #[Zt tx,Zo b,Zs d g f] 63) _ (Ac i)).trans i);have G:=Aa (ae.o _ _ _ _ L R (hO.up (Zal)) o.o);clear j i hO R)
      | (go_at_call 52;refine G.o.mono ?_;rintro e w5⟨rfl,m⟩;rw[I.o]
         have x:=Aa (Below.Ap o.o m);have k:=Aa ((m.block _ (Ac n.o)).trans n.o);obtain⟨T,U,V,X⟩:=Db k.o;clear m))
     clear T U V X;obtain⟨M,N,O⟩:=mH (pF _ _ _ _ _ (Zt ⟨#[]⟩) (Zo false) (Zs none 0 0) _ k.o);refine bodyPost_ret (v:=Zu #[Zg #[Zt ⟨#[]⟩,Zo false,Zs none 0 0],Zf 83 (Zi 3)]) (by simp[results,results43,go_sem,M,N,O]) rfl ⟨Fi x.o (XA _) _ _ _,.inr ⟨D.o,rfl⟩⟩
   | true=>
     have I:Hid (Hz (tx,b,A)=Zu #[Zt (C6 (tx,b,A)),Zn]):=Aa (by unfold Hz;rw[hp];rfl);generalize af:C6 (tx,b,A)=pb at *;have D:=Aa (λh=>P.o (.inr h));have ai:Hid (pb=s->uK l s (tx,b,A)):=Aa (λh=>⟨HC.o,hp,af.trans h⟩);clear P hp af;go_enter func43,ntmps43
     go_wp2_with (first
      | (go_at_call 76;refine y.o.mono ?_;rintro e u⟨d,g,f,L,rfl,j,i,R,hO⟩
         have o:Hid (Zb w (u.alloc (Zk #[Zt tx,Zo b,Zs d g f] 63))):=Aa (j.alloc j.size _);have n:=Aa ((XF u (Zk #[Zt tx,Zo b,Zs d g f] 63) _ (Ac i)).trans i);have ab:=Aa (Yac u (Zk #[Zt tx,Zo b,Zs d g f] 63));have ad:=Aa (hO.up ((XD _ _).alloc (XA _) (Zk #[Zt tx,Zo b,Zs d g f] 63)));have G:=Aa (ae.o _ _ _ _ L R ad.o o.o);have HL:=Aa R;have al:w.heap.size<u.heap.size:=Ac i;clear j i hO R)
      | (go_at_call 52;refine G.o.mono ?_;rintro e w5⟨rfl,m⟩;rw[I.o]
         have x:=Aa (Below.Ap o.o m);have k:=Aa ((m.block _ (Ac n.o)).trans n.o);have ag:=Aa ((m.block _ (Ac ab.o)).trans ab.o);have ah:=Aa (ad.o.up m);obtain⟨T,U,V,X⟩:=Db k.o;obtain⟨c0,c1,c2,cf⟩:=Db ag.o;clear m))
     ·rename_i hcmp
      clear T U V X c0 c1 c2 cf;obtain⟨M,N,O⟩:=mH (pF _ _ _ _ _ (Zt ⟨#[]⟩) (Zo false) (Zs none 0 0) _ k.o);refine bodyPost_ret (v:=Zu #[Zg #[Zt ⟨#[]⟩,Zo false,Zs none 0 0],Zf 83 (Zi 3)]) (by simp[results,results43,go_sem,M,N,O]) rfl ⟨Fi x.o (XA _) _ _ _,.inr ⟨D.o (λe=>?_),rfl⟩⟩;subst e;simp at hcmp
     rename_i hcmp;clear T U V X c0 c1 c2 cf;obtain⟨M,N,O⟩:=mH (pF _ _ _ _ _ (Zt tx) (Zo b) (Zs d g f) _ k.o);refine bodyPost_ret (v:=Zu #[Zg #[Zt tx,Zo b,Zs d g f],Zn]) (by simp[results,results43,go_sem,M,N,O]) rfl ⟨Fi x.o (XA _) _ _ _,.inl ⟨tx,b,A,d,g,f,ai.o ?_,rfl,Y.o _ _ L HL.o ?_⟩⟩
     ·exact zF (by simpa using hcmp)
     exact((ah.o.set k.o).set (As _ _ 0 _ _ _ k.o)).set (As _ _ 1 _ _ _ (As _ _ 0 _ _ _ k.o))
variable{l:List UInt8}{p s:Tb}{c:Aj}{k n r y:Int}{a x:A5}
def O8(l:List UInt8):Prop:=∀b∈l,b≠10/\b≠32/\b≠39/\b≠44/\b≠59
theorem O8.n10(h:O8 l):(10:UInt8) ∉ l:=λe=>(h _ e).1 rfl
theorem O8.n32(h:O8 l):(32:UInt8) ∉ l:=λe=>(h _ e).2.1 rfl
theorem O8.n39(h:O8 l):(39:UInt8) ∉ l:=λe=>(h _ e).2.2.1 rfl
theorem O8.n44(h:O8 l):(44:UInt8) ∉ l:=λe=>(h _ e).2.2.2.1 rfl
theorem O8.n59(h:O8 l):(59:UInt8) ∉ l:=λe=>(h _ e).2.2.2.2 rfl
theorem AAy(h:∀b∈l,b.toNat=45\/(48<=b.toNat/\b.toNat<=57)\/b.toNat=95\/(97<=b.toNat/\b.toNat<=122)):O8 l:=by intro b a;have:=h b a;refine⟨?_,?_,?_,?_,?_⟩ <;> (rintro rfl;revert this;decide)
theorem Fw(n:Int):O8 (itoa n):=AAy λb a=>by
 rcases lO b a with h|h
 ·exact .inl h
 exact .inr (.inl h)
theorem uJ(r:Nat)(h:126<r):Is r=true:=by simp only[Is,Ki,Pe,Y',XT,XM,decide_eq_false_iff_not,beq_eq_false_iff_ne];refine⟨.inr (by omega),.inr (by omega),by omega⟩
theorem Qp(r:Nat)(h:126<r):Cu r=true:=by simp[Cu,h]
theorem Ge(h:Bx s=true):O8 s.data.toList/\s.data.toList≠[]:=by
 simp only[Bx,Y',decide_eq_true_eq,XT,decide_eq_false_iff_not] at h;obtain⟨a,_,_,c⟩:=h;refine⟨AAy λb g=>?_,λe=>?_⟩
 ·obtain⟨d,_⟩:=o4 uJ c b g
  have f:(!Ki b.toNat && (!Pe b.toNat && !((b.toNat:Int)==95)))=false:=d;simp only[Ki,Pe,XM,Bool.not_eq_false',Y',decide_eq_true_eq,beq_iff_eq] at f;omega
 have:s.data.toList.length=0:=by rw[e];rfl
 simp only[XS] at this;simp only[ByteArray.size] at a;omega
theorem bS{t:Tb}(h:Vb t=true):(39:UInt8) ∉ t.data.toList/\(10:UInt8) ∉ t.data.toList:=by
 simp only[Vb,Y',decide_eq_true_eq,XT,decide_eq_false_iff_not] at h;refine⟨λe=>?_,λe=>?_⟩
 ·have:=(o4 Qp h.2 _ e).1
  revert this;decide
 have:=(o4 Qp h.2 _ e).1
 revert this;decide
def yA(t:List UInt8):Prop:=t=[]\/∃r,t=59 :: r
theorem qD{c:UInt8}{x t:List UInt8}(a:c ∉ x)(b:t=[]\/∃r,t=c :: r):(Ao c (x++t)).1=x/\(Ao c (x++t)).2.1=t.tail:=by
 rcases b with rfl|⟨r,rfl⟩
 ·rw[List.append_nil,Qa a];simp
 rw[Dh a];simp
theorem AER(a b:Tb):(a++b).data.toList=a.data.toList++b.data.toList:=by simp
theorem lD{x t:List UInt8}(c:(39:UInt8) ∉ x)(a:yA t):Lib.hasPrefix (x++t) [39]=false:=by
 unfold Lib.hasPrefix;cases x with
 | nil=>
   rcases a with rfl|⟨r,rfl⟩
   ·rfl
   simp[List.isPrefixOf]
 | cons b x=>
   have:b≠39:=λe=>c (by simp[e])
   simp[List.isPrefixOf,this.symm]
theorem nA{t:Tb}(h:A9 k n t=true)(j:Lu n)(a:yA l):Ej ((E7 k n t).data.toList++l)=some ((k,n,t),l.tail):=by
 unfold A9 at h;unfold E7
 by_cases h0:k=0
 ·subst h0
  simp only[if_true,Y',beq_iff_eq] at h ⊢;obtain⟨rfl,b⟩:=h;have e:t=bA []:=toList_inj (by simpa[bA,ByteArray.toList_eq] using b);subst e;have q:=qD (c:=59) (x:=Qm) (t:=l) (by decide) a;unfold Ej;show (if Lib.hasPrefix (Qm++l) [39]=true then _ else _)=_;rw[lD (by decide) a,Yad (by decide)];show (if (Ao 59 (Qm++l)).1=Qm then _ else _)=_;rw[Yae q.1];show some ((0,0,bA []),(Ao 59 (Qm++l)).2.1)=_;rw[q.2]
 rw[Yad h0] at h ⊢
 by_cases h1:k=1
 ·subst h1
  simp only[if_true] at h ⊢;have e:t=bA []:=toList_inj (by simpa[bA,ByteArray.toList_eq] using h);subst e;have g:=Fw n;have q:=qD (c:=59) (x:=itoa n) (t:=l) g.n59 a;have d:(Bm n).data.toList=itoa n:=by simp[Bm]
  have f:itoa n≠Qm:=λe=>by
   have:=lO (n:=n) 110 (by rw[e];decide)
   revert this;decide
  rw[d];unfold Ej;rw[lD g.n39 a,Yad (by decide),q.1,q.2,Yad f,I7 j];rfl
 rw[Yad h1] at h ⊢
 by_cases b:k=2
 ·subst b
  simp only[if_true,Y',beq_iff_eq] at h ⊢;obtain⟨rfl,i⟩:=h;have d:(⟨#[39]⟩++t++⟨#[39]⟩:Tb).data.toList++l=39 :: (t.data.toList++39 :: l):=by simp
  rw[d];unfold Ej;rw[Yae (by simp[Lib.hasPrefix,List.isPrefixOf])];simp only[XX,List.drop_zero];rw[Dh (bS i).1];simp only[if_true,Ju];congr 2
  rcases a with rfl|⟨r,rfl⟩
  ·rfl
  simp[Lib.trimPrefix,Lib.hasPrefix,List.isPrefixOf]
 rw[Yad b] at h;cases h
def mmL(b:Bool):List UInt8:=(Fa b Qn jI).data.toList
theorem tH(b:Bool):O8 (mmL b):=by cases b <;> (unfold O8 mmL;decide)
theorem AEI(b:Bool):decide (mmL b=dS)=b:=by cases b <;> decide
def Ft(c:Aj):List UInt8:=itoa c.1++32 :: (c.2.1.data.toList++32 :: (itoa c.2.2.1++32 :: (mmL c.2.2.2.1++32 :: (E7 c.2.2.2.2.1 c.2.2.2.2.2.1 c.2.2.2.2.2.2).data.toList)))
theorem oJ(c:Aj):(B9 c).data.toList=Ft c:=by simp[B9,Fe,Lib.join,List.intercalate,Ft,mmL,Bm]
structure ADD(c:Aj):Prop where
 ok:Ib c
 may:Ko c=true
theorem ADD.parts(h:ADD c):Bx c.2.1=true/\A9 c.2.2.2.2.1 c.2.2.2.2.2.1 c.2.2.2.2.2.2=true:=by have:=h.may;simp only[Ko,Bv,Cm,Y'] at this;exact⟨this.2.2.1.2,this.2.2.2.1⟩
theorem Hb{x y:List UInt8}(h:(32:UInt8) ∉ x):Aw (x++32 :: y)=y:=by unfold Aw;rw[Dh h]
theorem Sq(h:ADD c)(q:yA l):D0 (Ft c++l)=some (c,l.tail):=by
 obtain⟨f,g⟩:=h.parts;have m:=(Ge f).1;obtain⟨c1,i,a,b,j,d,k⟩:=c
 have e:Ft (c1,i,a,b,j,d,k)++l=itoa c1++32 :: (i.data.toList++32 :: (itoa a++32 :: (mmL b++32 :: ((E7 j d k).data.toList++l)))):=by simp[Ft]
 have n:=(Fw c1).n32;have o:=(Fw a).n32;have p:=(tH b).n32;have r:Lu c1:=h.ok.id;have s:Lu a:=h.ok.kind;have t:Lu d:=h.ok.num;unfold D0;rw[e,Hb n,Hb m.n32,Hb o,Hb p,Dh n,Dh o,Dh m.n32,Dh p];simp only;rw[I7 r,I7 s,nA g t q];simp only[XK,Option.map_some,Ju,AEI]
theorem zH(c:Aj):Ft c≠[]:=by unfold Ft;intro e;have:=congrArg List.length e;simp at this
theorem Q5:∀{l:List Aj},l≠[]->(∀c∈l,ADD c)->Dg (Lib.join (l.map Ft) [59])=some l
 | [],h,_=>absurd rfl h
 | [c],_,h=>by
   have e:Lib.join ([c].map Ft) [59]=Ft c++[]:=by simp[Lib.join]
   rw[e,Jv (by simpa using zH c) (Sq (h c (by simp)) (.inl rfl))];rw[show ([]:List UInt8).tail=[] from rfl,Kq];rfl
 | c :: d :: l,_,h=>by
   have e:Lib.join ((c :: d :: l).map Ft) [59]=Ft c++59 :: Lib.join ((d :: l).map Ft) [59]:=by simp[Lib.join]
   rw[e,Jv (by simp) (Sq (h c (by simp)) (.inr ⟨_,rfl⟩))];rw[List.tail_cons,Q5 (by simp) (λx a=>h x (by simp[a]))];rfl
theorem Xw:∀{l:List Int},(∀x∈l,Lu x)->Dr (l.map itoa)=some l
 | [],_=>rfl
 | n :: l,h=>by rw[XZ,Dr,I7 (h n (by simp)),Xw (λx a=>h x (by simp[a]))];rfl
theorem oO{l:List Int}(a:l≠[])(h:∀x∈l,Lu x):L1 (Lib.join (l.map itoa) [44])=some l:=by
 unfold L1
 rw[X3 (by simpa using a) (λx b=>by obtain⟨n,_,rfl⟩:=List.mem_map.1 b;exact(Fw n).n44),Xw h]
theorem gE(xs:List Tb)(sep:Tb):(Fe xs sep).data.toList=Lib.join (xs.map (·.data.toList)) sep.data.toList:=by simp[Fe]
theorem Na(n:Int):(Bm n).data.toList=itoa n:=by simp[Bm]
def Xf(a:A5):List UInt8 :=
 if a.1=1 then ADF++32 :: (a.2.1.data.toList++32 :: itoa a.2.2.1)
 else if a.1=2 then P4++32 :: a.2.1.data.toList
 else if a.1=3 then lA++32 :: (a.2.1.data.toList++32 :: Lib.join (a.2.2.2.1.map itoa) [44])
 else P3++32 :: (itoa a.2.2.2.2.2++32 :: Lib.join (a.2.2.2.2.1.map Ft) [59])
theorem AAd(a:A5):(F3 a).data.toList=Xf a:=by
 unfold F3 Xf;split
 ·simp[Na,ADF]
 split
 ·simp[P4]
 split
 ·simp[gE,lA,WC,Function.comp_def,Na]
 simp[gE,P3,WC,Function.comp_def,Na,oJ]
theorem G4{n k:Nat}{x:Int}(h:Mm p r n k x=true):p=bA []/\r=0/\n=0/\k=0/\x=0:=by simp only[Mm,Y',beq_iff_eq] at h;obtain⟨a,b,d,e,c⟩:=h;exact⟨toList_inj (by simpa[bA,ByteArray.toList_eq] using a),b,by omega,by omega,c⟩
theorem fJ{l:List Aj}(h:Be l y=true)(b:∀x∈l,Ib x):l≠[]/\∀c∈l,ADD c:=by have a:=(I9 l y).1 h;refine⟨λe=>?_,λc hc'=>⟨b c hc',(Ou c).2 (a.2.2.1 c hc').1⟩⟩;have:=a.1;rw[e] at this;simp at this
theorem AFt:(32:UInt8) ∉ ADF:=by decide
theorem kQ:(32:UInt8) ∉ P4:=by decide
theorem AAn:(32:UInt8) ∉ lA:=by decide
theorem l6:(32:UInt8) ∉ P3:=by decide
theorem oN(h:Ch a=true)(l:Fh a):Co (Xf a)=some a:=by
 obtain⟨k,p,r,m,cl,n⟩:=a;unfold Ch at h;unfold Xf;simp only at h ⊢
 by_cases h1:k=1
 ·subst h1
  simp only[if_true,Y'] at h ⊢;obtain⟨g,d⟩:=h;obtain⟨_,_,e,f,rfl⟩:=G4 d;have b:m=[]:=Yag.1 e;have c:cl=[]:=Yag.1 f;subst b c;have i:Bx p=true:=by simp only[rfB,Y'] at g;exact g.1
  unfold Co;rw[Dh AFt,Hb AFt,Dh (Ge i).1.n32];simp only[if_true];have j:Lu r:=l.rows;rw[I7 j];simp[Ju]
 rw[Yad h1] at h ⊢
 by_cases g:k=2
 ·subst g
  simp only[if_true,Y'] at h ⊢;obtain⟨i,d⟩:=h;obtain⟨_,rfl,e,f,rfl⟩:=G4 d;have b:m=[]:=Yag.1 e;have c:cl=[]:=Yag.1 f;subst b c;unfold Co;rw[Dh kQ,Hb kQ,Qa (Ge i).1.n32];simp only;rw[Yad (by decide),Yae trivial,Ju]
 rw[Yad g] at h ⊢
 by_cases d:k=3
 ·subst d
  simp only[if_true,Y'] at h ⊢;obtain⟨⟨i,j⟩,d⟩:=h;obtain⟨_,rfl,_,f,rfl⟩:=G4 d;have c:cl=[]:=Yag.1 f;subst c
  have s:m≠[]:=by rintro rfl;simp[Dj] at j
  unfold Co;rw[Dh AAn,Hb AAn,Dh (Ge i).1.n32];simp only;rw[Yad (by decide),Yad (by decide),Yae trivial,oO s l.mask,Ju];rfl
 rw[Yad d] at h ⊢
 by_cases h4:k=4
 ·subst h4
  simp only[if_true,Y'] at h ⊢;obtain⟨j,d⟩:=h;obtain⟨rfl,rfl,e,_,_⟩:=G4 d;have b:m=[]:=Yag.1 e;subst b;obtain⟨q,o⟩:=fJ j l.cols;have t:Lu n:=l.next;unfold Co;rw[Dh l6,Hb l6,Dh (Fw n).n32];simp only;rw[Yad (by decide),Yad (by decide),Yad (by decide),Yae trivial,I7 t,Q5 q o];rfl
 rw[Yad h4] at h;cases h
theorem oF{c s:UInt8}(a:c≠s):∀{l:List (List UInt8)},(∀x∈l,c ∉ x)->c ∉ Lib.join l [s]
 | [],_=>by simp[Lib.join,List.intercalate]
 | [x],h=>by simpa[Lib.join] using h x (by simp)
 | x :: y :: l,h=>by
   have e:Lib.join (x :: y :: l) [s]=x++s :: Lib.join (y :: l) [s]:=by simp[Lib.join]
   rw[e];simp only[XI,XL,not_or];exact⟨h x (by simp),a,oF a (λz b=>h z (by simp[b]))⟩
theorem AGx{t:Tb}(h:A9 k n t=true):(10:UInt8) ∉ (E7 k n t).data.toList:=by
 unfold A9 at h;unfold E7;split
 ·decide
 rename_i h0;rw[Yad h0] at h;split
 ·rw[Na];exact(Fw n).n10
 rename_i h1;rw[Yad h1] at h;split
 ·rename_i h2
  rw[Yae h2,Y'] at h;simp only[AER,XI,not_or];exact⟨⟨by decide,(bS h.2).2⟩,by decide⟩
 decide
theorem AHs(h:ADD c):(10:UInt8) ∉ Ft c:=by obtain⟨a,b⟩:=h.parts;unfold Ft;simp only[XI,XL,not_or];exact⟨(Fw _).n10,by decide,(Ge a).1.n10,by decide,(Fw _).n10,by decide,(tH _).n10,by decide,AGx b⟩
theorem AFo(h:Ch a=true)(f:Fh a):(10:UInt8) ∉ Xf a:=by
 obtain⟨k,p,r,m,cl,g⟩:=a;unfold Ch at h;unfold Xf;simp only at h ⊢
 by_cases h1:k=1
 ·rw[Yae h1] at h ⊢
  simp only[Y',rfB] at h;simp only[XI,XL,not_or];exact⟨by decide,by decide,(Ge h.1.1).1.n10,by decide,(Fw _).n10⟩
 rw[Yad h1] at h ⊢
 by_cases h2:k=2
 ·rw[Yae h2] at h ⊢
  simp only[Y'] at h;simp only[XI,XL,not_or];exact⟨by decide,by decide,(Ge h.1).1.n10⟩
 rw[Yad h2] at h ⊢
 by_cases h3:k=3
 ·rw[Yae h3] at h ⊢
  simp only[Y'] at h;simp only[XI,XL,not_or]
  exact⟨by decide,by decide,(Ge h.1.1).1.n10,by decide,oF (by decide) (λx d=>by obtain⟨n,_,rfl⟩:=List.mem_map.1 d;exact(Fw n).n10)⟩
 rw[Yad h3] at h ⊢
 by_cases h4:k=4
 ·rw[Yae h4] at h
  simp only[Y'] at h;obtain⟨_,e⟩:=fJ h.1 f.cols;simp only[XI,XL,not_or]
  exact⟨by decide,by decide,(Fw _).n10,by decide,oF (by decide) (λx d=>by obtain⟨c,b,rfl⟩:=List.mem_map.1 d;exact AHs (e c b))⟩
 rw[Yad h4] at h;cases h
theorem Uv:∀{l:List A5},(∀a∈l,Ch a=true/\Fh a)->Cp (l.map Xf)=some l
 | [],_=>rfl
 | a :: l,h=>by rw[XZ,Cp,oN (h a (by simp)).1 (h a (by simp)).2,Uv (λx b=>h x (by simp[b]))];rfl
def bE:List UInt8:=[99,111,109,109,105,116]
def rbL(b:Bool):List UInt8:=(Fa b Ov Oy).data.toList
theorem AEf(b:Bool):O8 (rbL b):=by cases b <;> (unfold O8 rbL;decide)
theorem ACF(b:Bool):decide (rbL b=gX)=b:=by cases b <;> decide
theorem vU(tx:Tb)(a:Bool):(I4 tx a).data.toList=bE++32 :: (tx.data.toList++32 :: rbL a)++[10]:=by simp[I4,bE,rbL]
theorem n9{c:Dn}(h:Cv c=true)(g:∀a∈c.2.2,Fh a):Js (Nn c)=some c:=by
 obtain⟨tx,e,l⟩:=c;simp only[Cv,Y',WA] at h;obtain⟨k,f⟩:=h;have d:=(Ge k).1
 have i:Nn (tx,e,l)=(bE++32 :: (tx.data.toList++32 :: rbL e))++10 :: (l.map Xf).flatMap (λx=>x++[10]):=by simp[Nn,vU,Ed,AAd,List.flatMap_map]
 have j:(10:UInt8) ∉ bE++32 :: (tx.data.toList++32 :: rbL e):=by simp only[XI,XL,not_or];exact⟨by decide,by decide,d.n10,by decide,(AEf e).n10⟩
 unfold Js;rw[i,Dh j];simp only
 rw[Sx (λx m=>by obtain⟨a,b,rfl⟩:=List.mem_map.1 m;exact AFo (f a b) (g a b)),Uv (λa b=>⟨f a b,g a b⟩),Hb (by decide),Dh d.n32]
 simp[Ju,ACF]
theorem Hh(h:Bx s=true):s.size<=16:=by simp only[Bx,Y',decide_eq_true_eq] at h;exact h.2.1
theorem eJ{t:Tb}(h:t.toList.isEmpty=true):t.size<=0:=by rw[List.isEmpty_iff,ByteArray.toList_eq] at h;show t.data.size<=0;rw[<-XS,h];exact XA _
theorem gA{t:Tb}(h:A9 k n t=true):t.size<=40:=by
 unfold A9 at h;split at h
 ·simp only[Y'] at h;have:=eJ h.2;omega
 split at h
 ·have:=eJ h;omega
 split at h
 ·simp only[Y',Vb,decide_eq_true_eq] at h;exact h.2.1
 cases h
theorem AIu(h:Ko c=true)(a:Vp c):Ib c:=by simp only[Ko,Bv,Cm,Y'] at h;have b:=Hh h.2.2.1.2;have d:=gA h.2.2.2.1;exact⟨a.1,by omega,a.2.1,a.2.2,by omega⟩
theorem Qb(h:Ch a=true)(b:Ints a):Fh a:=by
 unfold Ch at h;split at h
 ·simp only[Y',rfB] at h
  obtain⟨_,_,e,d,_⟩:=G4 h.2;have:=Hh h.1.1;exact⟨by omega,b.rows,b.mask,by omega,(λx c=>by rw[Yag.1 d] at c;cases c),by omega,b.next⟩
 split at h
 ·simp only[Y'] at h
  obtain⟨_,_,e,d,_⟩:=G4 h.2;have:=Hh h.1;exact⟨by omega,b.rows,b.mask,by omega,(λx c=>by rw[Yag.1 d] at c;cases c),by omega,b.next⟩
 split at h
 ·simp only[Y',Dj] at h
  obtain⟨_,_,_,d,_⟩:=G4 h.2;have:=Hh h.1.1;have:=fO 60 h.1.2.2;exact⟨by omega,b.rows,b.mask,by omega,(λx c=>by rw[Yag.1 d] at c;cases c),by omega,b.next⟩
 split at h
 ·simp only[Y'] at h
  obtain⟨g,_,e,_,_⟩:=G4 h.2;have f:=(I9 _ _).1 h.1;refine⟨by rw[g];simp[bA,ByteArray.size],b.rows,b.mask,by omega,λx c=>AIu ((Ou x).2 (f.2.2.1 x c).1) (b.cols x c),by have:=f.2.1;omega,b.next⟩
 cases h
theorem Im:Lu 0:=⟨by decide,by decide⟩
theorem zB{s:List UInt8}{v:AIE}{b:List UInt8}(h:Ej s=some (v,b)):Lu v.2.1/\v.2.2.size<=s.length:=by
 unfold Ej at h;split at h
 ·split at h
  ·cases h
   refine⟨Im,?_⟩;have a:=Gv 39 (s.drop 1);rw[List.length_drop] at a;show (bA _).size<=_;rw[Cz];omega
  cases h
 split at h
 ·cases h;exact⟨Im,by show (bA []).size<=_;rw[Cz];exact XE _⟩
 cases hn:numOf (Ao 59 s).1 with
 | none=>rw[hn] at h;cases h
 | some n=>rw[hn] at h;cases h;exact⟨Hd hn,by show (bA []).size<=_;rw[Cz];exact XE _⟩
theorem AAj{s:List UInt8}{b:List UInt8}(h:D0 s=some (c,b)):Vp c/\c.2.1.size<=s.length/\c.2.2.2.2.2.2.size<=s.length:=by
 obtain⟨i,k,v,a,d,e,rfl⟩:=Va h;have q:=zB e;have f:=Gi s;have g:=Gi (Aw s);have j:=Gi (Aw (Aw s));have l:=Gi (Aw (Aw (Aw s)));have m:=Gv 32 (Aw s);refine⟨⟨Hd a,Hd d,q.1⟩,?_,?_⟩
 ·show (bA _).size<=_
  rw[Cz];omega
 have:=q.2;show v.2.2.size<=_;omega
theorem Oq:∀(n:Nat){s:List UInt8}{l:List Aj},s.length<=n->Dg s=some l->∀x∈l,Vp x/\x.2.1.size<=n/\x.2.2.2.2.2.2.size<=n
 | 0,s,l,hn,h=>by have:s=[]:=Yag.1 (by omega);subst this;rw[Kq] at h;cases h;intro x a;cases a
 | n+1,s,l,hn,h=>by
   by_cases e:s=[]
   ·subst e
    rw[Kq] at h;cases h;intro x a;cases a
   cases hc:D0 s with
   | none=>rw[Qt e hc] at h;cases h
   | some p=>
     obtain⟨c,b⟩:=p;rw[Jv e hc] at h;have d:=Ru hc;cases hb:Dg b with
     | none=>rw[hb] at h;cases h
     | some m=>
       rw[hb] at h;cases h;intro x a
       rcases List.mem_cons.1 a with rfl|a
       ·have:=AAj hc
        exact⟨this.1,by omega,by omega⟩
       have:=Oq n (by omega) hb x a;exact⟨this.1,by omega,by omega⟩
theorem kH:∀{l:List (List UInt8)}{m:List Int},Dr l=some m->m.length=l.length/\∀x∈m,Lu x
 | [],m,h=>by simp only[Dr] at h;cases h;exact⟨rfl,λx a=>by cases a⟩
 | y :: l,m,h=>by
   simp only[Dr] at h;cases hy:numOf y with
   | none=>rw[hy] at h;cases h
   | some n=>
     rw[hy] at h;simp only[XK] at h;cases hr:Dr l with
     | none=>rw[hr] at h;cases h
     | some k=>
       rw[hr] at h;cases h;have:=kH hr;refine⟨by simp[this.1],λx a=>?_⟩
       rcases List.mem_cons.1 a with rfl|a
       ·exact Hd hy
       exact this.2 x a
theorem nF{a:List UInt8}(h:Co a=some x):Ints x:=by
 unfold Co at h;split at h
 ·cases hn:numOf (Ao 32 (Aw a)).2.1 with
  | none=>rw[hn] at h;cases h
  | some n=>rw[hn] at h;cases h;exact⟨Hd hn,(λ_ q=>by cases q),(λ_ q=>by cases q),Im⟩
 split at h
 ·cases h;exact⟨Im,(λ_ q=>by cases q),(λ_ q=>by cases q),Im⟩
 split at h
 ·cases hn:L1 (Ao 32 (Aw a)).2.1 with
  | none=>rw[hn] at h;cases h
  | some n=>rw[hn] at h;cases h;exact⟨Im,(kH hn).2,(λ_ q=>by cases q),Im⟩
 split at h
 ·cases hn:numOf (Ao 32 (Aw a)).1 with
  | none=>rw[hn] at h;cases h
  | some n=>
    rw[hn] at h;simp only[XK] at h;cases hc:Dg (Ao 32 (Aw a)).2.1 with
    | none=>rw[hc] at h;cases h
    | some l=>rw[hc] at h;cases h;exact⟨Im,(λ_ q=>by cases q),(λy hy=>(Oq _ (XA _) hc y hy).1),Hd hn⟩
 cases h
theorem dI(c:UInt8):∀s:List UInt8,((Ao c s).2.2=true/\(Ao c s).1.length+1+(Ao c s).2.1.length=s.length)\/((Ao c s).2.2=false/\(Ao c s).2.1=[])
 | []=>.inr ⟨rfl,rfl⟩
 | b :: l=>by
   have e:=dI c l;unfold Ao;split
   ·left;exact⟨rfl,by simp;omega⟩
   rcases e with⟨a,d⟩|⟨a,d⟩
   ·left;exact⟨a,by simp only[XC];omega⟩
   right;exact⟨a,d⟩
theorem uN:Co []=none:=by decide
theorem jR:∀(n:Nat){t:List UInt8}{A:List A5},t.length<=n->Cp (Dp t)=some A->2*A.length<=t.length+1/\∀a∈A,∃x:List UInt8,x.length<=t.length/\Co x=some a
 | 0,t,A,hn,h=>by have:t=[]:=Yag.1 (by omega);subst this;rw[Jf] at h;simp only[Cp] at h;cases h;exact⟨by simp,λa b=>by cases b⟩
 | n+1,t,A,hn,h=>by
   by_cases e:t=[]
   ·subst e
    rw[Jf] at h;simp only[Cp] at h;cases h;exact⟨by simp,λa b=>by cases b⟩
   rw[J1 e] at h;simp only[Cp] at h;have k:=Un 10 e;have j:=Gv 10 t;cases hy:Co (Ao 10 t).1 with
   | none=>rw[hy] at h;cases h
   | some y=>
     rw[hy] at h;simp only[XK] at h;cases hr:Cp (Dp (Ao 10 t).2.1) with
     | none=>rw[hr] at h;cases h
     | some M=>
       rw[hr] at h;cases h;have i:=jR n (by omega) hr;have c:(Ao 10 t).1≠[]:=λe0=>by rw[e0,uN] at hy;cases hy
       have g:0<(Ao 10 t).1.length:=List.length_pos_iff.2 c;refine⟨?_,λa b=>?_⟩
       ·have:=i.1
        simp only[XC]
        rcases dI 10 t with⟨_,f⟩|⟨_,f⟩
        ·omega
        rw[f] at this;simp only[WB] at this;have:0<t.length:=List.length_pos_iff.2 e;omega
       rcases List.mem_cons.1 b with rfl|b
       ·exact⟨_,by omega,hy⟩
       obtain⟨x,l,d⟩:=i.2 a b;exact⟨x,by omega,d⟩
theorem AAp:∀(n:Nat){s:List UInt8}{m:List Int},s.length<=n->Dr (Dd 44 s)=some m->2*m.length<=s.length+1
 | n,s,m,hn,h=>by
   rw[Dd] at h
   rcases dI 44 s with⟨b,c⟩|⟨b,c⟩
   ·rw[dif_pos b] at h
    simp only[Dr] at h;cases hy:numOf (Ao 44 s).1 with
    | none=>rw[hy] at h;cases h
    | some y=>
      rw[hy] at h;simp only[XK] at h;have a:0<(Ao 44 s).1.length:=List.length_pos_iff.2 (gC hy);cases hr:Dr (Dd 44 (Ao 44 s).2.1) with
      | none=>rw[hr] at h;cases h
      | some k=>
        rw[hr] at h;cases h;cases n with
        | zero=>omega
        | succ n=>have:=AAp n (by omega) hr;simp only[XC];omega
   rw[dif_neg (by rw[b];simp)] at h;simp only[Dr] at h;cases hy:numOf s with
   | none=>rw[hy] at h;cases h
   | some y=>rw[hy] at h;cases h;have a:0<s.length:=List.length_pos_iff.2 (gC hy);simp only[XC,WB];omega
theorem Ng{M:List Int}{C:List Aj}(d:p.size<=1000000)(c:M.length<=600000)(a:∀x∈C,x.2.1.size<=1000000/\x.2.2.2.2.2.2.size<=1000000):pM (k,p,r,M,C,y) :=
 ⟨by show p.size<=_;unfold maxLen;omega,c,λx b=>⟨by have:=(a x b).1;unfold maxLen;omega,by have:=(a x b).2;unfold maxLen;omega⟩⟩
theorem nV{a:List UInt8}(d:a.length<=1000000)(h:Co a=some x):pM x:=by
 have e:=Gi a;have f:=Gv 32 (Aw a);have b:(bA (Ao 32 (Aw a)).1).size<=1000000:=by rw[Cz];omega
 unfold Co at h;split at h
 ·cases hn:numOf (Ao 32 (Aw a)).2.1 with
  | none=>rw[hn] at h;cases h
  | some n=>rw[hn] at h;cases h;exact Ng b (XE _) (λ_ q=>by cases q)
 split at h
 ·cases h;exact Ng b (XE _) (λ_ q=>by cases q)
 split at h
 ·cases hn:L1 (Ao 32 (Aw a)).2.1 with
  | none=>rw[hn] at h;cases h
  | some n=>rw[hn] at h;cases h;have:=AAp _ (XA _) hn;exact Ng b (by omega) (λ_ q=>by cases q)
 split at h
 ·cases hn:numOf (Ao 32 (Aw a)).1 with
  | none=>rw[hn] at h;cases h
  | some n=>
    rw[hn] at h;simp only[XK] at h;cases hc:Dg (Ao 32 (Aw a)).2.1 with
    | none=>rw[hc] at h;cases h
    | some l=>rw[hc] at h;cases h;exact Ng (by rw[Cz];exact XE _) (XE _) (λy c=>(Oq 1000000 (by omega) hc y c).2)
 cases h
theorem uG(i:l.length<=1000000):∀tx d A,Js l=some (tx,d,A)->A.length<=600000/\tx.size<=maxLen/\∀a∈A,pM a/\(Ch a=true->Fh a):=by
 intro tx d A h;unfold Js at h;have k:=Gv 10 l;have m:=Gi (Ao 10 l).1;have n:=Gv 32 (Aw (Ao 10 l).1);cases hr:Cp (Dp (Ao 10 l).2.1) with
 | none=>rw[hr] at h;cases h
 | some M=>rw[hr] at h;cases h;obtain⟨g,e⟩:=jR _ (XA _) hr;refine⟨by omega,by rw[Cz];unfold maxLen;omega,λa f=>?_⟩;obtain⟨x,j,b⟩:=e a f;exact⟨nV (by omega) b,λc=>Qb c (nF b)⟩
theorem ADU(s:Tb)(w:Tw)(a:s.size<=1000000)(b:Ik w)(d:Lw w)(c:Jp w):Zc 43 #[Zt s] w (Kx s.data.toList s w) :=
 jF ACP s w a b d c (uG (by rw[Gm];exact a))
theorem ACx{tx:Tb}{b:Bool}{A:List A5}(h:Cv (tx,b,A)=true)(c:∀a∈A,Fh a)(i:A.length<=12):0<(C6 (tx,b,A)).size/\(C6 (tx,b,A)).size<=1000000:=by
 have e:(C6 (tx,b,A)).size=(I4 tx b).size+(Ed A).length:=by show (Nn (tx,b,A)).toArray.size=_;rw[X6,Nn,XB,Gm]
 simp only[Cv,Y'] at h;have d:=Ri b (XG (Hh h.1) (by decide));have f:=fC c
 have g:0<(I4 tx b).size:=by unfold I4;have e9:(⟨#[10]⟩:Tb).size=1:=rfl;rw[Ea,e9];omega
 omega
def AAe(i:Nat):List UInt8:=[108,111,103,47,48,48,48,48,UInt8.ofNat (48+i / 10),UInt8.ofNat (48+i % 10)]
def Ek(i:Nat):ByteArray:=⟨(AAe i).toArray⟩
theorem AGt:((List.range 100).all λi=>(List.range 100).all λj=>!(AAe i==AAe j) || (i==j))=true:=by kernel_rfl
theorem key_inj{i j:Nat}(c:i<100)(d:j<100)(h:Ek i=Ek j):i=j:=by
 have a:=List.all_eq_true.1 (List.all_eq_true.1 AGt i (List.mem_range.2 c)) j (List.mem_range.2 d)
 have e:AAe i=AAe j:=by have:=congrArg (λb:Tb=>b.data.toList) h;simpa[Ek] using this
 rw[e] at a;simpa using a
theorem qI(i:Nat):(Ek i).size=10:=rfl
theorem AEp(i:Nat):itoa (i:Int)=decDigits i:=by unfold itoa;rw[Yad (by omega)];simp
def AJl(i:Int):ByteArray:=⟨#[108,111,103,47]⟩++⟨(Lib.repeatL [48] (6-(Bm i).size)).toArray⟩++Bm i
theorem AD1{i:Nat}(h:i<100):AJl (i:Int)=Ek i/\(Bm (i:Int)).size<=2:=by
 unfold AJl Bm;rw[AEp]
 by_cases h1:i<10
 ·rw[decDigits_one h1]
  have a:i / 10=0:=by omega
  have b:i % 10=i:=by omega
  unfold Ek AAe;rw[a,b];exact⟨rfl,by show Array.size _<=2;simp⟩
 rw[decDigits_two h1 h];exact⟨rfl,by show Array.size _<=2;simp⟩
theorem ABK(i:Nat)(w:Tw)(h:i<100)(o:Jp w):Zc 42 #[Zi i] w λe q=>e=Zr (Zt (Ek i))/\Zb w q:=by
 have d:=Aa (Mx (i:Int) w ⟨by omega,by omega⟩ o);obtain⟨g,n⟩:=AD1 h;have a:=Aa g;unfold AJl at a;obtain⟨r,j⟩:∃r:Nat,r=6-(Bm (i:Int)).size:=⟨_,rfl⟩;rw[<-j] at a;have l:(6:Int)-((Bm (i:Int)).size:Int)=(r:Int):=by omega
 have m:(0:Int)<=(r:Int):=by omega
 have f:=Aa (λW=>strings_Repeat ⟨#[48]⟩ r W (by omega) (by show 1*r<=_;omega));clear j g;generalize Bm (i:Int)=x at *;have s:x.size<=2:=n;go_enter func42,ntmps42;go_wp2_with fail;refine d.o.mono ?_;rintro e u⟨rfl,b⟩;go_wp2_with fail;refine(f.o _).mono ?_;rintro e v⟨rfl,c⟩
 have t:(⟨(Lib.repeatL [48] r).toArray⟩:Tb).size<=6:=by show Array.size _<=6;rw[X6,Lib.repeatL_length];simp;omega
 have k:(⟨#[108,111,103,47]⟩:Tb).size=4:=rfl;generalize (⟨(Lib.repeatL [48] r).toArray⟩:Tb)=z at *;have p:(⟨#[108,111,103,47]⟩++z:Tb).size<=10:=by rw[Ea,k];omega
 clear d f;go_wp2_with fail;go_ret;exact⟨by rw[a.o];rfl,Below.Ap b c⟩
namespace B
variable{W w:Tw}{n:Nat}{D:Td}
structure A0(S:Nat->Prop)(w w':World):Prop where
 os:w'.os=w.os
 tape:w'.tape=w.tape
 output:w'.output=w.output
 size:w.heap.size<=w'.heap.size
 block:∀k,k<w.heap.size->¬S k->w'.heap[k]? = w.heap[k]?
theorem A0.refl(S:Nat->Prop)(w:Tw):A0 S w w:=⟨rfl,rfl,rfl,XA _,λ_ _ _=>rfl⟩
theorem A0.trans{S T:Nat->Prop}{a b c:Tw}(h:A0 S a b)(k:A0 T b c)(f:∀i,i<a.heap.size->T i->S i):A0 S a c :=
 ⟨k.os.trans h.os,k.tape.trans h.tape,k.output.trans h.output,XG h.size k.size,λi d e=>(k.block i (Ya d h.size) (λht=>e (f i d ht))).trans (h.block i d e)⟩
theorem A0.mono{S T:Nat->Prop}{a b:Tw}(h:A0 S a b)(e:∀i,i<a.heap.size->S i->T i):A0 T a b :=
 ⟨h.os,h.tape,h.output,h.size,λi c d=>h.block i c (λhs=>d (e i c hs))⟩
theorem A0.Ba{S:Nat->Prop}{a b:Tw}(h:Zb a b):A0 S a b:=⟨h.os,h.tape,h.output,h.size,λi c _=>h.block i c⟩
theorem A0.below{S:Nat->Prop}{B:Nat}{w0 a b:Tw}(c:Below B w0 a)(h:A0 S a b)(e:B<=a.heap.size)(d:∀i,S i->B<=i):Below B w0 b :=
 c.trans ⟨h.os,h.tape,h.output,h.size,λi f=>h.block i (by omega) (λhs=>by have:=d i hs;omega)⟩
theorem A0.cell{S:Nat->Prop}{a b:Tw}(h:A0 S a b){p:Addr}{v:Tv}(c:a.cell? p=some v)(d:¬S p.block):b.cell? p=some v :=
 (World.cell?_of_block (h.block p.block (XO a p c) d)).trans c
theorem A0.alloc{S:Nat->Prop}{a b:Tw}(h:A0 S a b)(o:Obj):A0 S a (b.alloc o) :=
 h.trans (T:=λ_=>False) ⟨rfl,rfl,rfl,by simp,λk hk _=>XF _ _ _ hk⟩ (λ_ _ h=>h.elim)
theorem A0.setCell{S:Nat->Prop}{a b:Tw}(h:A0 S a b){p:Addr}(c:p.block<a.heap.size->S p.block)(u:Tv):A0 S a (b.setCell p u) :=
 h.trans (T:=λk=>k=p.block) ⟨rfl,rfl,rfl,by simp[World.setCell],λk _ hk=>X4 _ _ _ _ hk⟩ (λ_ hi e=>e ▸ c (e ▸ hi))
theorem A0.AFb{S:Nat->Prop}{a b c:Tw}{m:Nat}(h:A0 S a b)(g:b.mapTurned c m)(f:m<a.heap.size->S m):A0 S a c:=by have d:=g.grown;exact h.trans (T:=λk=>k=m) ⟨d.os,d.tape,d.output,d.size,λk hk hn=>d.block k hk (λe=>hn (Yv e))⟩ (λi hi e=>e ▸ f (e ▸ hi))
theorem A0.grown{S:Nat->Prop}{a b c:Tw}{row:Option Nat}(h:A0 S a b)(d:b.grownBy c row)(f:∀m,row=some m->m<a.heap.size->S m):A0 S a c :=
 h.trans (T:=λk=>row=some k) ⟨d.os,d.tape,d.output,d.size,λk hk hn=>d.block k hk (λe=>hn e.symm)⟩ (λi hi e=>f i e hi)
def Jd(v:Value):Option (DataW Unit×List MemPlace) :=
 match v with
 | .agg cs=>match cs.toList with
   | [.string s]=>if s.size<=maxLen then some (.lit (.string s.data.toList),[]) else none
   | _=>none
 | _=>none
theorem Wt{s:Tb}(h:s.size<=maxLen):Jd (.agg #[.string s])=some (.lit (.string s.data.toList),[]):=by simp[Jd,h]
theorem wC{v:Tv}{z:Td×List MemPlace}(h:Jd v=some z):∃s:Tb,v=.agg #[.string s]/\z=(.lit (.string s.data.toList),[])/\s.size<=maxLen:=by
 unfold Jd at h;split at h
 ·rename_i cs
  split at h
  ·rename_i s hs
   split at h
   ·rename_i hl
    cases h;exact⟨s,by rw[<-Array.toArray_toList (xs:=cs),hs],rfl,hl⟩
   cases h
  cases h
 cases h
def lit(b:ByteArray):Lit:=.string b.data.toList
def Gw(b:ByteArray):DataW Unit:=.lit (.string b.data.toList)
theorem aS{a b:Tb}(h:Gw a=Gw b):a=b:=by unfold Gw at h;injection h with h;injection h with h;cases a;cases b;simp at h;simp[h]
theorem Jr{a b:Tb}(h:lit a=lit b):a=b:=by unfold lit at h;injection h with h;cases a;cases b;simp at h;simp[h]
theorem Wl:Keyed prog 9:=string_keyed underlying9
theorem Mh{b:Tb}(h:b.size<=maxLen):keyOf prog 9 (.string b)=some (lit b):=WideMaps.keyOf_string_mk underlying9 h
def Th(w:World)(mv:Value)(n:Nat)(D:DataW Unit):Prop:=(mv=.map none/\D=.map [])\/∃m,mv=.map (some m)/\w.ownsMap prog 9 Jd m n D
def Fs(w:World)(d:Value)(fs:List Int):Prop:=∃a c,d=.slice a fs.length c/\fs.length<=c/\(fs≠[]->∃b off,a=some ⟨b,off,none⟩/\∀(j:Nat)x,fs[j]? = some x->w.cell? ⟨b,off+j,none⟩=some (Zi x))
def Bk(w:World)(bb:Nat)(mv a:Value):Prop:=w.heap[bb]? = some (.cells #[mv,a] 30 (0,0))
theorem Bk.c0{bb:Nat}{mv v:Tv}(h:Bk w bb mv v):w.cell? ⟨bb,0,none⟩=some mv:=by unfold Bk at h;simp[World.cell?,h]
theorem Bk.c1{bb:Nat}{mv v:Tv}(h:Bk w bb mv v):w.cell? ⟨bb,1,none⟩=some v:=by unfold Bk at h;simp[World.cell?,h]
theorem Bk.f{bb:Nat}{mv v:Tv}(h:Bk w bb mv v)(i:Nat):w.frozen? ⟨bb,i,none⟩=false:=by unfold Bk at h;simp[World.frozen?,h]
theorem Bk.lt{bb:Nat}{mv v:Tv}(h:Bk w bb mv v):bb<w.heap.size:=XO w ⟨bb,0,none⟩ h.c0
theorem Bk.keep{bb:Nat}{mv v:Tv}(h:Bk w bb mv v)(a:W.heap[bb]? = w.heap[bb]?):Bk W bb mv v:=a.trans h
theorem Bk.AKp{bb:Nat}{mv v:Tv}(h:Bk w bb mv v)(u:Tv):Bk (w.setCell ⟨bb,0,none⟩ u) bb u v:=by unfold Bk at h ⊢;simp[World.setCell,XV,h]
theorem Bk.AEs{bb:Nat}{mv v:Tv}(h:Bk w bb mv v)(u:Tv):Bk (w.setCell ⟨bb,1,none⟩ u) bb mv u:=by unfold Bk at h ⊢;simp[World.setCell,XV,h]
theorem Bk.alloc{w:Tw}{bb:Nat}{mv v:Tv}(h:Bk w bb mv v)(o:Obj):Bk (w.alloc o) bb mv v:=h.keep (XF _ _ _ h.lt)
theorem Fs.keep{u:Tv}{fs:List Int}(h:Fs w u fs)(i:∀p v,(∃x,v=Value.int .i64 x)->w.cell? p=some v->W.cell? p=some v):Fs W u fs:=by obtain⟨a,d,e,g,k⟩:=h;refine⟨a,d,e,g,λl=>?_⟩;obtain⟨b,off,f,c⟩:=k l;exact⟨b,off,f,λj x m=>i _ _ ⟨x,rfl⟩ (c j x m)⟩
theorem Fs.alloc{w:Tw}{v:Tv}{fs:List Int}(h:Fs w v fs)(o:Obj):Fs (w.alloc o) v fs:=h.keep λp _ _ a=>(Yo _ _ p (XO w p a)).trans a
theorem Th.alloc{w:Tw}{mv:Tv}{n:Nat}{D:Td}(h:Th w mv n D)(o:Obj):Th (w.alloc o) mv n D:=by
 rcases h with h|⟨m,e,a⟩
 ·exact .inl h
 exact .inr ⟨m,e,a.alloc _⟩
theorem Th.mono{w:Tw}{mv:Tv}{n n':Nat}{D:Td}(h:Th w mv n D)(b:n<=n'):Th w mv n' D:=by
 rcases h with h|⟨m,e,a⟩
 ·exact .inl h
 exact .inr ⟨m,e,a.mono b⟩
theorem Th.keep{mv:Tv}(h:Th w mv n D)(b:∀m,mv=.map (some m)->W.heap[m]? = w.heap[m]?):Th W mv n D:=by
 rcases h with h|⟨m,e,c⟩
 ·exact .inl h
 obtain⟨es,clock,a,r⟩:=c;exact .inr ⟨m,e,es,clock,(b m e).trans a,r⟩
theorem Th.lt{w:Tw}{mv:Tv}{n:Nat}{D:Td}(h:Th w mv n D){m:Nat}(e:mv=.map (some m)):m<w.heap.size:=by
 rcases h with⟨h,_⟩|⟨c,a,b⟩
 ·rw[e] at h;cases h
 rw[e] at a;cases a;exact b.lt
theorem Th.ne{w:Tw}{mv:Tv}{n:Nat}{D:Td}(h:Th w mv n D){p:Addr}{v:Tv}(c:w.cell? p=some v):mv≠.map (some p.block):=by
 rcases h with⟨h,_⟩|⟨m,e,es,clock,b,_⟩
 ·rw[h];intro e;cases e
 rw[e];intro a;cases a;simp[World.cell?,b] at c
theorem Th.look{mv:Tv}(h:Th w mv n D){p:Tb}(b:p.size<=maxLen):
 ∃t:Tb,(Instr.lookup 27 mv (Zt p) true).run prog w=.ok (Zu #[Zg #[Zt t],Zo (Maps.has D (lit p))]) w/\D.atKey (lit p) (Gw ByteArray.empty)=Gw t:=by
 have c:∀W,(zeroValue 155).run prog W=.ok (Zg #[Zt ⟨#[]⟩]) W:=λW=>by kernel_rfl
 rcases h with⟨rfl,rfl⟩|⟨m,rfl,d⟩
 ·refine⟨⟨#[]⟩,?_,rfl⟩
  have:=Maps.look_nil (w:=w) true Wl underlying27 (c w) (Mh b);simpa[Maps.has] using this
 obtain⟨v,g,a,f⟩:=d.look_ok Wl underlying27 (c w) (zd:=Gw ByteArray.empty) (Wt (by decide)) (Mh b);obtain⟨s,rfl,e,_⟩:=wC f;exact⟨s,a,congrArg Prod.fst e⟩
section
variable (w : World) {ops : Array Oper} {rest : List Oper} {o : Oper} {a : Act} {Q : Exit → Act → World → Prop}
theorem Wv(h:o.guard=none)(m x:Operand)(f:o.op=Op.lookup 27 m x true)(n:Nat)(D:Td)(mv:Tv)(b:Tb)(j:a.eval m=mv)(k:a.eval x=Zt b)(g:Th w mv n D)(i:b.size<=maxLen)(hK:∀t:Tb,D.atKey (lit b) (Gw ByteArray.empty)=Gw t->wpList prog ops Q rest (a.put o.dst (Zu #[Zg #[Zt t],Zo (Maps.has D (lit b))])) w):
 wpList prog ops Q (o :: rest) a w:=by
 refine wpList_plain h λl d=>?_
 obtain⟨t,c,e⟩:=g.look i;unfold Oper.wp;simp[execOp,f,j,k,c,Result.andThen];exact d _ _ (hK t e)
end
theorem ABJ(bb:Nat)(mv:Tv)(w:Tw)(b:w.cell? ⟨bb,0,none⟩=some mv):
 Zc 73 #[Zp (some ⟨bb,0,none⟩)] w λe a=>e=Zr mv/\a=w:=by
 go_enter func73,ntmps73;go_wp2;go_ret;exact⟨rfl,rfl⟩
theorem AGP(bb:Nat)(b:To)(a:Nat)(w:Tw)(d:w.cell? ⟨bb,1,none⟩=some (Zs b 0 a)):
 Zc 93 #[Zp (some ⟨bb,0,none⟩)] w λe c=>e=Zr (Zi 0)/\c=w:=by
 go_enter func93,ntmps93;go_wp2;go_ret;exact⟨rfl,rfl⟩
theorem ADR(bb b off n a:Nat)(x:Int)(w:Tw)(g:w.cell? ⟨bb,1,none⟩=some (Zs (some ⟨b,off,none⟩) (n+1) a))(i:w.frozen? ⟨bb,1,none⟩=false)(j:n+1<=a)(h:w.cell? ⟨b,off,none⟩=some (Zi x)):
 Zc 93 #[Zp (some ⟨bb,0,none⟩)] w λe f=>e=Zr (Zi x)/\∃c,(n≠0->c=some ⟨b,off+1,none⟩)/\f=w.setCell ⟨bb,1,none⟩ (Zs c n (a-1)):=by
 go_enter func93,ntmps93;go_wp2
 ·go_ret
  exact⟨rfl,some ⟨b,off,none⟩,λd=>by omega,rfl⟩
 go_ret;exact⟨rfl,some ⟨b,off+1,none⟩,λ_=>rfl,rfl⟩
def Own(bb:Nat)(mv:Value)(k:Nat):Prop:=k=bb\/mv=.map (some k)
def Bu(w:World)(bb n:Nat)(D:DataW Unit)(fs:List Int)(mv a:Value):Prop:=Bk w bb mv a/\Th w mv n D/\Fs w a fs
theorem Fs.far{w:Tw}{bb:Nat}{mv v:Tv}{n:Nat}{D:Td}{fs:List Int}(f:Bk w bb mv v)(j:Th w mv n D)(i:Fs w v fs){p:Addr}{x:Int}(b:w.cell? p=some (Zi x)):p.block≠bb:=by
 intro e;unfold Bk at f;obtain⟨a,g,rfl,_⟩:=i
 have c:∀x,mv≠Zi x:=λx d=>by rcases j with⟨h,_⟩|⟨m,h,_⟩ <;> rw[h] at d <;> cases d
 obtain⟨r,o,q⟩:=p;have l:q=none:=World.cell?_spot b;subst l;simp only at e;subst e;simp only[World.cell?,f] at b
 match o with
 | 0=>simp at b;exact c _ b
 | 1=>simp at b
 | k+2=>simp at b
def Ur(e d:Value):Prop:=∀b off l c,d=.slice (some ⟨b,off,none⟩) (l+1) c->∃a f c0,e=.slice (some ⟨b,a,none⟩) (f+1) c0
theorem Ur.refl(a:Tv):Ur a a:=λ_ off l c e=>⟨off,l,c,e⟩
theorem AFS(bb n:Nat)(D:Td)(fs:List Int)(mv i:Tv)(w:Tw)(g:Bk w bb mv i)(t:Th w mv n D)(s:Fs w i fs):
 Zc 93 #[Zp (some ⟨bb,0,none⟩)] w λe u=>e=Zr (Zi (fs.headD 0))/\∃o,Bu u bb n D fs.tail mv o/\A0 (λk=>k=bb) w u/\Ur i o:=by
 cases fs with
 | nil=>have v:=s;obtain⟨a,c,e,z,I⟩:=v;refine(AGP bb a c w (by have:=g.c1;rw[e] at this;exact this)).mono ?_;rintro e u⟨rfl,rfl⟩;exact⟨rfl,i,⟨g,t,s⟩,A0.refl _ _,Ur.refl _⟩
 | cons x fs=>
   have r:=@Fs.far w bb mv i n D (x :: fs) g t s;obtain⟨a,c,rfl,z,I⟩:=s;obtain⟨b,off,rfl,d⟩:=I (by simp);refine(ADR bb b off fs.length c x w g.c1 (g.f 1) z (by simpa using d 0 x rfl)).mono ?_;rintro e u⟨rfl,J,q,rfl⟩;refine⟨rfl,_,⟨g.AEs _,t.keep λm L=>X4 _ _ _ _ ?_,J,c-1,rfl,by simp at z ⊢;omega,λhn=>⟨b,off+1,q (by cases fs with|nil=>exact absurd rfl hn|cons y l=>simp),λj y hy=>?_⟩⟩,(A0.refl (λk=>k=bb) w).setCell (p:=⟨bb,1,none⟩) (λ_=>rfl) _,λb1 off1 l1 c1 e=>?_⟩
   rotate_right
   ·injection e with h M
    have:=q (by omega);rw[this] at h;injection h with h;injection h with h;subst h;exact⟨off,fs.length,c,rfl⟩
   ·intro e
    exact t.ne (g.c0) (by rw[L,e])
   have G:=d (j+1) y (by simpa using hy);rw[show off+1+j=off+(j+1) by omega,YP _ _ _ _ (by intro e;exact r G (congrArg Addr.block e).symm)];exact G
theorem AGN(w:Tw)(a:Option Nat):(binOp .eql 27 (.map a) (.map none)).run prog w=.ok (Zo a.isNone) w:=by cases a <;> kernel_rfl
theorem AH6(bb:Nat)(i:Tv)(c s:Tb)(w:Tw)(d:Bk w bb (.map none) i)(t:c.size<=maxLen)(x:s.size<=maxLen):
 Zc 94 #[Zp (some ⟨bb,0,none⟩),Zt c,Zt s] w λe l=>e=Zr (Zu #[])/\∃m,w.heap.size<=m/\Bk l bb (.map (some m)) i/\l.ownsMap prog 9 Jd m 1 (DataW.put (.map []) (lit c) (Gw s))/\A0 (λk=>k=bb) w l:=by
 have v:=@run_makeMap prog;have z:=AGN;have c0:=d.c0;have y:=d.f 0;have j:w.heap.size≠bb:=Nat.ne_of_gt d.lt;have g:(w.setCell ⟨bb,0,none⟩ (.map (some w.heap.size))).heap.size=w.heap.size:=by simp[World.setCell]
 have q:Hid (((w.setCell ⟨bb,0,none⟩ (.map (some w.heap.size))).alloc (.map #[] 0)).ownsMap prog 9 Jd w.heap.size 0 (.map [])):=by have:=World.ownsMap_made (w.setCell ⟨bb,0,none⟩ (.map (some w.heap.size))) prog 9 Jd;rw[g] at this;exact this
 have n:Hid (Bk ((w.setCell ⟨bb,0,none⟩ (.map (some w.heap.size))).alloc (.map #[] 0)) bb (.map (some w.heap.size)) i):=(d.AKp _).alloc _;have o:Hid (A0 (λk=>k=bb) w ((w.setCell ⟨bb,0,none⟩ (.map (some w.heap.size))).alloc (.map #[] 0))):=((A0.refl (λk=>k=bb) w).setCell (p:=⟨bb,0,none⟩) (λ_=>rfl) _).alloc _;clear g;have u:=d.lt;clear d j;go_enter func94,ntmps94
 go_wp2_with (first
  | (at_mapUpdate;(refine wpList_mapUpdate_in _ rfl _ _ _ 27 rfl 9 155 Wl underlying27 Jd w.heap.size 0 (.map []) rfl q.o (by decide) _ _ _ rfl rfl (Mh t) _ [] (Wt x) ?_);intro D b a))
 go_end0
 have r:=a.grown;exact⟨rfl,w.heap.size,XA _,n.o.keep (r.block bb (n.o.lt) (by intro e;cases e;omega)),b,o.o.AFb a (λh=>absurd h (YF _))⟩
theorem AFc(bb m n:Nat)(D:Td)(i:Tv)(c s:Tb)(w:Tw)(d:Bk w bb (.map (some m)) i)(f:w.ownsMap prog 9 Jd m n D)(k:n<maxLen)(j:c.size<=maxLen)(l:s.size<=maxLen):
 Zc 94 #[Zp (some ⟨bb,0,none⟩),Zt c,Zt s] w λe g=>e=Zr (Zu #[])/\g.ownsMap prog 9 Jd m (n+1) (D.put (lit c) (Gw s))/\w.mapTurned g m:=by
 have o:=AGN;have c0:=d.c0;have h:Hid (w.ownsMap prog 9 Jd m n D):=f;clear d f;go_enter func94,ntmps94
 go_wp2_with (first
  | (at_mapUpdate;(refine wpList_mapUpdate_in _ rfl _ _ _ 27 rfl 9 155 Wl underlying27 Jd m n D rfl h.o k _ _ _ rfl rfl (Mh j) _ [] (Wt l) ?_);intro p b a))
 go_end0
 exact⟨rfl,b,a⟩
def St(mv a:Value):Prop:=∀k,mv=.map (some k)->a=mv
theorem St.refl(mv:Tv):St mv mv:=λ_ _=>rfl
theorem oD(bb n:Nat)(D:Td)(fs:List Int)(mv l:Tv)(c s:Tb)(w:Tw)(h:Bu w bb n D fs mv l)(L:n<maxLen)(g:c.size<=maxLen)(G:s.size<=maxLen):
 Zc 94 #[Zp (some ⟨bb,0,none⟩),Zt c,Zt s] w λe d=>e=Zr (Zu #[])/\∃j,Bu d bb (n+1) (D.put (lit c) (Gw s)) fs j l/\A0 (Own bb mv) w d/\(∀k,j=.map (some k)->mv=.map (some k)\/w.heap.size<=k)/\St mv j:=by
 obtain⟨o,t,z⟩:=h;have q:=@Fs.far w bb mv l n D fs o t z;have f:=@Th.ne w mv n D t
 have a:∀d,A0 (Own bb mv) w d->Fs d l fs:=λd y=>z.keep λp v⟨x,hx⟩hc=>y.cell hc (by
  rintro(e|e)
  ·exact q (hc.trans (congrArg some hx)) e
  exact f hc e)
 rcases t with⟨rfl,rfl⟩|⟨m,rfl,J⟩
 ·refine(AH6 bb l c s w o g G).mono ?_
  rintro e d⟨rfl,m,u,r,i,y⟩;have b:A0 (Own bb (.map none)) w d:=y.mono λ_ _ e=>.inl e
  exact⟨rfl,_,⟨r,.inr ⟨m,rfl,i.mono (by omega)⟩,a _ b⟩,b,λk g=>.inr (by cases g;exact u),λk g=>by cases g⟩
 refine(AFc bb m n D l c s w o J L g G).mono ?_;rintro e d⟨rfl,i,I⟩;have b:A0 (Own bb (.map (some m))) w d:=(A0.refl _ w).AFb I (λ_=>.inr rfl);refine⟨rfl,_,⟨o.keep (I.grown.block bb o.lt ?_),.inr ⟨m,rfl,i⟩,a _ b⟩,b,λk g=>.inl g,St.refl _⟩;intro e;cases e;exact f o.c0 rfl
def Wz(a:ByteArray):Bool:=decide (1<=a.size) && decide (a.size<=60)
def bM(D:DataW Unit)(fs:List Int)(a s:ByteArray):Int×DataW Unit×List Int :=
 if Wz a=false then (1,D,fs) else if Maps.has D (lit a)=true then (9,D,fs) else if fs.headD 0=1 then (14,D,fs.tail) else if fs.headD 0=2 then (14,D.put (lit a) (Gw s),fs.tail) else (0,D.put (lit a) (Gw s),fs.tail)
def L8(x:Int):Value:=if x=0 then .nilIface else .iface 83 (Zi x)
def Um(D:DataW Unit)(a:ByteArray)(w:World)(e:Ending)(b:World):Prop:=∃t:ByteArray,e=.returned (.tuple #[.string t,L8 (if Maps.has D (lit a)=true then 0 else 7)])/\(Maps.has D (lit a)=true->D.atKey (lit a) (Gw ByteArray.empty)=Gw t)/\(Maps.has D (lit a)=false->t=ByteArray.empty)/\Zb w b
theorem aP(bb n:Nat)(D:Td)(mv:Tv)(a:Tb)(w:Tw)(i:w.cell? ⟨bb,0,none⟩=some mv)(f:Th w mv n D)(j:a.size<=maxLen):
 Zc 41 #[Zp (some ⟨bb,0,none⟩),Zt a] w (Um D a w):=by
 have b:=ABJ bb mv w i;have g:Hid (Th w mv n D):=f;clear f;go_enter func41,ntmps41
 go_wp2_with (first
  | (go_at_call 73;refine b.mono ?_;rintro e k⟨rfl,rfl⟩)
  | (at_lookup;refine Wv _ rfl _ _ rfl n D mv a rfl rfl g.o j ?_;intro t d))
 ·rename_i hh
  have c:=nt hh;go_ret2;exact⟨ByteArray.empty,by rw[c];rfl,λh=>(by rw[c] at h;cases h),λ_=>rfl,Zal⟩
 rename_i hh;have c:=nf hh;go_ret2;exact⟨t,by rw[c];rfl,λ_=>d,λh=>(by rw[c] at h;cases h),Zal⟩
theorem Bu.only{S:Nat->Prop}{bb n:Nat}{fs:List Int}{mv u:Tv}(h:Bu w bb n D fs mv u)(a:A0 S w W)(f:¬S bb)(i:∀m,mv=.map (some m)->¬S m)(g:∀p x,w.cell? p=some (Zi x)->¬S p.block):Bu W bb n D fs mv u:=by obtain⟨b,c,d⟩:=h;exact⟨b.keep (a.block bb b.lt f),c.keep λm e=>a.block m (c.lt e) (i m e),d.keep λp v⟨x,hx⟩hc=>a.cell hc (g p x (hc.trans (congrArg some hx)))⟩
theorem Bu.below{bb n:Nat}{fs:List Int}{mv v:Tv}(h:Bu w bb n D fs mv v)(a:Zb w W):Bu W bb n D fs mv v :=
 h.only (S:=λ_=>False) (A0.Ba a) (λh=>h) (λ_ _ h=>h) (λ_ _ _ h=>h)
theorem Bu.mono{w:Tw}{bb n n':Nat}{D:Td}{fs:List Int}{mv v:Tv}(h:Bu w bb n D fs mv v)(a:n<=n'):Bu w bb n' D fs mv v:=⟨h.1,h.2.1.mono a,h.2.2⟩
def AHf(bb n:Nat)(r:Int×DataW Unit×List Int)(mv d:Value)(w:World)(e:Ending)(c:World):Prop:=e=.returned (L8 r.1)/\∃a b,Bu c bb (n+1) r.2.1 r.2.2 a b/\A0 (Own bb mv) w c/\(∀k,a=.map (some k)->mv=.map (some k)\/w.heap.size<=k)/\Ur d b/\St mv a
theorem ABa(bb n:Nat)(D:Td)(fs:List Int)(mv m:Tv)(a s:Tb)(w:Tw)(h:Bu w bb n D fs mv m)(W:n<maxLen)(c:a.size<=maxLen)(hs:s.size<=maxLen):
 Zc 53 #[Zp (some ⟨bb,0,none⟩),Zt a,Zt s] w (AHf bb n (bM D fs a s) mv m w):=by
 have H:Hid (Bu w bb n D fs mv m):=h;have c0:=h.1.c0;have q:=ABJ bb mv w c0;have R:Hid (∀o,Zc 93 #[Zp (some ⟨bb,0,none⟩)] (w.alloc o) λe P=>e=Zr (Zi (fs.headD 0))/\∃b,Bu P bb n D fs.tail mv b/\A0 (λk=>k=bb) (w.alloc o) P/\Ur m b):=λo=>AFS bb n D fs mv m _ (h.1.alloc _) (h.2.1.alloc _) (h.2.2.alloc _)
 have U:Hid (∀G b,Bu G bb n D fs.tail mv b->Zc 94 #[Zp (some ⟨bb,0,none⟩),Zt a,Zt s] G λe P=>e=Zr (Zu #[])/\∃y,Bu P bb (n+1) (D.put (lit a) (Gw s)) fs.tail y b/\A0 (Own bb mv) G P/\(∀k,y=.map (some k)->mv=.map (some k)\/G.heap.size<=k)/\St mv y):=λG b hb=>oD bb n D fs.tail mv b a s G hb W c hs
 have l:Hid (bM D fs a s=if Wz a=false then (1,D,fs) else if Maps.has D (lit a)=true then (9,D,fs) else if fs.headD 0=1 then (14,D,fs.tail) else if fs.headD 0=2 then (14,D.put (lit a) (Gw s),fs.tail) else (0,D.put (lit a) (Gw s),fs.tail)):=rfl;have T:Hid (Wz a=(decide (1<=a.size) && decide (a.size<=60))):=rfl;clear h c0 W;generalize bM D fs a s=r at l ⊢;generalize fs.headD 0=f at R l;generalize fs.tail=V at R l U
 rcases Yc 0 a.size with p|p
 ·rcases Yc 60 a.size with I|I
  ·go_enter func53,ntmps53
   go_wp2;go_ret;have g:r=(1,D,fs):=by rw[l.o,Yae (by rw[T.o];simp only[XM,decide_eq_false_iff_not];omega)]
   rw[g];exact⟨rfl,mv,m,H.o.mono (by omega),A0.refl _ _,λk c=>.inl c,Ur.refl _,St.refl _⟩
  have X:1<=a.size:=p;have j:Hid (Wz a=true):=Aa (by rw[T.o];simp only[Y',decide_eq_true_eq];omega);go_enter func53,ntmps53
  go_wp2_with (first
   | (go_at_call 73;refine q.mono ?_;rintro e G⟨rfl,rfl⟩)
   | (at_lookup;refine Wv _ rfl _ _ rfl n D mv a rfl rfl H.o.2.1 c ?_;intro t Y)
   | (go_at_call 93;refine(R.o _).mono ?_;rintro e w2⟨rfl,v,M,d,z⟩)
   | (go_at_call 94;refine(U.o _ _ M).mono ?_;rintro e w3⟨rfl,O,N,L,J,u⟩))
  all_goals clear R U q
  ·rename_i x
   go_ret;have g:r=(9,D,fs):=by rw[l.o,Yad (by rw[j.o];simp),Yae x]
   rw[g];exact⟨rfl,mv,m,(H.o.below (Zal)).mono (by omega),(A0.refl _ _).alloc _,λk c=>.inl c,Ur.refl _,St.refl _⟩
  ·have x:Maps.has D (lit a)=false:=by assumption
   have p:(f==1)=true:=by assumption
   go_ret;have g:r=(14,D,V):=by rw[l.o,Yad (by rw[j.o];simp),Yad (by rw[x];simp),Yae (by simpa using p)]
   rw[g];exact⟨rfl,mv,v,M.mono (by omega),((A0.refl _ _).alloc _).trans d (λi _ e=>.inl e),λk c=>.inl c,z,St.refl _⟩
  ·have x:Maps.has D (lit a)=false:=by assumption
   have p:(f==1)=false:=by assumption
   have I:(f==2)=true:=by assumption
   go_ret;have g:r=(14,D.put (lit a) (Gw s),V):=by rw[l.o,Yad (by rw[j.o];simp),Yad (by rw[x];simp),Yad (by simpa using p),Yae (by simpa using I)]
   rw[g];exact⟨rfl,O,v,N,(((A0.refl _ _).alloc _).trans d (λi _ e=>.inl e)).trans L (λi _ e=>e),λk c=>(J k c).imp id (λh=>XG (XG (by simp) d.size) h),z,u⟩
  have x:Maps.has D (lit a)=false:=by assumption
  have p:(f==1)=false:=by assumption
  have I:(f==2)=false:=by assumption
  go_ret;have g:r=(0,D.put (lit a) (Gw s),V):=by rw[l.o,Yad (by rw[j.o];simp),Yad (by rw[x];simp),Yad (by simpa using p),Yad (by simpa using I)]
  rw[g];exact⟨rfl,O,v,N,(((A0.refl _ _).alloc _).trans d (λi _ e=>.inl e)).trans L (λi _ e=>e),λk c=>(J k c).imp id (λh=>XG (XG (by simp) d.size) h),z,u⟩
 go_enter func53,ntmps53;go_wp2;go_ret;have g:r=(1,D,fs):=by rw[l.o,Yae (by rw[T.o];simp only[XM,decide_eq_false_iff_not];omega)]
 rw[g];exact⟨rfl,mv,m,H.o.mono (by omega),A0.refl _ _,λk c=>.inl c,Ur.refl _,St.refl _⟩
def Ob(w:World):Prop:=w.cell? ⟨1,0,none⟩=some (.iface 366 (.agg #[.pointer (some ⟨11,32,none⟩)]))
theorem Ob.lt{w:Tw}(h:Ob w):1<w.heap.size:=by
 rcases Yc 1 w.heap.size with a|a
 ·exact a
 unfold Ob at h;simp[World.cell?,XJ a] at h
theorem Ob.below{w W:Tw}(h:Ob w)(a:Zb w W):Ob W:=(a.cell (p:=⟨1,0,none⟩) h.lt).trans h
theorem AJj(w:Tw):Bu (w.alloc (Zk #[.map none,Zs none 0 0] 30)) w.heap.size 0 (.map []) [] (.map none) (Zs none 0 0) :=
 ⟨Yac w _,.inl ⟨rfl,rfl⟩,_,_,rfl,XA _,λh=>absurd rfl h⟩
def Z(w0:World)(bb n:Nat)(D:DataW Unit)(fs:List Int)(w:World):Prop:=∃mv a,Bu w bb n D fs mv a/\Zb w0 w/\w0.heap.size<=bb/\∀k,mv=.map (some k)->w0.heap.size<=k
end B
variable{H:List (Dn×Ah)}{i j m n:Nat}{x:Dn×Ah}{c:Dn}{D:Td}{W Y w:Tw}{T:TypeId}{v:Tv}{s:Ah}
structure Lay(c:Dn):Prop where
 ok:Cv c=true
 lines:∀a∈c.2.2,Fh a
 Iz:c.2.2.length<=100
 len:0<(C6 c).size/\(C6 c).size<=1000000
def Xv:Ah->List (Dn×Ah)->Prop
 | _,[]=>True
 | s,x :: l=>Bi s x.1 x.2/\Lay x.1/\Xv x.2 l
def Ic:Ah->List (Dn×Ah)->Ah
 | s,[]=>s
 | _,x :: l=>Ic x.2 l
def Ae(H:List (Dn×Ah))(i:Nat):Ah:=Ic F6 (H.take i)
theorem fF:∀{s:Ah}{H:List (Dn×Ah)}{c:Dn}{t:Ah},Xv s H->Bi (Ic s H) c t->Lay c->Xv s (H++[(c,t)])
 | _,[],_,_,_,h,hl=>⟨h,hl,trivial⟩
 | _,_ :: _,_,_,hc,h,hl=>⟨hc.1,hc.2.1,fF hc.2.2 h hl⟩
theorem Re:∀{s:Ah}{H:List (Dn×Ah)}{x:Dn×Ah},Ic s (H++[x])=x.2
 | _,[],_=>rfl
 | _,y :: l,_=>Re (s:=y.2) (H:=l)
theorem rO:∀{s:Ah}{H:List (Dn×Ah)},Xv s H->∀i,i<H.length->∃c t,H[i]? = some (c,t)/\Bi (Ic s (H.take i)) c t/\Lay c/\Ic s (H.take (i+1))=t
 | _,x :: _,h,0,_=>⟨x.1,x.2,rfl,h.1,h.2.1,rfl⟩
 | _,x :: l,h,i+1,hi=>by obtain⟨c,t,a,b,d,e⟩:=rO (s:=x.2) (H:=l) h.2.2 i (by simpa using hi);exact⟨c,t,by simpa using a,by simpa[Ic] using b,d,by simpa[Ic] using e⟩
theorem fR:∀{s:Ah}{H:List (Dn×Ah)},Xv s H->Good Bv Cm s->Q7 s->0<=s.Eb->∀i,i<=H.length->Good Bv Cm (Ic s (H.take i))/\Q7 (Ic s (H.take i))/\(Ic s (H.take i)).Eb=s.Eb+i
 | _,_,_,g,n,_,0,_=>by simpa[Ic] using ⟨g,n⟩
 | _,x :: l,h,g,n,hv,i+1,hi=>by have e:=aB h.1;have:=fR (s:=x.2) (H:=l) h.2.2 (mP h.1 g) (iX h.1 n) (by omega) i (by simpa using hi);simp only[XY,Ic];exact⟨this.1,this.2.1,by rw[this.2.2,e];omega⟩
def La(H:List (Dn×Ah)):Prop:=Xv F6 H
theorem AA8(h:La H)(f:i<H.length):∃c,(H[i]?).map (·.1)=some c/\Bi (Ae H i) c (Ae H (i+1))/\Lay c:=by obtain⟨c,t,a,b,d,e⟩:=rO h i f;exact⟨c,by rw[a];rfl,by unfold Ae;rw[e];exact b,d⟩
theorem yJ:Q7 F6:=by intro e a;cases a
theorem Jb(h:La H)(a:i<=H.length):Good Bv Cm (Ae H i)/\Q7 (Ae H i)/\(Ae H i).Eb=i:=by have:=fR h ABq yJ (by show (0:Int)<=0;omega) i a;refine⟨this.1,this.2.1,?_⟩;have e:=this.2.2;have e0:F6.Eb=0:=rfl;rw[e0] at e;unfold Ae;omega
theorem qV(a:i<=H.length):Ae (H++[x]) i=Ae H i:=by unfold Ae;rw[Yx a]
theorem rJ:Ae (H++[x]) (H.length+1)=x.2:=by unfold Ae;rw[Yd (by simp)];exact Re
theorem bR:Ae H H.length=Ic F6 H:=by unfold Ae;rw[Ye]
theorem ADc(h:La H){t:Ah}(a:Bi (Ae H H.length) c t)(b:Lay c):La (H++[(c,t)]):=by rw[bR] at a;exact fF h a b
def U6(D:DataW Unit)(H:List (Dn×Ah)):Prop:=Maps.IsMap D/\∀i,i<99->(∀c,(H[i]?).map (·.1)=some c->Maps.has D (B.lit (Ek (i+1)))=true/\D.atKey (B.lit (Ek (i+1))) (B.Gw ByteArray.empty)=B.Gw (C6 c))/\(H.length<=i->Maps.has D (B.lit (Ek (i+1)))=false)
theorem AGO:U6 (.map []) []:=⟨Maps.isMap_empty,λi _=>⟨λc h=>by simp at h,λ_=>rfl⟩⟩
theorem L4{b:Tb}:WideAt.IsKeyLit (B.lit b):=by simp[B.lit,WideAt.IsKeyLit]
theorem AFI(h:U6 D H)(l:H.length<90)(c:Dn)(t:Ah):U6 (D.put (B.lit (Ek (H.length+1))) (B.Gw (C6 c))) (H++[(c,t)]):=by
 refine⟨?_,λi g=>?_⟩
 ·exact h.1.put _ _
 by_cases e:i=H.length
 ·subst e
  refine⟨λd a=>?_,λhle=>by simp at hle;omega⟩;have:d=c:=by simpa using a.symm
  subst this;exact⟨Maps.has_put_same h.1 L4 _,Maps.atKey_put_same h.1 L4 _ _⟩
 have b:B.lit (Ek (i+1))≠B.lit (Ek (H.length+1)):=λj=>by have:=key_inj (by omega) (by omega) (B.Jr j);omega
 rw[Maps.has_put_other b,Maps.atKey_put_other b];refine⟨λd a=>(h.2 i g).1 d ?_,λhle=>(h.2 i g).2 (by simp at hle;omega)⟩
 rcases Yc i H.length with f|k
 ·rwa[List.getElem?_append_left f] at a
 rw[Yb (by simp;omega)] at a;cases a
structure G3(W Y:World):Prop where
 size:W.heap.size<=Y.heap.size
 same:∀g o x,W.cell? ⟨g,o,none⟩=some (Zi x)->Y.heap[g]? = W.heap[g]?
theorem G3.Ba(h:Zb W Y):G3 W Y:=⟨h.size,λg _ _ a=>h.block g (Fv a)⟩
theorem G3.cell{W Y:Tw}(h:G3 W Y){g o n:Nat}{x:Int}{v:Tv}(b:W.cell? ⟨g,o,none⟩=some (Zi x))(a:W.cell? ⟨g,n,none⟩=some v):Y.cell? ⟨g,n,none⟩=some v:=by have e:=h.same g o x b;simp only[World.cell?,e] at a ⊢;exact a
theorem G3.trans{W X Y:Tw}(h:G3 W X)(k:G3 X Y):G3 W Y :=
 ⟨XG h.size k.size,λg o x a=>(k.same g o x (h.cell a a)).trans (h.same g o x a)⟩
theorem G3.grown{b:Nat}{cs:Array Tv}(f:W.heap[b]? = some (Zk cs T (0,0)))(c:∀(i:Nat)x,cs[i]? ≠some (Zi x))(d:W.grownBy Y (some b)):G3 W Y :=
 ⟨d.size,λg o x a=>d.block g (Fv a) (λe=>by injection e with e;subst e;simp only[World.cell?,f] at a;exact c o x (by simpa using a))⟩
theorem Ph.stays{l:List Int}(h:Ph W v l)(k:G3 W Y):Ph Y v l:=by
 rcases h with h|⟨g,o,c,d,e,f,a⟩
 ·exact .inl h
 exact .inr ⟨g,o,c,d,Ya e k.size,f,λj b=>k.cell (a j b) (a j b)⟩
theorem bH.stays{l:List Aj}(h:bH W v l)(k:G3 W Y):bH Y v l:=by
 rcases h with h|⟨g,o,c,d,e,f,a⟩
 ·exact .inl h
 exact .inr ⟨g,o,c,d,e,Ya f k.size,λj b i u m=>k.cell (a j b 0 _ rfl) (a j b i u m)⟩
theorem Om.stays{W Y:Tw}{a:A5}{c:To}{n i:Nat}{b:To}{j m:Nat}(h:Om W a c n i b j m)(k:G3 W Y):Om Y a c n i b j m :=
 ⟨h.mask.stays k,h.cols.stays k,h.path,h.Iz,h.texts⟩
theorem M6.stays{g o:Nat}{a:A5}{c:To}{b:To}(h:M6 W g o a c n i b j m)(k:G3 W Y):M6 Y g o a c n i b j m :=
 ⟨k.cell h.1 h.1,k.cell h.1 h.2.1,k.cell h.1 h.2.2.1,k.cell h.1 h.2.2.2.1,k.cell h.1 h.2.2.2.2.1,k.cell h.1 h.2.2.2.2.2⟩
theorem Dt.stays{W Y:Tw}{v:Tv}{l:List A5}(h:Dt W v l)(k:G3 W Y):Dt Y v l:=by
 rcases h with h|⟨g,o,c,e,f,i,m⟩
 ·exact .inl h
 refine .inr ⟨g,o,c,e,f,Ya i k.size,λj q=>?_⟩;obtain⟨r,t,s,a,d,b,n,p⟩:=m j q;exact⟨r,t,s,a,d,b,n.stays k,p.stays k⟩
theorem G3.put{bb n:Nat}{fs:List Int}{mv v:Tv}(h:B.Bu W bb n D fs mv v)(b:B.A0 (B.Own bb mv) W Y):G3 W Y :=
 ⟨b.size,λg _ _ a=>b.block g (Fv a) (by
  rintro(e|e)
  ·exact B.Fs.far h.1 h.2.1 h.2.2 a e
  exact h.2.1.ne a e)⟩
theorem Dl.only{bb n:Nat}{fs:List Int}{mv f:Tv}(N:Dl W s v)(h:B.Bu W bb n D fs mv f)(M:B.A0 (B.Own bb mv) W Y):Dl Y s v:=by
 have keep:∀{base:Nat}{t:TypeId}{z:Nat}{u:Tv}{k:Nat}{xs:List Tv},t≠30->W.ownsRow base t z u k xs->Y.ownsRow base t z u k xs:=λl p=>by
  refine⟨p.1,?_⟩
  rcases p.2 with G|⟨g,c,d,O,i,a,o⟩
  ·exact .inl G
  refine .inr ⟨g,c,d,O,i,(M.block g (Ac a) ?_).trans a,o⟩;rintro(e|e)
  ·subst e
   have J:W.heap[g]? = _:=h.1;rw[J] at a;injection a with a;injection a with _ a;exact l a.symm
  rcases h.2.1 with⟨I,_⟩|⟨m,y,es,clock,j,_⟩
  ·rw[I] at e;cases e
  rw[y] at e;cases e;rw[j] at a;cases a
 obtain⟨q,c1,r,w,L,e,b⟩:=N;exact⟨q,c1,r,w,L,e,keep (by decide) b.cols,b.files,keep (by decide) b.row,λx P=>keep (by decide) (b.Cl x P)⟩
theorem mM(bb:Nat)(w:Tw):
 Zc 21 #[Zp (some ⟨bb,0,none⟩)] w λe a=>e=Zr (.func (.func 40) #[] #[Zp (some ⟨w.heap.size,0,none⟩)])/\a=w.alloc (Zk #[Zp (some ⟨bb,0,none⟩)] 26):=by
 go_enter func21,ntmps21;go_wp2;go_ret;exact⟨rfl,rfl⟩
structure Ground(w:World)(bb n:Nat)(D:DataW Unit)(mv:Value):Prop where
 c0:w.cell? ⟨bb,0,none⟩=some mv
 th:B.Th w mv n D
 er:Ik w
 nc:Lw w
 tb:Jp w
theorem Ground.up{bb n:Nat}{mv:Tv}(h:Ground w bb n D mv)(a:Zb w W):Ground W bb n D mv :=
 ⟨(a.cell (p:=⟨bb,0,none⟩) (Fv h.c0)).trans h.c0,h.th.keep λm e=>a.block m (h.th.lt e),h.er.below a,h.nc.below a,h.tb.below a⟩
theorem AAW{bb n:Nat}{mv:Tv}(h:Ground w bb n D mv)(i:Nat):Zc 41 #[Zp (some ⟨bb,0,none⟩),Zt (Ek i)] w (B.Um D (Ek i) w) :=
 B.aP bb n D mv (Ek i) w h.c0 h.th (by rw[qI];decide)
theorem uV(a:i<100)(b:Jp w):Hid (∀W,Zb w W->Zc 42 #[Zi i] W λe c=>e=Zr (Zt (Ek i))/\Zb w c) :=
 Aa (λW h=>(ABK i W a (b.below h)).mono λ_ _⟨he,hb⟩=>⟨he,Below.Ap h hb⟩)
theorem qR{bb n:Nat}{mv:Tv}(h:Ground w bb n D mv)(i:Nat)(t:Tb)(b:Tv)(k:(Maps.has D (B.lit (Ek i))=true/\D.atKey (B.lit (Ek i)) (B.Gw ByteArray.empty)=B.Gw t/\b=.nilIface)\/(Maps.has D (B.lit (Ek i))=false/\t=⟨#[]⟩/\b=.iface 83 (.int .i64 7))):
 Hid (∀W,Zb w W->Zc 41 #[Zp (some ⟨bb,0,none⟩),Zt (Ek i)] W λe d=>e=Zr (Zu #[Zt t,b])/\Zb w d) :=
 Aa (λW c=>(AAW (h.up c) i).mono (by
  rintro e d⟨t',rfl,f,g,j⟩;refine⟨?_,Below.Ap c j⟩
  rcases k with⟨a,l,rfl⟩|⟨a,rfl,rfl⟩
  ·have:t'=t:=B.aS ((f a).symm.trans l)
   subst this;rw[a];rfl
  rw[a,g a];rfl))
theorem kC{n bb:Nat}(a:w.heap[n]? = some (Zk #[Zp (some ⟨bb,0,none⟩)] 26 (0,0)))(b:Zb w W):W.cell? ⟨n,0,none⟩=some (Zp (some ⟨bb,0,none⟩)) :=
 (I2 ((b.block _ (Ac a)).trans a)).1
theorem AIL(bb q n:Nat)(D:Td)(mv:Tv)(i:Nat)(w:Tw)(t:i<100)(h:Ground w bb n D mv)(p:w.heap[q]? = some (.cells #[.pointer (some ⟨bb,0,none⟩)] 26 (0,0)))(s:Maps.has D (B.lit (Ek i))=false):
 Zc 40 #[Zi i,Zp (some ⟨q,0,none⟩)] w λe r=>e=Zr (Zu #[Zg #[Zt ⟨#[]⟩,Zt ⟨#[]⟩,Zo false,Zs none 0 0],Zf 83 (Zi 7)])/\Zb w r:=by
 have f:Hid (Zb w (w.alloc (Zk #[Zt ⟨#[]⟩,Zt ⟨#[]⟩,Zo false,Zs none 0 0] 81))):=Aa (Zal);have l:=Aa (Yac w (Zk #[Zt ⟨#[]⟩,Zt ⟨#[]⟩,Zo false,Zs none 0 0] 81));have g:=h.up f.o;have d:=(f.o.block _ (Ac p)).trans p;have k:=uV t g.tb;have j:=qR g i ⟨#[]⟩ (Zf 83 (Zi 7)) (.inr ⟨s,rfl,rfl⟩);have a:=Aa d;clear h s p t g d;go_enter func40,ntmps40;go_wp2_with fail;generalize Ek i=y at *;generalize w.alloc (Zk #[Zt ⟨#[]⟩,Zt ⟨#[]⟩,Zo false,Zs none 0 0] 81)=T at *;have d:=kC a.o (XD _ _)
 go_region_held3 (λr=>r.cell? ⟨q,0,none⟩=some (Zp (some ⟨bb,0,none⟩))) (go_keep)
  (first
    | (go_at_call 42;refine(k.o _ (by first|exact XD _ _|exact(XD _ _).drew)).mono ?_;rintro e P⟨rfl,b⟩;have u:=kC a.o b)
    | (go_at_call 41;refine(j.o _ (by first|exact b|exact b.drew)).mono ?_;rintro e R⟨rfl,c⟩;have x:=kC a.o c))
 have o:=Aa (Below.Ap f.o c);have m:=Aa ((c.block _ (Ac l.o)).trans l.o);clear k j a d u x b c;obtain⟨_,_,_,_,gf⟩:=B3 m.o;have L:=gf 0;have M:=gf 1;have N:=gf 2;have O:=gf 3;go_wp2_with fail;obtain⟨z,G,I,J,_⟩:=B3 (sF _ _ _ _ _ _ (Zt ⟨#[]⟩) (Zt ⟨#[]⟩) (Zo false) (Zs none 0 0) _ m.o).1;refine bodyPost_ret (v:=Zu #[Zg #[Zt ⟨#[]⟩,Zt ⟨#[]⟩,Zo false,Zs none 0 0],Zf 83 (Zi 7)]) (by simp[results,results40,go_sem,z,G,I,J]) rfl ⟨rfl,?_⟩;exact Hx o.o (XA _) _ _ _ _
theorem ABr(f:Lay c)(q:Ik w)(s:Lw w)(r:Jp w):Hid (∀W,Zb w W->Zc 43 #[Zt (C6 c)] W λe n=>∃a d b,e=Zr (Zu #[Zg #[Zt c.1,Zo c.2.1,Zs a d b],Zn])/\Dt n (Zs a d b) c.2.2/\Zb w n):=Aa (λW h=>by
 obtain⟨tx,g,A⟩:=c;have l:=f.len;refine(ADU (C6 (tx,g,A)) W l.2 (q.below h) (s.below h) (r.below h)).mono ?_;have e:(C6 (tx,g,A)).data.toList=Nn (tx,g,A):=rfl;have p:=n9 f.ok f.lines;rintro u n⟨j,⟨t',v,t,a,d,b,m,rfl,i⟩|⟨k,_⟩⟩
 ·have o:=m.1
  rw[e,p] at o;cases o;exact⟨a,d,b,rfl,i,Below.Ap h j⟩
 exact absurd ⟨by rw[e];exact p,f.ok,rfl⟩ (k (tx,g,A)))
theorem AAJ(bb P n:Nat)(D:Td)(mv:Tv)(i:Nat)(c:Dn)(w:Tw)(V:i<100)(h:Ground w bb n D mv)(O:w.heap[P]? = some (.cells #[.pointer (some ⟨bb,0,none⟩)] 26 (0,0)))(U:Maps.has D (B.lit (Ek i))=true)(R:D.atKey (B.lit (Ek i)) (B.Gw ByteArray.empty)=B.Gw (C6 c))(T:Lay c):
 Zc 40 #[Zi i,Zp (some ⟨P,0,none⟩)] w λe J=>∃d g f,e=Zr (Zu #[Zg #[Zt (C6 c),Zt c.1,Zo c.2.1,Zs d g f],Zn])/\Dt J (Zs d g f) c.2.2/\Zb w J:=by
 have l:Hid (Zb w (w.alloc (Zk #[Zt ⟨#[]⟩,Zt ⟨#[]⟩,Zo false,Zs none 0 0] 81))):=Aa (Zal);have z:=Aa (Yac w (Zk #[Zt ⟨#[]⟩,Zt ⟨#[]⟩,Zo false,Zs none 0 0] 81));have a:=h.up l.o;have k:=(l.o.block _ (Ac O)).trans O;have y:=uV V a.tb;have u:=qR a i (C6 c) Zn (.inl ⟨U,R,rfl⟩);have m:=ABr T a.er a.nc a.tb;have b:=Aa k;obtain⟨tx,s,A⟩:=c;simp only at m;generalize C6 (tx,s,A)=W at *;clear h U O V a k T R;go_enter func40,ntmps40;go_wp2_with fail;generalize Ek i=aa at *;generalize w.alloc (Zk #[Zt ⟨#[]⟩,Zt ⟨#[]⟩,Zo false,Zs none 0 0] 81)=wa at *;have k:=kC b.o (XD _ _)
 go_region_held3 (λJ=>J.cell? ⟨P,0,none⟩=some (Zp (some ⟨bb,0,none⟩))) (go_keep)
  (first
    | (go_at_call 42;refine(y.o _ (by first|exact XD _ _|exact(XD _ _).drew)).mono ?_;rintro e w1⟨rfl,j⟩;have k1:=kC b.o j)
    | (go_at_call 41;refine(u.o _ (by first|exact j|exact j.drew)).mono ?_;rintro e w2⟨rfl,q⟩;have k2:=kC b.o q))
 have M:=Aa q;clear y u b k k1 k2 j q;go_wp2_with fail;refine(m.o _ M.o).mono ?_;rintro e X⟨d,g,f,rfl,G,r⟩;have t:=Aa (Below.Ap l.o r);have o:=Aa ((r.block _ (Ac z.o)).trans z.o);have p:=Aa ((XF X (Zk #[Zt tx,Zo s,Zs d g f] 63) _ (Ac o.o)).trans o.o);have N:Hid (Zb w (X.alloc (Zk #[Zt tx,Zo s,Zs d g f] 63))):=Aa (Below.Ap t.o (Zal));have L:=Aa (G.below ((XD _ _).alloc (XA _) (Zk #[Zt tx,Zo s,Zs d g f] 63)));obtain⟨_,_,_,_,gf⟩:=B3 p.o;have Y:=gf 0;have g1:=gf 1;have g2:=gf 2;have g3:=gf 3;clear G r t o m gf;go_wp2_with fail;clear Y g1 g2 g3;obtain⟨hP,hG⟩:=sF _ _ _ _ _ _ (Zt W) (Zt tx) (Zo s) (Zs d g f) _ p.o;obtain⟨z0,z1,z2,z3,_⟩:=B3 hP;refine bodyPost_ret (v:=Zu #[Zg #[Zt W,Zt tx,Zo s,Zs d g f],Zn]) (by simp[results,results40,go_sem,z0,z1,z2,z3]) rfl ⟨d,g,f,rfl,L.o.stays (G3.grown p.o ?_ hG),?_⟩
 ·intro i x I
  match i with
  | 0=>simp at I
  | 1=>simp at I
  | 2=>simp at I
  | 3=>simp at I
  | i+4=>simp at I
 exact Hx N.o (XA _) _ _ _ _
def K4(d:Int)(a:Option Addr)(n1 c1:Nat)(e:Int)(b:Option Addr)(n2 c:Nat):Value:=.agg #[Zi d,.slice a n1 c1,Zi e,.slice b n2 c]
theorem Nv(h:Dl W s v):∃a n1 c1 d b n2 c,v=K4 s.Eb a n1 c1 d b n2 c:=by obtain⟨a,c1,b,c,L,e,f⟩:=h;exact⟨_,_,_,_,_,_,_,e⟩
theorem bN(s t:Ah)(O:Int)(r:To)(M x:Nat)(R:Int)(u:To)(N y:Nat)(tx:Tb)(p:Bool)(Bz:List A5)(m:To)(o n:Nat)(w:Tw)(h:Dl w s (K4 O r M x R u N y))(hg:Good Bv Cm s)(J:0<=s.Eb)(L:s.Eb<=1000)(ha:Dt w (Zs m o n) Bz)(z:Bz.length<=1000)(I:tx.size<=maxLen)(hw:Lw w)(j:Bi s (tx,p,Bz) t):
 Zc 22 #[K4 O r M x R u N y,Zg #[Zt tx,Zo p,Zs m o n]] w λe l=>∃d a n1 c1 f b n2 c,e=Zr (Zu #[K4 d a n1 c1 f b n2 c,Zn])/\Dl l t (K4 d a n1 c1 f b n2 c)/\Zb w l:=by
 unfold K4 at h ⊢;obtain⟨P,X,Y,T,g⟩:=On w (Zk #[Zi O,Zs r M x,Zi R,Zs u N y] 42) (Zk #[Zt tx,Zo p,Zs m o n] 63) (Zk #[Zi 0,Zs none 0 0,Zi 0,Zs none 0 0] 42)
 have q:Hid (Zc 44 #[Zg #[Zi O,Zs r M x,Zi R,Zs u N y],Zg #[Zt tx,Zo p,Zs m o n]] (((w.alloc (Zk #[Zi O,Zs r M x,Zi R,Zs u N y] 42)).alloc (Zk #[Zt tx,Zo p,Zs m o n] 63)).alloc (Zk #[Zi 0,Zs none 0 0,Zi 0,Zs none 0 0] 42)) λe l=>∃d a n1 c1 f b n2 c,e=Zr (Zu #[Zg #[Zi d,Zs a n1 c1,Zi f,Zs b n2 c],Zn])/\Dl l t (Zg #[Zi d,Zs a n1 c1,Zi f,Zs b n2 c])/\Zb w l/\l.heap[w.heap.size+2]? = some (Zk #[Zi 0,Zs none 0 0,Zi 0,Zs none 0 0] 42 (0,0))):=Aa ((kJ s _ tx p Bz m o n _ (h.up g) hg J L (ha.below g) z I (hw.below g)).mono (by
  rintro e l⟨d,a,n1,c1,f,b,n2,c,er,rfl,hb,⟨rfl,t',h1,h2⟩|⟨_,_,_,W⟩⟩
  ·have:=qX h1 j
   subst this;exact⟨d,a,n1,c1,f,b,n2,c,rfl,h2,Below.Ap g hb,(hb.block _ (by rw[P];omega)).trans T⟩
  exact absurd j (W t)))
 clear h hg J L ha z I hw j P X Y T g;go_enter func22,ntmps22;go_wp2_with fail;refine q.o.mono ?_;rintro e w2⟨d,a,n1,c1,f,b,n2,c,rfl,G,D,k⟩;have U:Hid (Zb w (w2.alloc (Zk #[Zi d,Zs a n1 c1,Zi f,Zs b n2 c] 42))):=Aa (Below.Ap D (Zal));have i:=Aa ((XF w2 (Zk #[Zi d,Zs a n1 c1,Zi f,Zs b n2 c] 42) _ (Ac k)).trans k);have V:=Aa (G.up ((XD _ _).alloc (XA _) (Zk #[Zi d,Zs a n1 c1,Zi f,Zs b n2 c] 42)));obtain⟨_,_,_,_,gf⟩:=B3 i.o;have g0:=gf 0;have g1:=gf 1;have g2:=gf 2;have g3:=gf 3;clear G D k q gf;go_wp2_with fail;clear g0 g1 g2 g3;obtain⟨hP,hG⟩:=sF _ _ _ _ _ _ (Zi d) (Zs a n1 c1) (Zi f) (Zs b n2 c) _ i.o;obtain⟨z0,z1,z2,z3,_⟩:=B3 hP;refine bodyPost_ret (v:=Zu #[Zg #[Zi d,Zs a n1 c1,Zi f,Zs b n2 c],Zn]) (by simp[results,results22,go_sem,z0,z1,z2,z3]) rfl ⟨d,a,n1,c1,f,b,n2,c,rfl,V.o.put i.o hG,?_⟩;exact Hx U.o (by omega) _ _ _ _
theorem AFH(w:Tw):(binOp .eql 32 Zn (Zf 83 (Zi 7))).run prog w=.ok (Zo false) w:=by kernel_rfl
theorem AEV(w:Tw):(binOp .eql 32 (Zf 83 (Zi 7)) (Zf 83 (Zi 7))).run prog w=.ok (Zo true) w:=by kernel_rfl
structure LdI(w:World)(bb:Nat)(H:List (Dn×Ah))(W:World)(k:Nat)(a1:Option Addr)(n1 c1:Nat)(x2:Int)(a2:Option Addr)(n2 c2:Nat):Prop where
 box:W.heap[w.heap.size+2]? = some (.cells #[Zi k,.slice a1 n1 c1,Zi x2,.slice a2 n2 c2] 42 (0,0))
 snap:Dl W (Ae H k) (K4 k a1 n1 c1 x2 a2 n2 c2)
 res:W.heap[w.heap.size]? = some (.cells #[Zi 0,.slice none 0 0,Zi 0,.slice none 0 0] 42 (0,0))
 kb:W.heap[w.heap.size+1]? = some (.cells #[.pointer (some ⟨bb,0,none⟩)] 26 (0,0))
 low:Zb w W
def ABf(b:Nat)(w:World):Nat:=match w.cell? ⟨b,0,none⟩ with
 | some (.int _ v)=>v.toNat
 | _=>0
theorem Pm{b k:Nat}(h:w.cell? ⟨b,0,none⟩=some (Zi k)):ABf b w=k:=by unfold ABf;rw[h];simp
theorem Ua(bb n:Nat)(D:Td)(mv:Tv)(H:List (Dn×Ah))(Eb:Int)(P:Nat)(w:Tw)(h:Ground w bb n D mv)(hl:U6 D H)(hp:La H)(O5:H.length<=40)(hk:P<=H.length)(hv:(Eb<0/\P=H.length)\/Eb=P):
 Zc 8 #[Zp (some ⟨bb,0,none⟩),Zi Eb] w λe w'=>∃j n1 c1 o l n2 m,e=Zr (Zu #[K4 P j n1 c1 o l n2 m,Zn])/\Dl w' (Ae H P) (K4 P j n1 c1 o l n2 m)/\Zb w w':=by
 obtain⟨t0,t1,t2,t3,t4⟩:=On w (Zk #[Zi 0,Zs none 0 0,Zi 0,Zs none 0 0] 42) (Zk #[Zp (some ⟨bb,0,none⟩)] 26) (Zk #[Zi 0,Zs none 0 0,Zi 0,Zs none 0 0] 42)
 have ah:Hid (∃j n1 c1 o l n2 m,LdI w bb H (((w.alloc (Zk #[Zi 0,Zs none 0 0,Zi 0,Zs none 0 0] 42)).alloc (Zk #[Zp (some ⟨bb,0,none⟩)] 26)).alloc (Zk #[Zi 0,Zs none 0 0,Zi 0,Zs none 0 0] 42)) 0 j n1 c1 o l n2 m) :=
  Aa ⟨none,0,0,0,none,0,0,t3,AAK _,t1,t2,t4⟩
 have HG:=Aa h;have HL:=Aa hl;have HP:=Aa hp;have q1:=AFH;have q2:=AEV;clear h hl hp t0 t1 t2 t3 t4;go_enter func8,ntmps8;go_wp2_with (go_at_call 21;refine(mM _ _).mono ?_;rintro e w1⟨rfl,rfl⟩);generalize ((w.alloc (Zk #[Zi 0,Zs none 0 0,Zi 0,Zs none 0 0] 42)).alloc (Zk #[Zp (some ⟨bb,0,none⟩)] 26)).alloc (Zk #[Zi 0,Zs none 0 0,Zi 0,Zs none 0 0] 42)=wa at *
 go_loopw [8,9] (λ_ _ wr=>∃k j n1 c1 o l n2 m,k<=P/\Hid (LdI w bb H wr k j n1 c1 o l n2 m)) (λ_ _ wr=>P-ABf (w.heap.size+2) wr)
 case atStart=>obtain⟨j,n1,c1,o,l,n2,m,hI⟩:=ah.o;exact⟨0,j,n1,c1,o,l,n2,m,XE _,Aa hI⟩
 case round=>
  obtain⟨k,j,n1,c1,o,l,n2,m,au,a⟩:=hrel;clear ah;obtain⟨z,U,V,X,Y⟩:=B3 a.o.box;have an:=Pm z
  by_cases hlt:k<P
  ·obtain⟨c,hc,ak,t⟩:=AA8 HP.o (Ya hlt hk)
   obtain⟨hh,al⟩:=(HL.o.2 k (by omega)).1 c hc;obtain⟨gg,nn,vv⟩:=Jb HP.o (i:=k) (by omega);have f:=Aa (AAJ bb (w.heap.size+1) n D mv (k+1) c wr (by omega) (HG.o.up a.o.low) a.o.kb hh al t);obtain⟨tx,rd,A⟩:=c;have e1:((k+1:Nat):Int)=(k:Int)+1:=by omega
   rw[e1] at f;simp only at f;have ax:A.length<=100:=t.Iz
   have am:tx.size<=maxLen:=by have h:=t.ok;simp only[Cv,Y'] at h;have:=Hh h.1;unfold maxLen;omega
   have aa:Hid (∀W J M L,Zb wr W->Dt W (Zs J M L) A->Zc 22 #[Zg #[Zi k,Zs j n1 c1,Zi o,Zs l n2 m],Zg #[Zt tx,Zo rd,Zs J M L]] W λe w'=>∃y0 G R N y2 I T O,e=Zr (Zu #[K4 y0 G R N y2 I T O,Zn])/\Dl w' (Ae H (k+1)) (K4 y0 G R N y2 I T O)/\Zb wr w'):=Aa (λW J M L hb hA=>(bN _ _ k j n1 c1 o l n2 m tx rd A J M L W (a.o.snap.up hb) gg (by rw[vv];omega) (by rw[vv];omega) hA (by omega) am ((HG.o.nc.below a.o.low).below hb) ak).mono (by rintro e w'⟨y0,G,R,N,y2,I,T,O,he,h1,h2⟩;exact⟨y0,G,R,N,y2,I,T,O,he,h1,Below.Ap hb h2⟩))
   have ai:Hid ((Ae H (k+1)).Eb=(k+1:Nat)):=Aa (Jb HP.o (i:=k+1) (by omega)).2.2;clear ak t hh al hc gg nn vv am;clear e1;have aw:(k:Int)+1<=41:=by omega
   have ao:(0:Int)<=(k:Int):=by omega
   have ae:Eb<0\/(¬Eb<0/\(k:Int)<Eb):=by rcases hv with⟨h,_⟩|h <;> omega
   generalize C6 (tx,rd,A)=pb at *
   rcases ae with ab|⟨ab,ay⟩
   ·go_wp2_with fail
    refine f.o.mono ?_;rintro e w2⟨J,M,L,rfl,x,p⟩;have b:Hid (Zb wr (w2.alloc (Zk #[Zt pb,Zt tx,Zo rd,Zs J M L] 81))):=Aa (Below.Ap p (Zal));have u:=Aa (x.below ((XD _ _).alloc (XA _) (Zk #[Zt pb,Zt tx,Zo rd,Zs J M L] 81)));have q:=Aa ((b.o.block _ (Ac a.o.box)).trans a.o.box);clear z U V X Y x p f;obtain⟨z,U,V,X,Y⟩:=B3 q.o;go_wp2_with fail;refine(aa.o _ _ _ _ b.o u.o).mono ?_;rintro e w4⟨y0,G,R,N,y2,I,T,O,rfl,g,s⟩;have r:=Aa ((s.block _ (Ac a.o.box)).trans a.o.box);have d:=Aa s;obtain⟨_,_,_,_,_,_,_,ev⟩:=Nv g;unfold K4 at ev g ⊢;simp only[Value.agg.injEq,Array.mk.injEq,List.cons.injEq,Value.int.injEq,Value.slice.injEq] at ev;have ag:y0=((k+1:Nat):Int):=by rw[ev.1.2,ai.o]
    clear ev;subst ag;have ad:=Aa g;clear z U V X Y g s aa u b q;obtain⟨_,_,_,_,gf⟩:=B3 r.o;have g0:=gf 0;have g1:=gf 1;have g2:=gf 2;have g3:=gf 3;clear gf;generalize af:((k+1:Nat):Int)=ki at *;go_wp2_with fail;subst af;obtain⟨hP,y⟩:=sF _ _ _ _ _ _ (Zi ((k+1:Nat):Int)) (Zs G R N) (Zi y2) (Zs I T O) _ r.o;refine⟨⟨k+1,G,R,N,y2,I,T,O,by omega,Aa ⟨hP,ad.o.put r.o y,?_,?_,Hx (Below.Ap a.o.low d.o) (by omega) _ _ _ _⟩⟩,?_⟩
    ·exact(y.block _ (Ya (Ac a.o.res) d.o.size) (λe=>by injection e with e;omega)).trans ((d.o.block _ (Ac a.o.res)).trans a.o.res)
    ·exact(y.block _ (Ya (Ac a.o.kb) d.o.size) (λe=>by injection e with e;omega)).trans ((d.o.block _ (Ac a.o.kb)).trans a.o.kb)
    have e1:=Pm (B3 hP).1;have e2:w.heap.size+1+1=w.heap.size+2:=rfl;rw[an,e2,e1];omega
   go_wp2_with fail;refine f.o.mono ?_;rintro e w2⟨J,M,L,rfl,x,p⟩;have b:Hid (Zb wr (w2.alloc (Zk #[Zt pb,Zt tx,Zo rd,Zs J M L] 81))):=Aa (Below.Ap p (Zal));have u:=Aa (x.below ((XD _ _).alloc (XA _) (Zk #[Zt pb,Zt tx,Zo rd,Zs J M L] 81)));have q:=Aa ((b.o.block _ (Ac a.o.box)).trans a.o.box);clear z U V X Y x p f;obtain⟨z,U,V,X,Y⟩:=B3 q.o;go_wp2_with fail;refine(aa.o _ _ _ _ b.o u.o).mono ?_;rintro e w4⟨y0,G,R,N,y2,I,T,O,rfl,g,s⟩;have r:=Aa ((s.block _ (Ac a.o.box)).trans a.o.box);have d:=Aa s;obtain⟨_,_,_,_,_,_,_,ev⟩:=Nv g;unfold K4 at ev g ⊢;simp only[Value.agg.injEq,Array.mk.injEq,List.cons.injEq,Value.int.injEq,Value.slice.injEq] at ev;have ag:y0=((k+1:Nat):Int):=by rw[ev.1.2,ai.o]
   clear ev;subst ag;have ad:=Aa g;clear z U V X Y g s aa u b q;obtain⟨_,_,_,_,gf⟩:=B3 r.o;have g0:=gf 0;have g1:=gf 1;have g2:=gf 2;have g3:=gf 3;clear gf;generalize af:((k+1:Nat):Int)=ki at *;go_wp2_with fail;subst af;obtain⟨hP,y⟩:=sF _ _ _ _ _ _ (Zi ((k+1:Nat):Int)) (Zs G R N) (Zi y2) (Zs I T O) _ r.o;refine⟨⟨k+1,G,R,N,y2,I,T,O,by omega,Aa ⟨hP,ad.o.put r.o y,?_,?_,Hx (Below.Ap a.o.low d.o) (by omega) _ _ _ _⟩⟩,?_⟩
   ·exact(y.block _ (Ya (Ac a.o.res) d.o.size) (λe=>by injection e with e;omega)).trans ((d.o.block _ (Ac a.o.res)).trans a.o.res)
   ·exact(y.block _ (Ya (Ac a.o.kb) d.o.size) (λe=>by injection e with e;omega)).trans ((d.o.block _ (Ac a.o.kb)).trans a.o.kb)
   have e1:=Pm (B3 hP).1;have e2:w.heap.size+1+1=w.heap.size+2:=rfl;rw[an,e2,e1];omega
  have ar:k=P:=by omega
  subst ar;clear au hlt;have aj:∀(W:Tw)(S:Act),LdI w bb H W k j n1 c1 o l n2 m->True:=λ_ _ _=>trivial
  rcases hv with⟨ab,aq⟩|av
  ·have f:=Aa (AIL bb (w.heap.size+1) n D mv (k+1) wr (by omega) (HG.o.up a.o.low) a.o.kb ((HL.o.2 k (by omega)).2 (by omega)))
   have e1:((k+1:Nat):Int)=(k:Int)+1:=by omega
   rw[e1] at f;have aw:(k:Int)+1<=41:=by omega
   have ao:(0:Int)<=(k:Int):=by omega
   clear e1 aj aq;go_wp2_with fail;refine f.o.mono ?_;rintro e w2⟨rfl,p⟩;have b:Hid (Zb wr (w2.alloc (Zk #[Zt ⟨#[]⟩,Zt ⟨#[]⟩,Zo false,Zs none 0 0] 81))):=Aa (Below.Ap p (Zal));have q:=Aa ((b.o.block _ (Ac a.o.box)).trans a.o.box);have ac:=Aa ((b.o.block _ (Ac a.o.res)).trans a.o.res);have ap:=Aa (a.o.snap.up b.o);clear z U V X Y p f;obtain⟨z,U,V,X,Y⟩:=B3 q.o;obtain⟨_,_,_,_,gf⟩:=B3 ac.o;have g0:=gf 0;have g1:=gf 1;have g2:=gf 2;have g3:=gf 3;clear gf;go_wp2_with fail;clear g0 g1 g2 g3 z U V X Y;obtain⟨hP,y⟩:=sF _ _ _ _ _ _ (Zi (k:Int)) (Zs j n1 c1) (Zi o) (Zs l n2 m) _ ac.o;obtain⟨z0,z1,z2,z3,_⟩:=B3 hP;refine bodyPost_ret (v:=Zu #[K4 k j n1 c1 o l n2 m,Zn]) (by simp[results,results8,go_sem,z0,z1,z2,z3,K4]) rfl ⟨j,n1,c1,o,l,n2,m,rfl,ap.o.put ac.o y,Hx (Below.Ap a.o.low b.o) (XA _) _ _ _ _⟩
  subst av;clear aj;have ao:¬(k:Int)<0:=by omega
  obtain⟨_,_,_,_,gf⟩:=B3 a.o.res;have g0:=gf 0;have g1:=gf 1;have g2:=gf 2;have g3:=gf 3;clear gf;go_wp2_with fail;clear g0 g1 g2 g3 z U V X Y;obtain⟨hP,y⟩:=sF _ _ _ _ _ _ (Zi (k:Int)) (Zs j n1 c1) (Zi o) (Zs l n2 m) _ a.o.res;obtain⟨z0,z1,z2,z3,_⟩:=B3 hP;refine bodyPost_ret (v:=Zu #[K4 k j n1 c1 o l n2 m,Zn]) (by simp[results,results8,go_sem,z0,z1,z2,z3,K4]) rfl ⟨j,n1,c1,o,l,n2,m,rfl,a.o.snap.put a.o.res y,Hx a.o.low (XA _) _ _ _ _⟩
structure Ey(w0 w:World)(NF bb n:Nat)(D:DataW Unit)(fs:List Int)(mv fv:Value):Prop where
 bu:B.Bu w bb n D fs mv fv
 low:Zb w0 w
 hb:w0.heap.size<=bb
 hm:∀k,mv=.map (some k)->w0.heap.size<=k
 er:Ik w0
 nc:Lw w0
 tb:Jp w0
 hf:∀b off l c,fv=.slice (some ⟨b,off,none⟩) (l+1) c->b<NF
theorem Ey.ground{w0 w:Tw}{k bb n:Nat}{fs:List Int}{mv v:Tv}(h:Ey w0 w k bb n D fs mv v):Ground w bb n D mv :=
 ⟨h.bu.1.c0,h.bu.2.1,h.er.below h.low,h.nc.below h.low,h.tb.below h.low⟩
theorem Ey.up{w0 w W:Tw}{k bb n:Nat}{fs:List Int}{mv v:Tv}(h:Ey w0 w k bb n D fs mv v)(a:Zb w W):Ey w0 W k bb n D fs mv v :=
 ⟨h.bu.below a,Below.Ap h.low a,h.hb,h.hm,h.er,h.nc,h.tb,h.hf⟩
theorem Ut{bb n:Nat}{fs:List Int}{mv v:Tv}{b:Nat}{cs:Array Tv}(h:B.Bu W bb n D fs mv v)(j:B.A0 (B.Own bb mv) W Y)(a:W.heap[b]? = some (Zk cs T (0,0)))(i:T≠30):Y.heap[b]? = some (Zk cs T (0,0)):=by
 refine(j.block b (Ac a) ?_).trans a;rintro(e|e)
 ·subst e
  have g:W.heap[b]? = _:=h.1;rw[g] at a;injection a with a;injection a with _ a;exact i a.symm
 rcases h.2.1 with⟨f,_⟩|⟨m,d,es,clock,c,_⟩
 ·rw[f] at e;cases e
 rw[d] at e;cases e;rw[c] at a;cases a
theorem Ub{w0 w:Tw}{j bb n:Nat}{fs:List Int}{mv v:Tv}(h:Ey w0 w j bb n D fs mv v)(z:n<100000)(i:Nat)(s:Tb)(u:s.size<=maxLen)(r:Int×Td×List Int)(t:B.bM D fs (Ek i) s=r):
 Zc 53 #[Zp (some ⟨bb,0,none⟩),Zt (Ek i),Zt s] w λe o=>e=Zr (B.L8 r.1)/\∃a d,Ey w0 o j bb (n+1) r.2.1 r.2.2 a d/\B.A0 (B.Own bb mv) w o/\∀k,a=.map (some k)->mv=.map (some k)\/w.heap.size<=k:=by
 refine(B.ABa bb n D fs mv v (Ek i) s w h.bu (by unfold maxLen;omega) (by rw[qI];decide) u).mono ?_;rw[t];rintro e o⟨rfl,a,d,g,p,f,m,_⟩;refine⟨rfl,a,d,⟨g,p.below h.low h.low.size ?_,h.hb,λk q=>?_,h.er,h.nc,h.tb,λb off l c e=>?_⟩,p,f⟩
 ·rintro i (rfl|e)
  ·exact h.hb
  exact h.hm i e
 ·rcases f k q with e|e
  ·exact h.hm k e
  exact XG h.low.size e
 obtain⟨y,x,c0,e0⟩:=m b off l c e;exact h.hf b y x c0 e0
theorem AE4(i:Nat):B.Wz (Ek i)=true:=rfl
theorem wF{fs:List Int}{s:Tb}(h:Maps.has D (B.lit (Ek i))=true):B.bM D fs (Ek i) s=(9,D,fs):=by unfold B.bM;rw[AE4,h];rfl
theorem AEG{fs:List Int}{s:Tb}(h:Maps.has D (B.lit (Ek i))=false):B.bM D fs (Ek i) s=if fs.headD 0=1 then (14,D,fs.tail) else if fs.headD 0=2 then (14,D.put (B.lit (Ek i)) (B.Gw s),fs.tail) else (0,D.put (B.lit (Ek i)) (B.Gw s),fs.tail):=by unfold B.bM;rw[AE4,h];rfl
def Nj(C:Dn)(H:List (Dn×Ah))(j i:Nat):Prop:=∀x c,j<=x->x<i->(H[x]?).map (·.1)=some c->Nt C c=false
theorem oR{C:Dn}(h:Nj C H j i)(f:(H[i]?).map (·.1)=some c)(g:Nt C c=false):Nj C H j (i+1):=λx d e l a=>by
 rcases Yc x i with b|k
 ·exact h x d e b a
 have:x=i:=by omega
 subst this;rw[f] at a;cases a;exact g
def AD8(C:Dn)(H:List (Dn×Ah))(fs:List Int)(j:Nat)(a:Value):Prop :=
 Cv C=false\/(∃i,j<=i/\i<=H.length/\Nj C H j i/\∀t,¬Bi (Ae H i) C t)\/(∃i c,j<=i/\(H[i]?).map (·.1)=some c/\Nt C c=true/\a=.iface 83 (Zi 6))\/(Nj C H j H.length/\fs.headD 0=1)
def Jy(w0 w:World)(h bb n:Nat)(D:DataW Unit)(fs:List Int)(mv:Value)(C:Dn)(H:List (Dn×Ah))(j:Nat)(e:Ending)(g:World):Prop :=
 ∃n' b c a d,Ey w0 g h bb n' b c a d/\n'<=n+50/\B.A0 (B.Own bb mv) w g/\(∀k,a=.map (some k)->mv=.map (some k)\/w.heap.size<=k) /\
  ((∃t,e=.returned (.tuple #[.int .i64 (H.length+1:Nat),.nilIface])/\Bi (Ae H H.length) C t/\Cv C=true/\Nj C H j H.length/\b=D.put (B.lit (Ek (H.length+1))) (B.Gw (C6 C))) \/
   (∃f x,e=.returned (.tuple #[Zi 0,.iface f x])/\b=D/\AD8 C H fs j (.iface f x)))
structure TrI(w0 w:World)(NF bb n:Nat)(D:DataW Unit)(fs:List Int)(mv:Value)(C:Dn)(aa:Option Addr)(an ac:Nat)(H:List (Dn×Ah))(j kb:Nat)(W:World)(k:Nat)(a1:Option Addr)(n1 c1:Nat)(x2:Int)(a2:Option Addr)(n2 c2:Nat)(mv' fv':Value):Prop where
 base:Ey w0 W NF bb (n+(k-j)) D fs mv' fv'
 only:B.A0 (B.Own bb mv) w W
 link:∀k,mv'=.map (some k)->mv=.map (some k)\/w.heap.size<=k
 box:W.heap[w.heap.size]? = some (.cells #[Zi k,.slice a1 n1 c1,Zi x2,.slice a2 n2 c2] 42 (0,0))
 snap:Dl W (Ae H k) (K4 k a1 n1 c1 x2 a2 n2 c2)
 com:W.heap[w.heap.size+1]? = some (.cells #[.string C.1,.bool C.2.1,.slice aa an ac] 63 (0,0))
 kb:W.heap[kb]? = some (.cells #[.pointer (some ⟨bb,0,none⟩)] 26 (0,0))
 st:G3 w W
 quiet:Nj C H j k
theorem TrI.up{w0 w:Tw}{i bb n:Nat}{D:Td}{fs:List Int}{mv:Tv}{C:Dn}{e:To}{m d:Nat}{H:List (Dn×Ah)}{j q:Nat}{W Y:Tw}{k:Nat}{b:To}{n1 c1:Nat}{x:Int}{c:To}{n2 p:Nat}{v u:Tv}(h:TrI w0 w i bb n D fs mv C e m d H j q W k b n1 c1 x c n2 p v u)(a:Zb W Y):TrI w0 w i bb n D fs mv C e m d H j q Y k b n1 c1 x c n2 p v u :=
 ⟨h.base.up a,h.only.trans (B.A0.Ba (S:=λ_=>False) a) (λ_ _ h=>h.elim),h.link,(a.block _ (Ac h.box)).trans h.box,h.snap.up a,(a.block _ (Ac h.com)).trans h.com,(a.block _ (Ac h.kb)).trans h.kb,h.st.trans (G3.Ba a),h.quiet⟩
theorem TrI.put{w0 w:Tw}{m bb n n':Nat}{D r:Td}{fs z:List Int}{mv:Tv}{C:Dn}{o:To}{d q:Nat}{H:List (Dn×Ah)}{j p:Nat}{W Y:Tw}{k:Nat}{c:To}{n1 c1:Nat}{x:Int}{l:To}{n2 g:Nat}{v u f a:Tv}(h:TrI w0 w m bb n D fs mv C o d q H j p W k c n1 c1 x l n2 g v u)(_hB:Ey w0 Y m bb n' r z f a)(b:B.A0 (B.Own bb v) W Y)(t:∀k,f=.map (some k)->v=.map (some k)\/W.heap.size<=k):
 B.A0 (B.Own bb mv) w Y/\(∀k,f=.map (some k)->mv=.map (some k)\/w.heap.size<=k)/\Y.heap[w.heap.size]? = some (Zk #[Zi k,Zs c n1 c1,Zi x,Zs l n2 g] 42 (0,0))/\Dl Y (Ae H k) (K4 k c n1 c1 x l n2 g)/\Y.heap[w.heap.size+1]? = some (Zk #[Zt C.1,Zo C.2.1,Zs o d q] 63 (0,0))/\Y.heap[p]? = some (Zk #[Zp (some ⟨bb,0,none⟩)] 26 (0,0))/\G3 w Y:=by
 refine⟨h.only.trans b (λi y e=>?_),λk s=>?_,Ut h.base.bu b h.box (by decide),h.snap.only h.base.bu b,Ut h.base.bu b h.com (by decide),Ut h.base.bu b h.kb (by decide),h.st.trans (G3.put h.base.bu b)⟩
 ·rcases e with e|e
  ·exact .inl e
  rcases h.link i e with e|e
  ·exact .inr e
  omega
 rcases t k s with e|e
 ·exact h.link k e
 exact .inr (XG h.only.size e)
theorem Ey.store{w0 W Y:Tw}{k bb n:Nat}{fs:List Int}{mv v:Tv}{b:Nat}{cs:Array Tv}(h:Ey w0 W k bb n D fs mv v)(c:W.heap[b]? = some (Zk cs T (0,0)))(N:T≠30)(V:k<=b)(X:w0.heap.size<=b)(q:W.grownBy Y (some b)):Ey w0 Y k bb n D fs mv v:=by
 obtain⟨s,d,M⟩:=h.bu
 have w:b≠bb:=λe=>by subst e;have t:W.heap[b]? = _:=s;rw[t] at c;injection c with c;injection c with _ c;exact N c.symm
 refine⟨⟨s.keep (q.block bb s.lt (λe=>by injection e with e;exact w e.symm)),d.keep λm e=>q.block m (d.lt e) (λr=>?_),?_⟩,h.low.grown q h.low.size (λj hj=>by injection hj with hj;omega),h.hb,h.hm,h.er,h.nc,h.tb,h.hf⟩
 ·injection r with r
  subst r
  rcases d with⟨L,_⟩|⟨m',I,es,clock,u,_⟩
  ·rw[L] at e;cases e
  rw[I] at e;cases e;rw[u] at c;cases c
 obtain⟨a,p,e,O,P⟩:=M;refine⟨a,p,e,O,λG=>?_⟩;obtain⟨g,off,z,f⟩:=P G;refine⟨g,off,z,λi x U=>?_⟩
 have R:g<k:=by
  cases hfs:fs with
  | nil=>exact absurd hfs G
  | cons y l=>refine h.hf g off l.length p ?_;rw[e,z,hfs];rfl
 have o:=f i x U;have J:=q.block g (Fv o) (λe=>by injection e with e;omega);simp only[World.cell?,J] at o ⊢;exact o
theorem AIC{b q:Nat}{cs c:Array Tv}{U:TypeId}(h:W.heap[b]? = some (Zk cs T (0,0)))(a:W.heap[q]? = some (Zk c U (0,0)))(d:T≠U)(f:W.grownBy Y (some q)):Y.heap[b]? = some (Zk cs T (0,0)) :=
 (f.block b (Ac h) (λe=>by injection e with e;subst e;rw[h] at a;injection a with a;injection a with _ a;exact d a)).trans h
theorem AJa(w:Tw):(binOp .eql 32 (Zf 83 (Zi 9)) (Zf 83 (Zi 14))).run prog w=.ok (Zo false) w:=by kernel_rfl
theorem AFK(w:Tw):(binOp .eql 32 (Zf 83 (Zi 14)) (Zf 83 (Zi 14))).run prog w=.ok (Zo true) w:=by kernel_rfl
theorem AE7{y:Int}{G:To}{k:Nat}{z:Int}{I:To}{C:Dn}{l:To}{d:Nat}(h:Dl w s (K4 y G n k z I i j))(P:Good Bv Cm s)(u:0<=s.Eb)(v:s.Eb<=1000)(O:Dt w (Zs l m d) C.2.2)(p:C.2.2.length<=1000)(r:C.1.size<=maxLen)(R:Lw w):
 Zc 44 #[Zg #[Zi y,Zs G n k,Zi z,Zs I i j],Zg #[Zt C.1,Zo C.2.1,Zs l m d]] w λe M=>Zb w M/\((∃t a n1 c1 f b n2 c,e=Zr (Zu #[Zg #[Zi (s.Eb+1),Zs a n1 c1,Zi f,Zs b n2 c],Zn])/\Bi s C t)\/(∃g a n1 c1 f b n2 c D x,e=Zr (Zu #[Zg #[Zi g,Zs a n1 c1,Zi f,Zs b n2 c],Zf D x])/\∀t,¬Bi s C t)):=by
 obtain⟨tx,U,A⟩:=C;refine(kJ s _ tx U A l m d w h P u v O p r R).mono ?_;rintro e M⟨g,a,n1,c1,f,b,n2,c,V,rfl,L,⟨rfl,t,J,N⟩|⟨D,x,rfl,q⟩⟩
 ·obtain⟨_,_,_,_,_,_,_,o⟩:=Nv N
  unfold K4 at o;simp only[Value.agg.injEq,Array.mk.injEq,List.cons.injEq,Value.int.injEq,Value.slice.injEq] at o;have T:g=s.Eb+1:=by rw[o.1.2,aB J]
  subst T;exact⟨L,.inl ⟨t,a,n1,c1,f,b,n2,c,rfl,J⟩⟩
 exact⟨L,.inr ⟨g,a,n1,c1,f,b,n2,c,D,x,rfl,q⟩⟩
theorem AHx(w0:Tw)(NF bb n:Nat)(D:Td)(fs:List Int)(mv fv:Tv)(tx:Tb)(q:Bool)(A:List A5)(aa:To)(an ac:Nat)(H:List (Dn×Ah))(j:Nat)(a1:To)(n1 c1:Nat)(x2:Int)(a2:To)(n2 c2:Nat)(w:Tw)(h:Ey w0 w NF bb n D fs mv fv)(ce:NF<=w.heap.size)(hn:n<=90000)(hl:U6 D H)(hp:La H)(O5:H.length<=40)(hj:j<=H.length)(hs:Dl w (Ae H j) (K4 j a1 n1 c1 x2 a2 n2 c2))(hA:Dt w (Zs aa an ac) A)(cd:A.length<=100)(bz:Cv (tx,q,A)=true->0<(C6 (tx,q,A)).size/\(C6 (tx,q,A)).size<=1000000)(cr:tx.size<=60)(ap:∀a∈A,Ch a=true->Fh a):
 Zc 30 #[Zp (some ⟨bb,0,none⟩),K4 j a1 n1 c1 x2 a2 n2 c2,Zg #[Zt tx,Zo q,Zs aa an ac]] w (Jy w0 w NF bb n D fs mv (tx,q,A) H j):=by
 have b3:tx.size<=maxLen:=by unfold maxLen;omega
 obtain⟨t0,t1,t2,t3⟩:=C1 w (Zk #[Zi j,Zs a1 n1 c1,Zi x2,Zs a2 n2 c2] 42) (Zk #[Zt tx,Zo q,Zs aa an ac] 63);have L:=Aa (lW tx q A aa an ac _ (hA.below t3) (by omega) b3 ap (h.ground.nc.below t3) (h.ground.tb.below t3));unfold K4;cases hpo:Cv (tx,q,A) with
 | false=>unfold Hz at L;rw[hpo] at L;have b9:Hid (∀W,Below w.heap.size w W->Jy w0 w NF bb n D fs mv (tx,q,A) H j (Zr (Zu #[Zi 0,Zf 83 (Zi 1)])) W):=Aa (λW hb=>⟨n,D,fs,mv,fv,h.up hb,by omega,B.A0.Ba hb,λk hk=>.inl hk,.inr ⟨_,_,rfl,rfl,.inl hpo⟩⟩);have cb:=Aa t3;clear h hl hp hs hA ap hpo t0 t1 t2 t3;go_enter func30,ntmps30;go_wp2_with fail;refine L.o.mono ?_;rintro e w1⟨rfl,al⟩;clear L;go_wp2_with fail;go_ret2;exact b9.o _ (Below.Ap cb.o al)
 | true=>
   unfold Hz at L;rw[hpo] at L
   have ax:Hid (Lay (tx,q,A)):=Aa ⟨hpo,λa ha=>by simp only[Cv,Y',WA] at hpo;exact ap a ha (hpo.2 a ha),cd,bz hpo⟩
   have cq:=bz hpo
   have bi:Hid (∀W,Below ((w.alloc (Zk #[Zi j,Zs a1 n1 c1,Zi x2,Zs a2 n2 c2] 42)).alloc (Zk #[Zt tx,Zo q,Zs aa an ac] 63)).heap.size ((w.alloc (Zk #[Zi j,Zs a1 n1 c1,Zi x2,Zs a2 n2 c2] 42)).alloc (Zk #[Zt tx,Zo q,Zs aa an ac] 63)) W->TrI w0 w NF bb n D fs mv (tx,q,A) aa an ac H j W.heap.size (W.alloc (Zk #[Zp (some ⟨bb,0,none⟩)] 26)) j a1 n1 c1 x2 a2 n2 c2 mv fv):=Aa (λW hb=>by have ak:=Below.Ap (Below.Ap t3 hb) ((XD _ W).alloc (XA _) (Zk #[Zp (some ⟨bb,0,none⟩)] 26));have T:=Below.Ap hb ((XD _ W).alloc (XA _) (Zk #[Zp (some ⟨bb,0,none⟩)] 26));refine⟨by rw[Y3];exact h.up ak,B.A0.Ba ak,λk hk=>.inl hk,(T.block _ (Ac t1)).trans t1,hs.up ak,(T.block _ (Ac t2)).trans t2,Yac _ _,G3.Ba ak,λx c h1 h2=>by omega⟩)
   have HL:=Aa hl;have HP:=Aa hp;have b7:=Aa h.low.size;have a7:=Aa hA;clear h hl hp hs hA ap t0 t1 t2 t3 hpo;have q1:=AFH;have q2:=AEV;have q3:=AJa;have q4:=AFK;go_enter func30,ntmps30;go_wp2_with fail;refine L.o.mono ?_;rintro e w1⟨rfl,al⟩;have bj:=Aa (bi.o w1 al);clear L bi al;go_wp2_with (go_at_call 21;refine(mM _ _).mono ?_;rintro e w2⟨rfl,rfl⟩);generalize w1.alloc (Zk #[Zp (some ⟨bb,0,none⟩)] 26)=wa at *;generalize w1.heap.size=kb at *;generalize bw:C6 (tx,q,A)=pb at *;have az:=Aa bw;clear bw
   go_loopw [11,12,13,14] (λ_ _ _ _ wr=>∃k a1 n1 c1 x2 a2 n2 c2 b4 bm,k<=H.length/\j<=k/\Hid (TrI w0 w NF bb n D fs mv (tx,q,A) aa an ac H j kb wr k a1 n1 c1 x2 a2 n2 c2 b4 bm)) (λ_ _ _ _ wr=>H.length-ABf w.heap.size wr)
   case atStart=>exact⟨j,a1,n1,c1,x2,a2,n2,c2,mv,fv,hj,XA _,bj⟩
   case round=>
    obtain⟨k,a1,n1,c1,x2,a2,n2,c2,b4,bm,bs,br,HI⟩:=hrel;clear bj;obtain⟨a5,cf,af⟩:=Jb HP.o (i:=k) bs;have ab:=Aa (AE7 (C:=(tx,q,A)) HI.o.snap a5 (by rw[af];omega) (by rw[af];omega) (a7.o.stays HI.o.st) (by show A.length<=1000;omega) b3 HI.o.base.ground.nc);rw[af] at ab;simp only at ab;have HG:=Aa (And.intro a5 af);have cs:(k:Int)+1<=41:=by omega
    have ct:(0:Int)<=(k:Int):=by omega
    have cu:¬(200:Int)<=(k:Int):=by omega
    clear a5 cf af;obtain⟨V,X,Y,x4,xf⟩:=B3 HI.o.box;have ci:=Aa (Pm V);obtain⟨y0,y1,y2,yf⟩:=Db HI.o.com;go_wp2_with fail;refine ab.o.mono ?_;rintro e w2⟨T,⟨t,b1,m1,d1,z2,b2,m2,d2,rfl,bo⟩|⟨z0,b1,m1,d1,z2,b2,m2,d2,ty,x,rfl,bv⟩⟩
    ·have bd:Hid (Below wr.heap.size wr (w2.alloc (Zk #[Zi ((k:Int)+1),Zs b1 m1 d1,Zi z2,Zs b2 m2 d2] 42))):=Aa (Below.Ap T (Zal))
     have ah:=Aa (HI.o.up bd.o);have ay:=Aa (Yac w2 (Zk #[Zi ((k:Int)+1),Zs b1 m1 d1,Zi z2,Zs b2 m2 d2] 42));have HT:=Aa bo;have aw:=Aa (ABK (k+1) (w2.alloc (Zk #[Zi ((k:Int)+1),Zs b1 m1 d1,Zi z2,Zs b2 m2 d2] 42)) (by omega) ah.o.base.ground.tb);have e1:((k+1:Nat):Int)=(k:Int)+1:=by omega
     rw[e1] at aw;have X2:=Aa ah.o.box;clear V X Y x4 xf y0 y1 y2 yf T bo ab;obtain⟨V,X,Y,x4,xf⟩:=B3 X2.o;go_wp2_with fail;refine aw.o.mono ?_;rintro e w3⟨rfl,a4⟩;have b:=Aa (ah.o.up a4);have J:=Aa ((a4.block _ (Ac ay.o)).trans ay.o);clear V X Y x4 xf a4 aw ah ay bd X2
     by_cases bt:k<H.length
     ·obtain⟨c,hc,aq,ag⟩:=AA8 HP.o bt
      obtain⟨hh,bp⟩:=(HL.o.2 k (by omega)).1 c hc;have f:=Aa (Ub b.o.base (by omega) (k+1) pb (by unfold maxLen;omega) (9,D,fs) (wF hh));rw[show B.L8 ((9:Int),D,fs).1=Value.iface 83 (Zi 9) from rfl] at f;go_wp2_with fail;refine f.o.mono ?_;rintro e P⟨rfl,O,ae,d,l,y⟩;obtain⟨o1,l1,bx,sn,cm,z,M⟩:=b.o.put d l y;have v:=Aa (Ut b.o.base.bu l J.o (by decide));have en:n+(k-j)+1=n+1+(k-j):=by omega
      have bk:Hid (TrI w0 w NF bb (n+1) D fs mv (tx,q,A) aa an ac H j kb P k a1 n1 c1 x2 a2 n2 c2 O ae):=Aa ⟨en ▸ d,o1,l1,bx,sn,cm,z,M,b.o.quiet⟩;have r:=Aa (AAJ bb kb _ D O (k+1) c P (by omega) d.ground z hh bp ag);rw[e1] at r;obtain⟨N,R,cA⟩:=c;simp only at r;have HC:=Aa (And.intro hc (And.intro aq ag));clear d l y o1 l1 bx sn cm z M f hh bp aq ag hc b J;obtain⟨V,X,Y,x4,xf⟩:=B3 v.o;go_wp2_with fail;refine r.o.mono ?_;rintro e w5⟨ba,bn,bc,rfl,aj,U⟩;generalize C6 (N,R,cA)=a3 at *;have ad:Hid (Below P.heap.size P (w5.alloc (Zk #[Zt a3,Zt N,Zo R,Zs ba bn bc] 81))):=Aa (Below.Ap U (Zal));have ai:=Aa (bk.o.up ad.o);have ar:=Aa (aj.below ((XD _ _).alloc (XA _) (Zk #[Zt a3,Zt N,Zo R,Zs ba bn bc] 81)));have av:=Aa (Yac w5 (Zk #[Zt a3,Zt N,Zo R,Zs ba bn bc] 81));have ck:cA.length<=100:=HC.o.2.2.Iz;have bh:=Aa (v8 tx q aa an ac A N R ba bn bc cA _ (a7.o.stays ai.o.st) ar.o (by omega) (by omega));clear V X Y x4 xf aj U r v;obtain⟨y0,y1,y2,yf⟩:=Db ai.o.com;go_wp2_with fail;refine bh.o.mono ?_;rintro e w6⟨rfl,am⟩;have G:=Aa (ai.o.up am);have a8:=Aa (ar.o.below am);have bf:=Aa ((am.block _ (Ac av.o)).trans av.o);clear y0 y1 y2 yf am bh ai ar av ad bk;cases hf:Nt (tx,q,A) (N,R,cA) with
      | true=>have I:Hid (Jy w0 w NF bb n D fs mv (tx,q,A) H j (Zr (Zu #[Zi 0,Zf 83 (Zi 6)])) w6):=Aa ⟨_,_,_,_,_,G.o.base,by omega,G.o.only,G.o.link,.inr ⟨_,_,rfl,rfl,.inr (.inr (.inl ⟨k,_,br,HC.o.1,hf,rfl⟩))⟩⟩;clear hf;go_wp2_with fail;go_ret2;exact I.o
      | false=>
        have b0:N.size<=maxLen:=by have hh:=HC.o.2.2.ok;simp only[Cv,Y'] at hh;have:=Hh hh.1;unfold maxLen;omega
        have au:=Aa (bN _ _ k a1 n1 c1 x2 a2 n2 c2 N R cA ba bn bc w6 G.o.snap HG.o.1 (by rw[HG.o.2];omega) (by rw[HG.o.2];omega) a8.o (by omega) b0 G.o.base.ground.nc HC.o.2.1);have HQ:=Aa (oR G.o.quiet HC.o.1 hf);have cc:Hid ((Ae H (k+1)).Eb=(k+1:Nat)):=Aa (Jb HP.o (i:=k+1) (by omega)).2.2;unfold K4 at au;obtain⟨V,X,Y,x4,xf⟩:=B3 G.o.box;obtain⟨y0,y1,y2,y3,yf⟩:=B3 bf.o;clear hf b0;go_wp2_with fail;refine au.o.mono ?_;rintro e w7⟨u0,g1,p1,b5,u2,g2,p2,b6,rfl,a6,bq⟩;obtain⟨_,_,_,_,_,_,_,ev⟩:=Nv a6;unfold K4 at ev;simp only[Value.agg.injEq,Array.mk.injEq,List.cons.injEq,Value.int.injEq,Value.slice.injEq] at ev;have ch:u0=((k+1:Nat):Int):=by rw[ev.1.2,cc.o]
        clear ev;subst ch;have ca:=Aa a6;have p:=Aa (G.o.up bq);clear V X Y x4 xf y0 y1 y2 y3 yf a6 bq au G a8 bf;obtain⟨_,_,_,_,gf⟩:=B3 p.o.box;have cl:=gf 0;have cn:=gf 1;have co:=gf 2;have cp:=gf 3;clear gf e1;generalize cg:((k+1:Nat):Int)=ki at *;go_wp2_with fail;subst cg;obtain⟨hP,hG⟩:=sF _ _ _ _ _ _ (Zi ((k+1:Nat):Int)) (Zs g1 p1 b5) (Zi u2) (Zs g2 p2 b6) _ p.o.box;have cj:w0.heap.size<=w.heap.size:=b7.o;have en:n+1+(k-j)=n+(k+1-j):=by omega
        refine⟨⟨k+1,g1,p1,b5,u2,g2,p2,b6,O,ae,by omega,by omega,Aa ⟨en ▸ p.o.base.store p.o.box (by decide) ce cj hG,p.o.only.grown hG (λm hm bt=>by injection hm with hm;omega),p.o.link,hP,ca.o.put p.o.box hG,?_,?_,?_,HQ.o⟩⟩,?_⟩
        ·exact(hG.block _ (Ac p.o.com) (λe=>by injection e with e;omega)).trans p.o.com
        ·exact AIC p.o.kb p.o.box (by decide) hG
        ·exact⟨XG p.o.st.size hG.size,λg o x hc=>(hG.block g (Ya (Fv hc) p.o.st.size) (λe=>by injection e with e;have:=Fv hc;omega)).trans (p.o.st.same g o x hc)⟩
        have e1:=Pm (B3 hP).1;rw[ci.o,e1];omega
     have ao:k=H.length:=by omega
     have hh:=(HL.o.2 k (by omega)).2 (by omega);have u:=AEG (fs:=fs) (s:=pb) hh;have a9:Hid (Bi (Ae H H.length) (tx,q,A) t):=Aa (ao ▸ HT.o);have a0:Hid (Nj (tx,q,A) H j H.length):=Aa (ao ▸ b.o.quiet);have bg:Hid (((H.length+1:Nat):Int)=(k:Int)+1):=Aa (by omega);have bl:Hid (D.put (B.lit (Ek (k+1))) (B.Gw pb)=D.put (B.lit (Ek (H.length+1))) (B.Gw (C6 (tx,q,A)))):=Aa (by rw[az.o,ao]);clear ao
     by_cases f1:fs.headD 0=1
     ·have f:=Aa (Ub b.o.base (by omega) (k+1) pb (by unfold maxLen;omega) (14,D,fs.tail) (by rw[u,Yae f1]))
      rw[show B.L8 ((14:Int),D,fs.tail).1=Value.iface 83 (Zi 14) from rfl] at f;have F1:=Aa f1;clear f1 u;go_wp2_with fail;refine f.o.mono ?_;rintro e P⟨rfl,O,ae,d,l,y⟩;obtain⟨o1,l1,bx,sn,cm,z,M⟩:=b.o.put d l y;have v:=Aa (Ut b.o.base.bu l J.o (by decide));have r:=Aa (AIL bb kb _ D O (k+1) P (by omega) d.ground z hh);rw[e1] at r;have I:Hid (∀W,Below P.heap.size P W->Jy w0 w NF bb n D fs mv (tx,q,A) H j (Zr (Zu #[Zi 0,Zf 83 (Zi 14)])) W):=Aa (λW hb=>⟨_,_,_,_,_,d.up hb,by omega,o1.trans (B.A0.Ba (S:=λ_=>False) hb) (λ_ _ h=>h.elim),l1,.inr ⟨_,_,rfl,rfl,.inr (.inr (.inr ⟨a0.o,F1.o⟩))⟩⟩);clear d l y o1 l1 bx sn cm z M f hh b J;obtain⟨V,X,Y,x4,xf⟩:=B3 v.o;go_wp2_with fail;refine r.o.mono ?_;rintro e w5⟨rfl,U⟩;clear r;go_wp2_with fail;go_ret2;exact I.o _ (Below.Ap U (Zal))
     by_cases f2:fs.headD 0=2
     ·have f:=Aa (Ub b.o.base (by omega) (k+1) pb (by unfold maxLen;omega) (14,D.put (B.lit (Ek (k+1))) (B.Gw pb),fs.tail) (by rw[u,Yad f1,Yae f2]))
      rw[show B.L8 ((14:Int),D.put (B.lit (Ek (k+1))) (B.Gw pb),fs.tail).1=Value.iface 83 (.int .i64 14) from rfl] at f;clear f1 f2 u;go_wp2_with fail;refine f.o.mono ?_;rintro e P⟨rfl,O,ae,d,l,y⟩;obtain⟨o1,l1,bx,sn,cm,z,M⟩:=b.o.put d l y;have v:=Aa (Ut b.o.base.bu l J.o (by decide));have r:=Aa (AAJ bb kb _ _ O (k+1) (tx,q,A) P (by omega) d.ground z (Maps.has_put_same HL.o.1 L4 _) (by rw[Maps.atKey_put_same HL.o.1 L4,az.o]) ax.o);rw[e1,az.o] at r;simp only at r;have I:Hid (∀W,Below P.heap.size P W->Jy w0 w NF bb n D fs mv (tx,q,A) H j (Zr (Zu #[Zi ((k:Int)+1),Zn])) W):=Aa (λW hb=>⟨_,_,_,_,_,d.up hb,by omega,o1.trans (B.A0.Ba (S:=λ_=>False) hb) (λ_ _ h=>h.elim),l1,.inl ⟨t,by rw[bg.o],a9.o,ax.o.ok,a0.o,bl.o⟩⟩);clear d l y o1 l1 bx sn cm z M f hh b J;obtain⟨V,X,Y,x4,xf⟩:=B3 v.o;go_wp2_with fail;refine r.o.mono ?_;rintro e w5⟨ba,bn,bc,rfl,aj,U⟩;have ad:Hid (Below P.heap.size P (w5.alloc (Zk #[Zt pb,Zt tx,Zo q,Zs ba bn bc] 81))):=Aa (Below.Ap U (Zal));have b8:=Aa ((ad.o.block _ (Ac v.o)).trans v.o);clear r V X Y x4 xf aj U v;obtain⟨V,X,Y,x4,xf⟩:=B3 b8.o;go_wp2_with fail;go_ret2;exact I.o _ ad.o
     have f:=Aa (Ub b.o.base (by omega) (k+1) pb (by unfold maxLen;omega) (0,D.put (B.lit (Ek (k+1))) (B.Gw pb),fs.tail) (by rw[u,Yad f1,Yad f2]));rw[show B.L8 ((0:Int),D.put (B.lit (Ek (k+1))) (B.Gw pb),fs.tail).1=Value.nilIface from rfl] at f;clear f1 f2 u;go_wp2_with fail;refine f.o.mono ?_;rintro e P⟨rfl,O,ae,d,l,y⟩;obtain⟨o1,l1,bx,sn,cm,z,M⟩:=b.o.put d l y;have v:=Aa (Ut b.o.base.bu l J.o (by decide));have I:Hid (Jy w0 w NF bb n D fs mv (tx,q,A) H j (Zr (Zu #[Zi ((k:Int)+1),Zn])) P):=Aa ⟨_,_,_,_,_,d,by omega,o1,l1,.inl ⟨t,by rw[bg.o],a9.o,ax.o.ok,a0.o,bl.o⟩⟩;clear d l y o1 l1 bx sn cm z M f hh b J;obtain⟨V,X,Y,x4,xf⟩:=B3 v.o;go_wp2_with fail;go_ret2;exact I.o
    have I:Hid (Jy w0 w NF bb n D fs mv (tx,q,A) H j (Zr (Zu #[Zi 0,Zf ty x])) (w2.alloc (Zk #[Zi z0,Zs b1 m1 d1,Zi z2,Zs b2 m2 d2] 42))):=by have hI:=HI.o.up (Below.Ap T ((XD _ _).alloc (XA _) (Zk #[Zi z0,Zs b1 m1 d1,Zi z2,Zs b2 m2 d2] 42)));exact Aa ⟨_,_,_,_,_,hI.base,by omega,hI.only,hI.link,.inr ⟨_,_,rfl,rfl,.inr (.inl ⟨k,br,bs,hI.quiet,bv⟩)⟩⟩
    clear V X Y x4 xf y0 y1 y2 yf T bv ab;go_wp2_with fail;go_ret2;exact I.o
namespace E
abbrev V:Type:=Int×Int×ByteArray
def str(l:List UInt8):ByteArray:=⟨l.toArray⟩
theorem Ux(s:Tb):str s.data.toList=s:=by cases s;simp[str]
theorem Eo(l:List UInt8):(str l).data.toList=l:=by simp[str]
theorem Ds(l:List UInt8):(str l).size=l.length:=by show (str l).data.size=_;simp[str]
def Pp(x:Int):Int:=(x+9223372036854775808) % 18446744073709551616-9223372036854775808
def J3(v:V):List UInt8:=if v.1=1 then uvarint (zigzag v.2.1) else uvarint v.2.2.size++v.2.2.data.toList
def Fx(l:List V):List UInt8:=l.flatMap J3
def same(v:V):List V->Nat
 | []=>0
 | x :: l=>if x=v then same v l+1 else 0
theorem Ue(v:V):∀l,same v l<=l.length
 | []=>XA _
 | x :: l=>by unfold same;split <;> simp;exact Ue v l
def El:Nat->List V->List UInt8
 | 0,_=>[]
 | _+1,[]=>[]
 | f+1,v :: l=>uvarint (same v l+1)++J3 v++El f (l.drop (same v l))
def place(v:V):List V->Nat
 | []=>0
 | x :: l=>if x=v then 0 else place v l+1
def Ff(s:List V×List UInt8)(v:V):List V×List UInt8 :=
 (if place v s.1<s.1.length then s.1 else s.1++[v],s.2++uvarint (place v s.1))
def Pd(l:List V):List UInt8 :=
 uvarint (l.foldl Ff ([],[])).1.length++Fx (l.foldl Ff ([],[])).1++(l.foldl Ff ([],[])).2
def G5(a:Int):List V->List UInt8
 | []=>[]
 | v :: l=>uvarint (zigzag (Pp (v.2.1-a)))++G5 v.2.1 l
def I0(a:Nat)(l:List V):List UInt8:=if a=1 then El l.length l else if a=2 then Pd l else if a=3 then G5 0 l else Fx l
def better(a b:List UInt8):List UInt8:=if b.length<a.length then b else a
def Hp(kind:Int)(l:List V):Nat->List UInt8
 | 0=>[]
 | 1=>0 :: I0 0 l
 | w+2=>if w+1=3/\kind≠1 then Hp kind l (w+1) else better (Hp kind l (w+1)) ((w+1).toUInt8 :: I0 (w+1) l)
def AEn(kind:Int)(l:List V):List UInt8:=Hp kind l 4
def Qi(v:V):Bool:=v.1==0
def Cb(l:List V)(m:Nat):Nat->List Nat
 | 0=>List.replicate m 0
 | k+1=>if (l[k]?.map Qi)=some true then (Cb l m k).set (k / 8) (((Cb l m k)[k / 8]?.getD 0)+2 ^ (k % 8)) else Cb l m k
def Q8(l:List V):List Nat:=Cb l ((l.length+7) / 8) l.length
def Gq(l:List V):List UInt8:=(Q8 l).map Nat.toUInt8
def known(l:List V):List V:=l.filter λv=>!Qi v
def Hv(kind:Int)(l:List V):List UInt8:=uvarint l.length++Gq l++AEn kind (known l)
abbrev St:Type:=List UInt8×Bool
def Nu(full:List UInt8):Nat->List UInt8->Nat->Nat×List UInt8×Bool
 | _,[],_=>(0,full,false)
 | i,c :: r,acc=>
   if i=10 then (0,full,false)
   else if c.toNat<128 then (acc+c.toNat % 128*2 ^ (7*i) % 18446744073709551616,r,decide (uvarint (acc+c.toNat % 128*2 ^ (7*i) % 18446744073709551616)=full.take (i+1)))
   else Nu full (i+1) r (acc+c.toNat % 128*2 ^ (7*i) % 18446744073709551616)
def rdNum(l:List UInt8):Nat×List UInt8×Bool:=Nu l 0 l 0
def Fg(s:St):Nat×St:=((rdNum s.1).1,((rdNum s.1).2.1,s.2 || !(rdNum s.1).2.2))
def Ra(most:Int)(s:St):Bool:=(Fg s).2.2 || decide (most<0) || decide (most<((Fg s).1:Int))
def Am(most:Int)(s:St):Nat×St:=if Ra most s then (0,((Fg s).2.1,true)) else Fg s
def C8(n:Nat)(s:St):List UInt8×St:=if s.1.length<n then ([],(s.1,true)) else (s.1.take n,(s.1.drop n,s.2))
def Dy(kind:Int)(s:St):V×St :=
 if kind=1 then ((1,unzigzag (Fg s).1,str []),(Fg s).2)
 else ((2,0,str (C8 (Am 40 s).1 (Am 40 s).2).1),(C8 (Am 40 s).1 (Am 40 s).2).2)
def Cn(kind:Int):Nat->St->List V×St
 | 0,s=>([],s)
 | n+1,s=>((Dy kind s).1 :: (Cn kind n (Dy kind s).2).1,(Cn kind n (Dy kind s).2).2)
def Qy(kind:Int)(n:Nat)(l:List V)(s:St):St:=(Dy kind (Am (n-l.length:Nat) s).2).2
def rM(kind:Int)(n:Nat)(l:List V)(s:St):List V:=l++List.replicate (Am (n-l.length:Nat) s).1 (Dy kind (Am (n-l.length:Nat) s).2).1
def G7(kind:Int)(n:Nat):Nat->List V->St->List V×St
 | 0,l,s=>(l,s)
 | f+1,l,s=>if l.length<n/\s.2=false then G7 kind n f (rM kind n l s) (Qy kind n l s) else (l,s)
def Ec(d:List V):Nat->List V->St->List V×St
 | 0,a,s=>(a,s)
 | n+1,a,s=>
   if (Am ((d.length:Int)-1) s).2.2 then ([],(Am ((d.length:Int)-1) s).2)
   else Ec d n (a++[d[(Am ((d.length:Int)-1) s).1]?.getD (0,0,str [])]) (Am ((d.length:Int)-1) s).2
def Nw(kind:Int)(n:Nat)(s:St):List V×St :=
 Ec (Cn kind (Am n s).1 (Am n s).2).1 n [] (Cn kind (Am n s).1 (Am n s).2).2
def E5:Nat->Int->St->List V×St
 | 0,_,s=>([],s)
 | n+1,a,s=>((1,Pp (a+unzigzag (Fg s).1),str []) :: (E5 n (Pp (a+unzigzag (Fg s).1)) (Fg s).2).1,(E5 n (Pp (a+unzigzag (Fg s).1)) (Fg s).2).2)
def Gs(kind:Int)(a:Nat)(n:Nat)(s:St):List V×St :=
 if a=0 then Cn kind n s else if a=1 then G7 kind n (s.1.length+2) [] s else if a=2 then Nw kind n s
 else if a=3 then E5 n 0 s else ([],(s.1,true))
def gF(b:List UInt8)(i:Nat):Nat:=(b[i / 8]?.getD 0).toNat / 2 ^ (i % 8) % 2
def B8(b:List UInt8):Nat->List Nat
 | 0=>[]
 | k+1=>if gF b k=0 then B8 b k++[k] else B8 b k
def F0(l:List V):List Nat->List V->List V
 | p :: ps,v :: vs=>F0 (l.set p v) ps vs
 | _,_=>l
def V6(s:List UInt8):Nat×St:=Am 60 (s,false)
def Bv(s:List UInt8):List UInt8×St:=C8 (((V6 s).1+7) / 8) (V6 s).2
def cB(s:List UInt8):List UInt8×St:=C8 1 (Bv s).2
def xX(s:List UInt8):List Nat:=B8 (Bv s).1 (V6 s).1
def nS(kind:Int)(s:List UInt8):List V×St:=Gs kind ((cB s).1[0]?.getD 0).toNat (xX s).length (cB s).2
def Lr(kind:Int)(s:List UInt8):List V×Bool :=
 if (cB s).2.2 then ([],true) else if (nS kind s).2.2 then ([],true)
 else (F0 (List.replicate (V6 s).1 (0,0,str [])) (xX s) (nS kind s).1,false)
variable{k:Nat}{W w:Tw}{T:TypeId}{v:Tv}{l:List V}{x:V}
theorem Ab{p:Prop}(h:p):Hid p:=h
theorem Bd{k:IntKind}{a b:Int}(h:a=b):Ending.returned (.int k a)=Zr (.int k b):=by rw[h]
theorem Af{a b:Bool}(h:a=b):Ending.returned (Zo a)=Zr (Zo b):=by rw[h]
theorem bX:(prog.info? 5).map (λi=>(i.zero,i.size,i.bytes))=some (some (.int .u8 0),1,1):=by kernel_rfl
def Wr(B:Nat)(w b:World):Prop:=Below B w b/\∀k,k<w.heap.size->(∀a fr,w.heap[k]? ≠some (.cells a 5 fr))->b.heap[k]? = w.heap[k]?
theorem Wr.refl(B:Nat)(w:Tw):Wr B w w:=⟨XD _ _,λ_ _ _=>rfl⟩
theorem Wr.trans{B:Nat}{a b c:Tw}(h:Wr B a b)(k:Wr B b c):Wr B a c :=
 ⟨h.1.trans k.1,λi f g=>by have e:=h.2 i f g;exact(k.2 i (Ya f h.1.size) (λd fr=>by rw[e];exact g d fr)).trans e⟩
theorem Wr.Ba{B:Nat}(h:Zb w W)(a:B<=w.heap.size):Wr B w W:=⟨h.mono a,λk b _=>h.block k b⟩
theorem Wr.alloc{B:Nat}{a w:Tw}(h:Wr B a w)(b:B<=w.heap.size)(o:Obj):Wr B a (w.alloc o) :=
 h.trans (Wr.Ba (Zal) b)
theorem Wr.drew{B:Nat}{a w:Tw}(h:Wr B a w):Wr B a w.drew:=⟨h.1.drew,h.2⟩
theorem Wr.grown{B n:Nat}{a w W:Tw}{v:Tv}{xs:List Tv}(h:Wr B a w)(d:w.ownsRow B 5 1 v n xs)(c:w.grownBy W v.ownBlock)(j:B<=w.heap.size):Wr B a W :=
 h.trans ⟨(XD _ _).grown c j (λk b=>(d.lt k b).1),λk b hn=>c.block k b (λe=>by
  rcases d.2 with⟨rfl,_⟩|⟨g,f,i,rfl,_,l,_⟩
  ·cases e
  cases e;exact hn _ _ l)⟩
theorem Dq(B n x:Nat)(O:x<18446744073709551616)(sv:Tv)(xs:List Tv)(w:Tw)(k:w.ownsRow B 5 1 sv n xs)(J:B<=w.heap.size)(v:n+10<=140737488355328):
 Zc 166 #[sv,.int .u64 x] w λe D=>∃v',e=Zr v'/\D.ownsRow B 5 1 v' (n+(Lib.uvarint x).length) (xs++Lib.byteCells (Lib.uvarint x))/\Wr B w D:=by
 obtain⟨z,t,m,o,p⟩:=info_parts bX;have hlen:=Lib.uvarint_length64 O;go_enter func166,ntmps166;go_wp2
 go_loopw [0,1] (λvb r wr=>∃(y:Nat)(pre:List UInt8),r=.int .u64 y/\y<=x/\Lib.uvarint x=pre++Lib.uvarint y/\wr.ownsRow B 5 1 vb (n+pre.length) (xs++Lib.byteCells pre)/\Wr B w wr)
  (λ_ r _=>(intOf r).toNat)
 case atStart=>exact⟨x,[],rfl,XA _,rfl,by simpa[Lib.byteCells] using k,Wr.refl _ _⟩
 case round=>
  obtain⟨y,pre,rfl,R,b,a,h⟩:=hrel
  have M:pre.length+(Lib.uvarint y).length<=10:=by have I:=congrArg List.length b;rw[XB] at I;omega
  have P:=Lib.uvarint_pos y;have N:=h.1.size;have i:B<=wr.heap.size:=by omega
  by_cases h128:128<=y
  ·have L:bits .or .u8 ((y:Int) % 256) 128=((y % 128+128:Nat):Int):=by
    rw[Lib.u8_or128_any _ (by omega) (by omega)];omega
   go_wp2_with (at_builtin;refine wpList_append_own _ rfl _ _ 77 rfl B 5 z (.int .u8 0) 1 1 underlying77 t m o p rfl (by decide) _ _ _ rfl (a.alloc _) ⟨wr.heap.size,0,none⟩ 1 1 [Value.int .u8 ((y % 128+128:Nat):Int)] rfl rfl ?c1 ?c2 ?c3 ?c4 ?c5 ?_)
   case c1=>
    intro j u g
    match j,g with
    | 0,g=>simp at g;subst g;simp[Addr.add]
   case c2=>intro u l;simp at l;subst l;rfl
   case c3=>unfold maxLen;omega
   case c4=>omega
   case c5=>simp;omega
   intro v' s d c _;have f:Wr B w s:=(h.alloc i _).grown (a.alloc _) c (by simp;omega);go_wp2
   go_roundw
   case rel=>
    refine⟨y / 128,pre++[(y % 128+128).toUInt8],by go_num,by omega,by rw[b,Lib.uvarint_big h128];simp,?_,f⟩;have G:((y % 128+128:Nat):Int)=(y:Int) % 128+128:=by omega
    rw[Lib.byteCells_snoc pre (by omega),XB,YD,<-XQ,G];exact d
   case measure=>simp[intOf];omega
  have q:Lib.uvarint y=[y.toUInt8]:=Lib.uvarint_small (by omega);go_wp2_with (at_builtin;refine wpList_append_own _ rfl _ _ 77 rfl B 5 z (.int .u8 0) 1 1 underlying77 t m o p rfl (by decide) _ _ _ rfl (a.alloc _) ⟨wr.heap.size,0,none⟩ 1 1 [Value.int .u8 (y:Int)] rfl rfl ?c1 ?c2 ?c3 ?c4 ?c5 ?_)
  case c1=>
   intro j u g
   match j,g with
   | 0,g=>simp at g;subst g;simp[Addr.add]
  case c2=>intro u l;simp at l;subst l;rfl
  case c3=>unfold maxLen;omega
  case c4=>omega
  case c5=>simp;omega
  intro v' s d c _;have f:Wr B w s:=(h.alloc i _).grown (a.alloc _) c (by simp;omega);go_wp2;go_ret;refine⟨v',rfl,?_,f⟩;rw[b,q,Lib.byteCells_snoc pre (by omega),XB,YD,<-XQ];exact d
theorem oG(a b:Int):bits .xor .i64 a b=bits .xor .i64 b a:=by show IntKind.i64.wrap ((BitVec.ofInt 64 a ^^^ BitVec.ofInt 64 b).toNat:Int)=IntKind.i64.wrap ((BitVec.ofInt 64 b ^^^ BitVec.ofInt 64 a).toNat:Int);rw[BitVec.xor_comm]
theorem pB(a b:Int):bits .xor .u64 a b=bits .xor .u64 b a:=by show IntKind.u64.wrap ((BitVec.ofInt 64 a ^^^ BitVec.ofInt 64 b).toNat:Int)=IntKind.u64.wrap ((BitVec.ofInt 64 b ^^^ BitVec.ofInt 64 a).toNat:Int);rw[BitVec.xor_comm]
theorem oM(x:Nat)(c:x<9223372036854775808):bits .xor .i64 (x:Int) 0=x:=by
 show IntKind.i64.wrap ((BitVec.ofInt 64 (x:Int) ^^^ BitVec.ofInt 64 0).toNat:Int)=_
 have b:(BitVec.ofInt 64 (x:Int)).toNat=x:=by rw[BitVec.ofInt_natCast,BitVec.toNat_ofNat];exact YX (by omega)
 have a:(BitVec.ofInt 64 0).toNat=0:=by decide
 rw[BitVec.toNat_xor,a,b,Nat.xor_zero,IntKind.wrap_i64];omega
theorem mU(x:Nat)(a:x<18446744073709551616):bits .xor .u64 (x:Int) 0=x:=by have:=bits_xor_u64_nat x 0 (by simpa using a) (by decide);simpa using this
theorem Ms(B n:Nat)(x:Int)(c : -9223372036854775808<=x)(h:x<=9223372036854775807)(sv:Tv)(xs:List Tv)(w:Tw)(b:w.ownsRow B 5 1 sv n xs)(d:B<=w.heap.size)(a:n+10<=140737488355328):
 Zc 330 #[sv,Zi x] w λe j=>∃v',e=Zr v'/\j.ownsRow B 5 1 v' (n+(Lib.uvarint (Lib.zigzag x)).length) (xs++Lib.byteCells (Lib.uvarint (Lib.zigzag x)))/\Wr B w j:=by
 have i:=Ab (Dq B n (Lib.zigzag x) (Lib.zigzag_lt c h) sv xs w b d a)
 by_cases hneg:x<0
 ·have E:Hid (bits .xor .u64 (IntKind.u64.wrap (IntKind.u64.wrap x*2)) (IntKind.u64.wrap (x / 9223372036854775808))=((Lib.zigzag x:Nat):Int)):=by
   have e:x / 9223372036854775808 = -1:=by omega
   rw[e,pB,<-Lib.zigzag_neg c hneg];rfl
  go_enter func330,ntmps330;go_wp2_with fail;rw[E.o];refine i.o.mono ?_;rintro e l⟨v',rfl,g,f⟩;go_wp2;go_ret;exact⟨v',rfl,g,f⟩
 have E:Hid (bits .xor .u64 (x*2) (x / 9223372036854775808)=((Lib.zigzag x:Nat):Int)):=by
  have e:x / 9223372036854775808=0:=by omega
  have k:x*2=((Lib.zigzag x:Nat):Int):=(Lib.zigzag_nonneg (by omega)).symm;rw[e,k];exact mU _ (Lib.zigzag_lt c h)
 go_enter func330,ntmps330;go_wp2_with fail;rw[E.o];refine i.o.mono ?_;rintro e l⟨v',rfl,g,f⟩;go_wp2;go_ret;exact⟨v',rfl,g,f⟩
theorem gV(x:Nat)(c:x<18446744073709551616)(w:Tw):
 Zc 326 #[.int .u64 x] w λe b=>e=Zr (Zi (Lib.unzigzag x))/\b=w:=by
 have H:Hid (bits .xor .i64 ((x:Int) / 2) (wrap64 (-wrap64 (bits .and .u64 (x:Int) 1)))=Lib.unzigzag x):=by
  rw[Lib.u64_and1 _ (by omega) (by omega)];have a:((x:Int) / 2)=((x / 2:Nat):Int):=by omega
  rw[a];unfold Lib.unzigzag
  by_cases h:x % 2=0
  ·rw[Yae h,show ((x:Int) % 2)=0 by omega]
   rw[show wrap64 (-wrap64 0)=0 by unfold wrap64;omega];exact oM (x / 2) (by omega)
  rw[Yad h,show ((x:Int) % 2)=1 by omega,oG];rw[show wrap64 (-wrap64 1) = -1 by unfold wrap64;omega];exact Lib.i64_not (x / 2) (by omega)
 go_enter func326,ntmps326;go_wp2;go_ret;exact⟨Bd H.o,rfl⟩
theorem aH{P:Program}{g:Array Oper}{o:Oper}{a:Act}{K:Act->Tw->Prop}{Q:Exit->Act->Tw->Prop}{E:Prop}(m:o.guard=none)(p x:Operand)(t u:TypeId)(z:o.op=.call { callee:=.builtin .append,args:=#[p,x],argTypes:=#[t,u] })(base:Nat)(e:TypeId)(i:TypeInfo)(I:P.underlying t=some (.slice e))(J:P.underlying u=some .string)(y:P.info? e=some i)(N:i.zero=some (.int .u8 0))(d:i.size=1)(l:i.bytes=1)(v:Tv)(n:Nat)(xs:List Tv)(G:a.eval p=v)(f:w.ownsRow base e 1 v n xs)(s:Tb)(M:a.eval x=Zt s)(k:n+s.size<=maxLen)(b:n+s.size<=140737488355328)(c:base<=w.heap.size)(h:∀v' j,j.ownsRow base e 1 v' (n+s.size) (xs++Lib.strCells s)->w.grownBy j v.ownBlock->K (a.put o.dst v') j):
 if Region.wanted o (yielded g a.tmps)=true then Oper.wp P o a w K Q else E:=by
 have L:Region.wanted o (yielded g a.tmps)=true:=by simp[Region.wanted,m]
 rw[Yae L];obtain⟨v',j,D,q,r,O⟩:=Lib.run_append_own_string (P:=P) w base t u o.type e i I J y N d l v n xs f s k b c;unfold Oper.wp execOp;simp only[z,resolve,invoke,builtin,Sem.run_bind,Sem.run_pure,Result.andThen_ok,List.map_toArray,XZ,List.map_nil,G,M,D];exact h v' j q r
theorem Bg(a b:List UInt8):Lib.byteCells (a++b)=Lib.byteCells a++Lib.byteCells b:=Lib.byteCells_append a b
theorem fU(t:Tb):Lib.strCells t=Lib.byteCells t.data.toList:=rfl
theorem Hw{B:Nat}(h:Wr B w W){b:Nat}{cs:Array Tv}{fr:Nat×Nat}(a:w.heap[b]? = some (Zk cs T fr))(g:T≠5):W.heap[b]? = some (Zk cs T fr):=by
 rw[h.2 b (by
  rcases Yc b w.heap.size with c|c
  ·exact c
  rw[XJ c] at a;cases a) (λd f e=>by rw[a] at e;injection e with e;injection e with _ e;exact g e)]
 exact a
theorem ADw{B n b:Nat}{xs:List Tv}{cs:Array Tv}{fr:Nat×Nat}(j:w.grownBy W v.ownBlock)(c:w.heap[b]? = some (Zk cs T fr))(k:w.ownsRow B 5 1 v n xs)(i:T≠5:=by decide):W.heap[b]? = some (Zk cs T fr):=by
 rw[j.block b (by
  rcases Yc b w.heap.size with d|d
  ·exact d
  ·rw[XJ d] at c;cases c) (λe=>by
  rcases k.2 with⟨rfl,_⟩|⟨g,f,h,rfl,_,a,_⟩
  ·cases e
  cases e;rw[c] at a;injection a with a;injection a with _ a;exact i a)]
 exact c
theorem N8(B n:Nat)(k x:Int)(t:Tb)(N : -9223372036854775808<=x)(O:x<=9223372036854775807)(X:t.size<=1000000)(sv:Tv)(xs:List Tv)(w:Tw)(b:w.ownsRow B 5 1 sv n xs)(i:B<=w.heap.size)(M:n<=1000000):
 Zc 328 #[sv,Zg #[Zi k,Zi x,Zt t]] w λe a=>∃v',e=Zr v'/\a.ownsRow B 5 1 v' (n+(J3 (k,x,t)).length) (xs++Lib.byteCells (J3 (k,x,t)))/\Wr B w a:=by
 obtain⟨R,L,l,m,p⟩:=info_parts bX;have q:=Zy L l m p;clear L l m p;have J:=Ab b;clear b
 by_cases hk:k=1
 ·have u:Hid (J3 (k,x,t)=Lib.uvarint (Lib.zigzag x)):=by unfold J3;rw[Yae hk];exact rfl
  have y:(k==1)=true:=by simpa using hk
  have s:Hid (∀o,Zc 330 #[sv,Zi x] (w.alloc o) λe a=>∃v',e=Zr v'/\a.ownsRow B 5 1 v' (n+(Lib.uvarint (Lib.zigzag x)).length) (xs++Lib.byteCells (Lib.uvarint (Lib.zigzag x)))/\Wr B w a):=λo=>(Ms B n x N O sv xs (w.alloc o) (J.o.alloc o) (by simp;omega) (by omega)).mono λe a⟨v',z,v,r⟩=>⟨v',z,v,((Wr.refl B w).alloc i o).trans r⟩
  clear hk;rw[u.o];go_enter func328,ntmps328;go_wp2_with (go_at_call 330;refine(s.o _).mono ?_;rintro e V⟨v',rfl,D,y⟩);go_ret;exact⟨v',rfl,D,y⟩
 have u:Hid (J3 (k,x,t)=Lib.uvarint t.size++t.data.toList):=by unfold J3;rw[Yad hk];exact rfl
 have y:(k==1)=false:=by simpa using hk
 have s:Hid (∀W,W.heap[w.heap.size]? = some (Zk #[Zi k,Zi x,Zt t] 57)->Wr B w W->W.ownsRow B 5 1 sv n xs->Zc 166 #[sv,.int .u64 (IntKind.u64.wrap (t.size:Int))] W λe a=>∃v',e=Zr v'/\a.ownsRow B 5 1 v' (n+(Lib.uvarint t.size).length) (xs++Lib.byteCells (Lib.uvarint t.size))/\Wr B w a/\a.heap[w.heap.size]? = some (Zk #[Zi k,Zi x,Zt t] 57)):=λW hh hw D=>by rw[show IntKind.u64.wrap (t.size:Int)=((t.size:Nat):Int) by rw[IntKind.wrap_u64];omega];exact(Dq B n t.size (by omega) sv xs W D (by have:=hw.1.size;omega) (by omega)).mono λe a⟨v',z,v,r⟩=>⟨v',z,v,hw.trans r,Hw r hh (by decide)⟩
 have I:Hid (∀W:Tw,W.heap[w.heap.size]? = some (Zk #[Zi k,Zi x,Zt t] 57)->W.cell? ⟨w.heap.size,2,none⟩=some (Zt t)):=λW h=>by simp[World.cell?,h]
 have P:(Lib.uvarint t.size).length<=10:=Lib.uvarint_length64 (by omega);clear hk;rw[u.o];go_enter func328,ntmps328;go_wp2_with fail
 go_region_held3 (λa=>a.cell? ⟨w.heap.size,2,none⟩=some (Zt t))
  (first
    | (go_keep;done)
    | exact I.o _ f
    | exact I.o _ (g))
  (first
    | (go_at_call 166;refine(s.o _ ?_ ?_ ?_).mono ?_;exact Yac _ _;exact((Wr.refl B w).alloc i _).drew;exact J.o.alloc _;rintro e V⟨T,rfl,c,d,f⟩)
    | (refine aH (by rfl) (.tmp 17) (.tmp 19) 77 9 (by rfl) B 5 R underlying77 underlying9 q.o.1 q.o.2.1 q.o.2.2.1 q.o.2.2.2 T _ _ (by rfl) c t (by rfl) (by unfold maxLen;omega) (by omega) (by have:=d.1.size;omega) ?_;intro U Y G j;have g:=ADw j f c))
 go_wp2;go_ret;rw[XB,<-XQ,Bg,<-XU];exact⟨U,rfl,G,d.grown c j (by have:=d.1.size;omega)⟩
def Sl(w:World)(v:Value)(l:List V):Prop :=
 ∃a c,v=.slice a l.length c/\l.length<=c/\(l≠[]->∃b off,a=some ⟨b,off,none⟩/\b<w.heap.size /\
  ∀j x,l[j]? = some x->w.cell? ⟨b,off+j*3,none⟩=some (Zi x.1)/\w.cell? ⟨b,off+j*3+1,none⟩=some (Zi x.2.1)/\w.cell? ⟨b,off+j*3+2,none⟩=some (.string x.2.2))
theorem Sl.up(h:Sl w v l)(f:Zb w W):Sl W v l:=by obtain⟨a,c,e,g,s⟩:=h;refine⟨a,c,e,g,λi=>?_⟩;obtain⟨b,off,k,d,q⟩:=s i;refine⟨b,off,k,Ya d f.size,λj x r=>?_⟩;obtain⟨m,n,o⟩:=q j x r;exact⟨(f.cell (p:=⟨b,off+j*3,none⟩) d).trans m,(f.cell (p:=⟨b,off+j*3+1,none⟩) d).trans n,(f.cell (p:=⟨b,off+j*3+2,none⟩) d).trans o⟩
def Vd(l:List V):Prop:=l.length<=60/\∀x∈l,-9223372036854775808<=x.2.1/\x.2.1<=9223372036854775807/\x.2.2.size<=40
theorem Vd.get(h:Vd l){j:Nat}(a:l[j]? = some x):-9223372036854775808<=x.2.1/\x.2.1<=9223372036854775807/\x.2.2.size<=40:=h.2 x (XR a)
theorem rL(h : -9223372036854775808<=x.2.1/\x.2.1<=9223372036854775807/\x.2.2.size<=40):(J3 x).length<=50:=by
 unfold J3;split
 ·have:=Lib.uvarint_length64 (Lib.zigzag_lt h.1 h.2.1);omega
 have:=Lib.uvarint_length64 (x:=x.2.2.size) (by omega);have e:x.2.2.data.toList.length=x.2.2.size:=by rw[XS];rfl
 rw[XB,e];omega
theorem Br{α:Type}{l:List α}{x:α}(h:l[k]? = some x):l.take (k+1)=l.take k++[x]:=by
 have b:k<l.length:=by
  rcases Yc k l.length with a|a
  ·exact a
  rw[Yb a] at h;cases h
 rw[Ys b];rw[XN b] at h;injection h with h;rw[h]
theorem pP(h:l[k]? = some x):Fx (l.take (k+1))=Fx (l.take k)++J3 x:=by rw[Br h];simp[Fx]
theorem N0(h:∀x∈l,-9223372036854775808<=x.2.1/\x.2.1<=9223372036854775807/\x.2.2.size<=40):(Fx l).length<=l.length*50:=by
 induction l with
 | nil=>simp[Fx]
 | cons v l ih=>have b:=rL (h v (by simp));have c:=ih (λx a=>h x (by simp[a]));have e:Fx (v :: l)=J3 v++Fx l:=rfl;rw[e,XB,XC];omega
theorem Vd.take{l:List V}(h:Vd l)(k:Nat):Vd (l.take k):=⟨by have:=h.1;simp;omega,λx a=>h.2 x (Yk a)⟩
theorem Hk{α:Type}{l:List α}(h:k<l.length):∃x,l[k]? = some x:=⟨_,XN h⟩
theorem Xm(v:Tv)(l:List V)(w:Tw)(T:Sl w v l)(j:Vd l):
 Zc 316 #[v] w λe f=>∃v',e=Zr v'/\f.ownsRow w.heap.size 5 1 v' (Fx l).length (Lib.byteCells (Fx l))/\Wr w.heap.size w f:=by
 obtain⟨a,c,rfl,_,J⟩:=T;have M:=Ab J;have h:=Ab j;have P:=j.1;clear J j;go_enter func316,ntmps316;go_wp2
 go_loopw [3,8] (λvb x wr=>∃k:Nat,k<=l.length/\x=Zi k/\Hid (wr.ownsRow w.heap.size 5 1 vb (Fx (l.take k)).length (Lib.byteCells (Fx (l.take k))))/\Hid (Wr w.heap.size w wr)) (λ_ x _=>l.length-(intOf x).toNat)
 case atStart=>exact⟨0,XE _,rfl,XH _ _ _ _,Wr.refl _ _⟩
 case round=>
  obtain⟨k,X,rfl,m,d⟩:=hrel
  by_cases hlt:k<l.length
  ·obtain⟨b,off,rfl,i,I⟩:=M.o (by intro e;rw[e] at hlt;simp at hlt)
   obtain⟨⟨t,u,tx⟩,s⟩:=Hk hlt;obtain⟨y,z,D⟩:=I k _ s;have c0:wr.cell? ⟨b,off+k*3,none⟩=some (Zi t):=(d.o.1.cell (p:=⟨b,off+k*3,none⟩) i).trans y;have c1:wr.cell? ⟨b,off+k*3+1,none⟩=some (Zi u):=(d.o.1.cell (p:=⟨b,off+k*3+1,none⟩) i).trans z;have U:wr.cell? ⟨b,off+k*3+2,none⟩=some (Zt tx):=(d.o.1.cell (p:=⟨b,off+k*3+2,none⟩) i).trans D;have g:=h.o.get s;have q:=d.o.1.size;have N:=Ab (pP s)
   have L:Hid (∀o,Zc 328 #[_,Zg #[Zi t,Zi u,Zt tx]] (wr.alloc o) λe f=>∃v',e=Zr v'/\f.ownsRow w.heap.size 5 1 v' _ _/\Wr w.heap.size w f):=λo=>(N8 w.heap.size _ t u tx g.1 g.2.1 (by have:=g.2.2;simp at this;omega) _ _ (wr.alloc o) (m.o.alloc o) (by simp;omega) (by have W:=N0 (h.o.take k).2;have G:=(h.o.take k).1;omega)).mono λe f⟨v',R,G,O⟩=>⟨v',R,G,(d.o.alloc q o).trans O⟩
   clear y z D I g;go_wp2_with (go_at_call 328;refine(L.o _).mono ?_;rintro e w1⟨Y,rfl,n,r⟩)
   go_roundw
   case rel=>exact⟨k+1,by omega,by go_num,Ab (by rw[N.o,XB,Bg];exact n),Ab r⟩
   case measure=>simp[intOf];omega
  have e:l.take k=l:=Yd (by omega);rw[e] at m;go_wp2;go_ret;exact⟨_,rfl,m.o,d.o⟩
theorem Ww{a:Int}:∀{l:List V}{k:Nat}{x:V},l[k]? = some x->G5 a (l.take (k+1))=G5 a (l.take k)++Lib.uvarint (Lib.zigzag (Pp (x.2.1-(if k=0 then a else (l[k-1]?.map (·.2.1)).getD 0))))
 | [],k,x,h=>by simp at h
 | v :: l,0,x,h=>by simp at h;subst h;simp[G5]
 | v :: l,k+1,x,h=>by
   have b:l[k]? = some x:=by simpa using h
   have c:=Ww (a:=v.2.1) b;simp only[XY,G5,c,XU];congr 3;cases k with
   | zero=>simp
   | succ k=>simp
theorem N1(x:Int):-9223372036854775808<=Pp x/\Pp x<=9223372036854775807:=by unfold Pp;omega
theorem bQ{a:Int}:(G5 a l).length<=l.length*10:=by
 induction l generalizing a with
 | nil=>simp[G5]
 | cons v l ih=>have b:=Lib.uvarint_length64 (Lib.zigzag_lt (N1 (v.2.1-a)).1 (N1 (v.2.1-a)).2);have c:=ih (a:=v.2.1);simp only[G5,XB,XC];omega
theorem AAw(x:Int):wrap64 x=Pp x:=by unfold wrap64 Pp;rfl
def P7(l:List V)(k:Nat):Int:=if k=0 then 0 else (l[k-1]?.map (·.2.1)).getD 0
theorem rD(v:Tv)(l:List V)(w:Tw)(U:Sl w v l)(j:Vd l):
 Zc 315 #[v] w λe f=>∃v',e=Zr v'/\f.ownsRow w.heap.size 5 1 v' (G5 0 l).length (Lib.byteCells (G5 0 l))/\Wr w.heap.size w f:=by
 obtain⟨a,c,rfl,_,J⟩:=U;have O:=Ab J;have N:=Ab j;have P:=j.1;clear J j;go_enter func315,ntmps315;go_wp2
 go_loopw [3,4,9] (λvb W t wr=>∃k:Nat,k<=l.length/\t=Zi k/\W=Zi (P7 l k)/\Hid (wr.ownsRow w.heap.size 5 1 vb (G5 0 (l.take k)).length (Lib.byteCells (G5 0 (l.take k))))/\Hid (Wr w.heap.size w wr)) (λ_ _ t _=>l.length-(intOf t).toNat)
 case atStart=>exact⟨0,XE _,rfl,rfl,XH _ _ _ _,Wr.refl _ _⟩
 case round=>
  obtain⟨k,hk,rfl,rfl,m,h⟩:=hrel
  by_cases hlt:k<l.length
  ·obtain⟨b,off,rfl,i,I⟩:=O.o (by intro e;rw[e] at hlt;simp at hlt)
   obtain⟨⟨s,d,tx⟩,r⟩:=Hk hlt;obtain⟨x,y,z⟩:=I k _ r;have c0:wr.cell? ⟨b,off+k*3,none⟩=some (Zi s):=(h.o.1.cell (p:=⟨b,off+k*3,none⟩) i).trans x;have c1:wr.cell? ⟨b,off+k*3+1,none⟩=some (Zi d):=(h.o.1.cell (p:=⟨b,off+k*3+1,none⟩) i).trans y;have X:wr.cell? ⟨b,off+k*3+2,none⟩=some (Zt tx):=(h.o.1.cell (p:=⟨b,off+k*3+2,none⟩) i).trans z;have o:=h.o.1.size;have u:Hid (G5 0 (l.take (k+1))=G5 0 (l.take k)++Lib.uvarint (Lib.zigzag (Pp (d-P7 l k)))):=Ww r
   have L:Hid (P7 l (k+1)=d):=by show P7 l (k+1)=d;unfold P7;rw[Yad (by omega),Nat.add_sub_cancel,r];rfl
   generalize P7 l k=g at u
   have M:Hid (Zc 330 #[_,Zi (wrap64 (d-g))] (wr.alloc (Zk #[Zi s,Zi d,Zt tx] 57)) λe f=>∃v',e=Zr v'/\f.ownsRow w.heap.size 5 1 v' _ _/\Wr w.heap.size w f/\f.cell? ⟨wr.heap.size,1,none⟩=some (Zi d)) :=
    (Ms w.heap.size _ (wrap64 (d-g)) (AAw (d-g) ▸ (N1 (d-g)).1) (AAw (d-g) ▸ (N1 (d-g)).2) _ _ (wr.alloc (.cells #[.int .i64 s,.int .i64 d,.string tx] 57)) (m.o.alloc _) (by simp;omega) (by have Y:=bQ (a:=0) (l:=l.take k);have D:=(N.o.take k).1;omega)).mono λe f⟨v',T,D,G⟩=>⟨v',T,D,(h.o.alloc o _).trans G,by have:=Hw G (Yac _ _) (by decide);simp[World.cell?,this]⟩
   clear x y z I;go_wp2_with (go_at_call 330;refine M.o.mono ?_;rintro e w1⟨v1,rfl,n,q,R⟩)
   go_roundw
   case rel=>exact⟨k+1,by omega,by go_num,by rw[L.o],Ab (by rw[u.o,XB,Bg,<-AAw];exact n),Ab q⟩
   case measure=>simp[intOf];omega
  have e:l.take k=l:=Yd (by omega);rw[e] at m;go_wp2;go_ret;exact⟨_,rfl,m.o,h.o⟩
variable{k:Nat}{W w:Tw}{u v:Tv}{l:List V}{X Y:List Tv}{x:V}{s:List V×List UInt8}
abbrev ADW(x:V):Value:=.agg #[Zi x.1,Zi x.2.1,.string x.2.2]
def B7(p:V->Bool):List V->Nat
 | []=>0
 | x :: l=>if p x then 0 else B7 p l+1
def Kk(p:V->Bool)(l:List V):Int:=if B7 p l<l.length then (B7 p l:Int) else -1
theorem ABD{α:Type}{l:List α}{x:α}(h:l[k]? = some x):l.drop k=x :: l.drop (k+1):=by
 have b:k<l.length:=by
  rcases Yc k l.length with a|a
  ·exact a
  rw[Yb a] at h;cases h
 rw[Yq b];rw[XN b] at h;injection h with h;rw[h]
def Pr(g:Nat)(lb:Array Value)(p:V->Bool)(l:List V)(w:World):Prop :=
 ∀(W:World)(x:V),x∈l->Zb w W->Zc g (#[ADW x]++lb) W λe a=>e=.returned (.bool (p x))/\Zb w a
theorem Md(g:Nat)(lb:Array Tv)(p:V->Bool)(O:∀args w,(callFunc g args).run prog w=.ok (.enter g args) w)(v:Tv)(l:List V)(w:Tw)(M:Sl w v l)(L:l.length<=1000)(G:Pr g lb p l w):
 Zc 312 #[v,.func (.func g) #[] lb] w λe s=>e=Zr (Zi (Kk p l))/\Zb w s:=by
 obtain⟨a,c,rfl,_,D⟩:=M;have I:=Ab D;have J:=Ab G;clear D G;go_enter func312,ntmps312;go_wp2
 go_loopw [8] (λr wr=>∃k:Nat,k<=l.length/\r=Zi k/\Hid (B7 p l=k+B7 p (l.drop k))/\Hid (Zb w wr)) (λr _=>l.length-(intOf r).toNat)
 case atStart=>exact⟨0,XE _,rfl,Ab (by simp),XD _ _⟩
 case round=>
  obtain⟨k,P,rfl,m,i⟩:=hrel
  by_cases hlt:k<l.length
  ·obtain⟨b,off,rfl,j,z⟩:=I.o (by intro e;rw[e] at hlt;simp at hlt)
   obtain⟨⟨o,q,tx⟩,n⟩:=Hk hlt;obtain⟨u,x,y⟩:=z k _ n;have c0:wr.cell? ⟨b,off+k*3,none⟩=some (Zi o):=(i.o.cell (p:=⟨b,off+k*3,none⟩) j).trans u;have c1:wr.cell? ⟨b,off+k*3+1,none⟩=some (Zi q):=(i.o.cell (p:=⟨b,off+k*3+1,none⟩) j).trans x;have N:wr.cell? ⟨b,off+k*3+2,none⟩=some (Zt tx):=(i.o.cell (p:=⟨b,off+k*3+2,none⟩) j).trans y;have d:=J.o wr (o,q,tx) (XR n) i.o;have t:=Ab (ABD n);clear u x y z;cases hq:p (o,q,tx) with
   | true=>
     rw[hq] at d
     have h:Hid ((k:Int)=Kk p l):=by
      have:B7 p l=k:=by rw[m.o,t.o];simp[B7,hq]
      show (k:Int)=Kk p l;unfold Kk;rw[this,Yae hlt]
     go_wp2_with (go_at_fn g;refine d.mono ?_;rintro e s⟨rfl,f⟩);go_ret;exact⟨Bd h.o,f⟩
   | false=>
     rw[hq] at d
     have h:Hid (B7 p l=k+1+B7 p (l.drop (k+1))):=by show B7 p l=k+1+B7 p (l.drop (k+1));rw[m.o,t.o];simp[B7,hq];omega
     go_wp2_with (go_at_fn g;refine d.mono ?_;rintro e s⟨rfl,f⟩)
     go_roundw
     case rel=>exact⟨k+1,by omega,by go_num,h,Ab f⟩
     case measure=>simp[intOf];omega
  have h:Hid (-1=Kk p l):=by
   have:B7 p l=l.length:=by rw[m.o,YL (by omega)];simp[B7];omega
   show -1=Kk p l;unfold Kk;rw[Yad (by omega)]
  go_wp2;go_ret;exact⟨Bd h.o,i.o⟩
theorem l7(p:V->Bool):∀l,l.any p=decide (B7 p l<l.length)
 | []=>by simp[B7]
 | x :: l=>by
   by_cases h:p x=true
   ·simp[B7,h]
   simp[B7,h,l7 p l]
theorem AIB(p:V->Bool)(l:List V):decide (0<=Kk p l)=l.any p:=by
 rw[l7];unfold Kk
 by_cases h:B7 p l<l.length
 ·rw[Yae h];simp[h]
 rw[Yad h];simp[h]
theorem Wp(g:Nat)(lb:Array Tv)(p:V->Bool)(j:∀args w,(callFunc g args).run prog w=.ok (.enter g args) w)(v:Tv)(l:List V)(w:Tw)(d:Sl w v l)(a:l.length<=1000)(c:Pr g lb p l w):
 Zc 286 #[v,.func (.func g) #[] lb] w λe f=>e=Zr (Zo (l.any p))/\Zb w f:=by
 have h:=Ab (Md g lb p j v l w d a c);have i:=Ab (AIB p l);clear d c;go_enter func286,ntmps286;go_wp2_with (go_at_call 312;refine h.o.mono ?_;rintro e f⟨rfl,b⟩);go_ret;exact⟨Af i.o,b⟩
theorem AH0(x y:V)(w:Tw):(Op.equalIn 10000 57 (ADW x) (ADW y)).run prog w=.ok (decide (x=y)) w:=by
 have c:prog.underlying 57=some (.struct (prog.fieldsOf 57)):=by kernel_rfl
 rw[show (10000:Nat)=9999+1 from rfl,run_equalIn_agg w 9999 57 _ _ c (by kernel_rfl)];simp only[Program.fieldsOf,underlying57];go_simp;obtain⟨d,g,a⟩:=x;obtain⟨f,nb,b⟩:=y;have e:(a.toList=b.toList)↔a=b:=⟨λh=>by simp[ByteArray.toList_eq] at h;exact ByteArray.ext h,λh=>by rw[h]⟩
 by_cases h1:d=f <;> by_cases h2:g=nb <;> by_cases h3:a.toList=b.toList <;> simp[h1,h2,h3,Prod.ext_iff,e.symm]
theorem zL(a c b d:Int)(tx e:Tb)(w:Tw):(Op.equalIn 10000 57 (Zg #[Zi a,Zi c,Zt tx]) (Zg #[Zi b,Zi d,Zt e])).run prog w=.ok (decide (((a,c,tx):V)=(b,d,e))) w:=AH0 (a,c,tx) (b,d,e) w
theorem ADg(v:Tv)(l:List V)(d f:Int)(g:Tb)(w:Tw)(T:Sl w v l)(O:l.length<=1000):
 Zc 329 #[v,Zg #[Zi d,Zi f,Zt g]] w λe U=>e=Zr (Zi (Kk (λx=>decide (((d,f,g):V)=x)) l))/\Zb w U:=by
 obtain⟨a,c,rfl,_,L⟩:=T;have N:=Ab L;clear L;go_enter func329,ntmps329;go_wp2
 go_loopw [8] (λy wr=>∃k q:Nat,k<=l.length/\y=Zi k/\Hid (B7 (λx=>decide (((d,f,g):V)=x)) l=k+B7 (λx=>decide (((d,f,g):V)=x)) (l.drop k))/\Hid (wr=(w.alloc (Zk #[Zi d,Zi f,Zt g] 57)).drewN q)) (λy _=>l.length-(intOf y).toNat)
 case atStart=>exact⟨0,0,XE _,rfl,Ab (by simp),Ab rfl⟩
 case round=>
  obtain⟨k,q,hk,rfl,h,u⟩:=hrel
  have j:Hid (∀m,Zb w (wr.drewN m)):=λm=>by rw[u.o];exact⟨rfl,rfl,rfl,by show _<=(w.alloc _).heap.size;simp,λi P=>XF _ _ _ P⟩
  have s:Hid (∀m i,(wr.drewN m).cell? ⟨w.heap.size,i,none⟩=(#[Zi d,Zi f,Zt g]:Array Tv)[i]?):=λm i=>by rw[u.o,X',X'];exact XP w _ 57 (0,0) i
  by_cases hlt:k<l.length
  ·obtain⟨b,off,rfl,t,J⟩:=N.o (by intro e;rw[e] at hlt;simp at hlt)
   obtain⟨⟨o,r,tx⟩,M⟩:=Hk hlt;obtain⟨D,G,I⟩:=J k _ M;have c0:∀m,(wr.drewN m).cell? ⟨b,off+k*3,none⟩=some (Zi o):=λm=>((j.o m).cell (p:=⟨b,off+k*3,none⟩) t).trans D
   have c1:∀m,(wr.drewN m).cell? ⟨b,off+k*3+1,none⟩=some (Zi r):=λm=>((j.o m).cell (p:=⟨b,off+k*3+1,none⟩) t).trans G
   have X:∀m,(wr.drewN m).cell? ⟨b,off+k*3+2,none⟩=some (Zt tx):=λm=>((j.o m).cell (p:=⟨b,off+k*3+2,none⟩) t).trans I
   have Y:∀m,(wr.drewN m).cell? ⟨w.heap.size,0,none⟩=some (Zi d):=λm=>s.o m 0
   have d1:∀m,(wr.drewN m).cell? ⟨w.heap.size,1,none⟩=some (Zi f):=λm=>s.o m 1
   have d2:∀m,(wr.drewN m).cell? ⟨w.heap.size,2,none⟩=some (Zt g):=λm=>s.o m 2
   have z:=Ab (ABD M);clear D G I J
   by_cases hq:((d,f,g):V)=(o,r,tx)
   ·have R:∀W,(Op.equalIn 10000 57 (Zg #[Zi d,Zi f,Zt g]) (Zg #[Zi o,Zi r,Zt tx])).run prog W=.ok true W:=λW=>by rw[zL];simp[hq]
    have n:Hid ((k:Int)=Kk (λx=>decide (((d,f,g):V)=x)) l):=by
     have:B7 (λx=>decide (((d,f,g):V)=x)) l=k:=by rw[h.o,z.o];simp[B7,hq]
     show (k:Int)=Kk _ l;unfold Kk;rw[this,Yae hlt]
    clear hq h;go_wp2_with fail
    go_quiet (fail)
    go_wp2;go_ret;exact⟨Bd n.o,j.o _⟩
   have R:∀W,(Op.equalIn 10000 57 (Zg #[Zi d,Zi f,Zt g]) (Zg #[Zi o,Zi r,Zt tx])).run prog W=.ok false W:=λW=>by rw[zL];simp[hq]
   have n:Hid (B7 (λx=>decide (((d,f,g):V)=x)) l=k+1+B7 (λx=>decide (((d,f,g):V)=x)) (l.drop (k+1))):=by show B7 _ l=k+1+B7 _ (l.drop (k+1));rw[h.o,z.o];simp[B7,hq];omega
   clear hq h;go_wp2_with fail
   go_quiet (fail)
   go_wp2
   go_roundw
   case rel=>exact⟨k+1,q+nq,by omega,by go_num,n,Ab (by rw[u.o,Wb])⟩
   case measure=>simp[intOf];omega
  have n:Hid (-1=Kk (λx=>decide (((d,f,g):V)=x)) l):=by
   have:B7 (λx=>decide (((d,f,g):V)=x)) l=l.length:=by rw[h.o,YL (by omega)];simp[B7];omega
   show -1=Kk _ l;unfold Kk;rw[Yad (by omega)]
  clear h;go_wp2;go_ret;exact⟨Bd n.o,j.o 0⟩
theorem AGk{α:Type}{l m:List α}{x y:α}(h:l.take k=m.take k)(a:l[k]? = some x)(b:m[k]? = some y)(e:x=y):l.take (k+1)=m.take (k+1):=by rw[Br a,Br b,h,e]
theorem AKX{α:Type}{l m:List α}{x y:α}(b:l[k]? = some x)(a:m[k]? = some y)(e:x≠y):l≠m:=by rintro rfl;rw[b] at a;exact e (Yv a)
theorem AJA(v1 v2:Tv)(l m:List V)(w:Tw)(P:Sl w v1 l)(R:Sl w v2 m)(O:l.length<=1000)(_h61:m.length<=1000):
 Zc 29 #[v1,v2] w λe w'=>e=Zr (Zo (decide (l=m)))/\Zb w w':=by
 obtain⟨a1,aa,rfl,_,u⟩:=P;obtain⟨a2,ab,rfl,_,v⟩:=R;have M:=Ab u;have N:=Ab v;clear u v
 by_cases hn:l.length=m.length
 ·generalize hN:m.length=n at *
  have h:Hid (l.length=n/\m.length=n):=⟨hn,hN⟩;rw[hn];rw[hn] at O;clear hn hN;go_enter func29,ntmps29;go_wp2
  go_loopw [13] (λT wr=>∃k q:Nat,k<=n/\T=Zi k/\Hid (l.take k=m.take k)/\Hid (wr=w.drewN q)) (λT _=>n-(intOf T).toNat)
  case atStart=>exact⟨0,0,XE _,rfl,Ab (by simp),Ab rfl⟩
  case round=>
   obtain⟨k,q,hk,rfl,t,hw⟩:=hrel
   have c:Hid (∀m,Zb w (wr.drewN m)):=λm=>by rw[hw.o];exact⟨rfl,rfl,rfl,XA _,λi hh=>rfl⟩
   by_cases hlt:k<n
   ·obtain⟨j,a,rfl,f,r⟩:=M.o (by intro e;have:=h.o.1;rw[e] at this;simp at this;omega)
    obtain⟨o,b,rfl,g,s⟩:=N.o (by intro e;have:=h.o.2;rw[e] at this;simp at this;omega);obtain⟨⟨D,I,tx⟩,y⟩:=Hk (l:=l) (k:=k) (by have:=h.o.1;omega);obtain⟨⟨G,J,L⟩,z⟩:=Hk (l:=m) (k:=k) (by have:=h.o.2;omega);obtain⟨g0,g1,g2⟩:=r k _ y;obtain⟨U,X,Y⟩:=s k _ z;have c0:∀m,(wr.drewN m).cell? ⟨j,a+k*3,none⟩=some (Zi D):=λm=>((c.o m).cell (p:=⟨j,a+k*3,none⟩) f).trans g0
    have c1:∀m,(wr.drewN m).cell? ⟨j,a+k*3+1,none⟩=some (Zi I):=λm=>((c.o m).cell (p:=⟨j,a+k*3+1,none⟩) f).trans g1
    have c2:∀m,(wr.drewN m).cell? ⟨j,a+k*3+2,none⟩=some (Zt tx):=λm=>((c.o m).cell (p:=⟨j,a+k*3+2,none⟩) f).trans g2
    have d0:∀m,(wr.drewN m).cell? ⟨o,b+k*3,none⟩=some (Zi G):=λm=>((c.o m).cell (p:=⟨o,b+k*3,none⟩) g).trans U
    have d1:∀m,(wr.drewN m).cell? ⟨o,b+k*3+1,none⟩=some (Zi J):=λm=>((c.o m).cell (p:=⟨o,b+k*3+1,none⟩) g).trans X
    have d2:∀m,(wr.drewN m).cell? ⟨o,b+k*3+2,none⟩=some (Zt L):=λm=>((c.o m).cell (p:=⟨o,b+k*3+2,none⟩) g).trans Y
    clear g0 g1 g2 r U X Y s
    by_cases hq:((D,I,tx):V)=(G,J,L)
    ·have hr:∀W,(Op.equalIn 10000 57 (Zg #[Zi D,Zi I,Zt tx]) (Zg #[Zi G,Zi J,Zt L])).run prog W=.ok true W:=λW=>by rw[zL];simp[hq]
     have d:Hid (l.take (k+1)=m.take (k+1)):=AGk t.o y z hq;clear hq t y z;go_wp2_with fail
     go_quiet (fail)
     go_wp2
     go_roundw
     case rel=>exact⟨k+1,q+nq,by omega,by go_num,d,Ab (by rw[hw.o,Wb])⟩
     case measure=>simp[intOf];omega
    have hr:∀W,(Op.equalIn 10000 57 (Zg #[Zi D,Zi I,Zt tx]) (Zg #[Zi G,Zi J,Zt L])).run prog W=.ok false W:=λW=>by rw[zL];simp[hq]
    have d:Hid (false=decide (l=m)):=by have:=AKX y z hq;show false=decide (l=m);simp[this]
    clear hq t y z;go_wp2_with fail
    go_quiet (fail)
    go_wp2;go_ret;exact⟨Af d.o,c.o _⟩
   have d:Hid (true=decide (l=m)):=by have h1:=t.o;rw[Yd (by have:=h.o.1;omega),Yd (by have:=h.o.2;omega)] at h1;show true=decide (l=m);simp[h1]
   clear t;go_wp2;go_ret;exact⟨Af d.o,c.o 0⟩
 have d:Hid (false=decide (l=m)):=by
  show false=decide (l=m);have:l≠m:=λe=>hn (by rw[e])
  simp[this]
 have x:¬(l.length:Int)=(m.length:Int):=by omega
 have ac:((l.length:Int)==(m.length:Int))=false:=by simpa using x
 clear hn x;go_enter func29,ntmps29;go_wp2;go_ret;exact⟨Af d.o,XD _ _⟩
theorem jH(a c b d:Int)(tx f:Tb)(bx:Nat)(w:Tw)(m:bx<w.heap.size)(j:w.cell? ⟨bx,0,none⟩=some (Zi b))(k:w.cell? ⟨bx,1,none⟩=some (Zi d))(l:w.cell? ⟨bx,2,none⟩=some (Zt f)):
 Zc 327 #[Zg #[Zi a,Zi c,Zt tx],Zp (some ⟨bx,0,none⟩)] w λe i=>e=Zr (Zo (!decide (((a,c,tx):V)=(b,d,f))))/\Zb w i:=by
 have g:¬w.heap.size=bx:=by omega
 have h:=zL a c b d tx f;generalize decide (((a,c,tx):V)=(b,d,f))=q at h;go_enter func327,ntmps327;go_wp2;go_ret;exact⟨rfl,Zal⟩
def lenOf:Value->Nat
 | .slice _ n _=>n
 | _=>0
theorem Ro:∀(f:Nat)(l:List V),l.length<=f->El f l=El l.length l
 | 0,[],_=>rfl
 | 0,_ :: _,h=>by simp at h
 | f+1,[],_=>rfl
 | f+1,v :: l,h=>by
   have c:=Ue v l;have a:(l.drop (same v l)).length<=f:=by simp at h ⊢;omega
   have b:(l.drop (same v l)).length<=l.length:=by simp
   simp only[XC,El];rw[Ro f _ a,Ro l.length _ b]
theorem mG(v:V):∀l:List V,B7 (λy=>!decide (y=v)) l=same v l
 | []=>rfl
 | x :: l=>by
   unfold B7 same
   by_cases h:x=v
   ·simp[h,mG v l]
   simp[h]
theorem cC(v:V)(l:List V):El (v :: l).length (v :: l)=Lib.uvarint (same v l+1)++J3 v++El (l.drop (same v l)).length (l.drop (same v l)):=by simp only[XC,El];rw[Ro _ _ (by simp)]
theorem AC7(v:V)(l:List V):same v (v :: l)=same v l+1:=by simp[same]
theorem Ad{B e z n:Nat}{xs:List Tv}(h:w.ownsRow B e z v n xs)(k:Zb w W):W.ownsRow B e z v n xs:=by
 refine⟨h.1,?_⟩
 rcases h.2 with a|⟨g,b,c,f,i,d,j⟩
 ·exact .inl a
 refine .inr ⟨g,b,c,f,i,?_,j⟩
 rw[k.block g (by
  rcases Yc g w.heap.size with a|a
  ·exact a
  rw[XJ a] at d;cases d)]
 exact d
theorem Ai{B k e z n:Nat}{xs:List Tv}(h:w.ownsRow B e z v n xs)(j:k<=B):w.ownsRow k e z v n xs:=by
 refine⟨h.1,?_⟩
 rcases h.2 with i|⟨g,a,b,c,d,f⟩
 ·exact .inl i
 exact .inr ⟨g,a,b,c,XG j d,f⟩
theorem Vd.drop{l:List V}(h:Vd l)(k:Nat):Vd (l.drop k):=⟨by have:=h.1;simp;omega,λx a=>h.2 x (XW a)⟩
theorem Ac{b:Nat}{o:Obj}(h:w.heap[b]? = some o):b<w.heap.size:=by
 rcases Yc b w.heap.size with a|a
 ·exact a
 rw[XJ a] at h;cases h
theorem Wf{b:Nat}{o:Obj}(h:w.heap[b]? = some o)(a:Zb w W):W.heap[b]? = some o:=(a.block b (Ac h)).trans h
theorem jM(l:List V)(h:∀x∈l,-9223372036854775808<=x.2.1/\x.2.1<=9223372036854775807/\x.2.2.size<=40)(a:l.length<=1000):∀f,(El f l).length<=f*60:=by
 intro f
 induction f generalizing l with
 | zero=>simp[El]
 | succ f ih=>
   cases l with
   | nil=>simp[El]
   | cons v l=>have c:=rL (h v (by simp));have g:=Ue v l;have d:=ih (l.drop (same v l)) (λx b=>h x (by simp[XW b])) (by simp at a ⊢;omega);have e:=Lib.uvarint_length64 (x:=same v l+1) (by simp at a;omega);simp only[El,XB];omega
theorem vS{B bx n:Nat}{vb:Tv}{cs:Array Tv}{xs:List Tv}(x:Nat)(W:Tw)(k:x<9223372036854775808)(i:B<=w.heap.size)(h:W.ownsRow B 5 1 vb n xs)(j:n<=1000000)(c:Wr B w W)(f:W.heap[bx]? = some (Zk cs 57)):
 Zc 166 #[vb,.int .u64 (IntKind.u64.wrap (x:Int))] W λe a=>∃v',e=Zr v'/\a.ownsRow B 5 1 v' (n+(Lib.uvarint x).length) (xs++Lib.byteCells (Lib.uvarint x))/\Wr B w a/\a.heap[bx]? = some (Zk cs 57):=by
 rw[show IntKind.u64.wrap (x:Int)=((x:Nat):Int) by rw[IntKind.wrap_u64];omega];exact(Dq B n x (by omega) vb xs W h (by have:=c.1.size;omega) (by omega)).mono λe a⟨v',g,d,b⟩=>⟨v',g,d,c.trans b,Hw b f (by decide)⟩
theorem ADL{B bx n:Nat}{vb:Tv}{cs:Array Tv}{xs:List Tv}(k x:Int)(t:Tb)(W:Tw)(c : -9223372036854775808<=x/\x<=9223372036854775807/\t.size<=40)(l:B<=w.heap.size)(j:W.ownsRow B 5 1 vb n xs)(i:n<=1000000)(d:Wr B w W)(g:W.heap[bx]? = some (Zk cs 57)):
 Zc 328 #[vb,Zg #[Zi k,Zi x,Zt t]] W λe a=>∃v',e=Zr v'/\a.ownsRow B 5 1 v' (n+(J3 (k,x,t)).length) (xs++Lib.byteCells (J3 (k,x,t)))/\Wr B w a/\a.heap[bx]? = some (Zk cs 57) :=
 (N8 B n k x t c.1 c.2.1 (by omega) vb xs W j (by have:=d.1.size;omega) i).mono λe a⟨v',h,f,b⟩=>⟨v',h,f,d.trans b,Hw b g (by decide)⟩
theorem Ei{bx:Nat}{k n:Int}{t:Tb}(h:W.heap[bx]? = some (Zk #[Zi k,Zi n,Zt t] 57)):
 W.cell? ⟨bx,0,none⟩=some (Zi k)/\W.cell? ⟨bx,1,none⟩=some (Zi n)/\W.cell? ⟨bx,2,none⟩=some (Zt t):=by
 simp[World.cell?,h]
theorem AJ6{w wr:Tw}{L:List V}{b off c:Nat}(d f:Int)(tx:Tb)(q:Sl w (Zs (some ⟨b,off,none⟩) L.length c) L)(m:Zb w wr)(r:L.length<=1000):
 Zc 312 #[Zs (some ⟨b,off,none⟩) L.length c,.func (.func 327) #[] #[Zp (some ⟨wr.heap.size,0,none⟩)]] (wr.alloc (Zk #[Zi d,Zi f,Zt tx] 57)) λe i=>e=Zr (Zi (Kk (λy=>!decide (y=((d,f,tx):V))) L))/\Below (wr.alloc (Zk #[Zi d,Zi f,Zt tx] 57)).heap.size (wr.alloc (Zk #[Zi d,Zi f,Zt tx] 57)) i/\i.heap[wr.heap.size]? = some (Zk #[Zi d,Zi f,Zt tx] 57):=by
 have l:Zb w (wr.alloc (Zk #[Zi d,Zi f,Zt tx] 57)):=m.alloc m.size _;have g:(wr.alloc (Zk #[Zi d,Zi f,Zt tx] 57)).heap[wr.heap.size]? = some (Zk #[Zi d,Zi f,Zt tx] 57):=Yac _ _;refine(Md 327 #[Zp (some ⟨wr.heap.size,0,none⟩)] (λy=>!decide (y=((d,f,tx):V))) (enters_of func327 (by kernel_rfl) rfl) _ L _ (q.up l) r ?_).mono λe i⟨k,h⟩=>⟨k,h,Wf g h⟩
 intro W x _ j;have a:=Wf g j;obtain⟨n,o,p⟩:=Ei a;exact(jH x.1 x.2.1 d f x.2.2 tx wr.heap.size W (Ac a) n o p).mono λe i⟨k,h⟩=>⟨k,j.trans (h.mono j.size)⟩
theorem AAA(v:Tv)(l:List V)(w:Tw)(hs:Sl w v l)(hf:Vd l):
 Zc 313 #[v] w λe t=>∃v',e=Zr v'/\t.ownsRow w.heap.size 5 1 v' (El l.length l).length (Lib.byteCells (El l.length l))/\Wr w.heap.size w t:=by
 have HS:=Ab hs;have HF:=Ab hf;have HN:Hid ((El l.length l).length<=3600):=by have I:=jM l hf.2 (by have:=hf.1;omega) l.length;have O:=hf.1;show (El l.length l).length<=3600;omega
 obtain⟨a,c,rfl,_,_⟩:=hs;clear hf;have aw:∀args w,(callFunc 327 args).run prog w=.ok (.enter 327 args) w:=enters_of func327 (by kernel_rfl) rfl;go_enter func313,ntmps313;go_wp2
 go_loopw [0,3] (λv0 vb wr=>∃(L:List V)(pre:List UInt8),Hid (Sl w v0 L)/\Hid (Vd L)/\Hid (El l.length l=pre++El L.length L)/\Hid (wr.ownsRow w.heap.size 5 1 vb pre.length (Lib.byteCells pre))/\Hid (Wr w.heap.size w wr)) (λv0 _ _=>lenOf v0)
 case atStart=>exact⟨l,[],HS,HF,Ab rfl,XH _ _ _ _,Wr.refl _ _⟩
 case round=>
  obtain⟨L,pre,hS,hF,hR,ho,U⟩:=hrel;obtain⟨a,c,rfl,an,hl⟩:=hS.o;cases L with
  | nil=>have HE:Hid (El l.length l=pre):=Ab (by rw[hR.o];simp[El]);have ap:([]:List V).length=0:=rfl;clear hl;rw[ap];go_wp2;go_ret;exact⟨_,rfl,by rw[HE.o];exact ho.o,U.o⟩
  | cons x R=>
    obtain⟨d,f,tx⟩:=x;obtain⟨b,off,rfl,hb,hc⟩:=hl (by simp);obtain⟨g0,g1,g2⟩:=hc 0 _ rfl;simp only[Nat.zero_mul,Nat.add_zero] at g0 g1 g2;have c0:wr.cell? ⟨b,off,none⟩=some (Zi d):=(U.o.1.cell (p:=⟨b,off,none⟩) hb).trans g0;have c1:wr.cell? ⟨b,off+1,none⟩=some (Zi f):=(U.o.1.cell (p:=⟨b,off+1,none⟩) hb).trans g1;have c2:wr.cell? ⟨b,off+2,none⟩=some (Zt tx):=(U.o.1.cell (p:=⟨b,off+2,none⟩) hb).trans g2;have au:=U.o.1.size;have HI:=Ab (AJ6 (w:=w) (wr:=wr) (L:=(d,f,tx) :: R) (c:=c) (b:=b) (off:=off) d f tx hS.o U.o.1 (by have:=hF.o.1;omega));have aq:=Ue (d,f,tx) R;have ao:=hF.o.1;have am:=Ab (cC (d,f,tx) R);have HV:=hF.o.get (j:=0) (x:=(d,f,tx)) rfl;have u:Hid (pre.length<=3600):=by have I:=congrArg List.length hR.o;rw[XB] at I;have O:=HN.o;show pre.length<=3600;omega
    have ae:=Ab (λW ab n' ac I O h3 h4=>ADL (w:=w) (B:=w.heap.size) (bx:=wr.heap.size) (n:=n') (vb:=ab) (cs:=#[Zi d,Zi f,Zt tx]) (xs:=ac) d f tx W HV (XA _) I O h3 h4);have ad:=Ab (λW x ab n' ac h0 I O h3 h4=>vS (w:=w) (B:=w.heap.size) (bx:=wr.heap.size) (n:=n') (vb:=ab) (cs:=#[Zi d,Zi f,Zt tx]) (xs:=ac) x W h0 (XA _) I O h3 h4);simp only[XC] at HI an ao ⊢;generalize hn:R.length=n at *;obtain⟨r,al⟩:∃r,r=same (d,f,tx) R+1:=⟨_,rfl⟩;have z:=Ab al;have ag:=Ab hn;have ax:1<=r:=by omega
    have ay:r<=n+1:=by omega
    have av:w.heap.size<=wr.heap.size+1:=by omega
    have ak:Hid (Wr w.heap.size w (wr.alloc (Zk #[Zi d,Zi f,Zt tx] 57))):=U.o.alloc au _;have ah:Hid ((wr.alloc (Zk #[Zi d,Zi f,Zt tx] 57)).ownsRow w.heap.size 5 1 _ pre.length (Lib.byteCells pre)):=Ab (ho.o.alloc _);have G:Hid (∀(aa:Tv)(w4:Tw),w4.ownsRow w.heap.size 5 1 aa (pre.length+(Lib.uvarint r).length+(J3 (d,f,tx)).length) (Lib.byteCells pre++Lib.byteCells (Lib.uvarint r)++Lib.byteCells (J3 (d,f,tx)))->∃g,El l.length l=g++El (R.drop (same (d,f,tx) R)).length (R.drop (same (d,f,tx) R))/\w4.ownsRow w.heap.size 5 1 aa g.length (Lib.byteCells g)):=λaa w4 h4=>⟨pre++Lib.uvarint r++J3 (d,f,tx),by rw[hR.o,am.o,z.o];simp,by rw[XB,XB,Bg,Bg];exact h4⟩
    have aj:Hid ((Lib.uvarint r).length<=10):=Lib.uvarint_length64 (by omega)
    have ai:Hid (∀a' c',n+1-r<=c'->(r<n+1->a'=some ⟨b,off+r*3,none⟩)->Sl w (Zs a' (n+1-r) c') (R.drop (same (d,f,tx) R))/\(R.drop (same (d,f,tx) R)).length=n+1-r):=λa' c' I O=>by
     have hlen:(R.drop (same (d,f,tx) R)).length=n+1-r:=by simp;have:=ag.o;have:=z.o;omega
     refine⟨⟨a',c',by rw[hlen],by rw[hlen];exact I,λar=>⟨b,off+r*3,O ?_,hb,λj x hj=>?_⟩⟩,hlen⟩
     ·rcases Yc r (n+1) with h'|h'
      ·exact h'
      exact absurd (YA (by omega)) ar
     have:=hc (r+j) x (by rw[z.o,Nat.add_right_comm,List.getElem?_cons_succ];rwa[List.getElem?_drop] at hj);rw[show off+r*3+j*3=off+(r+j)*3 by omega];exact this
    have af:Hid (Vd (R.drop (same (d,f,tx) R))):=by have:=hF.o.drop (same (d,f,tx) R+1);rw[XX] at this;exact this
    clear hn al g0 g1 g2 hl HV aq
    have J:Kk (λy=>!decide (y=((d,f,tx):V))) ((d,f,tx) :: R)=if r<n+1 then ((r:Nat):Int) else -1:=by unfold Kk;rw[mG,AC7,<-z.o,XC,ag.o]
    rw[J] at HI;clear J
    by_cases hA:r<n+1
    ·rw[Yae hA] at HI
     go_wp2_with (go_at_call 312;refine HI.o.mono ?_;rintro e w2⟨rfl,o,i⟩);have HA:=Ab (ad.o w2.drew r _ _ _ (by omega) (Ad ah.o o.drew) (by have:=u.o;omega) (ak.o.trans (Wr.Ba o (by simp;omega))).drew i)
     go_region_held3 (λt=>t.cell? ⟨wr.heap.size,0,none⟩=some (Zi d)/\t.cell? ⟨wr.heap.size,1,none⟩=some (Zi f)/\t.cell? ⟨wr.heap.size,2,none⟩=some (Zt tx))
      (first
        | (go_keep;done)
        | exact Ei i
        | exact Ei k
        | exact Ei q)
      (first
        | (go_at_call 166;refine HA.o.mono ?_;rintro e w3⟨v3,rfl,P,X,k⟩)
        | (go_at_call 328;refine(ae.o _ _ _ _ P ?_ X k).mono ?_;(have:=u.o;have:=aj.o;omega);rintro e w4⟨v4,rfl,T,Y,q⟩))
     obtain⟨g,m,s⟩:=G.o _ _ T;have N:=Ab m;have M:=Ab s;clear m s;go_wp2;obtain⟨D,_⟩:=ai.o (some ⟨b,off+r*3,none⟩) (c-r) (by omega) (λ_=>rfl);exact⟨⟨_,g,Ab D,af,N,M,Ab Y⟩,by show n+1-r<n+1;omega⟩
    rw[Yad hA] at HI;have er:((r:Nat):Int)=(n:Int)+1:=by omega
    go_wp2_with (go_at_call 312;refine HI.o.mono ?_;rintro e w2⟨rfl,o,i⟩);have HA:=ad.o w2.drew r _ _ _ (by omega) (Ad ah.o o.drew) (by have:=u.o;omega) (ak.o.trans (Wr.Ba o (by simp;omega))).drew i;rw[er] at HA;have HA:=Ab HA;clear er
    go_region_held3 (λt=>t.cell? ⟨wr.heap.size,0,none⟩=some (Zi d)/\t.cell? ⟨wr.heap.size,1,none⟩=some (Zi f)/\t.cell? ⟨wr.heap.size,2,none⟩=some (Zt tx))
     (first
       | (go_keep;done)
       | exact Ei i
       | exact Ei k
       | exact Ei q)
     (first
       | (go_at_call 166;refine HA.o.mono ?_;rintro e w3⟨v3,rfl,P,X,k⟩)
       | (go_at_call 328;refine(ae.o _ _ _ _ P ?_ X k).mono ?_;(have:=u.o;have:=aj.o;omega);rintro e w4⟨v4,rfl,T,Y,q⟩))
    obtain⟨g,m,s⟩:=G.o _ _ T;have N:=Ab m;have M:=Ab s;clear m s;go_wp2;obtain⟨D,_⟩:=ai.o (if c=n+1 then some ⟨b,off,none⟩ else some ⟨b,off+(n+1)*3,none⟩) (c-(n+1)) (by omega) (λh=>absurd h hA);rw[show n+1-r=0 by omega] at D;exact⟨⟨_,g,Ab D,af,N,M,Ab Y⟩,by show 0<n+1;omega⟩
theorem Ip:(prog.info? 57).map (λi=>(i.zero,i.size,i.bytes))=some (some (Zg #[Zi 0,Zi 0,Zt ⟨#[]⟩]),3,32):=by kernel_rfl
theorem Ck{P:Program}{k:Array Oper}{rest:List Oper}{o:Oper}{a:Act}{Q:Exit->Act->Tw->Prop}(j:o.guard=none)(s x:Operand)(t:TypeId)(M:o.op=.call { callee:=.builtin .append,args:=#[s,x],argTypes:=#[t,t] })(base:Nat)(e:TypeId)(i:TypeInfo)(z:Tv)(size bytes:Nat)(O:P.underlying t=some (.slice e))(L:P.info? e=some i)(Y:i.zero=some z)(f:i.size=size)(G:i.bytes=bytes)(J:z.cells.size=size)(I:0<size)(v:Tv)(n:Nat)(xs:List Tv)(N:a.eval s=v)(b:w.ownsRow base e size v n xs)(u:Tv)(m Bu:Nat)(p:List Tv)(R:a.eval x=u)(q:w.ownsRow Bu e size u m p)(U:∀y∈p,y.oneCell'=true)(D:n+m<=maxLen)(c:(n+m)*bytes<=140737488355328)(d:base<=w.heap.size)(h:∀v' l,l.ownsRow base e size v' (n+m) (xs++p)->w.grownBy l v.ownBlock->wpList P k Q rest (a.put o.dst v') l):wpList P k Q (o :: rest) a w:=by
 rcases q.2 with⟨rfl,rfl⟩|⟨g,r,T,rfl,_,_⟩
 ·have X:p=[]:=YA (by have:=q.1;omega)
  subst X;refine wpList_append_own_none j s x t M base e i size O L v n xs N b R (h v w (by simpa using b) ⟨rfl,rfl,rfl,XA _,λ_ _ _=>rfl⟩)
 exact wpList_append_own w j s x t M base e i z size bytes O L Y f G J I v n xs N b ⟨g,0,none⟩ m r p R q.1 (q.cells rfl) U D c d (λv' l V W _=>h v' l V W)
def aD(x:V):List Value:=[Zi x.1,Zi x.2.1,.string x.2.2]
def A1(l:List V):List Value:=l.flatMap aD
theorem K3:∀l,(A1 l).length=l.length*3
 | []=>rfl
 | x :: l=>by have:=K3 l;simp[A1,aD] at this ⊢;omega
theorem Jk(l m:List V):A1 (l++m)=A1 l++A1 m:=by simp[A1]
theorem Hr:∀{l:List V}{j:Nat}{x:V},l[j]? = some x->(A1 l)[j*3]? = some (Zi x.1)/\(A1 l)[j*3+1]? = some (Zi x.2.1)/\(A1 l)[j*3+2]? = some (Zt x.2.2)
 | [],_,_,h=>by simp at h
 | y :: l,0,x,h=>by simp at h;subst h;simp[A1,aD]
 | y :: l,j+1,x,h=>by
   have d:l[j]? = some x:=by simpa using h
   obtain⟨a,b,c⟩:=Hr d;have e:A1 (y :: l)=aD y++A1 l:=rfl;have f:(aD y).length=3:=rfl;rw[e,show (j+1)*3=(aD y).length+j*3 by omega,show (aD y).length+j*3+1=(aD y).length+(j*3+1) by omega,show (aD y).length+j*3+2=(aD y).length+(j*3+2) by omega];simp only[List.getElem?_append_right (Nat.le_add_right _ _),Nat.add_sub_cancel_left];exact⟨a,b,c⟩
theorem Hf(l:List V):∀y∈A1 l,y.oneCell'=true:=by
 intro y b;simp only[A1,List.mem_flatMap,aD] at b;obtain⟨x,_,a⟩:=b;simp at a
 rcases a with rfl|rfl|rfl <;> rfl
theorem byteCells_one(l:List UInt8):∀y∈Lib.byteCells l,y.oneCell'=true:=by intro y a;simp only[Lib.byteCells,List.mem_map] at a;obtain⟨x,_,rfl⟩:=a;rfl
theorem addr_add(g j:Nat):(⟨g,0,none⟩:Addr).add j=⟨g,j,none⟩:=by unfold Addr.add;split <;> simp_all
theorem Cy{B:Nat}(h:w.ownsRow B 57 3 v l.length (A1 l)):Sl w v l:=by
 rcases h.2 with⟨rfl,k⟩|⟨g,f,m,rfl,o,n,d,_,_⟩
 ·exact⟨none,0,by rw[k],by omega,λi=>absurd (YA k) i⟩
 refine⟨_,f,rfl,d,λ_=>⟨g,0,rfl,Ac n,λj x hj=>?_⟩⟩;obtain⟨a,b,c⟩:=Hr hj;have e:=h.cells (g:=g) rfl;simp only[addr_add] at e;rw[Nat.zero_add];exact⟨e _ _ a,e _ _ b,e _ _ c⟩
theorem C2{n k i n1 j m d n2:Nat}(f:w.ownsRow n k i v n1 X)(o:w.ownsRow j m d u n2 Y)(p:k≠m)(q:w.grownBy W u.ownBlock):W.ownsRow n k i v n1 X:=by
 refine f.kept q ?_
 rcases f.2 with⟨rfl,_⟩|⟨g,h,l,rfl,_,r,_⟩
 ·exact .inl rfl
 rcases o.2 with⟨rfl,_⟩|⟨s,b,c,rfl,_,a,_⟩
 ·exact .inr (by simp[Value.ownBlock])
 refine .inr (λe=>?_);simp[Value.ownBlock] at e;subst e;rw[r] at a;injection a with a;injection a with _ a;exact p a
theorem eO{B n k i n1:Nat}(c:w.ownsRow n k i v n1 X)(j:Wr B w W)(f:k≠5):W.ownsRow n k i v n1 X:=by
 refine⟨c.1,?_⟩
 rcases c.2 with d|⟨g,a,b,rfl,e,h,rest⟩
 ·exact .inl d
 exact .inr ⟨g,a,b,rfl,e,Hw j h f,rest⟩
theorem N4{H n i j n1 m d n2:Nat}(b:w.ownsRow n i j v n1 X)(a:∀k,v.ownBlock=some k->k<H)(c:w.ownsRow H m d u n2 Y)(f:w.grownBy W u.ownBlock):W.ownsRow n i j v n1 X:=by
 refine b.kept f ?_;cases hv:v.ownBlock with
 | none=>exact .inl rfl
 | some k=>exact .inr λe=>by have g:=(c.lt k e.symm).1;have h:=a k hv;omega
theorem gD(x:V):∀l:List V,B7 (λy=>decide (x=y)) l=place x l
 | []=>rfl
 | y :: l=>by
   unfold B7 place
   by_cases h:x=y
   ·simp[h]
   have a:¬y=x:=λe=>h e.symm
   simp[h,a,gD x l]
theorem Sg(x:V):∀l:List V,place x l<=l.length
 | []=>XA _
 | y :: l=>by unfold place;split <;> simp;exact Sg x l
def S8(l:List V)(k:Nat):List V×List UInt8:=(l.take k).foldl Ff ([],[])
theorem rE(h:l[k]? = some x):S8 l (k+1)=Ff (S8 l k) x:=by unfold S8;rw[Br h,List.foldl_append];rfl
theorem bO(h:place x s.1<s.1.length):Ff s x=(s.1,s.2++Lib.uvarint (place x s.1)):=by unfold Ff;rw[Yae h]
theorem aC(h:¬place x s.1<s.1.length):Ff s x=(s.1++[x],s.2++Lib.uvarint s.1.length):=by unfold Ff;rw[Yad h,show place x s.1=s.1.length by have:=Sg x s.1;omega]
theorem Qg{l:List V}(h:Vd l):∀k,k<=l.length->(S8 l k).1.length<=k/\(∀x∈(S8 l k).1,x∈l)/\(S8 l k).2.length<=k*10
 | 0,_=>by simp[S8]
 | k+1,hk=>by
   obtain⟨x,c⟩:=Hk (l:=l) (k:=k) (by omega);obtain⟨e,b,f⟩:=Qg h k (by omega);have d:=h.1;have g:=Sg x (S8 l k).1;have i:=Lib.uvarint_length64 (x:=place x (S8 l k).1) (by omega);rw[rE c];unfold Ff;refine⟨?_,?_,?_⟩
   ·split <;> simp <;> omega
   ·intro y a
    split at a
    ·exact b y a
    simp at a
    rcases a with a|rfl
    ·exact b y a
    exact XR c
   simp;omega
theorem ABX(h:Vd l)(b:k<=l.length):Vd (S8 l k).1:=by obtain⟨d,a,_⟩:=Qg h k b;exact⟨by have:=h.1;omega,λx c=>h.2 x (a x c)⟩
theorem Bj{B e z n:Nat}{xs:List Tv}{a:Tw}(c:Below B a w)(g:w.ownsRow B e z v n xs)(d:w.grownBy W v.ownBlock)(b:B<=w.heap.size):Below B a W :=
 c.grown d b (λk f=>(g.lt k f).1)
theorem q9(v:Tv)(l:List V)(w:Tw)(hs:Sl w v l)(hf:Vd l):
 Zc 314 #[v] w λe w'=>∃v',e=Zr v'/\w'.ownsRow w.heap.size 5 1 v' (Pd l).length (Lib.byteCells (Pd l))/\Zb w w':=by
 obtain⟨av,L,R,q,r⟩:=info_parts Ip;have m:=Zy L R q r;obtain⟨i5,ac,ag,O,P⟩:=info_parts bX;have i:=Zy ac ag O P;clear L R q r ac ag O P;obtain⟨a,c,rfl,_,hl⟩:=hs;have HL:=Ab hl;have HF:=Ab hf;have ax:=hf.1;clear hl hf;go_enter func314,ntmps314;go_wp2
 go_loopw [3,4,11] (λvd vw vi wr=>∃k:Nat,k<=l.length/\vi=Zi k/\Hid (wr.ownsRow w.heap.size 57 3 vd (S8 l k).1.length (A1 (S8 l k).1))/\Hid (wr.ownsRow w.heap.size 5 1 vw (S8 l k).2.length (Lib.byteCells (S8 l k).2))/\Hid (Zb w wr)) (λ_ _ vi _=>l.length-(intOf vi).toNat)
 case atStart=>exact⟨0,XE _,rfl,XH _ _ _ _,XH _ _ _ _,XD _ _⟩
 case round=>
  obtain⟨k,hk,rfl,J,hv,N⟩:=hrel
  by_cases hlt:k<l.length
  ·obtain⟨b,off,rfl,hb,hc⟩:=HL.o (by intro e;rw[e] at hlt;simp at hlt)
   obtain⟨⟨g,h,tx⟩,hx⟩:=Hk hlt;obtain⟨g0,g1,g2⟩:=hc k _ hx;have c0:wr.cell? ⟨b,off+k*3,none⟩=some (Zi g):=(N.o.cell (p:=⟨b,off+k*3,none⟩) hb).trans g0;have c1:wr.cell? ⟨b,off+k*3+1,none⟩=some (Zi h):=(N.o.cell (p:=⟨b,off+k*3+1,none⟩) hb).trans g1;have c2:wr.cell? ⟨b,off+k*3+2,none⟩=some (Zt tx):=(N.o.cell (p:=⟨b,off+k*3+2,none⟩) hb).trans g2;have o:=N.o.size;have HN:=Ab (rE hx);have HW:=Ab (Qg HF.o k hk);have HP:=Ab (Sg (g,h,tx) (S8 l k).1);generalize S8 l k=st at *;obtain⟨d,t⟩:=st;obtain⟨ad,cd,rfl,_,_⟩:=Cy J.o;have HI:=Ab (ADg _ d g h tx (wr.alloc (Zk #[Zi g,Zi h,Zt tx] 57)) (Cy (J.o.alloc _)) (by have:=HW.o.1;simp at this;omega));have ah:Hid ((wr.alloc (Zk #[Zi g,Zi h,Zt tx] 57)).heap[wr.heap.size]? = some (Zk #[Zi g,Zi h,Zt tx] 57)):=Yac _ _
   have M:Kk (λy=>decide (((g,h,tx):V)=y)) d=if place (g,h,tx) d<d.length then ((place (g,h,tx) d:Nat):Int) else -1:=by unfold Kk;rw[gD]
   rw[M] at HI;clear M g0 g1 g2 hc;have am:d.length<=60:=by have:=HW.o.1;simp at this;omega
   have au:t.length<=600:=by have:=HW.o.2.2;simp at this;omega
   by_cases hA:place (g,h,tx) d<d.length
   ·rw[Yae hA] at HI
    have HE:=Ab (bO (s:=(d,t)) (x:=(g,h,tx)) hA);generalize place (g,h,tx) d=p at *;go_wp2_with fail;refine HI.o.mono ?_;rintro e G⟨rfl,f⟩;have n:=f.size;have T:w.heap.size<=G.heap.size:=by simp at n;omega
    go_wp2_with fail;refine(Dq w.heap.size _ p (by omega) _ _ G (Ad (hv.o.alloc _) f) T (by show t.length+10<=_;omega)).mono ?_;rintro e w3⟨v3,rfl,X,D⟩;go_wp2;have e1:S8 l (k+1)=(d,t++Lib.uvarint p):=by rw[HN.o,HE.o]
    refine⟨⟨k+1,by omega,by go_num,?_,?_,Ab (((N.o.alloc o _).trans (f.mono (by simp;omega))).trans D.1)⟩,by simp[intOf];omega⟩
    ·rw[e1];exact eO (Ad (J.o.alloc _) f) D (by decide)
    rw[e1,XB,Bg];exact X
   rw[Yad hA] at HI;have HE:=Ab (aC (s:=(d,t)) (x:=(g,h,tx)) hA);go_wp2_with fail;refine HI.o.mono ?_;rintro e G⟨rfl,f⟩;have n:=f.size;have T:w.heap.size<=G.heap.size:=by simp at n;omega
   have ak:=Wf ah.o f;obtain⟨q0,q1,q2⟩:=Ei ak;go_wp2_with (at_builtin;refine wpList_append_own _ rfl _ _ 58 rfl w.heap.size 57 av (.agg #[Zi 0,Zi 0,.string ⟨#[]⟩]) 3 32 underlying58 m.o.1 m.o.2.1 m.o.2.2.1 m.o.2.2.2 rfl (by decide) _ _ _ rfl ((Ad (J.o.alloc _) f).alloc _) ⟨G.heap.size,0,none⟩ 1 1 [Zi g,Zi h,.string tx] rfl rfl ?c1 ?c2 ?c3 ?c4 ?c5 ?_)
   case c1=>exact λj u hj=>World.news_of_block (Yac _ _) j u hj
   case c2=>exact Hf [(g,h,tx)]
   case c3=>show d.length+1<=maxLen;unfold maxLen;omega
   case c4=>show (d.length+1)*32<=_;omega
   case c5=>simp;omega
   intro v3 w3 al U _;have aq:=C2 ((Ad (hv.o.alloc _) f).alloc (Zk #[Zi g,Zi h,Zt tx] 57)) ((Ad (J.o.alloc _) f).alloc (Zk #[Zi g,Zi h,Zt tx] 57)) (by decide) U;have ae:=U.size;have aj:w.heap.size<=w3.heap.size:=by simp at ae;omega
   have ab:Zb w w3:=Bj ((((N.o.alloc o _).trans (f.mono (by simp;omega)))).alloc T _) ((Ad (J.o.alloc _) f).alloc _) U (by simp;omega);go_wp2_with fail;refine(Dq w.heap.size _ d.length (by omega) _ _ w3 aq aj (by show t.length+10<=_;omega)).mono ?_;rintro e w4⟨v4,rfl,Y,af⟩;go_wp2;have e1:S8 l (k+1)=(d++[(g,h,tx)],t++Lib.uvarint d.length):=by rw[HN.o,HE.o]
   refine⟨⟨k+1,by omega,by go_num,?_,?_,Ab (ab.trans af.1)⟩,by simp[intOf];omega⟩
   ·rw[e1,Jk,XB];exact eO al af (by decide)
   rw[e1,XB,Bg];exact Y
  have ek:S8 l k=(l.foldl Ff ([],[])):=by unfold S8;rw[Yd (by omega)]
  have ai:Hid (Pd l=Lib.uvarint (S8 l k).1.length++Fx (S8 l k).1++(S8 l k).2):=by rw[ek];exact rfl
  have HW:=Ab (Qg HF.o k hk);have aa:=Ab (ABX HF.o hk);clear ek;generalize S8 l k=st at *;obtain⟨d,t⟩:=st;obtain⟨ad,cd,rfl,_,_⟩:=Cy J.o;have am:d.length<=60:=by have:=HW.o.1;simp at this;omega
  have au:t.length<=600:=by have:=HW.o.2.2;simp at this;omega
  have o:=N.o.size;have ay:(Fx d).length<=3000:=by have:=N0 aa.o.2;simp at this;omega
  have a0:(Lib.uvarint d.length).length<=10:=Lib.uvarint_length64 (by omega);go_wp2_with fail;refine(Dq wr.heap.size 0 d.length (by omega) _ [] wr (XH _ _ _ _) (XA _) (by omega)).mono ?_;rintro e G⟨v2,rfl,ao,ar⟩;have f:Zb wr G:=ar.1;have n:=f.size;go_wp2_with fail;refine(Xm _ d G (Cy (Ad J.o f)) aa.o).mono ?_;rintro e w3⟨v3,rfl,X,D⟩;have z:Zb G w3:=D.1;have ae:=z.size;have HA:=Ab (Ad ao z);have HB:=Ab X;have HC:=Ab (Ad (Ad hv.o f) z);go_wp2_with (at_builtin;refine Ck rfl _ _ 77 rfl wr.heap.size 5 i5 (.int .u8 0) 1 1 underlying77 i.o.1 i.o.2.1 i.o.2.2.1 i.o.2.2.2 rfl (by decide) _ _ _ rfl HA.o _ _ _ _ rfl HB.o (byteCells_one _) ?f3 ?f4 ?f5 ?_)
  case f3=>unfold maxLen;omega
  case f4=>omega
  case f5=>omega
  intro v4 w4 Y W;have az:=W.size;have HD:=Ab Y;have HE:=Ab (N4 HC.o (λj hj=>(hv.o.lt j hj).2) HA.o W);have I:Zb wr w4:=Bj (f.trans (z.mono n)) HA.o W (by omega);have aw:=I.size;go_wp2_with (at_builtin;refine Ck rfl _ _ 77 rfl wr.heap.size 5 i5 (.int .u8 0) 1 1 underlying77 i.o.1 i.o.2.1 i.o.2.2.1 i.o.2.2.2 rfl (by decide) _ _ _ rfl HD.o _ _ _ _ rfl HE.o (byteCells_one _) ?f6 ?f7 ?f8 ?_)
  case f6=>show _+t.length<=_;unfold maxLen;omega
  case f7=>show (_+t.length)*1<=_;omega
  case f8=>omega
  intro v5 w5 ap an;go_wp2;go_ret;refine⟨v5,rfl,?_,N.o.trans ((Bj I HD.o an (by omega)).mono o)⟩;rw[ai.o];rw[XB,XB,Bg,Bg,XU];exact Ai ap o
theorem AAD(h:Vd l):(Pd l).length<=3610:=by
 have e:S8 l l.length=l.foldl Ff ([],[]):=by unfold S8;rw[Yd (XA _)]
 obtain⟨b,c,d⟩:=Qg h l.length (XA _);have f:=N0 (ABX h (XA l.length)).2;have a:=h.1;have g:=Lib.uvarint_length64 (x:=(S8 l l.length).1.length) (by omega);unfold Pd;rw[<-e];simp only[XB];omega
theorem eM(h:Vd l)(k:Nat):(I0 k l).length<=4000:=by
 have b:=h.1;unfold I0;split
 ·have:=jM l h.2 (by omega) l.length;omega
 split
 ·have:=AAD h;omega
 split
 ·have:=bQ (a:=0) (l:=l);omega
 have:=N0 h.2;omega
theorem ACS(k:Nat)(v:Tv)(l:List V)(w:Tw)(h:Sl w v l)(g:Vd l)(o:k<=3):
 Zc 288 #[Zi k,v] w λe m=>∃v',e=Zr v'/\m.ownsRow w.heap.size 5 1 v' (I0 k l).length (Lib.byteCells (I0 k l))/\Zb w m:=by
 have H1:=Ab (AAA v l w h g);have H2:=Ab (q9 v l w h g);have H3:=Ab (rD v l w h g);have n:=Ab (Xm v l w h g);obtain⟨a,c,rfl,_,_⟩:=h;clear g;have i:k=0\/k=1\/k=2\/k=3:=by omega
 rcases i with rfl|rfl|rfl|rfl
 ·go_enter func288,ntmps288
  go_wp2_with (go_at_call 316;refine n.o.mono ?_;rintro e j⟨f,rfl,b,d⟩);go_ret;exact⟨f,rfl,b,d.1⟩
 ·go_enter func288,ntmps288
  go_wp2_with (go_at_call 313;refine H1.o.mono ?_;rintro e j⟨f,rfl,b,d⟩);go_ret;exact⟨f,rfl,b,d.1⟩
 ·go_enter func288,ntmps288
  go_wp2_with (go_at_call 314;refine H2.o.mono ?_;rintro e j⟨f,rfl,b,d⟩);go_ret;exact⟨f,rfl,b,d⟩
 go_enter func288,ntmps288;go_wp2_with (go_at_call 315;refine H3.o.mono ?_;rintro e j⟨f,rfl,b,d⟩);go_ret;exact⟨f,rfl,b,d.1⟩
theorem M5(kind:Int)(l:List V)(k:Nat)(a:1<=k):Hp kind l (k+1)=if k=3/\kind≠1 then Hp kind l k else better (Hp kind l k) (k.toUInt8 :: I0 k l):=by obtain⟨j,rfl⟩:∃j,k=j+1:=⟨k-1,by omega⟩;rfl
theorem Wd{kind:Int}{l:List V}(h:Vd l):∀k,(Hp kind l k).length<=4001
 | 0=>by simp[Hp]
 | 1=>by have:=eM h 0;simp[Hp];omega
 | k+2=>by
   have a:=Wd (kind:=kind) h (k+1);have b:=eM h (k+1);rw[M5 kind l (k+1) (by omega)];split
   ·exact a
   unfold better;split <;> simp <;> omega
theorem l5(k:Nat)(a:k<256)(l:List UInt8):Value.int .u8 (k:Int) :: Lib.byteCells l=Lib.byteCells (k.toUInt8 :: l):=by simp[Lib.byteCells,Lib.toUInt8_toNat a]
def oP(kind:Int)(l:List V)(w wr:World)(k:Nat)(vb:Value):Prop :=
 (k=0/\vb=.slice none 0 0)\/(0<k/\wr.ownsRow w.heap.size 5 1 vb (Hp kind l k).length (Lib.byteCells (Hp kind l k))/\0<(Hp kind l k).length)
theorem AKQ:∀(w:Tw)(a:To)(n c n' b:Nat),(binOp .eql 77 (.slice a n c) (.slice none n' b)).run prog w=.ok (.bool a.isNone) w:=λw a n c n' b=>Lib.run_eql_slice_nil w _ _ a n c n' b underlying77
theorem yK(kind:Int)(v:Tv)(l:List V)(w:Tw)(hs:Sl w v l)(hf:Vd l)(ae:kind=1\/kind=2):
 Zc 244 #[Zi kind,v] w λe w'=>∃v',e=Zr v'/\w'.ownsRow w.heap.size 5 1 v' (AEn kind l).length (Lib.byteCells (AEn kind l))/\Zb w w':=by
 have HS:=Ab hs;have HF:=Ab hf;obtain⟨i5,ad,af,I,J⟩:=info_parts bX;have i:=Zy ad af I J;clear ad af I J;obtain⟨a,c,rfl,_,_⟩:=hs;clear hf;have al:=AKQ;go_enter func244,ntmps244;go_wp2
 go_loopw [5,8] (λvb vi wr=>∃k:Nat,k<=4/\vi=Zi k/\Hid (oP kind l w wr k vb)/\Hid (Zb w wr)) (λ_ vi _=>4-(intOf vi).toNat)
 case atStart=>exact⟨0,XE _,rfl,Ab (.inl ⟨rfl,rfl⟩),XD _ _⟩
 case round=>
  obtain⟨k,hk,rfl,hB,X⟩:=hrel;have r:=X.o.size
  by_cases hlt:k<4
  ·by_cases hskip:k=3/\kind≠1
   ·obtain⟨rfl,ai⟩:=hskip
    obtain rfl:kind=2:=by omega
    have HN:Hid (oP 2 l w wr 4 _):=Ab (by
     rcases hB.o with⟨h,_⟩|⟨_,W,N⟩
     ·omega
     refine .inr ⟨by omega,?_⟩;rw[M5 2 l 3 (by omega),Yae ⟨rfl,ai⟩];exact⟨W,N⟩)
    go_wp2;exact⟨⟨4,by omega,rfl,HN,X⟩,by simp[intOf]⟩
   have HC:=Ab (ACS k (Zs a l.length c) l (wr.alloc (Zk #[.int .u8 (k:Int)] 5)) (HS.o.up (X.o.alloc r _)) HF.o (by omega));have ab:Hid (1<=k->Hp kind l (k+1)=better (Hp kind l k) (k.toUInt8 :: I0 k l)):=λh=>by rw[M5 kind l k h,Yad hskip]
   have s:=Ab (eM HF.o k);have aa:=Ab (Wd (kind:=kind) HF.o k);have ac:Hid ((wr.alloc (Zk #[.int .u8 (k:Int)] 5)).ownsRow wr.heap.size 5 1 (Zs (some ⟨wr.heap.size,0,none⟩) 1 1) 1 [.int .u8 (k:Int)]):=Ab (World.ownsRow_lit wr #[.int .u8 (k:Int)] 1 (XA _) (by unfold maxLen;omega) rfl);have aj:(k:Int)<256:=by omega
   have T:(k=3->kind=1):=λh=>Classical.byContradiction λW=>hskip ⟨h,W⟩
   clear hskip
   by_cases N:k=3
   ·have b3:((k:Int)==3)=true:=by simp;omega
    have bk:(kind==1)=true:=by simp[T N]
    clear N T ae;go_wp2_with fail;refine HC.o.mono ?_;rintro e w2⟨v2,rfl,R,o⟩;have U:=o.size;have O:wr.heap.size<=w2.heap.size:=by simp at U;omega
    have z:Zb wr w2:=(Zal).trans (o.mono (by simp));have Y:=Ab (Ad ac.o o);have HB:=Ab R;go_wp2_with (at_builtin;refine Ck rfl _ _ 77 rfl wr.heap.size 5 i5 (.int .u8 0) 1 1 underlying77 i.o.1 i.o.2.1 i.o.2.2.1 i.o.2.2.2 rfl (by decide) _ _ _ rfl Y.o _ _ _ _ rfl HB.o (byteCells_one _) ?fA1 ?fA2 ?fA3 ?_)
    case fA1=>have:=s.o;unfold maxLen;omega
    case fA2=>have:=s.o;omega
    case fA3=>omega
    intro v3 t G D;have j:Zb wr t:=Bj z Y.o D O;have n:Hid (t.ownsRow wr.heap.size 5 1 v3 (k.toUInt8 :: I0 k l).length (Lib.byteCells (k.toUInt8 :: I0 k l))):=Ab (by rw[<-l5 k (by omega),XC,WD];exact G);have m:Hid (Zb w t):=Ab (X.o.trans (j.mono r));obtain⟨g,x,rfl,_,_⟩:=n.o.form (by simp);clear G D;have ak:(k.toUInt8 :: I0 k l).length<=4001:=by have:=s.o;rw[XC];omega
    generalize d:(k.toUInt8 :: I0 k l)=u at *
    rcases hB.o with⟨rfl,rfl⟩|⟨P,q,p⟩
    ·have b:Hid (oP kind l w t 1 (Zs (some ⟨g,0,none⟩) u.length x)):=Ab (.inr ⟨by omega,by rw[show Hp kind l 1=u from d];exact Ai n.o r,by rw[show Hp kind l 1=u from d,<-d];simp⟩)
     go_wp2;exact⟨⟨1,by omega,rfl,b,m⟩,by simp[intOf]⟩
    obtain⟨gb,y,rfl,_,ah⟩:=q.form p;have M:=Ab (Ad q j);have ag:=aa.o;have L:=Ab p;have f:=ab.o P;generalize Hp kind l k=fo at *;clear q p
    by_cases hcmp:u.length<fo.length
    ·have b:Hid (oP kind l w t (k+1) (Zs (some ⟨g,0,none⟩) u.length x)):=Ab (.inr ⟨by omega,by rw[f,better,Yae hcmp];exact⟨Ai n.o r,by rw[<-d];simp⟩⟩)
     clear f d;go_wp2;exact⟨⟨k+1,by omega,by go_num,b,m⟩,by simp[intOf];omega⟩
    have b:Hid (oP kind l w t (k+1) (Zs (some ⟨gb,0,none⟩) fo.length y)):=Ab (.inr ⟨by omega,by rw[f,better,Yad hcmp];exact⟨M.o,L.o⟩⟩);clear f d;go_wp2;exact⟨⟨k+1,by omega,by go_num,b,m⟩,by simp[intOf];omega⟩
   have b3:((k:Int)==3)=false:=by simp;omega
   clear N T ae;go_wp2_with fail;refine HC.o.mono ?_;rintro e w2⟨v2,rfl,R,o⟩;have U:=o.size;have O:wr.heap.size<=w2.heap.size:=by simp at U;omega
   have z:Zb wr w2:=(Zal).trans (o.mono (by simp));have Y:=Ab (Ad ac.o o);have HB:=Ab R;go_wp2_with (at_builtin;refine Ck rfl _ _ 77 rfl wr.heap.size 5 i5 (.int .u8 0) 1 1 underlying77 i.o.1 i.o.2.1 i.o.2.2.1 i.o.2.2.2 rfl (by decide) _ _ _ rfl Y.o _ _ _ _ rfl HB.o (byteCells_one _) ?fB1 ?fB2 ?fB3 ?_)
   case fB1=>have:=s.o;unfold maxLen;omega
   case fB2=>have:=s.o;omega
   case fB3=>omega
   intro v3 t G D;have j:Zb wr t:=Bj z Y.o D O;have n:Hid (t.ownsRow wr.heap.size 5 1 v3 (k.toUInt8 :: I0 k l).length (Lib.byteCells (k.toUInt8 :: I0 k l))):=Ab (by rw[<-l5 k (by omega),XC,WD];exact G);have m:Hid (Zb w t):=Ab (X.o.trans (j.mono r));obtain⟨g,x,rfl,_,_⟩:=n.o.form (by simp);clear G D;have ak:(k.toUInt8 :: I0 k l).length<=4001:=by have:=s.o;rw[XC];omega
   generalize d:(k.toUInt8 :: I0 k l)=u at *
   rcases hB.o with⟨rfl,rfl⟩|⟨P,q,p⟩
   ·have b:Hid (oP kind l w t 1 (Zs (some ⟨g,0,none⟩) u.length x)):=Ab (.inr ⟨by omega,by rw[show Hp kind l 1=u from d];exact Ai n.o r,by rw[show Hp kind l 1=u from d,<-d];simp⟩)
    go_wp2;exact⟨⟨1,by omega,rfl,b,m⟩,by simp[intOf]⟩
   obtain⟨gb,y,rfl,_,ah⟩:=q.form p;have M:=Ab (Ad q j);have ag:=aa.o;have L:=Ab p;have f:=ab.o P;generalize Hp kind l k=fo at *;clear q p
   by_cases hcmp:u.length<fo.length
   ·have b:Hid (oP kind l w t (k+1) (Zs (some ⟨g,0,none⟩) u.length x)):=Ab (.inr ⟨by omega,by rw[f,better,Yae hcmp];exact⟨Ai n.o r,by rw[<-d];simp⟩⟩)
    clear f d;go_wp2;exact⟨⟨k+1,by omega,by go_num,b,m⟩,by simp[intOf];omega⟩
   have b:Hid (oP kind l w t (k+1) (Zs (some ⟨gb,0,none⟩) fo.length y)):=Ab (.inr ⟨by omega,by rw[f,better,Yad hcmp];exact⟨M.o,L.o⟩⟩);clear f d;go_wp2;exact⟨⟨k+1,by omega,by go_num,b,m⟩,by simp[intOf];omega⟩
  obtain rfl:k=4:=by omega
  have HE:Hid (oP kind l w wr 4 _ ):=hB
  rcases hB.o with⟨h,_⟩|⟨_,W,N⟩
  ·omega
  have HO:=Ab W;clear W N;go_wp2;go_ret;exact⟨_,rfl,HO.o,X.o⟩
variable{k n:Int}
def Cu(r:Nat):Bool:=decide (r<32) || (decide (126<r) || ((r:Int)==39))
theorem Rv(w:Tw):PredAt prog 87 #[] encR Cu w:=λW r _=>by
 unfold FnGives
 by_cases h1:r<32 <;> by_cases h2:126<r
 all_goals
  have a:(r:Int)<32↔r<32:=by omega
  have b:(126:Int)<(r:Int)↔126<r:=by omega
  go_enter func87,ntmps87;go_wp2
  all_goals first|(exfalso;omega)|(go_ret;exact⟨Af (by simp[Cu,h1,h2]),0,rfl⟩)
def Vb(t:ByteArray):Bool:=decide (t.size<=40) && !(decide (0<=Lib.idxFunc Cu true t))
theorem rt0{t:Tb}(h:¬t.size<=40):false=Vb t:=by simp[Vb,h]
theorem rt1{t:Tb}(h:t.size<=40):(!(decide (0<=Lib.idxFunc Cu true t)))=Vb t:=by simp[Vb,h]
theorem Mj(t:Tb)(w:Tw)(g:t.size<=maxLen):
 Zc 48 #[Zt t] w λe f=>e=Zr (Zo (Vb t))/\Zb w f:=by
 have c:Hid (∀W,Zc 86 #[Zt t,.func (.func 87) #[] #[]] W λe f=>e=Zr (Zo (decide (0<=Lib.idxFunc Cu true t)))/\Zb W f):=λW=>strings_ContainsFunc 87 #[] (enters_of func87 (by kernel_rfl) rfl) Cu t W (Rv W)
 unfold maxLen at g
 by_cases h:t.size<=40
 ·have a:Hid ((!(decide (0<=Lib.idxFunc Cu true t)))=Vb t):=rt1 h
  generalize decide (0<=Lib.idxFunc Cu true t)=b at c a;go_enter func48,ntmps48
  go_wp2_with (first
   | (go_at_call 86;refine(c.o _).mono ?_;rintro e i⟨rfl,d⟩))
  go_ret;exact⟨Af a.o,d⟩
 have a:Hid (false=Vb t):=rt0 h;clear c;go_enter func48,ntmps48;go_wp2;go_ret;exact⟨Af a.o,XD _ _⟩
def A9(k n:Int)(t:ByteArray):Bool:=if k=0 then n==0 && t.toList.isEmpty else if k=1 then t.toList.isEmpty else if k=2 then n==0 && Vb t else false
theorem rv0{t:Tb}(a:(n==0)=true)(h:(k==0)=true):t.toList.isEmpty=A9 k n t:=by simp at h a;subst h a;simp[A9]
theorem AI3{t:Tb}(a:(n==0)=false)(h:(k==0)=true):false=A9 k n t:=by simp at h;subst h;simp[A9,a]
theorem rv1{t:Tb}(h:(k==1)=true):t.toList.isEmpty=A9 k n t:=by simp at h;subst h;simp[A9]
theorem rv2{t:Tb}(a:(n==0)=true)(h:(k==2)=true):Vb t=A9 k n t:=by simp at h a;subst h a;simp[A9]
theorem AIp{t:Tb}(a:(n==0)=false)(h:(k==2)=true):false=A9 k n t:=by simp at h;subst h;simp[A9,a]
theorem rv3{t:Tb}(a:(k==0)=false)(b:(k==1)=false)(c:(k==2)=false):false=A9 k n t:=by simp at a b c;simp[A9,a,b,c]
theorem Ln(k n:Int)(t:Tb)(w:Tw)(f:t.size<=maxLen):
 Zc 24 #[Zg #[Zi k,Zi n,Zt t]] w λe c=>e=Zr (Zo (A9 k n t))/\Zb w c:=by
 have d:Hid (∀W,Zc 48 #[Zt t] W λe c=>e=Zr (Zo (Vb t))/\Zb W c):=λW=>Mj t W f
 unfold maxLen at f
 by_cases hn:n=0
 ·have a:(n==0)=true:=by simpa using hn
  clear hn;go_enter func24,ntmps24
  go_wp2_with (first
   | (go_at_call 48;refine(d.o _).mono ?_;rintro e g⟨rfl,b⟩))
  all_goals go_ret
  ·exact⟨Af (rv0 a ‹_›),Zal⟩
  ·exact⟨Af (rv1 ‹_›),Zal⟩
  ·exact⟨Af (rv2 a ‹_›),(Zal).trans (b.mono (by simp))⟩
  exact⟨Af (rv3 ‹_› ‹_› ‹_›),Zal⟩
 have a:(n==0)=false:=by simpa using hn
 clear hn;go_enter func24,ntmps24
 go_wp2_with (first
  | (go_at_call 48;refine(d.o _).mono ?_;rintro e g⟨rfl,b⟩))
 all_goals go_ret
 ·exact⟨Af (AI3 a ‹_›),Zal⟩
 ·exact⟨Af (rv1 ‹_›),Zal⟩
 ·exact⟨Af (AIp a ‹_›),Zal⟩
 exact⟨Af (rv3 ‹_› ‹_› ‹_›),Zal⟩
theorem Qu(k n:Int)(t:Tb)(w:Tw):
 Zc 291 #[Zg #[Zi k,Zi n,Zt t]] w λe a=>e=Zr (Zo (k==0))/\Zb w a:=by
 go_enter func291,ntmps291;go_wp2;go_ret;exact⟨rfl,Zal⟩
def Wa(kind:Int)(x:V):Bool:=!A9 x.1 x.2.1 x.2.2 || (!(x.1==0) && !(x.1==kind))
theorem jG(kind k n:Int)(t:Tb)(bx:Nat)(w:Tw)(o:bx<w.heap.size)(f:w.cell? ⟨bx,0,none⟩=some (Zi kind))(g:t.size<=maxLen):
 Zc 287 #[Zg #[Zi k,Zi n,Zt t],Zp (some ⟨bx,0,none⟩)] w λe l=>e=Zr (Zo (Wa kind (k,n,t)))/\Zb w l:=by
 have h:¬w.heap.size=bx:=by omega
 have c:=Ab (λW=>Ln k n t W g);have d:Hid (Wa kind (k,n,t)=(!A9 k n t || (!(k==0) && !(k==kind)))):=rfl;clear g;cases hr:A9 k n t with
 | false=>rw[hr] at d c;go_enter func287,ntmps287;go_wp2_with (go_at_call 24;refine(c.o _).mono ?_;rintro e b⟨rfl,a⟩);go_ret;exact⟨Af (by rw[d.o];rfl),(Zal).trans (a.mono (by simp))⟩
 | true=>
   rw[hr] at d c
   by_cases h0:k=0
   ·subst h0
    go_enter func287,ntmps287;go_wp2_with fail;refine(c.o _).mono ?_;rintro e b⟨rfl,a⟩;have i:b.cell? ⟨w.heap.size,0,none⟩=some (Zi 0):=(a.cell (p:=⟨w.heap.size,0,none⟩) (by simp)).trans (XP w _ 57 (0,0) 0);have j:b.cell? ⟨bx,0,none⟩=some (Zi kind):=(a.cell (p:=⟨bx,0,none⟩) (by simp;omega)).trans (Lib.cell?_alloc_some _ f);go_wp2
    all_goals
     go_ret;exact⟨Af (by rw[d.o];simp[*]),(Zal).trans (a.mono (by simp))⟩
   have m:(k==0)=false:=by simpa using h0
   go_enter func287,ntmps287;go_wp2_with fail;refine(c.o _).mono ?_;rintro e b⟨rfl,a⟩;have i:b.cell? ⟨w.heap.size,0,none⟩=some (Zi k):=(a.cell (p:=⟨w.heap.size,0,none⟩) (by simp)).trans (XP w _ 57 (0,0) 0);have j:b.cell? ⟨bx,0,none⟩=some (Zi kind):=(a.cell (p:=⟨bx,0,none⟩) (by simp;omega)).trans (Lib.cell?_alloc_some _ f);go_wp2
   all_goals
    go_ret;exact⟨Af (by rw[d.o];simp[*,bne]),(Zal).trans (a.mono (by simp))⟩
def Gk(kind:Int)(l:List V):Bool:=(kind==1 || kind==2) && !l.any (Wa kind)
theorem AJM(kind:Int)(v:Tv)(l:List V)(w W:Tw)(b:Nat)(k:Sl w v l)(j:l.length<=1000)(m:∀x∈l,x.2.2.size<=maxLen)(n:Zb w W)(d:W.heap[b]? = some (Zk #[Zi kind] 3)):
 Zc 286 #[v,.func (.func 287) #[] #[Zp (some ⟨b,0,none⟩)]] W λe g=>e=Zr (Zo (l.any (Wa kind)))/\Zb W g:=by
 refine Wp 287 #[Zp (some ⟨b,0,none⟩)] (Wa kind) (enters_of func287 (by kernel_rfl) rfl) v l W (k.up n) j ?_;intro f x o c;have a:=Wf d c;have h:f.cell? ⟨b,0,none⟩=some (Zi kind):=by simp[World.cell?,a]
 exact(jG kind x.1 x.2.1 x.2.2 b f (Ac a) h (m x o)).mono λe g⟨i,d⟩=>⟨i,c.trans (d.mono c.size)⟩
theorem Sn(kind:Int)(v:Tv)(l:List V)(w:Tw)(g:Sl w v l)(i:l.length<=1000)(h:∀x∈l,x.2.2.size<=maxLen):
 Zc 242 #[Zi kind,v] w λe j=>e=Zr (Zo (Gk kind l))/\Zb w j:=by
 have f:=Ab (AJM kind v l w (w.alloc (Zk #[Zi kind] 3)) w.heap.size g i h (Zal) (Yac _ _));obtain⟨a,c,rfl,_,_⟩:=g;clear h
 by_cases h1:kind=1
 ·subst h1
  have b:Hid (Gk 1 l=!l.any (Wa 1)):=Ab (by simp[Gk]);generalize l.any (Wa 1)=q at f b;go_enter func242,ntmps242;go_wp2_with (go_at_call 286;refine f.o.mono ?_;rintro e k⟨rfl,d⟩);go_ret;exact⟨Af (by rw[b.o]),(Zal).trans (d.mono (by simp))⟩
 by_cases h2:kind=2
 ·subst h2
  have b:Hid (Gk 2 l=!l.any (Wa 2)):=Ab (by simp[Gk]);generalize l.any (Wa 2)=q at f b;go_enter func242,ntmps242;go_wp2_with (go_at_call 286;refine f.o.mono ?_;rintro e k⟨rfl,d⟩);go_ret;exact⟨Af (by rw[b.o]),(Zal).trans (d.mono (by simp))⟩
 have b:Hid (Gk kind l=false):=Ab (by simp[Gk,h1,h2]);have m:(kind != 1)=true:=by simpa using h1
 have n:(kind != 2)=true:=by simpa using h2
 clear f;go_enter func242,ntmps242;go_wp2;go_ret;exact⟨Af b.o.symm,Zal⟩
theorem AKJ:∀(w:Tw)(a:To)(n c n' b:Nat),(binOp .eql 58 (.slice a n c) (.slice none n' b)).run prog w=.ok (.bool a.isNone) w:=λw a n c n' b=>Lib.run_eql_slice_nil w _ _ a n c n' b underlying58
theorem yN{w:Tw}{b off:Nat}{l:List V}(h:∀j x,l[j]? = some x->w.cell? ⟨b,off+j*3,none⟩=some (Zi x.1)/\w.cell? ⟨b,off+j*3+1,none⟩=some (Zi x.2.1)/\w.cell? ⟨b,off+j*3+2,none⟩=some (Zt x.2.2)):
 ∀j u,(A1 l)[j]? = some u->w.cell? ⟨b,off+j,none⟩=some u:=by
 intro j u a
 have o:j<l.length*3:=by
  rcases Yc j (l.length*3) with d|d
  ·exact d
  rw[Yb (by rw[K3];exact d)] at a;cases a
 obtain⟨x,f⟩:=Hk (l:=l) (k:=j / 3) (by omega);obtain⟨g,i,m⟩:=Hr f;obtain⟨c0,c1,n⟩:=h _ _ f;have c:j % 3=0\/j % 3=1\/j % 3=2:=by omega
 rcases c with c|c|c
 ·have e:j=j / 3*3:=by omega
  rw[e] at a ⊢;rw[g] at a;rw[c0];exact a
 ·have e:j=j / 3*3+1:=by omega
  rw[e] at a ⊢;rw[i] at a;rw[<-XQ,c1];exact a
 have e:j=j / 3*3+2:=by omega
 rw[e] at a ⊢;rw[m] at a;rw[<-XQ,n];exact a
theorem ADl(b off j:Nat):(⟨b,off,none⟩:Addr).add j=⟨b,off+j,none⟩:=by unfold Addr.add;split <;> simp_all
theorem P9(v:Tv)(l:List V)(w:Tw)(I:Sl w v l)(L:l.length<=1000):
 Zc 290 #[v] w λe z=>∃v',e=Zr v'/\z.ownsRow w.heap.size 57 3 v' l.length (A1 l)/\Zb w z:=by
 obtain⟨x,i,m,f,g⟩:=info_parts Ip;have d:=Zy i m f g;clear i m f g;obtain⟨a,c,rfl,_,q⟩:=I;have y:=AKJ;cases a with
 | none=>
   have t:l=[]:=Classical.byContradiction λh=>by obtain⟨b,off,e,_⟩:=q h;cases e
   subst t;clear q;go_enter func290,ntmps290;go_wp2;go_ret;exact⟨_,rfl,XH _ _ _ _,XD _ _⟩
 | some ad=>
   have n:Hid (∀j u,(A1 l)[j]? = some u->w.cell? (ad.add j)=some u):=Ab λj u r=>by
    by_cases hne:l=[]
    ·subst hne;simp[A1] at r
    obtain⟨b,off,e,J,s⟩:=q hne;cases e;rw[ADl];exact yN s j u r
   clear q;go_enter func290,ntmps290;go_wp2_with (at_builtin;refine wpList_append_own _ rfl _ _ 58 rfl w.heap.size 57 x (.agg #[Zi 0,Zi 0,.string ⟨#[]⟩]) 3 32 underlying58 d.o.1 d.o.2.1 d.o.2.2.1 d.o.2.2.2 rfl (by decide) _ _ _ rfl (YS w #[] 0 (XA _) (XE _) (by simp)) ad l.length c (A1 l) rfl (K3 l) ?c1 (Hf l) ?c3 ?c4 ?c5 ?_)
   case c1=>exact λj u r=>Lib.cell?_alloc_some _ (n.o j u r)
   case c3=>unfold maxLen;omega
   case c4=>omega
   case c5=>simp
   intro v' M p o G;go_wp2;go_ret;refine⟨v',rfl,by simpa using p,?_⟩;exact((XD _ w).alloc (XA _) _).grown o (by simp) (by intro k D;simp[Value.ownBlock] at D;omega)
