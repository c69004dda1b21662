import Derived.Test.YthafikkkjfielaaGreatDoorShelfP
import Derived.Test.YthafikkkjfielaaGreatDoorShelfG
import Derived.Lib.ItoaLen
import Derived.Test.YthafikkkjfielaaGreatDoorZHa
import Derived.WalkSpells
import Derived.WalkLawsBesides
import Derived.Lib.SmallJoins
import Derived.Lib.QuietBelow
import Derived.Deep.AppendLies
import Derived.Lib.RowBridge
import Derived.Lib.AppendIntMem
import Derived.Deep.RegionHeld3
import Derived.RangeFuncNested
import Derived.RangeFuncBound
set_option maxHeartbeats 40000000
set_option maxRecDepth 100000
open Nat renaming le_refl->Y',le_succ->XA,zero_le->XH,le_trans->XI,zero_add->XJ,lt_succ_self->XU,add_zero->WM,lt_min->WT
open Go.RowKit.Below renaming refl->XB,heap_setCell->XO
open List renaming length_cons->XC,getElem?_eq_getElem->XE,length_append->XG,length_drop->XK,map_append->XL,length_map->XM,length_nil->XP,mem_cons->XQ,flatMap_cons->XR,setIfInBounds_toArray->XS,length_take->XT,set_cons_succ->XW,getElem?_map->XY,cons_append->XZ,not_mem_nil->X2,map_set->X6,getElem?_append_right->X',set_cons_zero->Wb,isSuffixOf_iff_suffix->WA,append_assoc->WC,all_eq_true->WE,getElem_map->WG,length_set->WH,map_cons->WI,mem_singleton->WJ,any_eq_false->WK,getElem_take->WL,flatMap_def->WQ,nil_append->WS,mem_range->WU
open Go.World renaming size_alloc->XD,ownsRow_nil->XF,cell?_alloc_at->XN,news_of_block->XV,cell?_setCell_same'->WB
open Array renaming getElem?_eq_none->XX,length_toList->X4
open Bool renaming and_eq_true->WD,or_eq_true->WR
open Int renaming toNat_natCast->WN
open Option renaming bind_some->WO
namespace Go.Proofs.YthafikkkjfielaaGreatDoor
open Tryz Lib RowKit Joins Go.Sort Shelf
open Go.Sort (grow)
variable{c:UInt8}{l s:List UInt8}{n:Int}
def Lu(n:Int):Prop := -9223372036854775808<=n/\n<=9223372036854775807
def Ao(c:UInt8):List UInt8->List UInt8×List UInt8×Bool
 | []=>([],[],false)
 | b :: l=>if b=c then ([],l,true) else (b :: (Ao c l).1,(Ao c l).2.1,(Ao c l).2.2)
theorem Dh{c:UInt8}:∀{x y:List UInt8},c ∉ x->Ao c (x++c :: y)=(x,y,true)
 | [],y,_=>by simp[Ao]
 | b :: x,y,h=>by
   have a:b≠c:=λe=>h (by simp[e])
   have d:=Dh (c:=c) (x:=x) (y:=y) (λe=>h (by simp[e]));rw[XZ,Ao,Yad a,d]
theorem Qa{c:UInt8}:∀{x:List UInt8},c ∉ x->Ao c x=(x,[],false)
 | [],_=>rfl
 | b :: x,h=>by
   have a:b≠c:=λe=>h (by simp[e])
   have d:=Qa (c:=c) (x:=x) (λe=>h (by simp[e]));rw[Ao,Yad a,d]
theorem Gv(c:UInt8):∀s:List UInt8,(Ao c s).2.1.length+(Ao c s).1.length<=s.length
 | []=>by simp[Ao]
 | b :: l=>by
   have a:=Gv c l;unfold Ao;split
   ·simp
   simp only[XC];omega
theorem Un(c:UInt8):∀{s:List UInt8},s≠[]->(Ao c s).2.1.length<s.length
 | [],h=>absurd rfl h
 | b :: l,_=>by
   have a:=Gv c l;unfold Ao;split
   ·simp
   simp only[XC];omega
theorem Rj(c:UInt8):∀s:List UInt8,((Ao c s).2.2=true/\s=(Ao c s).1++c :: (Ao c s).2.1/\c ∉ (Ao c s).1)\/(Ao c s=(s,[],false)/\c ∉ s)
 | []=>.inr ⟨rfl,by simp⟩
 | b :: l=>by
   unfold Ao;split
   ·rename_i h
    subst h;exact .inl ⟨rfl,rfl,by simp⟩
   rename_i h
   rcases Rj c l with⟨a,d,f⟩|⟨a,d⟩
   ·refine .inl ⟨a,by rw[XZ,<-d],?_⟩
    simp only[XQ,not_or];exact⟨λe=>h e.symm,f⟩
   rw[a];refine .inr ⟨rfl,?_⟩;simp only[XQ,not_or];exact⟨λe=>h e.symm,d⟩
theorem Np(h:indexByte s c = -1):Ao c s=(s,[],false):=by
 induction s with
 | nil=>rfl
 | cons b l ih=>
   unfold indexByte at h;split at h
   ·cases h
   rename_i hb;have a:b≠c:=by simpa using hb
   have d:indexByte l c = -1:=by
    split at h
    ·rename_i e;simpa using e
    have:=indexByte_ge l c;rename_i e;simp at e;omega
   rw[Ao,Yad a,ih d]
theorem J0{c:UInt8}:∀{s:List UInt8}{i:Nat},indexByte s c=i->Ao c s=(s.take i,s.drop (i+1),true)/\i<s.length
 | [],i,h=>by unfold indexByte at h;omega
 | b :: l,i,h=>by
   unfold indexByte at h;split at h
   ·rename_i hb
    have a:b=c:=by simpa using hb
    have:i=0:=by omega
    subst this;rw[Ao,Yae a];simp
   rename_i hb;have a:b≠c:=by simpa using hb
   split at h
   ·omega
   rename_i e;obtain⟨j,rfl⟩:∃j,i=j+1:=⟨i-1,by have:=indexByte_ge l c;simp at e;omega⟩;obtain⟨d,f⟩:=J0 (c:=c) (s:=l) (i:=j) (by omega);rw[Ao,Yad a,d];simp;omega
theorem O3(s:List UInt8)(c:UInt8):indexByte s c = -1\/∃i:Nat,indexByte s c=i:=by
 have:=indexByte_ge s c
 by_cases h:indexByte s c = -1
 ·exact .inl h
 exact .inr ⟨(indexByte s c).toNat,by omega⟩
def Dp(s:List UInt8):List (List UInt8):=if _h:s=[] then [] else (Ao 10 s).1 :: Dp (Ao 10 s).2.1
termination_by s.length
decreasing_by exact Un 10 _h
theorem Jf:Dp []=[]:=by rw[Dp,dif_pos rfl]
theorem J1(h:s≠[]):Dp s=(Ao 10 s).1 :: Dp (Ao 10 s).2.1:=by rw[Dp,dif_neg h]
theorem Sx:∀{l:List (List UInt8)},(∀x∈l,(10:UInt8) ∉ x)->Dp (l.flatMap (λx=>x++[10]))=l
 | [],_=>Jf
 | x :: l,h=>by
   have e:(x :: l).flatMap (λx=>x++[(10:UInt8)])=x++10 :: l.flatMap (λx=>x++[10]):=by simp
   rw[e,J1 (by simp),Dh (h x (by simp))];simp only;rw[Sx (λy a=>h y (by simp[a]))]
theorem eX:∀(n:Nat)(s:List UInt8),s.length<=n->(Dp s).length<=s.length
 | 0,s,h=>by have:s=[]:=Yag.1 (by omega);subst this;rw[Jf];simp
 | n+1,s,h=>by
   by_cases e:s=[]
   ·subst e;rw[Jf];simp
   have a:=Un 10 e;have b:=eX n (Ao 10 s).2.1 (by omega);rw[J1 e];simp only[XC];omega
def Dd(c:UInt8)(s:List UInt8):List (List UInt8):=if _h:(Ao c s).2.2=true then (Ao c s).1 :: Dd c (Ao c s).2.1 else [s]
termination_by s.length
decreasing_by
 refine Un c (λe=>?_);subst e;simp[Ao] at _h
theorem uR(h:c ∉ s):Dd c s=[s]:=by rw[Dd,dif_neg (by rw[Qa h];simp)]
theorem yQ{x y:List UInt8}(h:c ∉ x):Dd c (x++c :: y)=x :: Dd c y:=by rw[Dd,dif_pos (by rw[Dh h]),Dh h]
theorem X3{c:UInt8}:∀{l:List (List UInt8)},l≠[]->(∀x∈l,c ∉ x)->Dd c (Lib.join l [c])=l
 | [],h,_=>absurd rfl h
 | [x],_,h=>by
   have e:Lib.join [x] [c]=x:=by simp[Lib.join]
   rw[e,uR (h x (by simp))]
 | x :: y :: l,_,h=>by
   have e:Lib.join (x :: y :: l) [c]=x++c :: Lib.join (y :: l) [c]:=by simp[Lib.join]
   rw[e,yQ (h x (by simp)),X3 (by simp) (λz a=>h z (by simp[a]))]
theorem Wh{u:Nat}:∀b∈decDigits u,48<=b.toNat/\b.toNat<=57:=by
 induction u using Nat.strongRecOn with
 | _ u ih=>
   rw[decDigits];split
   ·rename_i h
    intro b a;simp only[WJ] at a;subst a;rw[UInt8.toNat_ofNat'];omega
   rename_i h;intro b a
   rcases List.mem_append.1 a with a|a
   ·exact ih (u / 10) (by omega) b a
   simp only[WJ] at a;subst a;rw[UInt8.toNat_ofNat'];omega
theorem AGW(u:Nat):decDigits u≠[]:=by rw[decDigits];split <;> simp
theorem k8:∀{x y:List UInt8}{a u:Nat},parseUint10 a x=.ok u->parseUint10 a (x++y)=parseUint10 u y
 | [],y,a,u,h=>by simp only[parseUint10] at h;injection h with h;subst h;rfl
 | c :: x,y,a,u,h=>by
   simp only[parseUint10] at h;rw[XZ,parseUint10];split at h
   ·rename_i h1
    rw[Yae h1];split at h
    ·cases h
    rename_i h2;rw[Yad h2];split at h
    ·cases h
    rename_i h3;rw[Yad h3];exact k8 h
   cases h
theorem ADQ(u:Nat)(h:u<18446744073709551616):parseUint10 0 (decDigits u)=.ok u:=by
 induction u using Nat.strongRecOn with
 | _ u ih=>
   rw[decDigits];split
   ·rename_i h1
    have e:(UInt8.ofNat (48+u)).toNat=48+u:=by rw[UInt8.toNat_ofNat'];omega
    simp only[parseUint10,e];rw[Yae (by omega),Yad (by omega),Yad (by omega)];congr 1;omega
   rename_i h1;rw[k8 (ih (u / 10) (by omega) (by omega))];have e:(UInt8.ofNat (48+u % 10)).toNat=48+u % 10:=by rw[UInt8.toNat_ofNat'];omega
   simp only[parseUint10,e];rw[Yae (by omega),Yad (by omega),Yad (by omega)];congr 1;omega
theorem ABS(u:Nat)(h:u<18446744073709551616):parseMag (decDigits u)=.ok u:=by unfold parseMag;rw[Yad (AGW u),ADQ u h]
theorem Vy(b : -9223372036854775808<=n)(d:n<=9223372036854775807):atoiAll (itoa n)=.ok n:=by
 unfold itoa;split
 ·rename_i h
  rw[atoiAll_minus,ABS _ (by omega)];simp only[signed];rw[Yad (by omega)];congr 1;omega
 rename_i h
 obtain⟨c,r,e⟩:∃c r,decDigits n.toNat=c :: r:=by
  cases hd:decDigits n.toNat with
  | nil=>exact absurd hd (AGW _)
  | cons c r=>exact⟨c,r,rfl⟩
 have f:=Wh (u:=n.toNat) c (by rw[e];simp);have a:=ABS n.toNat (by omega);rw[e] at a ⊢;rw[atoiAll_plain c r (by omega) (by omega),a];simp only[signless];rw[Yad (by omega)];congr 1;omega
theorem lO:∀b∈itoa n,b.toNat=45\/(48<=b.toNat/\b.toNat<=57):=by
 intro b a;unfold itoa at a;split at a
 ·simp only[XQ] at a
  rcases a with rfl|a
  ·exact .inl rfl
  exact .inr (Wh b a)
 exact .inr (Wh b a)
theorem AGH:atoiAll []=.syntax:=rfl
theorem pA{s:Tb}{i:Nat}(h:(Utf8.decode s i).1<128):(s.get! i).toNat=(Utf8.decode s i).1/\(Utf8.decode s i).2=1:=by
 rw[decode_at] at h ⊢;unfold decodeN at h ⊢
 repeat' split at h
 all_goals simp_all
 all_goals omega
theorem ABI{p:Nat->Bool}{s:Tb}(b:∀r,126<r->p r=true):∀(f i:Nat),¬0<=idxFuncFrom p true s f i->s.size<=f+i->∀j,i<=j->j<s.size->p (s.get! j).toNat=false/\(s.get! j).toNat<=126
 | 0,i,_,hf,j,h1,h2=>by omega
 | f+1,i,h,hf,j,h1,h2=>by
   unfold idxFuncFrom at h;rw[Yae (by omega)] at h
   by_cases hq:p (Utf8.decode s i).1=true
   ·rw[Yae hq] at h;omega
   rw[Yad hq] at h;have a:p (Utf8.decode s i).1=false:=by simpa using hq
   have e:(Utf8.decode s i).1<=126:=by
    by_cases hc:126<(Utf8.decode s i).1
    ·rw[b _ hc] at a;cases a
    omega
   obtain⟨c,d⟩:=pA (s:=s) (i:=i) (by omega);rw[d] at h
   by_cases hj:j=i
   ·subst hj
    rw[c];exact⟨a,e⟩
   exact ABI b f (i+1) h (by omega) j (by omega) h2
theorem AGs{s:Tb}{b:UInt8}(h:b∈s.1.toList):∃j,j<s.size/\s.get! j=b:=by
 obtain⟨j,d,e⟩:=Yk h;have a:j<s.size:=by rw[X4] at d;exact d
 refine⟨j,a,?_⟩;have c:j<s.1.size:=a;show s.data[j]! = b;rw[getElem!_pos s.data j c,<-e,Array.getElem_toList]
theorem o4{p:Nat->Bool}{s:Tb}(d:∀r,126<r->p r=true)(h:¬0<=idxFunc p true s):∀b∈s.1.toList,p b.toNat=false/\b.toNat<=126:=by intro b a;obtain⟨j,c,e⟩:=AGs a;have:=ABI d s.size 0 h (by omega) j (XH _) c;rwa[e] at this
def bA(l:List UInt8):ByteArray:=⟨l.toArray⟩
theorem Ju(t:Tb):bA t.1.toList=t:=by simp[bA]
theorem B5(l:List UInt8):(bA l).1.toList=l:=by simp[bA]
def ADF:List UInt8:=[97,100,100]
def P4:List UInt8:=[114,101,109,111,118,101]
def lA:List UInt8:=[109,97,115,107]
def P3:List UInt8:=[115,99,104,101,109,97]
def Qm:List UInt8:=[110,117,108,108]
def dS:List UInt8:=[109,117,115,116]
def gX:List UInt8:=[114,101,97,100,115]
def numOf(l:List UInt8):Option Int:=match atoiAll l with
 | .ok v=>some v
 | _=>none
theorem I7(h:Lu n):numOf (itoa n)=some n:=by unfold numOf;rw[Vy h.1 h.2]
theorem Hd(h:numOf l=some n):Lu n:=by
 unfold numOf at h;split at h
 ·rename_i v hv
  cases h;exact atoiAll_bounds hv
 cases h
theorem gC(h:numOf l=some n):l≠[]:=by rintro rfl;simp[numOf,AGH] at h
abbrev AIE:=Int×Int×ByteArray
def Ej(s:List UInt8):Option (AIE×List UInt8) :=
 if Lib.hasPrefix s [39]=true then
  if (Ao 39 (s.drop 1)).2.2=true then some ((2,0,bA (Ao 39 (s.drop 1)).1),Lib.trimPrefix (Ao 39 (s.drop 1)).2.1 [59]) else none
 else if (Ao 59 s).1=Qm then some ((0,0,bA []),(Ao 59 s).2.1)
 else (numOf (Ao 59 s).1).map λn=>((1,n,bA []),(Ao 59 s).2.1)
def Aw(s:List UInt8):List UInt8:=(Ao 32 s).2.1
def ALP(s:List UInt8):Option (Aj×List UInt8) :=
 (numOf (Ao 32 s).1).bind λi=>(numOf (Ao 32 (Aw (Aw s))).1).bind λk=>(Ej (Aw (Aw (Aw (Aw s))))).map λv=>((i,bA (Ao 32 (Aw s)).1,k,decide ((Ao 32 (Aw (Aw (Aw s)))).1=dS),v.1),v.2)
theorem trimPrefix_le(s p:List UInt8):(Lib.trimPrefix s p).length<=s.length:=by
 unfold Lib.trimPrefix;split
 ·simp
 exact Y' _
theorem AAa{v:AIE}{b:List UInt8}(h:Ej s=some (v,b)):b.length<=s.length:=by
 unfold Ej at h;split at h
 ·split at h
  ·cases h
   have c:=trimPrefix_le (Ao 39 (s.drop 1)).2.1 [59];have a:=Gv 39 (s.drop 1);simp only[XK] at a;omega
  cases h
 have a:=Gv 59 s;split at h
 ·cases h;omega
 cases hn:numOf (Ao 59 s).1 with
 | none=>rw[hn] at h;cases h
 | some n=>rw[hn] at h;cases h;omega
theorem Va{c:Aj}{b:List UInt8}(h:ALP s=some (c,b)):∃i k v,numOf (Ao 32 s).1=some i/\numOf (Ao 32 (Aw (Aw s))).1=some k/\Ej (Aw (Aw (Aw (Aw s))))=some (v,b)/\c=(i,bA (Ao 32 (Aw s)).1,k,decide ((Ao 32 (Aw (Aw (Aw s)))).1=dS),v):=by
 unfold ALP at h;cases h1:numOf (Ao 32 s).1 with
 | none=>rw[h1] at h;cases h
 | some i=>
   rw[h1] at h;simp only[WO] at h;cases h2:numOf (Ao 32 (Aw (Aw s))).1 with
   | none=>rw[h2] at h;cases h
   | some k=>
     rw[h2] at h;simp only[WO] at h;cases h3:Ej (Aw (Aw (Aw (Aw s)))) with
     | none=>rw[h3] at h;cases h
     | some v=>rw[h3] at h;cases h;exact⟨i,k,v.1,rfl,rfl,rfl,rfl⟩
theorem Gi(s:List UInt8):(Aw s).length<=s.length:=by have:=Gv 32 s;unfold Aw;omega
theorem Ru{c:Aj}{b:List UInt8}(h:ALP s=some (c,b)):b.length<s.length:=by obtain⟨i,k,v,a,f,d,_⟩:=Va h;have e:=gC a;have g:=AAa d;have j:=Gi (Aw (Aw (Aw s)));have l:=Gi (Aw (Aw s));have m:=Gi (Aw s);have n:(Aw s).length+(Ao 32 s).1.length<=s.length:=Gv 32 s;have o:0<(Ao 32 s).1.length:=List.length_pos_iff.2 e;omega
def Dg(s:List UInt8):Option (List Aj) :=
 if s=[] then some [] else
  match _h:ALP s with
  | none=>none
  | some (c,b)=>(Dg b).map (c :: ·)
termination_by s.length
decreasing_by exact Ru _h
theorem Kq:Dg []=some []:=by rw[Dg,Yae rfl]
theorem Jv(h:s≠[]){c:Aj}{b:List UInt8}(a:ALP s=some (c,b)):Dg s=(Dg b).map (c :: ·):=by
 rw[Dg,Yad h];split
 ·rename_i h1;rw[a] at h1;cases h1
 rename_i h1;rw[a] at h1;cases h1;rfl
theorem Qt(h:s≠[])(a:ALP s=none):Dg s=none:=by
 rw[Dg,Yad h];split
 ·rfl
 rename_i h1;rw[a] at h1;cases h1
def Dr:List (List UInt8)->Option (List Int)
 | []=>some []
 | x :: l=>(numOf x).bind λn=>(Dr l).map (n :: ·)
def L1(s:List UInt8):Option (List Int):=Dr (Dd 44 s)
def Co(line:List UInt8):Option ADV :=
 if (Ao 32 line).1=ADF then (numOf (Ao 32 (Aw line)).2.1).map λn=>(1,bA (Ao 32 (Aw line)).1,n,[],[],0)
 else if (Ao 32 line).1=P4 then some (2,bA (Ao 32 (Aw line)).1,0,[],[],0)
 else if (Ao 32 line).1=lA then (L1 (Ao 32 (Aw line)).2.1).map λl=>(3,bA (Ao 32 (Aw line)).1,0,l,[],0)
 else if (Ao 32 line).1=P3 then (numOf (Ao 32 (Aw line)).1).bind λn=>(Dg (Ao 32 (Aw line)).2.1).map λl=>(4,bA [],0,[],l,n)
 else none
def Cp:List (List UInt8)->Option (List ADV)
 | []=>some []
 | x :: l=>(Co x).bind λa=>(Cp l).map (a :: ·)
def Js(s:List UInt8):Option Dn :=
 (Cp (Dp (Ao 10 s).2.1)).map λl=>(bA (Ao 32 (Aw (Ao 10 s).1)).1,decide ((Ao 32 (Aw (Ao 10 s).1)).2.1=gX),l)
theorem Aa{p:Prop}(h:p):Hid p:=h
theorem Af{a b:Bool}(h:a=b):Ending.returned (Zo a)=Zr (Zo b):=by rw[h]
theorem Bd{k:IntKind}{a b:Int}(h:a=b):Ending.returned (.int k a)=Zr (.int k b):=by rw[h]
theorem nt{b:Bool}(h:(!b)=true):b=false:=by simpa using h
theorem nf{b:Bool}(h:(!b)=false):b=true:=by simpa using h
theorem Below.Ap{a b c:Tw}(h:Zb a b)(k:Zb b c):Zb a c:=h.trans (k.mono h.size)
def Ki(r:Int):Bool:=decide (97<=r) && decide (r<=122)
def Pe(r:Int):Bool:=decide (48<=r) && decide (r<=57)
theorem Py(r:Int)(w:Tw):Zc 125 #[.int .i32 r] w λe a=>e=Zr (Zo (Ki r))/\a=w:=by
 by_cases h1:97<=r <;> by_cases h2:r<=122
 all_goals
  have H:Hid (Ki r=(decide (97<=r) && decide (r<=122))):=rfl;go_enter func125,ntmps125;go_wp2
  all_goals
   go_ret;exact⟨Af (by rw[H.o];simp[h1,h2]),rfl⟩
theorem ACC(r:Int)(w:Tw):Zc 128 #[.int .i32 r] w λe a=>e=Zr (Zo (Pe r))/\a=w:=by
 by_cases h1:48<=r <;> by_cases h2:r<=57
 all_goals
  have H:Hid (Pe r=(decide (48<=r) && decide (r<=57))):=rfl;go_enter func128,ntmps128;go_wp2
  all_goals
   go_ret;exact⟨Af (by rw[H.o];simp[h1,h2]),rfl⟩
variable{k n:Int}{s:Tb}{W w:Tw}
def Cu(r:Nat):Bool:=decide (r<32) || (decide (126<r) || ((r:Int)==39))
theorem Rv(w:Tw):PredAt prog 141 #[] encR Cu w:=λW r _=>by
 unfold FnGives
 by_cases h1:r<32 <;> by_cases h2:126<r
 all_goals
  have a:(r:Int)<32↔r<32:=by omega
  have b:(126:Int)<(r:Int)↔126<r:=by omega
  go_enter func141,ntmps141;go_wp2
  all_goals first|(exfalso;omega)|(go_ret;exact⟨Af (by simp[Cu,h1,h2]),0,rfl⟩)
def Vb(t:ByteArray):Bool:=decide (t.size<=40) && !(decide (0<=Lib.idxFunc Cu true t))
theorem rt0{t:Tb}(h:¬t.size<=40):false=Vb t:=by simp[Vb,h]
theorem rt1{t:Tb}(h:t.size<=40):(!(decide (0<=Lib.idxFunc Cu true t)))=Vb t:=by simp[Vb,h]
theorem Mj(t:Tb)(w:Tw)(g:t.size<=maxLen):
 Zc 83 #[Zt t] w λe f=>e=Zr (Zo (Vb t))/\Zb w f:=by
 have c:=Aa (λ(W:Tw)=>Any.strings_ContainsFunc laysGw17 141 #[] (enters_of func141 (by kernel_rfl) rfl) Cu t W (Rv W))
 unfold maxLen at g
 by_cases h:t.size<=40
 ·have a:=Aa (rt1 h)
  generalize decide (0<=Lib.idxFunc Cu true t)=b at c a;go_enter func83,ntmps83
  go_wp2_with (first
   | (go_at_call 126;refine(c.o _).mono ?_;rintro e i⟨rfl,d⟩))
  go_ret;exact⟨Af a.o,d⟩
 have a:=Aa (rt0 h);clear c;go_enter func83,ntmps83;go_wp2;go_ret;exact⟨Af a.o,XB _ _⟩
def A9(k n:Int)(t:ByteArray):Bool:=if k=0 then n==0 && t.toList.isEmpty else if k=1 then t.toList.isEmpty else if k=2 then n==0 && Vb t else false
theorem rv0{t:Tb}(a:(n==0)=true)(h:(k==0)=true):t.toList.isEmpty=A9 k n t:=by simp at h a;subst h a;simp[A9]
theorem AI3{t:Tb}(a:(n==0)=false)(h:(k==0)=true):false=A9 k n t:=by simp at h;subst h;simp[A9,a]
theorem rv1{t:Tb}(h:(k==1)=true):t.toList.isEmpty=A9 k n t:=by simp at h;subst h;simp[A9]
theorem rv2{t:Tb}(a:(n==0)=true)(h:(k==2)=true):Vb t=A9 k n t:=by simp at h a;subst h a;simp[A9]
theorem AIp{t:Tb}(a:(n==0)=false)(h:(k==2)=true):false=A9 k n t:=by simp at h;subst h;simp[A9,a]
theorem rv3{t:Tb}(a:(k==0)=false)(b:(k==1)=false)(c:(k==2)=false):false=A9 k n t:=by simp at a b c;simp[A9,a,b,c]
theorem Ln(k n:Int)(t:Tb)(w:Tw)(f:t.size<=maxLen):
 Zc 47 #[Zg #[Zi k,Zi n,Zt t]] w λe c=>e=Zr (Zo (A9 k n t))/\Zb w c:=by
 have d:=Aa (λ(W:Tw)=>Mj t W f)
 unfold maxLen at f
 by_cases hn:n=0
 ·have a:(n==0)=true:=by simpa using hn
  clear hn;go_enter func47,ntmps47
  go_wp2_with (first
   | (go_at_call 83;refine(d.o _).mono ?_;rintro e g⟨rfl,b⟩))
  all_goals go_ret
  ·exact⟨Af (rv0 a ‹_›),Zal⟩
  ·exact⟨Af (rv1 ‹_›),Zal⟩
  ·exact⟨Af (rv2 a ‹_›),(Zal).trans (b.mono (by simp))⟩
  exact⟨Af (rv3 ‹_› ‹_› ‹_›),Zal⟩
 have a:(n==0)=false:=by simpa using hn
 clear hn;go_enter func47,ntmps47
 go_wp2_with (first
  | (go_at_call 83;refine(d.o _).mono ?_;rintro e g⟨rfl,b⟩))
 all_goals go_ret
 ·exact⟨Af (AI3 a ‹_›),Zal⟩
 ·exact⟨Af (rv1 ‹_›),Zal⟩
 ·exact⟨Af (AIp a ‹_›),Zal⟩
 exact⟨Af (rv3 ‹_› ‹_› ‹_›),Zal⟩
def Is(r:Nat):Bool:=!Ki r && (!Pe r && !((r:Int)==95))
theorem cW(w:Tw):PredAt prog 127 #[] encR Is w:=λW r _=>by
 unfold FnGives;have H1:=Aa (Py (r:Int));have H2:=Aa (ACC (r:Int));have a:Hid (Is r=(!Ki r && (!Pe r && !((r:Int)==95)))):=rfl;generalize Ki r=b at *;generalize Pe r=c at *;generalize Is r=b3 at *;cases b <;> cases c
 all_goals
  go_enter func127,ntmps127
  go_wp2_with (first
   | (go_at_call 125;refine(H1.o _).mono ?_;rintro e d⟨rfl,rfl⟩)
   | (go_at_call 128;refine(H2.o _).mono ?_;rintro e f⟨rfl,rfl⟩))
  all_goals (go_ret;exact⟨Af (by rw[a.o];simp[bne]),0,rfl⟩)
def yE(s:ByteArray):Bool:=if h:0<s.size then Ki (wrap32 ((s[0]'h).toNat:Int)) else false
def Bx(s:ByteArray):Bool:=decide (0<s.size) && (decide (s.size<=16) && (yE s && !(decide (0<=Lib.idxFunc Is true s))))
theorem nm0(h:¬0<s.size):false=Bx s:=by simp[Bx,h]
theorem nm1(h:¬s.size<=16):false=Bx s:=by simp[Bx,h]
theorem nm2(h:0<s.size)(a:Ki (wrap32 ((s[0]'h).toNat:Int))=false):false=Bx s:=by simp[Bx,yE,h,a]
theorem nm3(h:0<s.size)(a:s.size<=16)(b:Ki (wrap32 ((s[0]'h).toNat:Int))=true):(!(decide (0<=Lib.idxFunc Is true s)))=Bx s:=by simp[Bx,yE,h,a,b]
theorem toList_nil:s.toList=[]↔¬0<s.size:=by
 rw[ByteArray.toList_eq];have:s.size=s.1.toList.length:=by simp
 rw[this,List.length_pos_iff];simp
theorem Mn(s:Tb)(w:Tw)(i:s.size<=maxLen):
 Zc 70 #[Zt s] w λe g=>e=Zr (Zo (Bx s))/\Zb w g:=by
 have b:=Aa (λ(W:Tw)=>Any.strings_ContainsFunc laysGw17 127 #[] (enters_of func127 (by kernel_rfl) rfl) Is s W (cW W))
 have c:=Aa Py;unfold maxLen at i
 by_cases h0:0<s.size
 ·have e0:¬s.toList=[]:=λe=>toList_nil.1 e h0
  by_cases h1:s.size<=16
  ·have d:(s.size:Int)<=16:=by omega
   cases h2:Ki (wrap32 ((s[0]'h0).toNat:Int)) with
   | false=>
     have a:=Aa (nm2 h0 h2);generalize Bx s=r at *;go_enter func70,ntmps70
     go_wp2_with (first
      | (go_at_call 125;refine(c.o _ _).mono ?_;rintro e h⟨rfl,rfl⟩))
     all_goals go_ret
     all_goals exact⟨Af a.o,XB _ _⟩
   | true=>
     have a:=Aa (nm3 h0 h1 h2);generalize Bx s=r at *;generalize decide (0<=Lib.idxFunc Is true s)=q at b a;go_enter func70,ntmps70
     go_wp2_with (first
      | (go_at_call 126;refine(b.o _).mono ?_;rintro e h⟨rfl,f⟩)
      | (go_at_call 125;refine(c.o _ _).mono ?_;rintro e h⟨rfl,rfl⟩))
     all_goals go_ret
     all_goals exact⟨Af (by rw[<-a.o];simp[e0]),f⟩
  have d:(16:Int)<s.size:=by omega
  have a:=Aa (nm1 h1);generalize Bx s=r at *;clear b c h1;go_enter func70,ntmps70;go_wp2;go_ret;exact⟨Af a.o,XB _ _⟩
 have a:=Aa (nm0 h0);have e0:s.toList=[]:=toList_nil.2 h0;generalize Bx s=r at *;clear b c h0;go_enter func70,ntmps70;go_wp2;go_ret;exact⟨Af a.o,XB _ _⟩
def Lw(w:World):Prop:=w.cell? ⟨0,0,none⟩=some (.string ⟨#[97,110,100]⟩)/\w.cell? ⟨0,1,none⟩=some (.string ⟨#[105,115]⟩)/\w.cell? ⟨0,2,none⟩=some (.string ⟨#[110,111,116]⟩)/\w.cell? ⟨0,3,none⟩=some (.string ⟨#[110,117,108,108]⟩)/\w.cell? ⟨0,4,none⟩=some (.string ⟨#[111,114]⟩)
theorem Lw.lt(h:Lw w):0<w.1.size:=by
 rcases Yc 0 w.1.size with a|a
 ·exact a
 have:=h.1;simp[World.cell?,XX a] at this
theorem Lw.below(h:Lw w)(a:Zb w W):Lw W :=
 ⟨(a.cell (p:=Zd 0 0) h.lt).trans h.1,(a.cell (p:=Zd 0 1) h.lt).trans h.2.1,(a.cell (p:=Zd 0 2) h.lt).trans h.2.2.1,(a.cell (p:=Zd 0 3) h.lt).trans h.2.2.2.1,(a.cell (p:=Zd 0 4) h.lt).trans h.2.2.2.2⟩
def zM(s:ByteArray)(l:List UInt8):Bool:=s.toList==l
def Bv(s:ByteArray):Bool:=!(zM s [97,110,100] || (zM s [105,115] || (zM s [110,111,116] || (zM s [110,117,108,108] || zM s [111,114])))) && Bx s
theorem ix0(w:Tw):(Instr.index 277 (Zg #[Zt ⟨#[97,110,100]⟩,Zt ⟨#[105,115]⟩,Zt ⟨#[110,111,116]⟩,Zt ⟨#[110,117,108,108]⟩,Zt ⟨#[111,114]⟩]) (Zi 0)).run prog w=.ok (Zt ⟨#[97,110,100]⟩) w:=by kernel_rfl
theorem ix1(w:Tw):(Instr.index 277 (Zg #[Zt ⟨#[97,110,100]⟩,Zt ⟨#[105,115]⟩,Zt ⟨#[110,111,116]⟩,Zt ⟨#[110,117,108,108]⟩,Zt ⟨#[111,114]⟩]) (Zi 1)).run prog w=.ok (Zt ⟨#[105,115]⟩) w:=by kernel_rfl
theorem ix2(w:Tw):(Instr.index 277 (Zg #[Zt ⟨#[97,110,100]⟩,Zt ⟨#[105,115]⟩,Zt ⟨#[110,111,116]⟩,Zt ⟨#[110,117,108,108]⟩,Zt ⟨#[111,114]⟩]) (Zi 2)).run prog w=.ok (Zt ⟨#[110,111,116]⟩) w:=by kernel_rfl
theorem ix3(w:Tw):(Instr.index 277 (Zg #[Zt ⟨#[97,110,100]⟩,Zt ⟨#[105,115]⟩,Zt ⟨#[110,111,116]⟩,Zt ⟨#[110,117,108,108]⟩,Zt ⟨#[111,114]⟩]) (Zi 3)).run prog w=.ok (Zt ⟨#[110,117,108,108]⟩) w:=by kernel_rfl
theorem ix4(w:Tw):(Instr.index 277 (Zg #[Zt ⟨#[97,110,100]⟩,Zt ⟨#[105,115]⟩,Zt ⟨#[110,111,116]⟩,Zt ⟨#[110,117,108,108]⟩,Zt ⟨#[111,114]⟩]) (Zi 4)).run prog w=.ok (Zt ⟨#[111,114]⟩) w:=by kernel_rfl
theorem Li(s:Tb)(w:Tw)(b:s.size<=maxLen)(j:Lw w):
 Zc 129 #[Zt s] w λe k=>e=Zr (Zo (Bv s))/\Zb w k:=by
 have c:=Aa (λW=>Mn s W b);obtain⟨c0,c1,l,m,n⟩:=j;have o:=ix0;have p:=ix1;have q:=ix2;have r:=ix3;have t:=ix4;clear b;go_enter func129,ntmps129;go_wp2;refine wp_loop_rounds 6 ?_;rw[rounds_succ];go_wp2
 ·have h:zM s [97,110,100]=true:=by assumption
  go_ret;exact⟨Af (by simp[Bv,h]),XB _ _⟩
 rw[rounds_succ];go_wp2
 ·have h:zM s [105,115]=true:=by assumption
  go_ret;exact⟨Af (by simp[Bv,h]),XB _ _⟩
 rw[rounds_succ];go_wp2
 ·have h:zM s [110,111,116]=true:=by assumption
  go_ret;exact⟨Af (by simp[Bv,h]),XB _ _⟩
 rw[rounds_succ];go_wp2
 ·have h:zM s [110,117,108,108]=true:=by assumption
  go_ret;exact⟨Af (by simp[Bv,h]),XB _ _⟩
 rw[rounds_succ];go_wp2
 ·have h:zM s [111,114]=true:=by assumption
  go_ret;exact⟨Af (by simp[Bv,h]),XB _ _⟩
 rw[rounds_succ]
 go_wp2_with (first
  | (go_at_call 70;refine(c.o _).mono ?_;rintro e u⟨rfl,a⟩))
 have e0:zM s [97,110,100]=false:=by first|assumption|(apply Bool.eq_false_iff.2;assumption)
 have d:zM s [105,115]=false:=by first|assumption|(apply Bool.eq_false_iff.2;assumption)
 have f:zM s [110,111,116]=false:=by first|assumption|(apply Bool.eq_false_iff.2;assumption)
 have g:zM s [110,117,108,108]=false:=by first|assumption|(apply Bool.eq_false_iff.2;assumption)
 have i:zM s [111,114]=false:=by first|assumption|(apply Bool.eq_false_iff.2;assumption)
 go_ret;exact⟨Af (by simp[Bv,e0,d,f,g,i]),a⟩
def Cm(k a b:Int)(c:ByteArray):Bool:=A9 a b c && (a==0 || a==k)
theorem Sn(i:Int)(nm:Tb)(k:Int)(mu:Bool)(s t:Int)(u:Tb)(b f:Int)(c:Tb)(w:Tw)(q:c.size<=maxLen):
 Zc 130 #[Zg #[Zi i,Zt nm,Zi k,Zo mu,Zi s,Zi t,Zt u],Zg #[Zi b,Zi f,Zt c]] w λe v=>e=Zr (Zo (Cm k b f c))/\Zb w v:=by
 have h:=Aa (λW=>Ln b f c W q);have d:Hid (Cm k b f c=(A9 b f c && (b==0 || b==k))):=rfl;generalize Cm k b f c=r at *;clear q;have x:w.1.size<w.1.size+1:=by omega
 have m:Hid (∀X Y:Obj,Zb w ((w.alloc X).alloc Y)):=λX Y=>(Zal).alloc (by simp) _
 cases hq:A9 b f c with
 | false=>
   rw[hq] at h d;go_enter func130,ntmps130
   go_wp2_with (first
    | (go_at_call 47;refine(h.o _).mono ?_;rintro e g⟨rfl,a⟩))
   go_ret;exact⟨Af (by rw[d.o];simp),Below.Ap (m.o _ _) a⟩
 | true=>
   rw[hq] at h d
   by_cases h0:b=0
   ·have l:(b==0)=true:=by simpa using h0
    rw[l] at d;subst h0;clear l;go_enter func130,ntmps130
    go_wp2_with (first
     | (go_at_call 47;refine(h.o _).mono ?_;rintro e g⟨rfl,a⟩;have n:∀o,g.cell? (Zd (w.1.size+1) o)=_:=λo=>a.cell (p:=Zd (w.1.size+1) o) (by simp);have j:∀o,g.cell? (Zd w.1.size o)=_:=λo=>a.cell (p:=Zd w.1.size o) (by simp;omega)))
    all_goals go_ret
    all_goals exact⟨Af (by rw[d.o];simp),Below.Ap (m.o _ _) a⟩
   have l:(b==0)=false:=by simpa using h0
   rw[l] at d;clear h0;go_enter func130,ntmps130
   go_wp2_with (first
    | (go_at_call 47;refine(h.o _).mono ?_;rintro e g⟨rfl,a⟩;have n:∀o,g.cell? (Zd (w.1.size+1) o)=_:=λo=>a.cell (p:=Zd (w.1.size+1) o) (by simp);have j:∀o,g.cell? (Zd w.1.size o)=_:=λo=>a.cell (p:=Zd w.1.size o) (by simp;omega)))
   all_goals go_ret
   all_goals exact⟨Af (by rw[d.o];simp),Below.Ap (m.o _ _) a⟩
def Ko(c:Aj):Bool:=(c.2.2.1==1 || c.2.2.1==2) && (decide (1<=c.1) && (Bv c.2.1 && Cm c.2.2.1 c.2.2.2.2.1 c.2.2.2.2.2.1 c.2.2.2.2.2.2))
theorem Ou(c:Aj):Ko c=true↔AIv Bv Cm c:=by simp[Ko,AIv]
theorem b1c{X:Obj}(a:Below (w.alloc X).heap.size (w.alloc X) W):Zb w W:=(Zal).trans (a.mono (by simp))
theorem I8(i:Int)(nm:Tb)(k:Int)(mu:Bool)(b c:Int)(a:Tb)(w:Tw)(j:nm.size<=maxLen)(l:a.size<=maxLen)(m:Lw w):
 Zc 72 #[Zg #[Zi i,Zt nm,Zi k,Zo mu,Zi b,Zi c,Zt a]] w λe g=>e=Zr (Zo (Ko (i,nm,k,mu,b,c,a)))/\Zb w g:=by
 have n:Hid (∀o,Zc 129 #[Zt nm] (w.alloc o) λe g=>e=Zr (Zo (Bv nm))/\Below (w.alloc o).heap.size (w.alloc o) g):=λo=>Li nm _ j (m.below (Zal))
 have q:=Aa (λW=>Sn i nm k mu b c a b c a W l);have s:Hid (Ko (i,nm,k,mu,b,c,a)=((k==1 || k==2) && (decide (1<=i) && (Bv nm && Cm k b c a)))):=rfl;generalize Ko (i,nm,k,mu,b,c,a)=r at *;generalize Bv nm=t at *;generalize Cm k b c a=b3 at *;clear m j l
 by_cases h1:k=1 <;> by_cases h2:k=2 <;> by_cases h3:1<=i <;> cases t <;> cases b3
 all_goals first|(exfalso;omega)|skip
 all_goals
  first|subst h1|(have v:(k==1)=false:=by simpa using h1)|skip
  first|subst h2|(have x:(k==2)=false:=by simpa using h2)|skip
 all_goals
  go_enter func72,ntmps72
  go_wp2_with (first
   | (go_at_call 129;refine(n.o _).mono ?_;rintro e u⟨rfl,d⟩;have h:∀o,u.cell? (Zd w.1.size o)=_:=λo=>d.cell (p:=Zd w.1.size o) (by simp))
   | (go_at_call 130;refine(q.o _).mono ?_;rintro e y⟨rfl,f⟩))
  all_goals go_ret
  all_goals refine⟨Af (by rw[s.o];simp[*]),?_⟩
  all_goals first
   | exact Below.Ap (b1c d) f
   | exact b1c d
   | exact Zal
variable{w:Tw}{l:List Aj}
def I1(W:World)(g o:Nat)(l:List Aj):Prop:=g<W.1.size/\∀j,j<l.length->∀i v,(Cc l[j]!)[i]? = some v->W.cell? ⟨g,o+j*7+i,none⟩=some v
theorem I1.below{W:Tw}{g o:Nat}(h:I1 w g o l)(a:Zb w W):I1 W g o l :=
 ⟨Ya h.1 a.size,λj c i v b=>(a.cell (p:=Zd g (o+j*7+i)) h.1).trans (h.2 j c i v b)⟩
theorem I1.take{w:Tw}{g o:Nat}{l:List Aj}(h:I1 w g o l)(n:Nat):I1 w g o (l.take n) :=
 ⟨h.1,λj c i v b=>by
  have a:j<n/\j<l.length:=by simpa[WT] using c
  rw[Lib.getElem!_take _ _ _ a.1] at b;exact h.2 j a.2 i v b⟩
theorem I1.flat{g o:Nat}(h:I1 w g o l):∀j u,(Av l)[j]? = some u->w.cell? (Zd g (o+j))=some u:=by
 intro j u a
 have c:j<l.length*7:=by
  rcases Yc j (l.length*7) with b|b
  ·exact b
  rw[Yb (by rw[Hy];exact b)] at a;cases a
 have e:j=j / 7*7+j % 7:=by omega
 rw[e,Wq l (j / 7) (j % 7) (by omega) (by omega)] at a;have:=h.2 (j / 7) (by omega) (j % 7) u a;rwa[show o+j / 7*7+j % 7=o+j by omega] at this
def L6:Value:=.agg #[Zi 0,.string ⟨#[]⟩,Zi 0,.bool false,Zi 0,Zi 0,.string ⟨#[]⟩]
theorem Kh:(prog.info? 69).map (λi=>(i.zero,i.size,i.bytes))=some (some L6,7,72):=by kernel_rfl
theorem P9(g o c:Nat)(l:List Aj)(w:Tw)(h:I1 w g o l)(s:l.length<=100):
 Zc 71 #[Zs (some (Zd g o)) l.length c] w λe p=>∃d b,e=Zr (Zs (some (Zd d 0)) l.length b)/\p.ownsRow w.1.size 69 7 (Zs (some (Zd d 0)) l.length b) l.length (Av l)/\Zb w p:=by
 obtain⟨r,i,k,m,n⟩:=info_parts Kh;refine(AnyE.slices_Clone layClo r L6 7 72 i k m n rfl (by decide) sizeOf69 g o l.length c (Av l) w (Hy l) (by unfold maxLen;omega) (by omega) h.flat (Ni l)).mono ?_;rintro e p⟨v',rfl,a,j,q⟩
 rcases ownsRow_forms a with⟨f,_⟩|⟨d,b,f⟩
 ·exact(j f).elim
 subst f;exact⟨d,b,rfl,a,q⟩
variable{s:Tb}{l:List Aj}{k:Nat}
def Ez(x c:Aj):Bool:=c.1==x.1 || c.2.1.toList==x.2.1.toList
theorem xG(x:Aj)(B:Nat)(w:Tw)(h:B<w.1.size)(k:w.cell? (Zd B 0)=some (Zi x.1))(l:w.cell? (Zd B 1)=some (Zt x.2.1)):
 PredBelow prog 132 #[Zp (some (Zd B 0))] (λx:Aj=>Zg (Cc x).toArray) (Ez x) w:=λW c hb=>by
 have n:W.cell? (Zd B 0)=some (Zi x.1):=(hb.cell (p:=Zd B 0) h).trans k;have o:W.cell? (Zd B 1)=some (Zt x.2.1):=(hb.cell (p:=Zd B 1) h).trans l;have q:B<W.1.size:=Ya h hb.size;have s:B≠W.1.size:=by omega
 clear k l;obtain⟨c1,a,b,d,e,f,g⟩:=c;have j:Hid (Ez x (c1,a,b,d,e,f,g)=(c1==x.1 || a.toList==x.2.1.toList)):=rfl;generalize Ez x (c1,a,b,d,e,f,g)=r at *;generalize x.1=m at *;generalize x.2.1=t at *;show Zc 132 #[Zg #[Zi c1,Zt a,Zi b,Zo d,Zi e,Zi f,Zt g],Zp (some (Zd B 0))] W _
 by_cases hq:c1=m
 ·subst hq
  go_enter func132,ntmps132;go_wp2
  all_goals (go_ret;exact⟨Af (by rw[j.o];simp),hb.alloc hb.size _⟩)
 have i:(c1==m)=false:=by simpa using hq
 go_enter func132,ntmps132;go_wp2
 all_goals (go_ret;exact⟨Af (by rw[j.o];simp[i]),hb.alloc hb.size _⟩)
theorem M1(g o c:Nat)(l:List Aj)(x:Aj)(w:Tw)(h:I1 w g o l)(s:l.length<=8):
 Zc 73 #[Zs (some (Zd g o)) l.length c,Zg (Cc x).toArray] w λe f=>e=Zr (Zo (l.any (Ez x)))/\Zb w f:=by
 have i:∀args w,(callFunc 132 args).run prog w=.ok (.enter 132 args) w:=enters_of func132 (by kernel_rfl) rfl;have b:I1 (w.alloc (Zk (Cc x).toArray 69)) g o l:=h.below (Zal)
 have a:=AnyQ.slices_ContainsFunc layCon 7 isAgg69 sizeOf69 Cc Gl (Ez x) 132 #[Zp (some (Zd w.1.size 0))] i g o l.length c l (w.alloc (Zk (Cc x).toArray 69))
  (xG x w.1.size _ (by simp) (by rw[XN _ _ _ _ rfl];rfl) (by rw[XN _ _ _ _ rfl];rfl)) (Y' _) (by omega) b.1 b.2
 rw[Yg] at a
 change Zc 131 _ _ (λe f=>e=Zr (Zo (l.any (Ez x)))/\_) at a
 clear h b;generalize l.any (Ez x)=r at a ⊢;obtain⟨c1,j,k,m,n,p,q⟩:=x;simp only[Cc,List.toArray] at a ⊢;go_enter func73,ntmps73;go_wp2_with (go_at_call 131;apply a.mono;rintro e f⟨rfl,d⟩);go_ret;exact⟨rfl,b1c d⟩
theorem Rk(h:Bx s=true):s.size<=16:=by simp[Bx] at h;exact h.2.1
theorem yC{cb:Tb->Bool}{fb:Int->Int->Int->Tb->Bool}{next:Int}(h:Wc cb fb l next)(f:k<l.length):(l.take k).any (Ez l[k]!)=false:=by
 rw[WK];intro c b;obtain⟨j,d,rfl⟩:=Yk b;have a:j<k/\j<l.length:=by simpa[WT] using d
 rw[WL,<-getElem!_pos l j a.2];have:=AF5 h.2.2.2 a.2 f (by omega);simp only[Ez,WR,beq_iff_eq,not_or];exact⟨this.1,λe=>this.2 (toList_inj e)⟩
theorem I1.cells{w:Tw}{g o:Nat}{l:List Aj}(h:I1 w g o l){k:Nat}(a:k<l.length){c1:Int}{s:Tb}{x:Int}{b:Bool}{y z:Int}{t:Tb}(e:l[k]! = (c1,s,x,b,y,z,t)):
 w.cell? (Zd g (o+k*7))=some (Zi c1)/\w.cell? (Zd g (o+k*7+1))=some (Zt s)/\w.cell? (Zd g (o+k*7+2))=some (Zi x)/\w.cell? (Zd g (o+k*7+3))=some (Zo b)/\w.cell? (Zd g (o+k*7+4))=some (Zi y)/\w.cell? (Zd g (o+k*7+5))=some (Zi z)/\w.cell? (Zd g (o+k*7+6))=some (Zt t) :=
 ⟨h.2 k a 0 _ (by rw[e];rfl),h.2 k a 1 _ (by rw[e];rfl),h.2 k a 2 _ (by rw[e];rfl),h.2 k a 3 _ (by rw[e];rfl),h.2 k a 4 _ (by rw[e];rfl),h.2 k a 5 _ (by rw[e];rfl),h.2 k a 6 _ (by rw[e];rfl)⟩
theorem ABx(w:Tw)(a b c d e f g:Tv):
 (w.alloc (Zk #[a,b,c,d,e,f,g] 69)).cell? (Zd w.1.size 0)=some a/\(w.alloc (Zk #[a,b,c,d,e,f,g] 69)).cell? (Zd w.1.size 1)=some b/\(w.alloc (Zk #[a,b,c,d,e,f,g] 69)).cell? (Zd w.1.size 2)=some c/\(w.alloc (Zk #[a,b,c,d,e,f,g] 69)).cell? (Zd w.1.size 3)=some d/\(w.alloc (Zk #[a,b,c,d,e,f,g] 69)).cell? (Zd w.1.size 4)=some e/\(w.alloc (Zk #[a,b,c,d,e,f,g] 69)).cell? (Zd w.1.size 5)=some f/\(w.alloc (Zk #[a,b,c,d,e,f,g] 69)).cell? (Zd w.1.size 6)=some g:=by
 refine⟨?_,?_,?_,?_,?_,?_,?_⟩ <;> (rw[XN _ _ _ _ rfl];rfl)
def Mg(l:List Aj)(next:Int)(k:Nat):Bool:=Ko l[k]! && (!(decide (next<=l[k]!.1)) && !((l.take k).any (Ez l[k]!)))
def Be(l:List Aj)(next:Int):Bool:=decide (1<=l.length) && (decide (l.length<=8) && (List.range l.length).all (Mg l next))
theorem I9(l:List Aj)(next:Int):Be l next=true↔Wc Bv Cm l next:=by
 unfold Be Wc;simp only[WD,decide_eq_true_eq,WE,WU,Mg,Bool.not_eq_true',decide_eq_false_iff_not,WK];constructor
 ·rintro⟨d,f,a⟩
  refine⟨d,f,?_,?_⟩
  ·intro c m
   obtain⟨k,b,rfl⟩:=Yk m;have:=a k b;rw[getElem!_pos l k b] at this;exact⟨(Ou _).1 this.1,by have:=this.2.1;omega⟩
  rw[Yv];intro i j o g n;have:=(a j g).2.2 l[i] (List.mem_take_iff_getElem.2 ⟨i,by omega,rfl⟩);rw[getElem!_pos l j g] at this;simp only[Ez,WR,beq_iff_eq,not_or] at this;exact⟨this.1,λe=>this.2 (by rw[e])⟩
 rintro⟨d,f,a,h⟩;refine⟨d,f,λk b=>⟨(Ou _).2 (a _ (Jj b)).1,by have:=(a _ (Jj b)).2;omega,?_⟩⟩;exact List.any_eq_false.1 (yC (cb:=Bv) (fb:=Cm) (next:=next) ⟨d,f,a,h⟩ b)
theorem ACL{next:Int}(a:k<l.length)(h:Mg l next k=false):false=Be l next:=by
 cases hr:Be l next with
 | false=>rfl
 | true=>simp only[Be,WD,WE,WU] at hr;rw[hr.2.2 k a] at h;cases h
theorem wG{next:Int}(a:1<=l.length)(b:l.length<=8)(h:∀k,k<l.length->Mg l next k=true):true=Be l next:=by simp only[Be,decide_eq_true a,decide_eq_true b,Bool.true_and];exact(List.all_eq_true.2 (λk c=>h k (List.mem_range.1 c))).symm
theorem xO{next:Int}(h:¬(1<=l.length/\l.length<=8)):false=Be l next:=by
 cases hr:Be l next with
 | false=>rfl
 | true=>simp only[Be,WD,decide_eq_true_eq] at hr;exact(h ⟨hr.1,hr.2.1⟩).elim
theorem AHK{next:Int}{c1:Int}{x:Int}{a:Bool}{y z:Int}{t:Tb}(e:l[k]! = (c1,s,x,a,y,z,t)):Mg l next k=(Ko (c1,s,x,a,y,z,t) && (!(decide (next<=c1)) && !((l.take k).any (Ez (c1,s,x,a,y,z,t))))):=by unfold Mg;rw[e]
theorem ACH(v:To)(n c:Nat)(next:Int)(w:Tw)(h:¬(1<=n/\n<=8)):
 Zc 40 #[Zs v n c,Zi next] w λe d=>e=Zr (Zo false)/\Zb w d:=by
 by_cases h1:1<=n
 ·have f:8<(n:Int):=by omega
  have b:1<=(n:Int):=by omega
  go_enter func40,ntmps40;go_wp2
  all_goals (go_ret;exact⟨rfl,XB _ _⟩)
 have a:n=0:=by omega
 subst a;go_enter func40,ntmps40;go_wp2
 all_goals (go_ret;exact⟨rfl,XB _ _⟩)
theorem AE6(g o c:Nat)(l:List Aj)(next:Int)(w:World)(h:I1 w g o l)(h1:1<=l.length)(h8:l.length<=8)(aa:l.length<=c)(hw:Lw w)(t:∀x∈l,x.2.1.size<=maxLen/\x.2.2.2.2.2.2.size<=maxLen):
 Zc 40 #[.slice (some ⟨g,o,none⟩) l.length c,.int .i64 next] w λe y=>e=.returned (.bool (Be l next))/\Zb w y:=by
 have ad:1<=(l.length:Int):=by omega
 have ae:(l.length:Int)<=8:=by omega
 have HR:Hid (Be l next=Be l next):=rfl;have HZ:=Aa t;have P:=Aa h;have HN:=Aa hw;clear t h hw;have H1:=Aa h1;have H8:=Aa h8;go_enter func40,ntmps40;go_wp2
 go_loopw [17] (λi wr=>∃k:Nat,k<=l.length/\i=.int .i64 k/\Aside (Zb w wr)/\Aside (∀j,j<k->Mg l next j=true))
  (λi _=>l.length-(intOf i).toNat)
 case atStart=>exact⟨0,XH _,rfl,XB _ _,(show Aside _ from λj hj=>absurd hj (Yr _))⟩
 case round=>
  obtain⟨k,hk,rfl,D,R⟩:=hrel
  by_cases hlt:k<l.length
  ·have ab:(k:Int)<(l.length:Int):=by omega
   have ac:k<=c:=by omega
   have ex:∃x,l[k]! = x:=⟨_,rfl⟩;obtain⟨⟨c1,a,b,f,m,n,q⟩,I⟩:=ex;obtain⟨q0,q1,q2,q3,q4,q5,q6⟩:=(P.o.below D.o).cells hlt I;have J:=HZ.o _ (Jj hlt);rw[I] at J
   have O:=Aa (λ(W:Tw)(hb:Zb w W)=>I8 c1 a b f m n q W J.1 J.2 (HN.o.below hb))
   have N:Hid (∀W,Zb w W->Zc 73 #[.slice (some ⟨g,o,none⟩) k c,.agg #[.int .i64 c1,.string a,.int .i64 b,.bool f,.int .i64 m,.int .i64 n,.string q]] W λe y=>e=.returned (.bool ((l.take k).any (Ez (c1,a,b,f,m,n,q))))/\Zb W y):=λW hb=>by have:=M1 g o c (l.take k) (c1,a,b,f,m,n,q) W ((P.o.below hb).take k) (by simp;omega);rwa[show (l.take k).length=k by simp;omega] at this
   have G:=Aa (AHK (next:=next) I);clear J I;generalize Ko (c1,a,b,f,m,n,q)=T at O G;generalize (l.take k).any (Ez (c1,a,b,f,m,n,q))=b3 at N G;go_wp2_with fail;have z:Hid (Zb w (wr.alloc (.cells #[.int .i64 c1,.string a,.int .i64 b,.bool f,.int .i64 m,.int .i64 n,.string q] 69))):=D.o.alloc D.o.size _;obtain⟨e0,V,X,Y,e4,e5,e6⟩:=ABx wr (.int .i64 c1) (.string a) (.int .i64 b) (.bool f) (.int .i64 m) (.int .i64 n) (.string q);clear q0 q1 q2 q3 q4 q5 q6;generalize wr.alloc (.cells #[.int .i64 c1,.string a,.int .i64 b,.bool f,.int .i64 m,.int .i64 n,.string q] 69)=r at *;generalize wr.1.size=nb at *;replace e0:=cell_regrown e0;replace V:=cell_regrown V;replace X:=cell_regrown X;replace Y:=cell_regrown Y;replace e4:=cell_regrown e4;replace e5:=cell_regrown e5;replace e6:=cell_regrown e6;have H1:Hid (∀d os,Zc 72 #[.agg #[.int .i64 c1,.string a,.int .i64 b,.bool f,.int .i64 m,.int .i64 n,.string q]] (grow (redrawn r d) os) λe s=>e=.returned (.bool T)/\∃p:Regrown,s=grow (redrawn r p.d) p.os):=λd os=>Calls.regrown_of (O.o _ (Below.Ap z.o (below_regrown r d os)))
   have H2:Hid (∀d os,Zc 73 #[.slice (some ⟨g,o,none⟩) k c,.agg #[.int .i64 c1,.string a,.int .i64 b,.bool f,.int .i64 m,.int .i64 n,.string q]] (grow (redrawn r d) os) λe s=>e=.returned (.bool b3)/\∃p:Regrown,s=grow (redrawn r p.d) p.os):=λd os=>Calls.regrown_of (N.o _ (Below.Ap z.o (below_regrown r d os)))
   cases T <;> cases hd:decide (next<=c1) <;> cases b3
   all_goals
    refine wp_region_quiet_below (by kernel_rfl) (by kernel_rfl) ?_
    repeat (go_big_quiet_step (first
     | (go_at_call_of 72 (#[.agg #[.int .i64 c1,.string a,.int .i64 b,.bool f,.int .i64 m,.int .i64 n,.string q]]:Array Value);exact H1.o _ _)
     | (go_at_call_of 73 (#[.slice (some ⟨g,o,none⟩) k c,.agg #[.int .i64 c1,.string a,.int .i64 b,.bool f,.int .i64 m,.int .i64 n,.string q]]:Array Value);exact H2.o _ _)))
    refine wpQuiet_nil ?_;intro _ M;obtain⟨⟨U,v⟩,u⟩:=M;subst u;go_wp2
   all_goals first
    | (go_ret;exact⟨Af (ACL hlt (by rw[G.o,hd];rfl)),Below.Ap z.o (below_regrown r U v)⟩)
    | skip
   go_roundw
   case rel=>
    refine⟨k+1,by omega,by go_num,Below.Ap z.o (below_regrown r U v),(show Aside _ from λj hj=>?_)⟩
    by_cases e:j=k
    ·subst e;rw[G.o,hd];rfl
    exact R.o j (by omega)
   case measure=>simp[intOf];omega
  have L:k=l.length:=by omega
  subst L;go_wp2;go_ret;exact⟨Af (wG H1.o H8.o R.o),D.o⟩
variable{W w:Tw}{u v:Tv}{g i k n:Nat}{e:TypeId}{s:Ah}
def Ph(W:World)(v:Value)(l:List Int):Prop:=((∃a c,v=.slice a 0 c)/\l=[])\/∃g o c,v=.slice (some ⟨g,o,none⟩) l.length c/\g<W.1.size/\l.length<=c/\∀j,j<l.length->W.cell? ⟨g,o+j,none⟩=some (Zi l[j]!)
theorem Ph.below{l:List Int}(h:Ph w v l)(b:Zb w W):Ph W v l:=by
 rcases h with h|⟨g,o,c,d,a,e,f⟩
 ·exact .inl h
 exact .inr ⟨g,o,c,d,Ya a b.size,e,λj i=>(b.cell (p:=Zd g (o+j)) a).trans (f j i)⟩
theorem vD(x last qj:Int)(B R:Nat)(W:Tw)(b:W.cell? (Zd B 0)=some (Zi last))(d:W.frozen? (Zd B 0)=false)(c:W.cell? (Zd R 0)=some (Zi qj)):
 Zc 194 #[Zi x,Zp (some (Zd B 0)),Zp (some (Zd R 0))] W λe a=>e=Zr (Zo (decide (x<=last) || decide (qj<=x)))/\a=W.setCell (Zd B 0) (Zi x):=by
 by_cases h1:x<=last <;> by_cases h2:qj<=x
 all_goals
  go_enter func194,ntmps194;go_wp2
  all_goals
   go_ret;exact⟨Af (by simp[h1,h2]),rfl⟩
def Sb(zs:List Int):Nat->Int
 | 0=> -1
 | k+1=>zs[k]!
def AEM(a:Nat)(w:World)(qj:Int)(zs:List Int)(e:Ending)(b:World):Prop:=∃r:Int,e=.returned (Zi r)/\decide (0<=r)=!(F9 qj (-1) zs)/\Below a w b
theorem xW{qj:Int}{zs:List Int}(a:k<zs.length)(last:Int):F9 qj last (zs.drop k)=(!(decide (zs[k]! <=last) || decide (qj<=zs[k]!)) && F9 qj zs[k]! (zs.drop (k+1))):=by rw[Yl a,getElem!_pos zs k a];rfl
theorem jA(n B R g o c:Nat)(zs:List Int)(qj:Int)(w:Tw)(N:g<n)(i:∀j,j<zs.length->w.cell? (Zd g (o+j))=some (Zi zs[j]!))(T:zs.length<=maxLen)(h:n<=B)(s:B≠R)(x:w.cell? (Zd B 0)=some (Zi (-1)))(D:w.frozen? (Zd B 0)=false)(z:w.cell? (Zd R 0)=some (Zi qj)):
 Zc 236 #[Zs (some (Zd g o)) zs.length c,.func (.func 194) #[] #[Zp (some (Zd B 0)),Zp (some (Zd R 0))]] w (AEM n w qj zs):=by
 have W:∀args w,(callFunc 194 args).run prog w=.ok (.enter 194 args) w:=enters_of func194 (by kernel_rfl) rfl;have J:=Aa i;have G:=Aa x;have I:=Aa D;have L:=Aa z;clear i x D z;unfold maxLen at T;go_enter func236,ntmps236;go_wp2
 go_loopg [5,8] zs.length (λM _ U wr=>∃a:Nat,a<=zs.length/\zs.length-a<=M/\U=Zi a/\Aside (Below n w wr)/\Aside (wr.cell? (Zd B 0)=some (Zi (Sb zs a)))/\Aside (wr.frozen? (Zd B 0)=false)/\Aside (wr.cell? (Zd R 0)=some (Zi qj))/\Aside (F9 qj (-1) zs=F9 qj (Sb zs a) (zs.drop a)))
 case atStart=>exact⟨0,XH _,by omega,rfl,XB _ _,G.o,I.o,L.o,(show Aside _ from(by rw[List.drop_zero];rfl:F9 qj (-1) zs=F9 qj (Sb zs 0) (zs.drop 0)))⟩
 case round=>
  obtain⟨a,P,O,rfl,l,t,u,v,r⟩:=hrel
  by_cases hlt:a<zs.length
  ·have k:(a:Int)<(zs.length:Int):=by omega
   have d:wr.cell? (Zd g (o+a))=some (Zi zs[a]!):=(l.o.cell (p:=Zd g (o+a)) N).trans (J.o a hlt);have f:=Aa (xW (qj:=qj) hlt (Sb zs a));have q:Hid (Sb zs (a+1)=zs[a]!):=rfl;have b:=vD zs[a]! (Sb zs a) qj B R wr t.o u.o v.o;generalize zs[a]! = y at d b f q;have m:=Aa b;clear b;cases hq:(decide (y<=Sb zs a) || decide (qj<=y)) with
   | true=>rw[hq] at m f;go_wp2_with (go_at_fn 194;apply m.o.mono;rintro e V⟨rfl,rfl⟩);go_ret;refine⟨_,rfl,?_,l.o.setCell (p:=Zd B 0) h _⟩;rw[r.o,f.o];simp
   | false=>
     rw[hq] at m f;go_wp2_with (go_at_fn 194;apply m.o.mono;rintro e V⟨rfl,rfl⟩)
     go_roundg (zs.length-(a+1))
     case measure=>omega
     case rel=>
      refine⟨a+1,by omega,by omega,by go_num,l.o.setCell (p:=Zd B 0) h _,?_,?_,?_,?_⟩
      ·rw[q.o];exact WB _ _ _ (by rw[t.o];rfl)
      ·show World.frozen? _ _=false
       rw[World.frozen?_setCell];exact u.o
      ·exact(YF _ _ _ _ (λe=>s (by cases e;rfl))).trans v.o
      show _=_;rw[r.o,f.o,q.o];rfl
  have k:¬(a:Int)<(zs.length:Int):=by omega
  have:a=zs.length:=by omega
  subst this;go_wp2;go_ret;refine⟨_,rfl,?_,l.o⟩;rw[r.o];simp[F9]
theorem iW(b B R g o c:Nat)(zs:List Int)(qj:Int)(w:Tw)(m:g<b)(a:∀j,j<zs.length->w.cell? (Zd g (o+j))=some (Zi zs[j]!))(n:zs.length<=maxLen)(d:b<=B)(f:B≠R)(i:w.cell? (Zd B 0)=some (Zi (-1)))(l:w.frozen? (Zd B 0)=false)(k:w.cell? (Zd R 0)=some (Zi qj)):
 Zc 193 #[Zs (some (Zd g o)) zs.length c,.func (.func 194) #[] #[Zp (some (Zd B 0)),Zp (some (Zd R 0))]] w λe q=>e=Zr (Zo (!(F9 qj (-1) zs)))/\Below b w q:=by
 have H:=Aa (jA b B R g o c zs qj w m a n d f i l k);clear a i l k;go_enter func193,ntmps193;go_wp2_with (go_at_call 236;apply H.o.mono;rintro e s⟨r,rfl,p,h⟩);go_ret;exact⟨Af (by rw[<-p]),h⟩
theorem gW(v:Tv)(l:List Int)(qj:Int)(w:Tw)(h:Ph w v l)(x:l.length<=maxLen):
 Zc 148 #[v,Zi qj] w λe m=>e=Zr (Zo (Dj l qj))/\Zb w m:=by
 rcases h with⟨⟨_,_,rfl⟩,rfl⟩|⟨g,o,c,rfl,s,y,a⟩
 ·go_enter func148,ntmps148
  go_wp2
  all_goals (go_ret;exact⟨Af (by simp[Dj]),((Zal).alloc (by simp) _)⟩)
 by_cases h0:0<l.length
 ·have z:0<(l.length:Int):=by omega
  have f:Hid ((!(!(F9 qj (-1) l)))=Dj l qj):=by simp[Hid,Dj,h0]
  obtain⟨d,b⟩:∃d,d=(w.alloc (Zk #[Zi qj] 3)).alloc (Zk #[Zi (-1)] 3):=⟨_,rfl⟩;have n:Hid (Zb w d):=by rw[b];exact(Zal).alloc (by simp) _
  have q:Hid (Zc 193 #[Zs (some (Zd g o)) l.length c,.func (.func 194) #[] #[Zp (some (Zd (w.1.size+1) 0)),Zp (some (Zd w.1.size 0))]] d λe m=>e=Zr (Zo (!(F9 qj (-1) l)))/\Below w.1.size d m):=by
   refine iW w.1.size (w.1.size+1) w.1.size g o c l qj d s (λj u=>(n.o.cell (p:=Zd g (o+j)) s).trans (a j u)) x (by omega) (by omega) ?_ ?_ ?_
   ·rw[b,XN _ _ _ _ (by simp)];rfl
   ·rw[b];exact World.frozen?_alloc_at _ _ _ _ (by simp)
   rw[b];exact cell?_alloc_some _ (by rw[XN _ _ _ _ rfl];rfl)
  have t:=Aa b;clear b a;generalize F9 qj (-1) l=r at q f;generalize Dj l qj=D at f ⊢;go_enter func148,ntmps148;go_wp2_with (go_at_call 193;(try rw[<-t.o]);apply q.o.mono;rintro e G⟨rfl,k⟩);go_ret;exact⟨Af (by rw[<-f.o];cases r <;> rfl),n.o.trans k⟩
 have i:l=[]:=Yag.1 (by omega);subst i;simp only[XP];clear a;go_enter func148,ntmps148;go_wp2
 all_goals (go_ret;exact⟨Af (by simp[Dj]),((Zal).alloc (by simp) _)⟩)
theorem Nc(v:Tv)(l:List Int)(x:Int)(w:Tw)(h:Ph w v l)(b:l.length<=maxLen):
 Zc 85 #[v,Zi x] w λe d=>e=Zr (Zo (l.any (λy=>x==y)))/\d=w:=by
 rcases h with⟨⟨_,_,rfl⟩,rfl⟩|⟨g,o,c,rfl,i,f,a⟩
 ·exact AnyE.slices_Contains_empty layHasI _ _ _ _
 have:=AnyE.slices_Contains layHasI (Value.int .i64) (λx y=>x==y) (EqlAt.int _ _ .i64) g o l.length c l x w (Y' _) (by unfold maxLen at b;omega) a;rw[Yg] at this;exact this
theorem xS(v:Tv)(l:List Int)(B:Nat)(w:Tw)(h:Ph w v l)(j:l.length<=maxLen)(b:B<w.1.size)(i:w.cell? (Zd B 0)=some v):
 PredAt prog 246 #[Zp (some (Zd B 0))] (Value.int .i64) (λx=>l.any (λy=>x==y)) w:=λW x hb=>by
 unfold FnGives;have m:=(hb.cell (p:=Zd B 0) b).trans i;have f:=Aa (Nc v l x W (h.below hb) j)
 have d:∃a n c,v=Zs a n c:=by
  rcases h with⟨⟨_,_,rfl⟩,_⟩|⟨g,o,c,rfl,_⟩
  ·exact⟨_,_,_,rfl⟩
  exact⟨_,_,_,rfl⟩
 obtain⟨a,n,c,rfl⟩:=d;clear h;show Zc 246 #[Zi x,Zp (some (Zd B 0))] W (λe k=>e=Zr (Zo (l.any (λy=>x==y)))/\∃q,k=W.drewN q);generalize l.any (λy=>x==y)=r at f ⊢;go_enter func246,ntmps246;go_wp2_with (go_at_call 85;apply f.o.mono;rintro e s⟨rfl,rfl⟩);go_ret;exact⟨rfl,0,rfl⟩
theorem ACa(D h:Tv)(l m:List Int)(w:Tw)(k:Ph w D l)(s:Ph w h m)(N:l.length<=maxLen)(M:m.length<=maxLen):
 Zc 203 #[D,h] w λe i=>e=Zr (Zo (aK l m))/\Zb w i:=by
 have J:∀args w,(callFunc 246 args).run prog w=.ok (.enter 246 args) w:=enters_of func246 (by kernel_rfl) rfl;have b:Zb w (w.alloc (Zk #[h] 23)):=Zal
 have G:Hid (Zc 193 #[D,.func (.func 246) #[] #[Zp (some (Zd w.1.size 0))]] (w.alloc (Zk #[h] 23)) λe i=>e=Zr (Zo (aK l m))/\Zb w i):=by
  have O:=xS h m w.1.size (w.alloc (Zk #[h] 23)) (s.below b) M (by simp) (by simp)
  rcases k with⟨⟨I,c0,rfl⟩,rfl⟩|⟨g,o,c,rfl,L,U,d⟩
  ·exact(AnyE.slices_ContainsFunc_empty layAnyI I c0 _ _).mono λe i⟨u,z⟩=>⟨u,by rw[z];exact b⟩
  have:=AnyE.slices_ContainsFunc layAnyI (Value.int .i64) (λx=>m.any (λy=>x==y)) 246 #[Zp (some (Zd w.1.size 0))] J g o l.length c l (w.alloc (Zk #[h] 23)) O (Y' _) (by unfold maxLen at N;omega) (λj hj=>(b.cell (p:=Zd g (o+j)) L).trans (d j hj));rw[Yg] at this;exact this.mono λe i⟨u,q,z⟩=>⟨u,by rw[z];exact below_drewN' b q⟩
 have f:∀{v:Tv}{l:List Int},Ph w v l->∃a n c,v=Zs a n c:=by
  rintro v l (⟨⟨_,_,rfl⟩,_⟩|⟨g,o,c,rfl,_⟩)
  ·exact⟨_,_,_,rfl⟩
  exact⟨_,_,_,rfl⟩
 obtain⟨R,n2,T,rfl⟩:=f s;obtain⟨P,n1,c1,rfl⟩:=f k;clear k s f;generalize aK l m=r at G ⊢;go_enter func203,ntmps203;go_wp2_with (go_at_call 193;apply G.o.mono;rintro e V⟨rfl,t⟩);go_ret;exact⟨rfl,t⟩
abbrev Sv:=Option Addr×Nat×Nat
abbrev sv(x:Sv):Value:=.slice x.1 x.2.1 x.2.2
abbrev Ef:=Vc×Sv
variable{L l:List Ef}
def Lv(x:Ef):List Value:=[.string x.1.1,Zi x.1.2.1,sv x.2]
def A8(l:List Ef):List Value:=l.flatMap Lv
theorem Kf(c:Ef):(Lv c).length=3:=rfl
theorem Nk:∀l:List Ef,(A8 l).length=l.length*3
 | []=>rfl
 | c :: l=>by simp only[A8,XR,XG,Kf,XC];have:=Nk l;simp only[A8] at this;omega
theorem Jt(a b:List Ef):A8 (a++b)=A8 a++A8 b:=by simp[A8]
theorem kF:∀(l:List Ef)(j i:Nat),j<l.length->i<3->(A8 l)[j*3+i]? = (Lv l[j]!)[i]?
 | [],j,i,h,_=>absurd h (Yr _)
 | c :: l,0,i,_,hi=>by simp only[A8,XR];rw[List.getElem?_append_left (by rw[Kf];omega)];simp
 | c :: l,j+1,i,h,hi=>by have a:=kF l j i (by simpa using h) hi;simp only[A8,XR] at a ⊢;rw[X' (by rw[Kf];omega),Kf,show (j+1)*3+i-3=j*3+i by omega,a];simp
theorem fK(l:List Ef):∀u∈A8 l,u.oneCell'=true:=by
 intro u b;simp only[A8,List.mem_flatMap] at b;obtain⟨c,d,a⟩:=b;simp only[Lv,XQ,X2,or_false] at a
 rcases a with rfl|rfl|rfl <;> rfl
theorem R8(v:Sv):∀(l:List Ef)(k:Nat),k<l.length->(A8 l).set (k*3+2) (sv v)=A8 (l.set k (l[k]!.1,v))
 | [],k,h=>absurd h (Yr _)
 | c :: l,0,_=>by simp[A8,Lv]
 | c :: l,k+1,h=>by have a:=R8 v l k (by simpa using h);simp only[A8,XR,XW] at a ⊢;rw[YA _ _ (by rw[Kf];omega),Kf,show (k+1)*3+2-3=k*3+2 by omega,a];simp
theorem l9(q:Vc->Bool):∀(l:List Ef)(i:Nat)(d:Ef)(a:Vc),Lib.idxByFrom (λ_ y=>q y.1) d l i=Lib.idxByFrom (λ_ y=>q y) a (l.map (·.1)) i
 | [],_,_,_=>rfl
 | x :: l,i,d,a=>by simp only[WI,Lib.idxByFrom];rw[l9 q l (i+1) d a]
theorem zW(l:List Ef)(nm:Tb):Lib.idxBy (λ_ y=>y.1.1.toList==nm.toList) l default=Bt (l.map (·.1)) nm:=l9 (λy=>y.1.toList==nm.toList) l 0 _ _
theorem Di{base:Nat}{size:Nat}{xs:List Tv}(h:w.ownsRow base e size v n xs):(v=Zs none 0 0/\n=0)\/∃g c,v=Zs (some (Zd g 0)) n c/\base<=g/\g<w.1.size/\n<=c/\c<=maxLen:=by
 rcases h.2 with⟨a,b⟩|⟨g,c,j,l,k,i,a,b,_⟩
 ·exact .inl ⟨a,b⟩
 refine .inr ⟨g,c,l,k,?_,a,b⟩
 rcases Yc g w.1.size with f|d
 ·exact f
 rw[XX d] at i;cases i
theorem AHl{base:Nat}{size g n c m:Nat}{xs:List Tv}(h:w.ownsRow base e size (Zs (some (Zd g 0)) n c) n xs)(p:m<=n):w.ownsRow base e size (Zs (some (Zd g 0)) m c) m (xs.take (m*size)):=by
 obtain⟨f,b⟩:=h;have d:m*size<=n*size:=Yo _ p;refine⟨by rw[XT,f];omega,.inr ?_⟩
 rcases b with⟨b,_⟩|⟨s,r,a,q,l,o,t,i,j,k⟩
 ·cases b
 cases q;refine⟨g,c,a,rfl,l,o,by omega,i,j,?_⟩;rw[<-k,Y4,YY d]
theorem P8{B e z n g i:Nat}:∀(a:List Tv)(o:Nat)(w:Tw)(xs:List Tv),w.ownsRow B e z (Zs (some (Zd g 0)) n i) n xs->o+a.length<=xs.length ->
 ∃xs',(w.setCells g o a).ownsRow B e z (Zs (some (Zd g 0)) n i) n xs'/\xs'.take (o+a.length)=xs.take o++a/\w.grownBy (w.setCells g o a) (some g)
 | [],o,w,xs,h,_=>⟨xs,h,by simp,rfl,rfl,rfl,Y' _,λ_ _ _=>rfl⟩
 | u :: a,o,w,xs,h,hl=>by
   simp only[XC] at hl;obtain⟨m,b⟩:=h.stored o u;obtain⟨xs',j,l,c⟩:=P8 a (o+1) _ _ m (by simp;omega);refine⟨xs',j,?_,c.os.trans b.os,c.tape.trans b.tape,c.output.trans b.output,XI b.size c.size,λk f d=>?_⟩
   ·rw[show o+(u :: a).length=o+1+a.length by simp;omega,l]
    rw[YG,List.take_set_of_le (Y' _),Yj (by omega)];simp
   exact(c.block k (Ya f b.size) d).trans (b.block k f d)
theorem AJo(w:Tw):(zeroValue 143).run prog w=.ok (Zg #[Zt ⟨#[]⟩,Zi 0,Zs none 0 0]) w:=zeroValue143 w
def AEd:Value:=.agg #[.string ⟨#[]⟩,Zi 0,.slice none 0 0]
theorem AGJ:(prog.info? 143).map (λi=>(i.zero,i.size,i.bytes))=some (some AEd,3,48):=by kernel_rfl
theorem AIn{B n g k:Nat}{xs:List Tv}(w:Tw)(h:w.ownsRow B 143 3 (Zs (some (Zd g 0)) n k) n xs)(i c:Nat)(t:i+1=n):
 ∃W,(∀e,(Builtin.clear_ #[54] e #[Zs (some (Zd g (i*3))) 1 c]).run prog w=.ok (Zu #[]) W)/\∃xs',W.ownsRow B 143 3 (Zs (some (Zd g 0)) n k) n xs'/\xs'.take (i*3)=xs.take (i*3)/\w.grownBy W (some g):=by
 have q:=h.1
 let vs:List Tv:=[Zt ⟨#[]⟩,Zi 0,Zs none 0 0]
 have b:∀u∈vs,u.oneCell'=true:=by
  intro u d;simp only[vs,XQ,X2,or_false] at d
  rcases d with rfl|rfl|rfl <;> rfl
 have a:=run_storeCells_cells (P:=prog) g (i*3) vs 0 w (λj p=>by have:j<3:=p;rw[WM,h.cellAt (i*3+j) (by omega),XE (by omega)];rfl) (λj _=>by rw[WM];exact h.frozenAt _) b
 simp only[WM] at a;have s:vs.length=3:=rfl;obtain⟨xs',l,m,o⟩:=P8 vs (i*3) w xs h (by omega);refine⟨w.setCells g (i*3) vs,λe=>?_,xs',l,?_,o⟩
 ·have r:=AJo
  simp[Builtin.clear_,run_underlying underlying54,r,Value.cells,Builtin.zeroCells];have f:List.map (λi=>([Value.string ⟨#[]⟩,Value.int IntKind.i64 0,Value.slice none 0 0][i % 3]?).getD default) (List.range 3)=vs:=by rfl
  rw[f,a];rfl
 have:=congrArg (List.take (i*3)) m;rw[Y4,YY (by omega),Yy (by simp;omega),Y4,Nat.min_self] at this;exact this
theorem nN(f:i<l.length):A8 (l.eraseIdx i)=(A8 l).take (i*3)++(A8 l).drop ((i+1)*3):=by
 rw[YI,Jt]
 have e:A8 l=A8 (l.take i)++(A8 (l.take (i+1) |>.drop i)++A8 (l.drop (i+1))):=by
  rw[<-Jt,<-Jt];congr 1;rw[<-WC]
  have:l.take i++(l.take (i+1)).drop i=l.take (i+1):=by have:=YU i (l.take (i+1));rwa[Y4,YY (by omega)] at this
  rw[this,YU]
 have d:(A8 (l.take i)).length=i*3:=by rw[Nk];simp;omega
 have g:(A8 (l.take (i+1) |>.drop i)).length=3:=by rw[Nk];simp;omega
 generalize A8 (l.take i)=a at *;generalize A8 (l.take (i+1) |>.drop i)=b at *;generalize A8 (l.drop (i+1))=c at *;have t1:(A8 l).take (i*3)=a:=by rw[e,<-d];exact List.take_left'  rfl
 have t2:(A8 l).drop ((i+1)*3)=c:=by rw[e,<-WC];exact List.drop_left' (by simp;omega)
 rw[t1,t2]
theorem Lo(B g a i:Nat)(l:List Ef)(w:Tw)(h:w.ownsRow B 143 3 (Zs (some (Zd g 0)) l.length a) l.length (A8 l))(T:i<l.length):
 Zc 202 #[Zs (some (Zd g 0)) l.length a,Zi i,Zi (i+1:Nat)] w λe w'=>e=Zr (Zs (some (Zd g 0)) (l.length-1) a)/\w'.ownsRow B 143 3 (Zs (some (Zd g 0)) (l.length-1) a) (l.length-1) (A8 (l.eraseIdx i))/\w.grownBy w' (some g):=by
 obtain⟨i0,I,J,L,M⟩:=info_parts AGJ
 have G:l.length<=a/\a<=maxLen:=by
  rcases Di h with⟨e,_⟩|⟨g',c',e,_,_,h2,h3⟩
  ·cases e
  cases e;exact⟨h2,h3⟩
 obtain⟨r,hm⟩:=G;unfold maxLen at hm;obtain⟨n,s⟩:∃n,l.length=n:=⟨_,rfl⟩;obtain⟨j,z⟩:∃j,j=i+1:=⟨_,rfl⟩;rw[<-z];obtain⟨news,b⟩:∃news,news=(A8 l).drop (j*3):=⟨_,rfl⟩;have o:(A8 l).length=l.length*3:=Nk l;have hlen:news.length=(n-j)*3:=by rw[b,XK,o,s];omega
 have q:w.drew.ownsRow B 143 3 (Zs (some (Zd g 0)) l.length a) l.length (A8 l):=h
 obtain⟨A,hA,x⟩:∃A:Addr,(if a=j then some ((Zd g 0):Addr) else some (Zd g (j*3)))=some A/\Hid (∀t u,news[t]? = some u->w.drew.cell? (A.add t)=some u):=by
  by_cases hc:a=j
  ·refine⟨(Zd g 0),by simp[hc],λt u c=>?_⟩
   have h0:news.length=0:=by rw[hlen];omega
   rw[Yag.1 h0] at c;simp at c
  refine⟨(Zd g (j*3)),by simp[hc],λt u c=>?_⟩
  have V:t<(n-j)*3:=by have:=(List.getElem?_eq_some_iff.1 c).1;rwa[hlen] at this
  rw[b,List.getElem?_drop] at c;rw[Addr.add_lit,q.cellAt (j*3+t) (by omega)];exact c
 have s1:=Aa hlen
 have s2:Hid (∀u∈news,u.oneCell'=true):=by intro u c;rw[b] at c;exact fK l u (List.mem_of_mem_drop c)
 have s3:Hid (∀t,t<news.length->(w.drew.cell? (Zd g (0+i*3+t))).isSome=true/\w.drew.frozen? (Zd g (0+i*3+t))=false):=by intro t V;rw[hlen] at V;rw[XJ];refine⟨?_,q.frozenAt _⟩;rw[q.cellAt (i*3+t) (by omega),XE (by omega)];rfl
 obtain⟨y,f⟩:∃y,y=w.drew.setCells g (0+i*3) news:=⟨_,rfl⟩;obtain⟨xs',N,W,d⟩:=P8 news (0+i*3) w.drew _ q (by rw[o];omega);rw[<-f] at N d;obtain⟨P,aa,O,X,Y,p⟩:=AIn y N (n-1) (a-(n-1)) (by omega)
 have D:Hid (P.ownsRow B 143 3 (Zs (some (Zd g 0)) (l.length-1) a) (l.length-1) (A8 (l.eraseIdx i))/\w.grownBy P (some g)):=by
  refine⟨?_,?_⟩
  ·have:=AHl X (m:=l.length-1) (by omega)
   have e:O.take ((l.length-1)*3)=A8 (l.eraseIdx i):=by
    rw[s,Y,nN T];have R:(n-1)*3=0+i*3+news.length:=by rw[hlen];omega
    rw[R,W,b,z,XJ]
   rw[e] at this;exact this
  exact⟨p.os.trans d.os,p.tape.trans d.tape,p.output.trans d.output,XI d.size p.size,λk U v=>(p.block k (Ya U d.size) v).trans (d.block k U v)⟩
 have hW:=Aa f;have HL:=Aa s;rw[s];have ac:¬i=j:=by omega
 have ab:i<=a:=by omega
 have ae:j<=a:=by omega
 have af:j<=n:=by omega
 have ad:i<=n:=by omega
 have ag:n<=a:=by omega
 have e1:i+(n-j)=n-1:=by omega
 have R:n-(n-1)=1:=by omega
 have HJ:=Aa z;clear f h q o hlen b N W d X Y p s r T z J M;go_enter func202,ntmps202;go_wp2_with fail
 go_region_law (refine step_append_room rfl (.tmp 22) (.tmp 25) 54 rfl 143 i0 3 underlying54 I L g 0 i a (by simp[Act.eval,Act.put]) A (n-j) (a-j) news (by simp[Act.eval,Act.put]) s1.o x.o s2.o (by omega) s3.o ?_;rw[<-hW.o])
 all_goals
  go_wp2;go_ret;have:=D.o;rw[HL.o] at this;exact⟨rfl,this⟩
section
variable {w W : World} {base base' : Nat} {e e' : TypeId} {z z' : Nat} {v v' : Value} {n n' : Nat} {xs xs' : List Value}
theorem Ac{o:Obj}(h:w.1[g]? = some o):g<w.1.size:=by
 rcases Yc g w.1.size with b|a
 ·exact b
 rw[XX a] at h;cases h
theorem Bc(h:w.ownsRow base e z v n xs)(f:Zb w W):W.ownsRow base e z v n xs:=by
 refine⟨h.1,?_⟩
 rcases h.2 with h|⟨g,c,a,j,b,d,i⟩
 ·exact .inl h
 exact .inr ⟨g,c,a,j,b,(f.block g (Ac d)).trans d,i⟩
theorem Az{row:Option Nat}(h:w.ownsRow base e z v n xs)(j:w.grownBy W row)(d:∀k,v.ownBlock=some k->row≠some k):W.ownsRow base e z v n xs:=by
 refine⟨h.1,?_⟩
 rcases h.2 with h|⟨g,c,a,i,b,f,l⟩
 ·exact .inl h
 exact .inr ⟨g,c,a,i,b,(j.block g (Ac f) (λx=>d g (by rw[i];rfl) x.symm)).trans f,l⟩
theorem G1(h:w.ownsRow base e z v n xs)(i:base'<=base):w.ownsRow base' e z v n xs:=by
 refine⟨h.1,?_⟩
 rcases h.2 with h|⟨g,c,a,f,b,d⟩
 ·exact .inl h
 exact .inr ⟨g,c,a,f,by omega,d⟩
theorem Ho(h:w.ownsRow base e z v n xs)(b:v.ownBlock=some k):∃a,w.1[k]? = some (Zk a e (0,0)):=by
 rcases h.2 with⟨h,_⟩|⟨g,c,a,f,_,d,_⟩
 ·rw[h] at b;cases b
 rw[f] at b;cases b;exact⟨a,d⟩
theorem Hn(h:w.ownsRow base e z v n xs)(d:w.ownsRow base' e' z' v' n' xs')(c:e≠e'):∀k,v.ownBlock=some k->v'.ownBlock≠some k:=by intro k g b;obtain⟨c1,f⟩:=Ho h g;obtain⟨i,a⟩:=Ho d b;rw[f] at a;injection a with a;injection a with _ a;exact c a
theorem Fq(h:w.ownsRow base e z v n xs){b:Nat}{c:Array Tv}{t:TypeId}(f:w.1[b]? = some (Zk c t (0,0)))(d:e≠t):v.ownBlock≠some b:=by intro g;obtain⟨c1,a⟩:=Ho h g;rw[f] at a;injection a with a;injection a with _ a;exact d a.symm
theorem Au(h:w.ownsRow base e z v n xs):∃a c,v=Zs a n c/\n<=c:=by
 rcases Di h with⟨b,d⟩|⟨g,c,b,_,_,d,_⟩
 ·subst d;exact⟨none,0,b,Y' _⟩
 exact⟨_,c,b,d⟩
theorem Aq(w:Tw)(b i:Nat)(u:Tv):w.grownBy (w.setCell (Zd b i) u) (some b) :=
 ⟨rfl,rfl,rfl,by simp[World.setCell],λk _ a=>XO _ _ _ _ (λe=>a (by rw[e]))⟩
theorem As(w:Tw)(b i:Nat)(cs:Array Tv)(t:TypeId)(u:Tv)(h:w.1[b]? = some (Zk cs t (0,0))):(w.setCell (Zd b i) u).heap[b]? = some (Zk (cs.setIfInBounds i u) t (0,0)):=by simp only[World.setCell];rw[Array.getElem?_modify];simp[h]
end
structure Dm(base b:Nat)(W:World)(s:Ah)(cv fv:Value)(L:List Ef):Prop where
 box:W.1[b]? = some (.cells #[Zi s.Eb,cv,Zi s.next,fv] 56 (0,0))
 low:base<=b
 qz:W.ownsRow base 69 7 cv s.qz.length (Av s.qz)
 qx:s.qx=L.map (·.1)
 row:W.ownsRow base 143 3 fv L.length (A8 L)
 Cl:∀x∈L,W.ownsRow base 3 1 (sv x.2) x.1.2.2.length (x.1.2.2.map (.int .i64))
 apart:L.Pairwise (λx y=>∀k,(sv x.2).ownBlock=some k->(sv y.2).ownBlock≠some k)
def Iw(base b:Nat)(W:World)(s:Ah):Prop:=∃a c L,Dm base b W s a c L
theorem Dm.up{base b:Nat}(h:Dm base b w s v u L)(a:Zb w W):Dm base b W s v u L :=
 ⟨(a.block b (Ac h.box)).trans h.box,h.low,Bc h.qz a,h.qx,Bc h.row a,λx c=>Bc (h.Cl x c) a,h.apart⟩
theorem Dm.cells{base b:Nat}{w:Tw}{s:Ah}{v u:Tv}{L:List Ef}(h:Dm base b w s v u L):
 w.cell? (Zd b 0)=some (Zi s.Eb)/\w.cell? (Zd b 1)=some v/\w.cell? (Zd b 2)=some (Zi s.next)/\w.cell? (Zd b 3)=some u/\∀i,w.frozen? (Zd b i)=false:=by
 have:=h.box;refine⟨?_,?_,?_,?_,λi=>?_⟩ <;> simp[World.cell?,World.frozen?,this]
theorem Dm.len{base b:Nat}(h:Dm base b w s v u L):s.qx.length=L.length:=by rw[h.qx];simp
theorem Dm.put{base b:Nat}{v u f:Tv}(h:Dm base b w s v u L)(t:Ah)(c:List Ef)(j:w.grownBy W u.ownBlock)(m:W.ownsRow base 143 3 f c.length (A8 c))(z:t.Eb=s.Eb)(p:t.qz=s.qz)(r:t.next=s.next)(q:t.qx=c.map (·.1))(l:∀x∈c,W.ownsRow base 3 1 (sv x.2) x.1.2.2.length (x.1.2.2.map (.int .i64)))(o:c.Pairwise (λx y=>∀k,(sv x.2).ownBlock=some k->(sv y.2).ownBlock≠some k)):Dm base b (W.setCell (Zd b 3) f) t v f c:=by
 have d:W.1[b]? = some (Zk #[Zi s.Eb,v,Zi s.next,u] 56 (0,0)):=(j.block b (Ac h.box) (λe=>Fq h.row h.box (by decide) e.symm)).trans h.box;have g:=Aq W b 3 f;refine⟨?_,h.low,?_,q,?_,?_,o⟩
 ·rw[As W b 3 _ _ f d,z,r];rfl
 ·rw[p]
  have i:=Az h.qz j (λk a e=>Hn h.qz h.row (by decide) k a e);exact Az i g (λk a e=>Fq i d (by decide) (by rw[a];exact e.symm))
 ·exact Az m g (λk a e=>Fq m d (by decide) (by rw[a];exact e.symm))
 exact λx n=>Az (l x n) g (λk a e=>Fq (l x n) d (by decide) (by rw[a];exact e.symm))
theorem zO(nm:Tb)(B:Nat)(w:Tw)(d:B<w.1.size)(b:w.cell? (Zd B 0)=some (Zt nm)):
 PredBelow prog 245 #[Zp (some (Zd B 0))] (λx:Ef=>Zg (Lv x).toArray) (λx=>x.1.1.toList==nm.toList) w:=λW x hb=>by
 have i:W.cell? (Zd B 0)=some (Zt nm):=(hb.cell (p:=Zd B 0) d).trans b;have f:B<W.1.size:=Ya d hb.size;have g:B≠W.1.size:=by omega
 obtain⟨⟨c1,e,h⟩,a,n,c⟩:=x;show Zc 245 #[Zg #[Zt c1,Zi e,Zs a n c],Zp (some (Zd B 0))] W _;go_enter func245,ntmps245;go_wp2
 all_goals (go_ret;exact⟨rfl,hb.alloc hb.size _⟩)
theorem dO(c:Nat)(a:Tv)(w:Tw):Zc 145 #[Zs none 0 c,a] w λe d=>e=Zr (Zi (-1))/\d=w:=by
 go_enter func145,ntmps145;go_wp2
 go_loopg [5,8] 0 (λ_ _ b wr=>b=Zi 0/\wr=w)
 case atStart=>exact⟨rfl,rfl⟩
 case round=>obtain⟨rfl,rfl⟩:=hrel;go_wp2;go_ret;exact⟨rfl,rfl⟩
theorem AJD{base g n k:Nat}(h:w.ownsRow base 143 3 (Zs (some (Zd g 0)) n k) n (A8 l))(e:n=l.length):∀j,j<l.length->∀i v,(Lv l[j]!)[i]? = some v->w.cell? (Zd g (0+j*3+i))=some v:=by
 intro j d i v b
 have c:i<3:=by
  rcases Yc i 3 with a|a
  ·exact a
  rw[Yb (by rw[Kf];exact a)] at b;cases b
 have:=h.cellAt (j*3+i) (by subst e;omega);rw[kF l j i d c,b] at this;rw[XJ];exact this
theorem Wj(base b:Nat)(s:Ah)(o m:Tv)(L:List Ef)(nm:Tb)(w:Tw)(h:Dm base b w s o m L):
 Zc 201 #[Zp (some (Zd b 0)),Zt nm] w λe d=>e=Zr (Zi (Bt s.qx nm))/\Zb w d:=by
 have p:∀args w,(callFunc 245 args).run prog w=.ok (.enter 245 args) w:=enters_of func245 (by kernel_rfl) rfl;have a:Zb w (w.alloc (Zk #[Zt nm] 9)):=Zal
 have l:Hid (Zc 145 #[m,.func (.func 245) #[] #[Zp (some (Zd w.1.size 0))]] (w.alloc (Zk #[Zt nm] 9)) λe d=>e=Zr (Zi (Bt s.qx nm))/\Zb w d):=by
  have n:=Bc h.row a
  rcases Di h.row with⟨e,e0⟩|⟨g,c,e,_,G,u,i⟩
  ·have q:L=[]:=Yag.1 e0
   rw[e,h.qx,q];exact(dO 0 _ _).mono λe d⟨j,k⟩=>⟨j,by rw[k];exact a⟩
  rw[e] at n ⊢;unfold maxLen at i
  have:=AnyQ.slices_IndexFunc layIdxE 3 isAgg143 sizeOf143 Lv Kf (λx=>x.1.1.toList==nm.toList) 245 #[Zp (some (Zd w.1.size 0))] p g 0 L.length c L (w.alloc (Zk #[Zt nm] 9))
   (zO nm w.1.size _ (by simp) (by simp)) (Y' _) (by omega) (by simp;omega) (AJD n rfl)
  rw[Yg,zW,<-h.qx] at this;exact this.mono λe d⟨j,k⟩=>⟨j,a.trans (k.mono (by simp))⟩
 obtain⟨_,_,_,v,_⟩:=h.cells;obtain⟨z,D,e,_⟩:=Au h.row;subst e;have t:=Ac h.box;have y:b≠w.1.size:=by omega
 clear h;generalize Bt s.qx nm=r at l ⊢;go_enter func201,ntmps201;go_wp2_with (go_at_call 145;apply l.o.mono;rintro e I⟨rfl,f⟩);go_ret;exact⟨rfl,f⟩
def rfB(p:ByteArray)(r:Int):Bool:=Bx p && (decide (1<=r) && decide (r<=60))
theorem Qw(k:Int)(p:Tb)(r:Int)(m:To)(o n:Nat)(g:To)(i h:Nat)(s:Int)(w:Tw)(u:p.size<=maxLen):
 Zc 147 #[Zg #[Zi k,Zt p,Zi r,Zs m o n,Zs g i h,Zi s]] w λe v=>e=Zr (Zo (rfB p r))/\Zb w v:=by
 have f:=Aa (λW=>Mn p W u);have d:Hid (rfB p r=(Bx p && (decide (1<=r) && decide (r<=60)))):=rfl;generalize rfB p r=q at d ⊢;have t:(1<=r/\r<=60)\/(r<1/\r<=60)\/(1<=r/\60<r):=by omega
 cases hnb:Bx p <;> rcases t with⟨j,l⟩|⟨j,l⟩|⟨j,l⟩
 all_goals
  rw[hnb] at f d;have a:Zb w (w.alloc (Zk #[Zi k,Zt p,Zi r,Zs m o n,Zs g i h,Zi s] 111)):=Zal;have c:=Aa a;clear a;go_enter func147,ntmps147;go_wp2_with (go_at_call 70;refine(f.o _).mono ?_;rintro e x⟨rfl,b⟩;have y:x.cell? (Zd w.1.size 2)=some (Zi r):=(b.cell (p:=Zd w.1.size 2) (by simp)).trans (by simp))
  all_goals
   go_ret;exact⟨Af (by rw[d.o];simp;try omega),c.o.trans (b.mono (by simp))⟩
def Lg(base b:Nat)(w:World)(ok:Prop)(t:Ah)(e:Ending)(a:World):Prop :=
 ∃c:Int,e=.returned (Zi c)/\Below base w a/\((c=0/\ok/\Iw base b a t)\/(c≠0/\¬ok))
theorem Sj{base b:Nat}{ok:Prop}{t:Ah}{c:Int}(d:c≠0)(a:Below base w W)(h:¬ok):Lg base b w ok t (Zr (Zi c)) W:=⟨c,rfl,a,.inr ⟨d,h⟩⟩
theorem o5{base b:Nat}{ok:Prop}{t:Ah}(a:Below base w W)(h:ok)(c:Iw base b W t):Lg base b w ok t (Zr (Zi 0)) W:=⟨0,rfl,a,.inl ⟨rfl,h,c⟩⟩
theorem AHQ(p:Tb)(r:Int):rfB p r=true↔Bx p=true/\1<=r/\r<=60:=by simp[rfB]
theorem Dm.size{base b:Nat}{w:Tw}{s:Ah}{v u:Tv}{L:List Ef}(h:Dm base b w s v u L):base<=w.1.size:=by have:=h.low;have:=Ac h.box;omega
theorem Dm.more{base b:Nat}(h:Dm base b w s v u L)(d:w.grownBy W u.ownBlock)(k:Int)(p:Tb)(r:Int)(m:List Int)(cl:List Aj)(l:Int)(g c:Nat)(j:W.ownsRow base 143 3 (Zs (some (Zd g 0)) (L.length+1) c) (L.length+1) (A8 L++[Zt p,Zi r,Zs none 0 0])):
 Iw base b (W.setCell (Zd b 3) (Zs (some (Zd g 0)) (L.length+1) c)) (oE s (k,p,r,m,cl,l)):=by
 refine⟨v,_,L++[((p,r,[]),(none,0,0))],h.put _ _ d ?_ rfl rfl rfl ?_ ?_ ?_⟩
 ·rw[Jt]
  simp only[XG,XC,XP];exact j
 ·simp only[oE]
  rw[h.qx];simp
 ·intro x a
  rcases List.mem_append.1 a with a|a
  ·exact Az (h.Cl x a) d (λk i e=>Hn (h.Cl x a) h.row (by decide) k i e)
  simp at a;subst a;exact XF _ _ _ _
 rw[List.pairwise_append];refine⟨h.apart,List.pairwise_singleton _ _,?_⟩;intro x _ y f k _;simp at f;subst f;simp[Value.ownBlock]
theorem N3(base b:Nat)(s:Ah)(k:Int)(p:Tb)(r:Int)(m:List Int)(cl:List Aj)(J:Int)(ma:To)(mn mc:Nat)(ca:To)(cn cc:Nat)(w:Tw)(h:Iw base b w s)(hp:p.size<=maxLen)(O5:s.qx.length<=40):
 Zc 155 #[Zp (some (Zd b 0)),Zg #[Zi k,Zt p,Zi r,Zs ma mn mc,Zs ca cn cc,Zi J]] w (Lg base b w (jP Bx s (k,p,r,m,cl,J)) (oE s (k,p,r,m,cl,J))):=by
 obtain⟨cv,fv,L,P⟩:=h;obtain⟨iE,aa,ad,M,N⟩:=info_parts AGJ;have G:=Zy aa ad M N;obtain⟨va,vc,e1,_⟩:=Au P.qz;obtain⟨T,U,e2,_⟩:=Au P.row;subst e1 e2;have aq:=Ac P.box;have n:=P.size;have hlen:=P.len;have q:=Aa (λW=>Qw k p r ma mn mc ca cn cc J W hp);have D:Hid (Below w.1.size w (w.alloc (Zk #[Zi k,Zt p,Zi r,Zs ma mn mc,Zs ca cn cc,Zi J] 111))):=Zal
 have y:Hid (∀W,Below (w.1.size+1) (w.alloc (Zk #[Zi k,Zt p,Zi r,Zs ma mn mc,Zs ca cn cc,Zi J] 111)) W->W.cell? (Zd w.1.size 1)=some (Zt p)/\W.cell? (Zd w.1.size 2)=some (Zi r)/\Dm base b W s (Zs va s.qz.length vc) (Zs T L.length U) L/\Below w.1.size w W):=λW V=>⟨(V.cell (p:=Zd w.1.size 1) (XU _)).trans (by simp),(V.cell (p:=Zd w.1.size 2) (XU _)).trans (by simp),P.up (D.o.trans (V.mono (XA _))),D.o.trans (V.mono (XA _))⟩
 have x:=Aa (λ(W:Tw)(V:Dm base b W s (Zs va s.qz.length vc) (Zs T L.length U) L)=>Wj base b s _ _ L p W V)
 have o:Hid (jP Bx s (k,p,r,m,cl,J)↔rfB p r=true/\Bt s.qx p<0/\s.qz≠[]/\L.length<40):=by
  show jP Bx s (k,p,r,m,cl,J)↔_;rw[AHQ,<-hlen];simp only[jP];constructor
  ·rintro⟨a,b,c,d,e,f⟩;exact⟨⟨a,b,c⟩,d,e,f⟩
  rintro⟨⟨a,b,c⟩,d,e,f⟩;exact⟨a,b,c,d,e,f⟩
 have ar:b≠w.1.size:=by omega
 rw[hlen] at O5;clear P hlen aa ad M N;generalize Bt s.qx p=wh at x o;cases hrf:rfB p r with
 | false=>rw[hrf] at q o;go_enter func155,ntmps155;go_wp2_with (go_at_call 147;refine(q.o _).mono ?_;rintro e w1⟨rfl,i⟩);go_ret;exact Sj (by decide) (D.o.trans (i.mono (by simp)) |>.mono n) (λR=>by have:=o.o.1 R;simp at this)
 | true=>
   rw[hrf] at q o
   by_cases hwh:0<=wh
   ·go_enter func155,ntmps155
    go_wp2_with (first
     | (go_at_call 147;refine(q.o _).mono ?_;rintro e w1⟨rfl,i⟩;change Below _ _ _ at i;simp only[XD] at i;obtain⟨q1,q2,HI1,HW1⟩:=y.o _ i)
     | (go_at_call 201;refine(x.o _ HI1).mono ?_;rintro e v⟨rfl,l⟩))
    go_ret;exact Sj (by decide) ((Below.Ap HW1 l).mono n) (λR=>by have:=(o.o.1 R).2.1;omega)
   by_cases hc:s.qz=[]
   ·have ai:s.qz.length=0:=by rw[hc];rfl
    go_enter func155,ntmps155
    go_wp2_with (first
     | (go_at_call 147;refine(q.o _).mono ?_;rintro e w1⟨rfl,i⟩;change Below _ _ _ at i;simp only[XD] at i;obtain⟨q1,q2,HI1,HW1⟩:=y.o _ i)
     | (go_at_call 201;refine(x.o _ HI1).mono ?_;rintro e v⟨rfl,l⟩;obtain⟨_,k1,_,k3,kf⟩:=(HI1.up l).cells))
    go_ret;exact Sj (by decide) ((Below.Ap HW1 l).mono n) (λR=>(o.o.1 R).2.2.1 hc)
   have ai:¬s.qz.length=0:=λe=>hc (Yag.1 e)
   have am:¬(s.qz.length:Int)=0:=by omega
   by_cases hf:40<=L.length
   ·have aj:(40:Int)<=(L.length:Int):=by omega
    go_enter func155,ntmps155
    go_wp2_with (first
     | (go_at_call 147;refine(q.o _).mono ?_;rintro e w1⟨rfl,i⟩;change Below _ _ _ at i;simp only[XD] at i;obtain⟨q1,q2,HI1,HW1⟩:=y.o _ i)
     | (go_at_call 201;refine(x.o _ HI1).mono ?_;rintro e v⟨rfl,l⟩;obtain⟨_,k1,_,k3,kf⟩:=(HI1.up l).cells))
    go_ret;exact Sj (by decide) ((Below.Ap HW1 l).mono n) (λR=>by have:=(o.o.1 R).2.2.2;omega)
   have aj:¬(40:Int)<=(L.length:Int):=by omega
   go_enter func155,ntmps155
   go_wp2_with (first
    | (go_at_call 147;refine(q.o _).mono ?_;rintro e w1⟨rfl,i⟩;change Below _ _ _ at i;simp only[XD] at i;obtain⟨q1,q2,HI1,HW1⟩:=y.o _ i)
    | (go_at_call 201;refine(x.o _ HI1).mono ?_;rintro e v⟨rfl,l⟩;obtain⟨_,k1,_,k3,kf⟩:=(HI1.up l).cells))
   have O:=Aa (HI1.up l);have Y:=Aa (Below.Ap HW1 l);have au:=Y.o.size;have ab:=i.size;simp only[XD] at ab;have ac:=l.size;have p1:=(l.cell (p:=Zd w.1.size 1) (by show w.1.size<_;omega)).trans q1;have p2:=(l.cell (p:=Zd w.1.size 2) (by show w.1.size<_;omega)).trans q2;have aw:=kf 3;have ao:b≠v.1.size:=by omega
   have ap:w.1.size≠v.1.size:=by omega
   have z:Hid (Below v.1.size v (v.alloc (Zk #[Zt p,Zi r,Zs none 0 0] 143))):=Zal;have af:=Aa ((O.o.up z.o).row);have ae:Hid (((v.alloc (Zk #[Zt p,Zi r,Zs none 0 0] 143)).drew).heap[v.1.size]? = some (Zk #[Zt p,Zi r,Zs none 0 0] 143)):=Yac v _;have av:=(O.o.up z.o).cells.2.2.2.1;clear HI1 HW1 i l ab ac q1 q2 k1 kf y x q D
   go_region_law
    (first
      | (refine step_append_lies _ (by rfl) (.tmp 33) (.tmp 39) 54 (by rfl) base 143 iE AEd 3 48 underlying54 G.o.1 G.o.2.1 G.o.2.2.1 G.o.2.2.2 rfl (by decide) (.slice T L.length U) L.length _ (by rfl) af.o (Zd v.1.size 0) 1 1 [.string p,Zi r,.slice none 0 0] (by rfl) rfl (λj u hj=>XV ae.o j u hj) (by intro u hu;simp only[XQ,X2,or_false] at hu;rcases hu with rfl|rfl|rfl <;> rfl) (by omega) (by unfold maxLen;omega) (by omega) (by simp;omega) _ rfl ?_
         intro g ag w5 ak I al an;have t:=Aa (O.o.up z.o.drew);have X:Hid (some b≠(Value.slice T L.length U).ownBlock):=Aa (λe=>Fq t.o.row t.o.box (by decide) e.symm);have r1:=(I.cell_far (Zd b 3) (by simp;omega) X.o).trans t.o.cells.2.2.2.1;have r2:=(I.frozen_far (Zd b 3) (by simp;omega) X.o).trans (t.o.cells.2.2.2.2 3))
      | fail)
   all_goals
    go_wp2;go_ret;refine o5 ?_ (o.o.2 ⟨by first|trivial|rfl,by omega,hc,by omega⟩) (t.o.more I k p r m cl J g ag ak);have ah:Below base w w5:=((Y.o.mono n).trans (z.o.drew.mono (by omega))).grown I (by have:=z.o.size;show base<=(v.alloc _).heap.size;omega) (λj hj=>(t.o.row.lt j hj).1);exact ah.setCell (p:=Zd b 3) t.o.low _
theorem AC4(l:List Ef)(k:Nat):(l.eraseIdx k).map (·.1)=(l.map (·.1)).eraseIdx k:=by rw[YI,YI,XL,List.map_take,List.map_drop]
theorem kB{l:List Vc}{p:Tb}(h:0<=Bt l p):∃k:Nat,k<l.length/\Bt l p=k/\l[k]!.1=p:=by
 rcases J8 l p with⟨d,_⟩|⟨k,b,a,c,_⟩
 ·omega
 exact⟨k,b,a,c⟩
theorem Dm.less{base b:Nat}(h:Dm base b w s v (Zs (some (Zd g 0)) n i) L)(f:w.grownBy W (some g))(a:ADV)(k:Nat)(d:k<L.length)(m:Bt s.qx a.2.1=k)(l:W.ownsRow base 143 3 (Zs (some (Zd g 0)) (L.length-1) i) (L.length-1) (A8 (L.eraseIdx k))):
 Iw base b (W.setCell (Zd b 3) (Zs (some (Zd g 0)) (L.length-1) i)) (tI s a):=by
 have j:=List.length_eraseIdx_of_lt d;refine⟨v,_,L.eraseIdx k,h.put _ _ f ?_ rfl rfl rfl ?_ ?_ ?_⟩
 ·rw[j];exact l
 ·simp only[tI]
  rw[m,h.qx,AC4];rfl
 ·intro x o
  have c:=YB o;exact Az (h.Cl x c) f (λk d e=>Hn (h.Cl x c) h.row (by decide) k d e)
 exact h.apart.sublist (YN _ _)
theorem yG(B g a i:Nat)(l:List Ef)(w:Tw)(h:w.ownsRow B 143 3 (Zs (some (Zd g 0)) l.length a) l.length (A8 l))(c:i<l.length):
 Zc 202 #[Zs (some (Zd g 0)) l.length a,Zi i,Zi ((i:Int)+1)] w λe b=>e=Zr (Zs (some (Zd g 0)) (l.length-1) a)/\b.ownsRow B 143 3 (Zs (some (Zd g 0)) (l.length-1) a) (l.length-1) (A8 (l.eraseIdx i))/\w.grownBy b (some g):=by
 have:=Lo B g a i l w h c;rwa[show ((i+1:Nat):Int)=(i:Int)+1 by omega] at this
theorem vP(base b:Nat)(s:Ah)(k:Int)(p:Tb)(r:Int)(m:List Int)(cl:List Aj)(u:Int)(D:To)(I G:Nat)(x:To)(z y:Nat)(w:Tw)(h:Iw base b w s)(O5:s.qx.length<=40):
 Zc 156 #[Zp (some (Zd b 0)),Zg #[Zi k,Zt p,Zi r,Zs D I G,Zs x z y,Zi u]] w (Lg base b w (0<=Bt s.qx p) (tI s (k,p,r,m,cl,u))):=by
 obtain⟨cv,fv,L,f⟩:=h;obtain⟨va,vc,V,_⟩:=Au f.qz;subst V;have X:=Ac f.box;have d:=f.size;have hlen:=f.len;have n:Hid (Below w.1.size w (w.alloc (Zk #[Zi k,Zt p,Zi r,Zs D I G,Zs x z y,Zi u] 111))):=Zal
 have q:Hid (Zc 201 #[Zp (some (Zd b 0)),Zt p] (w.alloc (Zk #[Zi k,Zt p,Zi r,Zs D I G,Zs x z y,Zi u] 111)) λe w'=>e=Zr (Zi (Bt s.qx p))/\Below (w.1.size+1) (w.alloc (Zk #[Zi k,Zt p,Zi r,Zs D I G,Zs x z y,Zi u] 111)) w'):=by have:=Wj base b s _ _ L p _ (f.up n.o);simp only[Zb,XD] at this;exact this
 have ad:b≠w.1.size:=by omega
 by_cases hwh:0<=Bt s.qx p
 ·obtain⟨i,O,M,_⟩:=kB hwh
  rw[hlen] at O O5
  rcases Di f.row with⟨_,e0⟩|⟨g,c,W,N,ab,Y,aa⟩
  ·omega
  subst W;have U:=Aa f;have ac:¬((i:Int)<0):=by omega
  have T:(i:Int)<40:=by omega
  have R:=Aa M;rw[M] at q;clear f hlen M hwh;go_enter func156,ntmps156
  go_wp2_with (first
   | (go_at_call 201;apply q.o.mono;rintro e w1⟨rfl,t⟩
      have o:=Aa (n.o.trans (t.mono (XA _)));have a:=Aa (U.o.up o.o);obtain⟨_,_,_,k3,kf⟩:=a.o.cells;have ae:=o.o.size)
   | (go_at_call 202;refine(yG base g c i L _ a.o.row O).mono ?_;rintro e w2⟨rfl,P,l⟩
      have v:Hid (some b≠some g):=Aa (λe=>Fq a.o.row a.o.box (by decide) e.symm);have r1:=(l.cell_far (Zd b 3) (by show b<_;omega) v.o).trans k3;have r2:=(l.frozen_far (Zd b 3) (by show b<_;omega) v.o).trans (kf 3)))
  go_ret;refine o5 ?_ (by rw[R.o];omega) (a.o.less l (k,p,r,m,cl,u) i O R.o P);have J:Below base w w2:=(o.o.mono d).grown l (by omega) (λj hj=>by cases hj;exact N);exact J.setCell (p:=Zd b 3) a.o.low _
 have af:Bt s.qx p<0:=by omega
 generalize Bt s.qx p=wh at *;clear f hlen;go_enter func156,ntmps156;go_wp2_with (go_at_call 201;apply q.o.mono;rintro e w1⟨rfl,t⟩);go_ret;exact Sj (by decide) ((n.o.trans (t.mono (XA _))).mono d) (by omega)
theorem Od(B b:Nat)(bs:List Tv)(s:Tb)(w:Tw)(h:Lib.IsBuilder 178 5 B b bs w)(hlen:bs.length+s.size<=140737488355328)(a:B<=w.1.size):
 Zc 90 #[Zp (some (Zd b 0)),Zt s] w λe c=>e=Zr (Zu #[Zi s.size,Zn])/\(Lib.BuilderAt 178 5 B b (Zp (some (Zd b 0))) (bs++Lib.strCells s) c/\Below B w c) :=
 Any.Builder_WriteString (ρ:=Qrr) { lays156 with } Qbx B b bs s w h hlen a
theorem AF3(base g a:Nat)(l:List Int)(w:Tw)(h:w.ownsRow base 3 1 (Zs (some (Zd g 0)) l.length a) l.length (l.map (.int .i64)))(G:l.length<=700000):
 Zc 204 #[Zs (some (Zd g 0)) l.length a] w λe o=>e=Zr (Zu #[])/\o.ownsRow base 3 1 (Zs (some (Zd g 0)) l.length a) l.length ((Ir l).map (.int .i64))/\w.grownBy o (some g):=by
 have r:Holds (Value.int .i64) w g 0 l.toArray:=λj v=>by
  have f:j<l.length:=by simpa using v
  refine⟨?_,h.frozenAt _⟩;rw[XJ,h.cellAt j (by omega),XY,XE f];simp[f]
 have m:g<w.1.size:=(h.lt g rfl).2;refine(Any.slices_Sort_int lays189 g 0 a l w r m (by omega)).mono ?_;rintro e o⟨rfl,q,os,rfl⟩;refine⟨rfl,?_⟩;have t:=putRow_eq_setCells (Value.int .i64) w g 0 l.toArray (Ir l) q r (by rw[Ml];simp);have z:(w.drewN q).ownsRow base 3 1 (Zs (some (Zd g 0)) l.length a) l.length (l.map (.int .i64)):=Bc h (below_drewN' (XB _ _) q);obtain⟨xs',i,p,b⟩:=P8 ((Ir l).map (Value.int .i64)) 0 (w.drewN q) _ z (by simp[Ml])
 have e:xs'=(Ir l).map (Value.int .i64):=by have u:=i.1;rw[Yf (by simp[Ml,u])] at p;simpa using p
 have c:Zb w (w.drewN q):=below_drewN' (XB _ _) q;unfold Ir at t;rw[t];unfold Ir at i b e;rw[e] at i;have D:w.1.size<=((w.drewN q).setCells g 0 ((l.mergeSort λx y=>decide (x<=y)).map (Value.int .i64))).1.size:=XI c.size b.size;refine⟨?_,?_⟩
 ·exact Bc i (below_grow _ _ (Y' _) 0 os)
 have d:=below_grow _ ((w.drewN q).setCells g 0 ((l.mergeSort λx y=>decide (x<=y)).map (Value.int .i64))) (Y' _) 0 os;exact⟨d.os.trans (b.os.trans c.os),d.tape.trans (b.tape.trans c.tape),d.output.trans (b.output.trans c.output),XI D d.size,λk s n=>(d.block k (by omega)).trans ((b.block k (Ya s c.size) n).trans (c.block k s))⟩
variable{c:Array Oper}{a:Act}{W:Tw}{K:Act->Tw->Prop}
theorem Ih{o:Oper}{Q:Exit->Act->Tw->Prop}{E:Prop}(d:o.guard=none)(f:Nat)(xs:Array Operand)(ts:Array TypeId)(p:o.op=.call { callee:=.value (.func f),args:=xs,argTypes:=ts })(args:Array Tv)(k:xs.map a.eval=args)(j:∀args w,(callFunc f args).run prog w=.ok (.enter f args) w)(R:Ending->Tw->Prop)(l:Zc f args W R)(h:∀e i,R e i->∃v,e=Zr v/\K (a.put o.dst v) i):
 if Region.wanted o (yielded c a.tmps)=true then Oper.wp prog o a W K Q else E:=by
 have q:Region.wanted o (yielded c a.tmps)=true:=by simp[Region.wanted,d]
 rw[Yae q]
 have b:(execOp a.eval o).run prog W=.ok (.enter f args) W:=by simp[execOp,p,resolve,invoke,k,j,Act.eval,Deferred.ofValue]
 unfold Oper.wp;rw[b,Oper.upon_enter];refine l.mono λe g m=>?_
 obtain⟨v,rfl,n⟩:=h e g m;exact n
theorem I6{o:Oper}{Q:Exit->Act->Tw->Prop}{E:Prop}(b:o.guard=none)(f:Nat)(x:Operand)(t:TypeId)(j:o.op=.call { callee:=.value (.func f),args:=#[x],argTypes:=#[t] })(u:Tv)(k:a.eval x=u)(g:∀args w,(callFunc f args).run prog w=.ok (.enter f args) w)(R:Ending->Tw->Prop)(i:Zc f #[u] W R)(h:∀e d,R e d->∃v,e=Zr v/\K (a.put o.dst v) d):
 if Region.wanted o (yielded c a.tmps)=true then Oper.wp prog o a W K Q else E :=
 Ih b f #[x] #[t] j #[u] (by simp[k]) g R i h
theorem Gc{o:Oper}{Q:Exit->Act->Tw->Prop}{E:Prop}(b:o.guard=none)(f:Nat)(x y:Operand)(t s:TypeId)(j:o.op=.call { callee:=.value (.func f),args:=#[x,y],argTypes:=#[t,s] })(u v:Tv)(k:a.eval x=u)(l:a.eval y=v)(g:∀args w,(callFunc f args).run prog w=.ok (.enter f args) w)(R:Ending->Tw->Prop)(i:Zc f #[u,v] W R)(h:∀e d,R e d->∃v,e=Zr v/\K (a.put o.dst v) d):
 if Region.wanted o (yielded c a.tmps)=true then Oper.wp prog o a W K Q else E :=
 Ih b f #[x,y] #[t,s] j #[u,v] (by simp[k,l]) g R i h
theorem Nh{o:Oper}{Q:Exit->Act->Tw->Prop}{E:Prop}(b:o.guard=none)(f:Nat)(x y z:Operand)(t s r:TypeId)(j:o.op=.call { callee:=.value (.func f),args:=#[x,y,z],argTypes:=#[t,s,r] })(u v q:Tv)(k:a.eval x=u)(l:a.eval y=v)(m:a.eval z=q)(g:∀args w,(callFunc f args).run prog w=.ok (.enter f args) w)(R:Ending->Tw->Prop)(i:Zc f #[u,v,q] W R)(h:∀e d,R e d->∃v,e=Zr v/\K (a.put o.dst v) d):
 if Region.wanted o (yielded c a.tmps)=true then Oper.wp prog o a W K Q else E :=
 Ih b f #[x,y,z] #[t,s,r] j #[u,v,q] (by simp[k,l,m]) g R i h
def U5:Value:=Zi 0
theorem AFX:(prog.info? 3).map (λi=>(i.zero,i.size,i.bytes))=some (some U5,1,8):=by kernel_rfl
theorem Ph.Fz{w:Tw}{base:Nat}{v:Tv}{l:List Int}(h:w.ownsRow base 3 1 v l.length (l.map (.int .i64))):Ph w v l:=by
 rcases Di h with⟨e,e0⟩|⟨g,c,e,_,d,b,_⟩
 ·exact .inl ⟨⟨_,_,e⟩,Yag.1 e0⟩
 subst e;refine .inr ⟨g,0,c,rfl,d,b,λj a=>?_⟩;rw[XJ,h.cellAt j (by omega),XY,XE a,getElem!_pos l j a];rfl
theorem Dm.masked{base b:Nat}{w W:Tw}{s:Ah}{u:Tv}{g n d:Nat}{L:List Ef}(h:Dm base b w s u (Zs (some (Zd g 0)) n d) L)(k:Nat)(D:k<L.length)(m:List Int)(v:Sv)(R:w.grownBy W (sv L[k]!.2).ownBlock)(hv:W.ownsRow base 3 1 (sv v) m.length (m.map (.int .i64)))(o:(sv L[k]!.2).ownBlock=(sv v).ownBlock\/∃q,(sv v).ownBlock=some q/\w.1.size<=q):
 Dm base b (W.setCell (Zd g (k*3+2)) (sv v)) ⟨s.Eb,s.qz,s.next,s.qx.set k (L[k]!.1.1,L[k]!.1.2.1,m)⟩ u (Zs (some (Zd g 0)) n d) (L.set k ((L[k]!.1.1,L[k]!.1.2.1,m),v)):=by
 have hx:L[k]! ∈L:=by rw[getElem!_pos L k D];exact Yh D
 have M:=h.Cl _ hx
 have hn:n=L.length:=by
  rcases Di h.row with⟨e,_⟩|⟨_,_,e,_⟩
  ·cases e
  cases e;rfl
 have f:W.ownsRow base 143 3 (Zs (some (Zd g 0)) n d) L.length (A8 L):=Az h.row R (λq a e=>Hn M h.row (by decide) q e a);have T:=Aq W g (k*3+2) (sv v);have p:W.1[b]? = some (Zk #[Zi s.Eb,u,Zi s.next,Zs (some (Zd g 0)) n d] 56 (0,0)):=(R.block b (Ac h.box) (λe=>Fq M h.box (by decide) e.symm)).trans h.box;have z:(Value.slice (some (Zd g 0)) n d).ownBlock=some g:=rfl;subst hn;have N:=(f.stored (k*3+2) (sv v)).1;rw[R8 v L k D] at N
 have G:A8 (L.set k (L[k]!.1,v))=A8 (L.set k ((L[k]!.1.1,L[k]!.1.2.1,m),v)):=by simp only[A8,WQ,X6];rfl
 rw[G] at N;refine⟨?_,h.low,?_,?_,?_,?_,?_⟩
 ·exact(T.block b (Ac p) (λe=>Fq f p (by decide) (by rw[z];exact e.symm))).trans p
 ·have y:=Az h.qz R (λq a e=>Hn M h.qz (by decide) q e a)
  exact Az y T (λq a e=>Hn y f (by decide) q a (by rw[z];exact e))
 ·rw[h.qx,X6]
 ·rw[WH];exact N
 ·intro x hx
  obtain⟨j,Y,rfl⟩:=Yk hx;have l:j<L.length:=by simpa using Y
  rw[YK];split
  ·exact Az hv T (λq a e=>Hn hv f (by decide) q a (by rw[z];exact e))
  rename_i r;have aa:=h.Cl _ (Yh l)
  have V:∀q,(sv L[k]!.2).ownBlock=some q->(sv L[j].2).ownBlock≠some q:=by
   intro q a c;rw[getElem!_pos L k D] at a
   rcases YQ r with J|I
   ·exact List.pairwise_iff_getElem.1 h.apart k j D l J q a c
   exact List.pairwise_iff_getElem.1 h.apart j k l D I q c a
  have y:=Az aa R (λq a e=>V q e a);exact Az y T (λq a e=>Hn y f (by decide) q a (by rw[z];exact e))
 rw[Yv];intro i j hi Y X q a c;have O:i<L.length:=by simpa using hi
 have l:j<L.length:=by simpa using Y
 have P:∀t(U:t<L.length),t≠k->(sv L[t].2).ownBlock=some q->(sv v).ownBlock≠some q:=by
  intro t U ab y h2
  rcases o with o|⟨q',e',c⟩
  ·rw[h2,getElem!_pos L k D] at o
   rcases YQ ab with J|I
   ·exact List.pairwise_iff_getElem.1 h.apart t k U D J q y o
   exact List.pairwise_iff_getElem.1 h.apart k t D U I q o y
  rw[h2] at e';cases e';have:=((h.Cl _ (Yh U)).lt q y).2;omega
 rw[YK] at a c;split at a
 ·rename_i e
  split at c
  ·omega
  rename_i r;exact P j l (λe=>r e.symm) c a
 rename_i r;split at c
 ·exact P i O (λe=>r e.symm) a c
 exact List.pairwise_iff_getElem.1 h.apart i j O l X q a c
variable{W w:Tw}{s:Ah}{u v:Tv}{L:List Ef}{g k n:Nat}
theorem Dm.sorted{base b:Nat}(h:Dm base b w s v u L)(k:Nat)(f:k<L.length)(m:List Int)(p:w.grownBy W (sv L[k]!.2).ownBlock)(O:W.ownsRow base 3 1 (sv L[k]!.2) m.length (m.map (.int .i64))):
 Dm base b W ⟨s.Eb,s.qz,s.next,s.qx.set k (L[k]!.1.1,L[k]!.1.2.1,m)⟩ v u (L.set k ((L[k]!.1.1,L[k]!.1.2.1,m),L[k]!.2)):=by
 have M:L[k]! ∈L:=by rw[getElem!_pos L k f];exact Yh f
 have g:=h.Cl _ M;have o:W.ownsRow base 143 3 u L.length (A8 L):=Az h.row p (λq c e=>Hn g h.row (by decide) q e c)
 have d:A8 (L.set k ((L[k]!.1.1,L[k]!.1.2.1,m),L[k]!.2))=A8 L:=by
  simp only[A8,WQ,X6];congr 1
  have e:Lv ((L[k]!.1.1,L[k]!.1.2.1,m),L[k]!.2)=(L.map Lv)[k]'(by simpa using f):=by rw[WG,getElem!_pos L k f];rfl
  rw[e,List.set_getElem_self]
 refine⟨(p.block b (Ac h.box) (λe=>Fq g h.box (by decide) e.symm)).trans h.box,h.low,Az h.qz p (λq c e=>Hn g h.qz (by decide) q e c),?_,?_,?_,?_⟩
 ·rw[h.qx,X6]
 ·rw[WH,d];exact o
 ·intro x M
  obtain⟨j,z,rfl⟩:=Yk M;have a:j<L.length:=by simpa using z
  rw[YK];split
  ·exact O
  rename_i I;have D:=h.Cl _ (Yh a);refine Az D p (λq c e=>?_);rw[getElem!_pos L k f] at e
  rcases YQ I with G|r
  ·exact List.pairwise_iff_getElem.1 h.apart k j f a G q e c
  exact List.pairwise_iff_getElem.1 h.apart j k a f r q c e
 rw[Yv];intro i j N z y q c n;have l:i<L.length:=by simpa using N
 have a:j<L.length:=by simpa using z
 have same:∀t(J:t<L.length),(sv ((L.set k ((L[k]!.1.1,L[k]!.1.2.1,m),L[k]!.2))[t]'(by simpa using J)).2)=sv L[t].2:=by
  intro t J;rw[YK];split
  ·rename_i e;subst e;rw[getElem!_pos L k J]
  rfl
 rw[same i l] at c;rw[same j a] at n;exact List.pairwise_iff_getElem.1 h.apart i j l a y q c n
theorem Dm.at{base b:Nat}(h:Dm base b w s v u L)(a:k<L.length):s.qx[k]! = L[k]!.1:=by rw[h.qx,getElem!_pos _ k (by simpa using a),getElem!_pos L k a,WG]
theorem Dm.final{base b:Nat}{w W w5:Tw}(h:Dm base b w s v (Zs (some (Zd g 0)) n k) L)(i:Nat)(f:i<L.length)(a:ADV)(x:Bt s.qx a.2.1=i)(d c:Nat)(t:w.grownBy w5 (sv L[i]!.2).ownBlock)(u:w5.ownsRow base 3 1 (Zs (some (Zd d 0)) (L[i]!.1.2.2.length+a.2.2.2.1.length) c) (L[i]!.1.2.2.length+a.2.2.2.1.length) (L[i]!.1.2.2.map (.int .i64)++a.2.2.2.1.map (.int .i64)))(j:(sv L[i]!.2).ownBlock=some d\/d=w.1.size)(l:(w5.setCell (Zd g (i*3+2)) (Zs (some (Zd d 0)) (L[i]!.1.2.2.length+a.2.2.2.1.length) c)).grownBy W (some d))(m:W.ownsRow base 3 1 (Zs (some (Zd d 0)) (L[i]!.1.2.2.length+a.2.2.2.1.length) c) (L[i]!.1.2.2.length+a.2.2.2.1.length) ((Ir (L[i]!.1.2.2++a.2.2.2.1)).map (.int .i64))):Iw base b W (gJ s a):=by
 have p:(L[i]!.1.2.2++a.2.2.2.1).length=L[i]!.1.2.2.length+a.2.2.2.1.length:=by simp
 have r:=h.masked i f (L[i]!.1.2.2++a.2.2.2.1) (some (Zd d 0),L[i]!.1.2.2.length+a.2.2.2.1.length,c) t (by rw[p,XL];exact u)
  (by
    rcases j with e|e
    ·exact .inl e
    exact .inr ⟨d,rfl,by omega⟩)
 have e:(L.set i ((L[i]!.1.1,L[i]!.1.2.1,L[i]!.1.2.2++a.2.2.2.1),(some (Zd d 0),L[i]!.1.2.2.length+a.2.2.2.1.length,c)))[i]! = ((L[i]!.1.1,L[i]!.1.2.1,L[i]!.1.2.2++a.2.2.2.1),(some (Zd d 0),L[i]!.1.2.2.length+a.2.2.2.1.length,c)):=by rw[getElem!_pos _ i (by simpa using f),List.getElem_set_self]
 have o:=r.sorted i (by simpa using f) (Ir (L[i]!.1.2.2++a.2.2.2.1)) (by rw[e];exact l) (by rw[e,Ml,p];exact m);rw[e] at o
 have q:gJ s a=⟨s.Eb,s.qz,s.next,(s.qx.set i (L[i]!.1.1,L[i]!.1.2.1,L[i]!.1.2.2++a.2.2.2.1)).set i (L[i]!.1.1,L[i]!.1.2.1,Ir (L[i]!.1.2.2++a.2.2.2.1))⟩:=by simp only[gJ,x,WN,h.at f,N6,List.set_set]
 rw[q];exact⟨_,_,_,o⟩
theorem Ph.len{b:To}{l:List Int}(h:Ph w (Zs b n k) l):n=l.length/\l.length<=k:=by
 rcases h with⟨⟨_,_,e⟩,e0⟩|⟨g,o,c,e,_,a,_⟩
 ·cases e;subst e0;exact⟨rfl,XH _⟩
 cases e;exact⟨rfl,a⟩
theorem AFN(base b:Nat)(s:Ah)(k:Int)(p:ByteArray)(r:Int)(m:List Int)(cl:List Aj)(nx:Int)(v:Option Addr)(D z:Nat)(ca:Option Addr)(cn cc:Nat)(w:World)(h:Iw base b w s)(hm:Ph w (.slice v D z) m)(bt:m.length<=600000)(a3:∀e∈s.qx,e.2.2.length<=60):
 Zc 157 #[.pointer (some ⟨b,0,none⟩),.agg #[.int .i64 k,.string p,.int .i64 r,.slice v D z,.slice ca cn cc,.int .i64 nx]] w (Lg base b w (dW s (k,p,r,m,cl,nx)) (gJ s (k,p,r,m,cl,nx))):=by
 obtain⟨cv,fv,L,M⟩:=h;obtain⟨va,vc,e1,_⟩:=Au M.qz;subst e1;have bw:=Ac M.box;have t:=M.size;have hlen:=M.len;have T:Hid (Zb w (w.alloc (.cells #[.int .i64 k,.string p,.int .i64 r,.slice v D z,.slice ca cn cc,.int .i64 nx] 111))):=(XB _ _).alloc (Y' _) _
 have ae:Hid (Zc 201 #[.pointer (some ⟨b,0,none⟩),.string p] (w.alloc (.cells #[.int .i64 k,.string p,.int .i64 r,.slice v D z,.slice ca cn cc,.int .i64 nx] 111)) λe w'=>e=.returned (.int .i64 (Bt s.qx p))/\Below (w.1.size+1) (w.alloc (.cells #[.int .i64 k,.string p,.int .i64 r,.slice v D z,.slice ca cn cc,.int .i64 nx] 111)) w'):=by have:=Wj base b s _ _ L p _ (M.up T.o);simp only[Zb,XD] at this;exact this
 have b3:b≠w.1.size:=by omega
 by_cases hwh:0<=Bt s.qx p
 ·obtain⟨i,hi,hf,_⟩:=kB hwh
  have al:L[i]!.1.2.2.length<=60:=by rw[<-M.at (by omega)];exact a3 _ (bB hi)
  rw[hlen] at hi
  rcases Di M.row with⟨_,e0⟩|⟨g,c,e2,bq,b0,bx,bz⟩
  ·omega
  subst e2;have HI:=Aa M;have b2:¬((i:Int)<0):=by omega
  have b1:(i:Int)<(L.length:Int):=by omega
  have HF:=Aa hf
  have o:Hid (dW s (k,p,r,m,cl,nx)↔Dj m L[i]!.1.2.1=true/\aK m L[i]!.1.2.2=false):=by
   show dW s (k,p,r,m,cl,nx)↔_;simp only[dW,hf,WN,M.at hi];constructor
   ·rintro⟨_,a,b⟩;exact⟨a,b⟩
   rintro⟨a,b⟩;exact⟨by omega,a,b⟩
  rw[hf] at ae;have hx:L[i]! ∈L:=by rw[getElem!_pos L i hi];exact Yh hi
  have bh:=Aa hx;obtain⟨⟨⟨xp,xr,l⟩,O,xn,P⟩,N⟩:∃x,L[i]! = x:=⟨_,rfl⟩;have J:=Aa N
  have HK:Hid (∀W,Below (w.1.size+1) (w.alloc (.cells #[.int .i64 k,.string p,.int .i64 r,.slice v D z,.slice ca cn cc,.int .i64 nx] 111)) W->W.cell? ⟨w.1.size,3,none⟩=some (.slice v D z)/\W.cell? ⟨g,i*3+1,none⟩=some (.int .i64 xr)/\W.cell? ⟨g,i*3+2,none⟩=some (.slice O xn P)/\Dm base b W s (.slice va s.qz.length vc) (.slice (some ⟨g,0,none⟩) L.length c) L/\Zb w W/\Ph W (.slice v D z) m/\Ph W (.slice O xn P) l/\W.frozen? ⟨g,i*3+2,none⟩=false/\w.1.size+1<=W.1.size):=λW hW=>by
   have aq:=T.o.trans (hW.mono (XA _));have af:=M.up aq;have h1:=AJD af.row rfl i hi;rw[N] at h1;have a9:=af.Cl _ hx;rw[N] at a9;have bc:=hW.size;rw[XD] at bc;refine⟨(hW.cell (p:=⟨w.1.size,3,none⟩) (XU _)).trans (by simp),?_,?_,af,aq,hm.below aq,Ph.Fz a9,af.row.frozenAt _,bc⟩
   ·have:=h1 1 _ rfl;rwa[XJ] at this
   have:=h1 2 _ rfl;rwa[XJ] at this
  have a0:=Aa (λ(W:Tw)(hW:Ph W (.slice v D z) m)=>gW _ m xr W hW (by unfold maxLen;omega))
  rw[N] at al o;simp only at al o;have ax:=Aa (λ(W:Tw)(h1:Ph W (.slice v D z) m)(h2:Ph W (.slice O xn P) l)=>ACa _ _ m l W h1 h2 (by unfold maxLen;omega) (by unfold maxLen;omega))
  have a1:∀args w,(callFunc 148 args).run prog w=.ok (.enter 148 args) w:=enters_of func148 (by kernel_rfl) rfl;have a2:∀args w,(callFunc 203 args).run prog w=.ok (.enter 203 args) w:=enters_of func203 (by kernel_rfl) rfl;have br:=Aa a1;have bs:=Aa a2;obtain⟨iI,a7,bd,an,ao⟩:=info_parts AFX;have ac:=Zy a7 bd an ao
  have ay:Hid (0<m.length->∃mg mo,v=some ⟨mg,mo,none⟩/\D=m.length/\mg<w.1.size/\∀j,j<m.length->w.cell? ⟨mg,mo+j,none⟩=some (.int .i64 m[j]!)):=λh0=>by
   rcases hm with⟨_,e⟩|⟨mg,mo,b7,e,au,_,ag⟩
   ·subst e;simp at h0
   cases e;exact⟨mg,mo,rfl,rfl,au,ag⟩
  have ai:xn=l.length:=by have:=(Ph.Fz (by have:=M.Cl _ hx;rw[N] at this;exact this):Ph w (sv (O,xn,P)) l).len;exact this.1
  have bp:=Aa ai;clear M hlen hf hwh hx N a7 bd an ao a1 a2 hm a3 ai;go_enter func157,ntmps157;go_wp2_with (go_at_call 201;apply ae.o.mono;rintro e w1⟨rfl,Y⟩;obtain⟨c1,c2,c3,c4,c5,c6,c7,c8,c9⟩:=HK.o _ Y;obtain⟨_,_,_,k3,kf⟩:=c4.cells);clear k3 kf c3 c8 c4 c5 c7;have ap:=Aa Y;have U:Hid (∀d os,Zc 148 #[.slice v D z,.int .i64 xr] (grow (redrawn w1 d) os) λe aw=>e=.returned (.bool (Dj m xr))/\∃p:Regrown,aw=grow (redrawn w1 p.d) p.os):=λd os=>Calls.regrown_of (a0.o _ (c6.below (below_regrown w1 d os)))
  clear Y c6;replace c1:=cell_regrown c1;replace c2:=cell_regrown c2;have bv:=Aa (rfl:Dj m xr=Dj m xr);cases hri:Dj m xr with
  | false=>
    rw[hri] at U o;refine wp_region_quiet_below (by kernel_rfl) (by kernel_rfl) ?_
    repeat (go_big_quiet_step (first
     | (go_at_call_of 148 (#[.slice v D z,.int .i64 xr]:Array Value);exact U.o _ _)))
    refine wpQuiet_nil ?_;intro _ I;obtain⟨⟨dq,aj⟩,n⟩:=I;subst n;go_wp2;go_ret;refine Sj (by decide) ?_ (λhh=>by have:=(o.o.1 hh).1;simp at this);exact((T.o.trans (ap.o.mono (XA _))).mono t).trans ((below_regrown w1 dq aj).mono (by omega))
  | true=>
    rw[hri] at U o;refine wp_region_quiet_below (by kernel_rfl) (by kernel_rfl) ?_
    repeat (go_big_quiet_step (first
     | (go_at_call_of 148 (#[.slice v D z,.int .i64 xr]:Array Value);exact U.o _ _)))
    refine wpQuiet_nil ?_;intro _ I;obtain⟨⟨dq,aj⟩,n⟩:=I;subst n;have aa:=Aa (ap.o.trans ((below_regrown w1 dq aj).mono c9));clear c1 c2 c9 ap;generalize grow (redrawn w1 dq) aj=w2 at *;go_wp2_with fail;obtain⟨c1,_,c3,_,_,c6,c7,_,c9⟩:=HK.o _ aa.o;have R:Hid (∀d os,Zc 203 #[.slice v D z,.slice O xn P] (grow (redrawn w2 d) os) λe aw=>e=.returned (.bool (aK m l))/\∃p:Regrown,aw=grow (redrawn w2 p.d) p.os):=λd os=>Calls.regrown_of (ax.o _ (c6.below (below_regrown w2 d os)) (c7.below (below_regrown w2 d os)))
    clear c6 c7;replace c1:=cell_regrown c1;replace c3:=cell_regrown c3;cases han:aK m l with
    | true=>
      rw[han] at R o;refine wp_region_quiet_below (by kernel_rfl) (by kernel_rfl) ?_
      repeat (go_big_quiet_step (first
       | (go_at_call_of 203 (#[.slice v D z,.slice O xn P]:Array Value);exact R.o _ _)))
      refine wpQuiet_nil ?_;intro _ I;obtain⟨⟨dr,ak⟩,n⟩:=I;subst n;go_wp2;go_ret;refine Sj (by decide) ?_ (λhh=>by have:=(o.o.1 hh).2;simp at this);exact((T.o.trans (aa.o.mono (XA _))).mono t).trans ((below_regrown w2 dr ak).mono (by omega))
    | false=>
      rw[han] at R o;refine wp_region_quiet_below (by kernel_rfl) (by kernel_rfl) ?_
      repeat (go_big_quiet_step (first
       | (go_at_call_of 203 (#[.slice v D z,.slice O xn P]:Array Value);exact R.o _ _)))
      refine wpQuiet_nil ?_;intro _ I;obtain⟨⟨dr,ak⟩,n⟩:=I;subst n;have bf:=Aa (aa.o.trans ((below_regrown w2 dr ak).mono c9));clear c1 c3 c9 aa;generalize grow (redrawn w2 dr) ak=w3 at *;go_wp2_with fail;obtain⟨c1,_,c3,c4,c5,_,_,c8,c9⟩:=HK.o _ bf.o;have C4:=Aa c4;have C5:=Aa c5
      have a8:0<m.length:=by
       rcases Yx m.length with e|e
       ·rw[Yag.1 e] at hri;simp[Dj] at hri
       exact e
      obtain⟨mg,mo,rfl,rfl,au,ag⟩:=ay.o a8
      have bi:Hid (∀j u,(m.map (Value.int .i64))[j]? = some u->w3.cell? ⟨mg,mo+j,none⟩=some u):=λj u hj=>by
       rw[XY] at hj
       have ar:j<m.length:=by
        rcases Yc j m.length with h|h
        ·exact h
        rw[Yb h] at hj;cases hj
       rw[XE ar] at hj;rw[(C5.o.cell (p:=⟨mg,mo+j,none⟩) au).trans (ag j ar),getElem!_pos m j ar];exact hj
      have ai:=bp.o;subst ai
      have ad:Hid (w3.ownsRow base 3 1 (.slice O l.length P) l.length (l.map (.int .i64))):=by have:=C4.o.Cl _ bh.o;rw[J.o] at this;exact this
      clear c4 c5 ag R ax a0 U ae ay HK hri han;have b4:=C5.o.size
      go_region_law
       (first
         | (refine step_append_lies _ (by rfl) (.tmp 40) (.tmp 42) 23 (by rfl) base 3 iI U5 1 8 underlying23 ac.o.1 ac.o.2.1 ac.o.2.2.1 ac.o.2.2.2 rfl (by decide) (.slice O l.length P) l.length (l.map (.int .i64)) (by rfl) ad.o ⟨mg,mo,none⟩ m.length z (m.map (.int .i64)) (by rfl) (by simp) (λj u hj=>by rw[Addr.add_lit];exact bi.o j u hj) (by intro u hu;obtain⟨y,_,rfl⟩:=List.mem_map.1 hu;rfl) a8 (by unfold maxLen;omega) (by omega) (by show base<=w3.1.size;omega) _ rfl ?_
            intro X f w5 av G a4 bu;have az:Hid (some g≠(Value.slice O l.length P).ownBlock):=Aa (λe=>Hn ad.o C4.o.row (by decide) g e.symm rfl);have r1:=(G.cell_far ⟨g,i*3+2,none⟩ (by show g<w3.1.size;omega) az.o).trans c3;have r2:=(G.frozen_far ⟨g,i*3+2,none⟩ (by show g<w3.1.size;omega) az.o).trans c8)
         | fail)
      all_goals
       have ab:Hid (w3.grownBy w5 (Value.slice O l.length P).ownBlock):=Aa ⟨G.os,G.tape,G.output,G.size,G.block⟩;have bn:=Aa (((C5.o.mono t)).grown ab.o (by omega) (λj hj=>(ad.o.lt j hj).1));have b5:=ab.o.size;have bg:=Aa (Hn av (Az C4.o.row ab.o (λq hq e=>Hn ad.o C4.o.row (by decide) q e hq)) (by decide));have bk:=Aa (Az av (Aq w5 g (i*3+2) (.slice (some ⟨X,0,none⟩) (l.length+m.length) f)) (λq hq e=>bg.o q hq e));have bo:=Aa (bn.o.setCell (p:=⟨g,i*3+2,none⟩) bq (.slice (some ⟨X,0,none⟩) (l.length+m.length) f));have k6:=WB w5 ⟨g,i*3+2,none⟩ (.slice (some ⟨X,0,none⟩) (l.length+m.length) f) (by rw[r1];rfl);have bb:(w5.setCell ⟨g,i*3+2,none⟩ (.slice (some ⟨X,0,none⟩) (l.length+m.length) f)).1.size=w5.1.size:=by simp[World.setCell]
       have bl:=Aa bb;obtain⟨w6,ah⟩:∃w6,w6=w5.setCell ⟨g,i*3+2,none⟩ (.slice (some ⟨X,0,none⟩) (l.length+m.length) f):=⟨_,rfl⟩
       have bm:Hid (Zc 204 #[.slice (some ⟨X,0,none⟩) (l.length+m.length) f] w6 λe w'=>e=.returned (.tuple #[])/\w'.ownsRow base 3 1 (.slice (some ⟨X,0,none⟩) (l.length+m.length) f) (l.length+m.length) ((Ir (l++m)).map (.int .i64))/\w6.grownBy w' (some X)):=by have h6:=bk.o;rw[<-ah] at h6;have:=AF3 base X f (l++m) w6 (by rw[XG,XL];exact h6) (by rw[XG];omega);rw[XG] at this;exact this
       rw[<-ah] at k6 ⊢;have V:=Aa ah;clear r1 r2 bb ah c1 c3 c8;go_wp2_with (go_at_call 204;apply bm.o.mono;rintro e w7⟨rfl,ba,a6⟩);go_ret;have a5:Below base w w6:=by rw[V.o];exact bo.o
       refine o5 ?_ (o.o.2 ⟨by first|trivial|rfl,by first|trivial|rfl⟩) ?_
       ·exact a5.grown a6 (by have:=a5.size;rw[V.o,bl.o];omega) (λj hj=>by cases hj;exact(ba.lt X rfl).1)
       have am:=a6;rw[V.o] at am;refine C4.o.final i hi (k,p,r,m,cl,nx) HF.o X f (w5:=w5) ?_ ?_ ?_ ?_ ?_
       ·rw[J.o];exact ab.o
       ·rw[J.o];exact av
       ·rw[J.o];exact a4
       ·rw[J.o];exact am
       rw[J.o];exact ba
 have b6:Bt s.qx p<0:=by omega
 have bj:Hid (¬dW s (k,p,r,m,cl,nx)):=λhh=>hwh hh.1
 generalize Bt s.qx p=wh at *;clear M hlen;go_enter func157,ntmps157;go_wp2_with (go_at_call 201;apply ae.o.mono;rintro e w1⟨rfl,Y⟩);go_ret;exact Sj (by decide) ((T.o.trans (Y.mono (XA _))).mono t) bj.o
def bH(W:World)(v:Value)(l:List Aj):Prop:=((∃a c,v=.slice a 0 c)/\l=[])\/∃g o c,v=.slice (some ⟨g,o,none⟩) l.length c/\l.length<=c/\I1 W g o l
theorem bH.below{w W:Tw}{v:Tv}{l:List Aj}(h:bH w v l)(e:Zb w W):bH W v l:=by
 rcases h with h|⟨g,o,c,a,b,d⟩
 ·exact .inl h
 exact .inr ⟨g,o,c,a,b,d.below e⟩
theorem bH.len{a:To}{c:Nat}{l:List Aj}(h:bH w (Zs a n c) l):n=l.length:=by
 rcases h with⟨⟨_,_,e⟩,e0⟩|⟨g,o,c,e,_,_⟩
 ·cases e;subst e0;rfl
 cases e;rfl
theorem Vs(a:To)(n c:Nat)(l:List Aj)(next:Int)(w:Tw)(h:bH w (Zs a n c) l)(j:Lw w)(b:∀x∈l,x.2.1.size<=maxLen/\x.2.2.2.2.2.2.size<=maxLen):
 Zc 40 #[Zs a n c,Zi next] w λe k=>e=Zr (Zo (Be l next))/\Zb w k:=by
 have f:=h.len
 by_cases h8:1<=l.length/\l.length<=8
 ·rcases h with⟨e,e0⟩|⟨g,o,m,e,d,i⟩
  ·subst e0;simp at h8
  cases e;exact AE6 g o c l next w i h8.1 h8.2 d j b
 rw[<-xO h8];exact ACH a n c next w (by rw[f];exact h8)
theorem Dm.AJq{base b:Nat}{v u f:Tv}(h:Dm base b w s v f L)(cl:List Aj)(i:Int)(d:w.grownBy W (some b))(a:W.1[b]? = some (Zk #[Zi s.Eb,u,Zi i,f] 56 (0,0)))(g:w.ownsRow base 69 7 u cl.length (Av cl)):Dm base b W ⟨s.Eb,cl,i,s.qx⟩ u f L :=
 ⟨a,h.low,Az g d (λq c e=>Fq g h.box (by decide) (by rw[c];exact e.symm)),h.qx,Az h.row d (λq c e=>Fq h.row h.box (by decide) (by rw[c];exact e.symm)),λx hx=>Az (h.Cl x hx) d (λq c e=>Fq (h.Cl x hx) h.box (by decide) (by rw[c];exact e.symm)),h.apart⟩
theorem Gp{a b c:Tw}(h:a.grownBy b (some g))(k:b.grownBy c (some g)):a.grownBy c (some g) :=
 ⟨k.os.trans h.os,k.tape.trans h.tape,k.output.trans h.output,XI h.size k.size,λi e d=>(k.block i (Ya e h.size) d).trans (h.block i e d)⟩
theorem AAC(base b:Nat)(s:Ah)(k:Int)(p:ByteArray)(r:Int)(m:List Int)(cl:List Aj)(a:Int)(G:Option Addr)(J I:Nat)(i:Option Addr)(j f:Nat)(w:World)(h:Iw base b w s)(hc:bH w (.slice i j f) cl)(t:∀x∈cl,x.2.1.size<=maxLen/\x.2.2.2.2.2.2.size<=maxLen)(hw:Lw w):
 Zc 158 #[.pointer (some ⟨b,0,none⟩),.agg #[.int .i64 k,.string p,.int .i64 r,.slice G J I,.slice i j f,.int .i64 a]] w (Lg base b w (j7 Bv Cm s (k,p,r,m,cl,a)) (AI8 s (k,p,r,m,cl,a))):=by
 obtain⟨cv,fv,L,y⟩:=h;obtain⟨va,vc,e1,_⟩:=Au y.qz;obtain⟨fa,fc,e2,_⟩:=Au y.row;subst e1 e2;have aq:=Ac y.box;have n:=y.size;have ag:Hid (Zb w (w.alloc (.cells #[.int .i64 k,.string p,.int .i64 r,.slice G J I,.slice i j f,.int .i64 a] 111))):=(XB _ _).alloc (Y' _) _
 have HK:Hid (∀W,Below (w.1.size+1) (w.alloc (.cells #[.int .i64 k,.string p,.int .i64 r,.slice G J I,.slice i j f,.int .i64 a] 111)) W->W.cell? ⟨w.1.size,4,none⟩=some (.slice i j f)/\W.cell? ⟨w.1.size,5,none⟩=some (.int .i64 a)/\Dm base b W s (.slice va s.qz.length vc) (.slice fa L.length fc) L/\Zb w W/\bH W (.slice i j f) cl/\Lw W/\w.1.size+1<=W.1.size):=λW z=>by have v:=ag.o.trans (z.mono (XA _));have t:=z.size;rw[XD] at t;exact⟨(z.cell (p:=⟨w.1.size,4,none⟩) (XU _)).trans (by simp),(z.cell (p:=⟨w.1.size,5,none⟩) (XU _)).trans (by simp),y.up v,v,hc.below v,hw.below v,t⟩
 have Y:=Aa (λ(W:Tw)(h1:bH W (.slice i j f) cl)(h2:Lw W)=>Vs i j f cl a W h1 h2 t)
 have P:Hid (j7 Bv Cm s (k,p,r,m,cl,a)↔Be cl a=true/\s.next<=a):=by show j7 Bv Cm s (k,p,r,m,cl,a)↔_;rw[I9];exact Iff.rfl
 have au:b≠w.1.size:=by omega
 clear y hc t hw;go_enter func158,ntmps158;go_wp2_with fail;obtain⟨c1,c2,U,V,c5,c6,c7⟩:=HK.o _ (XB _ _);obtain⟨_,_,k2,_,_⟩:=U.cells;have l:Hid (∀d os,Zc 40 #[.slice i j f,.int .i64 a] (grow (redrawn (w.alloc (.cells #[.int .i64 k,.string p,.int .i64 r,.slice G J I,.slice i j f,.int .i64 a] 111)) d) os) λe ao=>e=.returned (.bool (Be cl a))/\∃af:Regrown,ao=grow (redrawn (w.alloc (.cells #[.int .i64 k,.string p,.int .i64 r,.slice G J I,.slice i j f,.int .i64 a] 111)) af.d) af.os):=λd os=>Calls.regrown_of (Y.o _ (c5.below (below_regrown _ d os)) (c6.below (below_regrown _ d os)))
 clear U V c5 c6;have aa:=Aa c7;have O:Hid (Below (w.1.size+1) (w.alloc (.cells #[.int .i64 k,.string p,.int .i64 r,.slice G J I,.slice i j f,.int .i64 a] 111)) (w.alloc (.cells #[.int .i64 k,.string p,.int .i64 r,.slice G J I,.slice i j f,.int .i64 a] 111))):=XB _ _;clear c7;generalize an:w.alloc (.cells #[.int .i64 k,.string p,.int .i64 r,.slice G J I,.slice i j f,.int .i64 a] 111)=wq at *;clear an;replace c1:=cell_regrown c1;replace c2:=cell_regrown c2;replace k2:=cell_regrown k2
 by_cases hok:Be cl a=true/\s.next<=a
 ·obtain⟨q,al⟩:=hok
  have ae:decide (a<s.next)=false:=decide_eq_false (by omega);have ap:¬a<s.next:=by omega
  have D:=(I9 cl a).1 q;rw[q] at l;refine wp_region_quiet_below (by kernel_rfl) (by kernel_rfl) ?_
  repeat (go_big_quiet_step (first
   | (go_at_call_of 40 (#[.slice i j f,.int .i64 a]:Array Value);exact l.o _ _)))
  refine wpQuiet_nil ?_;intro _ T;obtain⟨⟨dq,M⟩,u⟩:=T;subst u;have N:=Aa (O.o.trans ((below_regrown wq dq M).mono aa.o));clear c1 c2 k2 l O;generalize grow (redrawn wq dq) M=w2 at *;go_wp2_with fail;obtain⟨c1,c2,U,V,c5,c6,c7⟩:=HK.o _ N.o;have C3:=Aa U;have C4:=Aa V;obtain⟨j0,j1,j2,j3,jf⟩:=U.cells
  have ah:Hid (∀W,Zb w2 W->Zc 71 #[.slice i j f] W λe w'=>∃g' c',e=.returned (.slice (some ⟨g',0,none⟩) cl.length c')/\w'.ownsRow W.1.size 69 7 (.slice (some ⟨g',0,none⟩) cl.length c') cl.length (Av cl)/\Zb W w'):=λW z=>by
   rcases c5.below z with⟨_,e0⟩|⟨g,o,c,e,ar,hs⟩
   ·rw[e0] at D;have:=D.1;simp at this
   cases e;exact P9 g o f cl W hs (by have:=D.2.1;omega)
  have ab:∀args w,(callFunc 71 args).run prog w=.ok (.enter 71 args) w:=enters_of func71 (by kernel_rfl) rfl;have X:=Aa ab;have aw:=jf 1;have ax:=jf 2;have av:=C4.o.size
  have ai:Hid (∀W,Zb w2 W->W.cell? ⟨w.1.size,5,none⟩=some (.int .i64 a)/\W.cell? ⟨b,1,none⟩=some (.slice va s.qz.length vc)/\W.cell? ⟨b,2,none⟩=some (.int .i64 s.next)/\W.frozen? ⟨b,1,none⟩=false/\W.frozen? ⟨b,2,none⟩=false/\Dm base b W s (.slice va s.qz.length vc) (.slice fa L.length fc) L):=λW z=>by have y:=C3.o.up z;obtain⟨_,i1,i2,_,jj⟩:=y.cells;exact⟨(z.cell (p:=⟨w.1.size,5,none⟩) (by show w.1.size<_;omega)).trans c2,i1,i2,jj 1,jj 2,y⟩
  clear U V c5 c6 j0 j3 jf ab D Y HK
  go_region_law
   (first
     | (refine I6 (by rfl) 71 (.tmp 23) 32 (by rfl) (.slice i j f) (by rfl) X.o _ (ah.o _ (XB _ _).drew) ?_
        rintro e w4⟨g4,V,rfl,am,ad⟩;have ac:Zb w2 w4:=Below.Ap (XB _ _).drew ad;refine⟨_,rfl,?_⟩;obtain⟨p1,p2,p3,p4,p5,p6⟩:=ai.o w4 ac)
     | fail)
  all_goals
   go_wp2;go_ret;have ho:w4.ownsRow base 69 7 (.slice (some ⟨g4,0,none⟩) cl.length V) cl.length (Av cl):=G1 am (by show base<=w2.1.size;omega);have ak:Below base w w4:=(C4.o.mono n).trans (ac.mono (by omega));refine o5 ((ak.setCell (p:=⟨b,_,none⟩) p6.low _).setCell (p:=⟨b,_,none⟩) p6.low _) (P.o.2 ⟨q,al⟩) ⟨_,_,_,p6.AJq cl a (Gp (Aq _ _ _ _) (Aq _ _ _ _)) ?_ ho⟩;rw[As _ _ _ _ _ _ (As _ _ _ _ _ _ p6.box)];rfl
 have R:(!(Be cl a) || decide (a<s.next))=true:=by
  cases q:Be cl a with
  | false=>rfl
  | true=>
    have:¬s.next<=a:=λhh=>hok ⟨q,hh⟩
    simp;omega
 have aj:Hid (¬j7 Bv Cm s (k,p,r,m,cl,a)):=λhh=>hok (P.o.1 hh)
 clear hok P;generalize Be cl a=rb at l R;cases rb <;> cases ae:decide (a<s.next)
 case true.false=>rw[ae] at R;simp at R
 all_goals
  refine wp_region_quiet_below (by kernel_rfl) (by kernel_rfl) ?_
  repeat (go_big_quiet_step (first
   | (go_at_call_of 40 (#[.slice i j f,.int .i64 a]:Array Value);exact l.o _ _)))
  refine wpQuiet_nil ?_;intro _ T;obtain⟨⟨dq,M⟩,u⟩:=T;subst u;have N:=Aa (O.o.trans ((below_regrown wq dq M).mono aa.o));go_wp2;go_ret;exact Sj (by decide) ((HK.o _ N.o).2.2.2.1.mono n) aj.o
variable{s:Ah}{a:ADV}{c j k n:Nat}{W w:Tw}{u v:Tv}{L:List Ef}{l:List ADV}
def Xx(s:Ah)(a:ADV)(t:Ah):Prop:=pQ Bx Bv Cm s a t
def Ol(base b:Nat)(w:World)(s:Ah)(a:ADV)(e:Ending)(d:World):Prop :=
 ∃c:Int,e=.returned (Zi c)/\Below base w d/\((c=0/\∃t,Xx s a t/\Iw base b d t)\/(c≠0/\∀t,¬Xx s a t))
theorem Ol.of{base b:Nat}{w w0 W:Tw}{ok:Prop}{t:Ah}{e:Ending}(h:Lg base b w0 ok t e W)(k:Below base w w0)(i:ok->Xx s a t)(j:∀u,Xx s a u->ok):∃c:Int,e=Zr (Zi c)/\Ol base b w s a (Zr (Zi c)) W:=by
 obtain⟨c,rfl,g,l⟩:=h;refine⟨c,rfl,c,rfl,k.trans g,?_⟩
 rcases l with⟨f,d,m⟩|⟨f,d⟩
 ·exact .inl ⟨f,t,i d,m⟩
 exact .inr ⟨f,λu n=>d (j u n)⟩
structure Om(W:World)(a:ADV)(ma:Option Addr)(mn mc:Nat)(ca:Option Addr)(cn cc:Nat):Prop where
 qv:Ph W (.slice ma mn mc) a.2.2.2.1
 qz:bH W (.slice ca cn cc) a.2.2.2.2.1
 qk:a.2.1.size<=maxLen
 Iz:a.2.2.2.1.length<=600000
 texts:∀x∈a.2.2.2.2.1,x.2.1.size<=maxLen/\x.2.2.2.2.2.2.size<=maxLen
theorem Om.below{w W:Tw}{a:ADV}{d:To}{n k:Nat}{b:To}{i j:Nat}(h:Om w a d n k b i j)(c:Zb w W):Om W a d n k b i j :=
 ⟨h.qv.below c,h.qz.below c,h.qk,h.Iz,h.texts⟩
theorem V1(base b:Nat)(s:Ah)(k:Int)(p:Tb)(r:Int)(m:List Int)(cl:List Aj)(d:Int)(y:To)(D z:Nat)(o:To)(v q:Nat)(w:Tw)(h:Iw base b w s)(U:Om w (k,p,r,m,cl,d) y D z o v q)(V:Lw w)(P:Good Bv Cm s):
 Zc 99 #[Zp (some (Zd b 0)),Zg #[Zi k,Zt p,Zi r,Zs y D z,Zs o v q,Zi d]] w (Ol base b w s (k,p,r,m,cl,d)):=by
 have n:Hid (Zb w (w.alloc (Zk #[Zi k,Zt p,Zi r,Zs y D z,Zs o v q,Zi d] 111))):=Zal;obtain⟨X,Y,L,R⟩:=h;have I:=R.size;have M:Iw base b (w.alloc (Zk #[Zi k,Zt p,Zi r,Zs y D z,Zs o v q,Zi d] 111)) s:=⟨X,Y,L,R.up n.o⟩;have i:=U.below n.o;have O:=V.below n.o;have N:Below base w (w.alloc (Zk #[Zi k,Zt p,Zi r,Zs y D z,Zs o v q,Zi d] 111)):=n.o.mono I;have H1:=Aa (N3 base b s k p r m cl d y D z o v q _ M i.qk P.Iz);have H2:=Aa (vP base b s k p r m cl d y D z o v q _ M P.Iz);have H3:=Aa (AFN base b s k p r m cl d y D z o v q _ M i.qv i.Iz (λe he=>Qr P he));have J:=Aa (AAC base b s k p r m cl d y D z o v q _ M i.qz i.texts O);have j:=Aa N;clear M i O N U V P R
 by_cases k1:k=1
 ·subst k1
  have G:Hid (∀e l,Lg base b _ _ _ e l->_):=λe l f=>Ol.of (s:=s) (a:=(1,p,r,m,cl,d)) (ok:=jP Bx s (1,p,r,m,cl,d)) (t:=oE s (1,p,r,m,cl,d)) f j.o (λok=>.inl ⟨rfl,ok,rfl⟩) (λu x=>by
   rcases x with⟨_,h,_⟩|⟨e,_⟩|⟨e,_⟩|⟨e,_⟩
   ·exact h
   all_goals simp at e)
  clear H2 H3 J;go_enter func99,ntmps99;go_wp2_with (go_at_call 155;apply H1.o.mono;intro e T f;obtain⟨c,rfl,hp⟩:=G.o _ _ f;have g:=Aa hp;clear f hp);go_ret;exact g.o
 by_cases k2:k=2
 ·subst k2
  have G:Hid (∀e l,Lg base b _ _ _ e l->_):=λe l f=>Ol.of (s:=s) (a:=(2,p,r,m,cl,d)) (ok:=0<=Bt s.qx p) (t:=tI s (2,p,r,m,cl,d)) f j.o (λok=>.inr (.inl ⟨rfl,ok,rfl⟩)) (λu x=>by
   rcases x with⟨e,_⟩|⟨_,h,_⟩|⟨e,_⟩|⟨e,_⟩
   ·simp at e
   ·exact h
   all_goals simp at e)
  clear H1 H3 J;go_enter func99,ntmps99;go_wp2_with (go_at_call 156;apply H2.o.mono;intro e T f;obtain⟨c,rfl,hp⟩:=G.o _ _ f;have g:=Aa hp;clear f hp);go_ret;exact g.o
 by_cases k3:k=3
 ·subst k3
  have G:Hid (∀e l,Lg base b _ _ _ e l->_):=λe l f=>Ol.of (s:=s) (a:=(3,p,r,m,cl,d)) (ok:=dW s (3,p,r,m,cl,d)) (t:=gJ s (3,p,r,m,cl,d)) f j.o (λok=>.inr (.inr (.inl ⟨rfl,ok,rfl⟩))) (λu x=>by
   rcases x with⟨e,_⟩|⟨e,_⟩|⟨_,h,_⟩|⟨e,_⟩
   ·simp at e
   ·simp at e
   ·exact h
   simp at e)
  clear H1 H2 J;go_enter func99,ntmps99;go_wp2_with (go_at_call 157;apply H3.o.mono;intro e T f;obtain⟨c,rfl,hp⟩:=G.o _ _ f;have g:=Aa hp;clear f hp);go_ret;exact g.o
 by_cases k4:k=4
 ·subst k4
  have G:Hid (∀e l,Lg base b _ _ _ e l->_):=λe l f=>Ol.of (s:=s) (a:=(4,p,r,m,cl,d)) (ok:=j7 Bv Cm s (4,p,r,m,cl,d)) (t:=AI8 s (4,p,r,m,cl,d)) f j.o (λok=>.inr (.inr (.inr ⟨rfl,ok,rfl⟩))) (λu x=>by
   rcases x with⟨e,_⟩|⟨e,_⟩|⟨e,_⟩|⟨_,h,_⟩
   ·simp at e
   ·simp at e
   ·simp at e
   exact h)
  clear H1 H2 H3;go_enter func99,ntmps99;go_wp2_with (go_at_call 158;apply J.o.mono;intro e T f;obtain⟨c,rfl,hp⟩:=G.o _ _ f;have g:=Aa hp;clear f hp);go_ret;exact g.o
 have W:Hid (∀t,¬Xx s (k,p,r,m,cl,d) t):=λt x=>by
  rcases x with⟨e,_⟩|⟨e,_⟩|⟨e,_⟩|⟨e,_⟩
  ·exact k1 e
  ·exact k2 e
  ·exact k3 e
  exact k4 e
 clear H1 H2 H3 J;go_enter func99,ntmps99;go_wp2;go_ret;exact⟨1,rfl,j.o,.inr ⟨by decide,W.o⟩⟩
theorem V3{e:Nat}{z:Nat}{F:Nat}{J:Tv}{ρ:Go.Shelf.Ren}(L:SlLaysE0.n41 prog ρ)(R:ρ.f 41=F)(P:ρ.t 23=e)(b:(prog.info? e).map (λi=>(i.zero,i.size,i.bytes))=some (some J,z,k))(I:J.cells.size=z)(y:0<z)(p:k<=1000)(x:∀w,(Go.sizeOf e).run prog w=.ok z w)(base:Nat)(v:Tv)(n:Nat)(xs:List Tv)(w:Tw)(h:w.ownsRow base e z v n xs)(O:∀u∈xs,u.oneCell'=true)(W:n<=1000):
 Zc F #[v] w λen m=>∃a c,en=Zr (Zs a n c)/\m.ownsRow w.1.size e z (Zs a n c) n xs/\Zb w m:=by
 subst R P
 rcases Di h with⟨o,e0⟩|⟨g,c,o,_,Y,U,V⟩
 ·subst o e0
  refine(AnyE.slices_Clone_nil L 0 0 w).mono ?_;rintro en m⟨rfl,rfl⟩;refine⟨none,0,rfl,?_,XB _ _⟩;have:=h.1;rw[Nat.zero_mul] at this;rw[Yag.1 this];exact XF _ _ _ _
 subst o;obtain⟨X,q,d,D,G⟩:=info_parts b;refine(AnyE.slices_Clone L X J z k q d D G I y x g 0 n c xs w h.1 (by unfold maxLen;omega) (by have:=YS W p;omega) (λj u r=>?_) O).mono ?_
 ·have s:j<n*z:=by
   rcases Yc j xs.length with l|l
   ·rw[h.1] at l;exact l
   rw[Yb l] at r;cases r
  rw[XJ,h.cellAt j s];exact r
 rintro en m⟨v',rfl,M,_,T⟩;obtain⟨a,N,rfl,_⟩:=Au M;exact⟨a,N,rfl,M,T⟩
theorem wI(base:Nat)(v:Tv)(n:Nat)(l:List Aj)(w:Tw)(h:w.ownsRow base 69 7 v n (Av l))(d:n<=1000):
 Zc 71 #[v] w λen b=>∃a c,en=Zr (Zs a n c)/\b.ownsRow w.1.size 69 7 (Zs a n c) n (Av l)/\Zb w b :=
 V3 layClo rfl rfl Kh rfl (by decide) (by decide) sizeOf69 base v n _ w h (Ni l) d
theorem yS(base:Nat)(v:Tv)(n:Nat)(l:List Ef)(w:Tw)(h:w.ownsRow base 143 3 v n (A8 l))(d:n<=1000):
 Zc 154 #[v] w λen b=>∃a c,en=Zr (Zs a n c)/\b.ownsRow w.1.size 143 3 (Zs a n c) n (A8 l)/\Zb w b :=
 V3 layCloneE rfl rfl AGJ rfl (by decide) (by decide) sizeOf143 base v n _ w h (fK l) d
theorem vW(base:Nat)(v:Tv)(n:Nat)(l:List Int)(w:Tw)(h:w.ownsRow base 3 1 v n (l.map (.int .i64)))(d:n<=1000):
 Zc 17 #[v] w λen b=>∃a c,en=Zr (Zs a n c)/\b.ownsRow w.1.size 3 1 (Zs a n c) n (l.map (.int .i64))/\Zb w b :=
 V3 layCloneI rfl rfl AFX rfl (by decide) (by decide) sizeOf3 base v n _ w h (by intro u e;obtain⟨y,_,rfl⟩:=List.mem_map.1 e;rfl) d
structure X8(W:World)(s:Ah)(cv fv:Value)(L:List Ef):Prop where
 qz:W.ownsRow 0 69 7 cv s.qz.length (Av s.qz)
 qx:s.qx=L.map (·.1)
 row:W.ownsRow 0 143 3 fv L.length (A8 L)
 Cl:∀x∈L,W.ownsRow 0 3 1 (sv x.2) x.1.2.2.length (x.1.2.2.map (.int .i64))
theorem X8.up(h:X8 w s v u L)(a:Zb w W):X8 W s v u L :=
 ⟨Bc h.qz a,h.qx,Bc h.row a,λx b=>Bc (h.Cl x b) a⟩
theorem xI(W:Tw):X8 W F6 (Zs none 0 0) (Zs none 0 0) [] :=
 ⟨XF _ _ _ _,rfl,XF _ _ _ _,λx a=>by cases a⟩
structure Cop(w wr:World)(s:Ah)(L:List Ef)(cv fv:Value)(k:Nat)(L':List Ef):Prop where
 b1:wr.1[w.1.size]? = some (.cells #[Zi s.Eb,cv,Zi s.next,fv] 56 (0,0))
 b2:wr.1[w.1.size+1]? = some (.cells #[Zi 0,.slice none 0 0,Zi 0,.slice none 0 0] 56 (0,0))
 qz:wr.ownsRow (w.1.size+2) 69 7 cv s.qz.length (Av s.qz)
 len:L'.length=L.length
 AKE:L'.map (·.1)=L.map (·.1)
 row:wr.ownsRow (w.1.size+2) 143 3 fv L.length (A8 L')
 did:∀j,j<k->wr.ownsRow (w.1.size+2) 3 1 (sv L'[j]!.2) L'[j]!.1.2.2.length (L'[j]!.1.2.2.map (.int .i64))
 left:∀j,k<=j->j<L.length->L'[j]! = L[j]!
 apart:∀i j,i<j->j<k->∀q,(sv L'[i]!.2).ownBlock=some q->(sv L'[j]!.2).ownBlock≠some q
 low:Zb w wr
 size:w.1.size+2<=wr.1.size
theorem Up{l:List Ef}{c:Ef}(b:k<l.length):(l.set k c)[j]! = if j=k then c else l[j]! := by
 by_cases e:j=k
 ·subst e;simp[b]
 have a:¬k=j:=λx=>e x.symm
 simp[List.getElem!_eq_getElem?_getD,e,a]
theorem Cop.next{w wr W:Tw}{m:List Ef}{g:Nat}(h:Cop w wr s L u (Zs (some (Zd g 0)) n c) k m)(P:k<L.length)(o:Zb wr W)(v:Sv)(N:W.ownsRow wr.1.size 3 1 (sv v) L[k]!.1.2.2.length (L[k]!.1.2.2.map (.int .i64))):Cop w (W.setCell (Zd g (k*3+2)) (sv v)) s L u (Zs (some (Zd g 0)) n c) (k+1) (m.set k (m[k]!.1,v)):=by
 have d:k<m.length:=by rw[h.len];exact P
 have M:=h.size
 have V:n=L.length:=by
  rcases Di h.row with⟨e,_⟩|⟨_,_,e,_⟩
  ·cases e
  cases e;rfl
 subst V;have U:=h.row.lt g rfl;have b:=Aq W g (k*3+2) (sv v);have a:=Bc h.row o;have f:=Bc h.qz o;have y:=(a.stored (k*3+2) (sv v)).1;rw[R8 v m k d] at y;have r:(Value.slice (some (Zd g 0)) L.length c).ownBlock=some g:=rfl;have D:=h.left k (Y' _) P;have t:=(o.block w.1.size (by omega)).trans h.b1;have x:=(o.block (w.1.size+1) (by omega)).trans h.b2;refine⟨?_,?_,?_,?_,?_,y,?_,?_,?_,?_,?_⟩
 ·exact(b.block _ (Ac t) (λe=>by injection e with e;omega)).trans t
 ·exact(b.block _ (Ac x) (λe=>by injection e with e;omega)).trans x
 ·exact Az f b (λq l e=>Hn f a (by decide) q l (by rw[r];exact e))
 ·rw[WH];exact h.len
 ·rw[X6,<-h.AKE]
  apply Y9
  ·simp
  intro i z T;rw[YK];split
  ·rename_i e;subst e;rw[WG,getElem!_pos m k d]
  rfl
 ·intro j O
  rw[Up d];split
  ·rename_i e
   have R:(m[k]!.1,v).1=L[k]!.1:=by rw[D]
   rw[R];exact G1 (Az N b (λq l e=>Hn N a (by decide) q l (by rw[r];exact e))) M
  rename_i e;have z:=Bc (h.did j (by omega)) o;exact Az z b (λq l e=>Hn z a (by decide) q l (by rw[r];exact e))
 ·intro j O I
  rw[Up d,Yad (by omega)];exact h.left j (by omega) I
 ·intro i j G O q l
  rw[Up d,Yad (by omega)] at l;rw[Up d];split
  ·intro J
   have z:=((h.did i (by omega)).lt q l).2;have T:=(N.lt q J).1;omega
  exact h.apart i j G (by omega) q l
 ·exact(h.low.trans (o.mono h.low.size)).setCell (p:=Zd g (k*3+2)) (by show w.1.size<=g;omega) _
 have:=o.size;have:=b.size;omega
structure tA(base:Nat)(W:World)(s:Ah)(cv fv:Value)(L:List Ef):Prop where
 qz:W.ownsRow base 69 7 cv s.qz.length (Av s.qz)
 qx:s.qx=L.map (·.1)
 row:W.ownsRow base 143 3 fv L.length (A8 L)
 Cl:∀x∈L,W.ownsRow base 3 1 (sv x.2) x.1.2.2.length (x.1.2.2.map (.int .i64))
 apart:L.Pairwise (λx y=>∀k,(sv x.2).ownBlock=some k->(sv y.2).ownBlock≠some k)
theorem Cop.whole{w wr:Tw}{a:List Ef}{u f:Tv}(h:Cop w wr s L u f L.length a)(k:s.qx=L.map (·.1))(l:wr.grownBy W (some (w.1.size+1))):tA w.1.size W s u f a:=by
 have keep:∀{e z:Nat}{v:Tv}{n:Nat}{xs:List Tv},wr.ownsRow (w.1.size+2) e z v n xs->W.ownsRow w.1.size e z v n xs:=λg=>G1 (Az g l (λq d e=>by have:=(g.lt q d).1;injection e with e;omega)) (by omega)
 refine⟨keep h.qz,by rw[k,h.AKE],by rw[h.len];exact keep h.row,?_,?_⟩
 ·intro x o
  obtain⟨j,b,rfl⟩:=Yk o;have:=h.did j (by rw[<-h.len];exact b);rw[getElem!_pos a j b] at this;exact keep this
 rw[Yv];intro i j m b c q d;have:=h.apart i j c (by rw[<-h.len];exact b) q;rw[getElem!_pos a i m,getElem!_pos a j b] at this;exact this d
theorem tA.box{base b:Nat}(h:tA base w s v u L)(d:Zb w W)(c:base<=b)(a:W.1[b]? = some (Zk #[Zi s.Eb,v,Zi s.next,u] 56 (0,0))):Dm base b W s v u L :=
 ⟨a,c,Bc h.qz d,h.qx,Bc h.row d,λx e=>Bc (h.Cl x e) d,h.apart⟩
theorem B3{b:Nat}{v u f a:Tv}{t:TypeId}(h:W.1[b]? = some (Zk #[v,u,f,a] t (0,0))):
 W.cell? (Zd b 0)=some v/\W.cell? (Zd b 1)=some u/\W.cell? (Zd b 2)=some f/\W.cell? (Zd b 3)=some a/\∀i,W.frozen? (Zd b i)=false:=by
 refine⟨?_,?_,?_,?_,λi=>?_⟩ <;> simp[World.cell?,World.frozen?,h]
theorem ALM(w:Tw)(x y:Obj):((w.alloc x).alloc y).heap.size=w.1.size+2/\((w.alloc x).alloc y).heap[w.1.size]? = some x/\((w.alloc x).alloc y).heap[w.1.size+1]? = some y/\Below w.1.size w ((w.alloc x).alloc y):=by
 refine⟨by simp,?_,?_,(Zal).alloc (by simp) _⟩
 ·rw[((XB (w.alloc x).heap.size (w.alloc x)).alloc (Y' _) y).block w.1.size (by simp)]
  exact Yac w x
 have:=Yac (w.alloc x) y;rwa[XD] at this
def ABQ(w:World)(s:Ah)(n:Nat)(e:Ending)(d:World):Prop :=
 ∃a c1 b c f,e=.returned (.agg #[Zi s.Eb,.slice a s.qz.length c1,Zi s.next,.slice b n c])/\tA w.1.size d s (.slice a s.qz.length c1) (.slice b n c) f/\Zb w d
theorem AAE(s:Ah)(va:To)(vn vc:Nat)(fa:To)(fn fc:Nat)(L:List Ef)(w:Tw)(h:X8 w s (Zs va vn vc) (Zs fa fn fc) L)(hg:Good Bv Cm s):
 Zc 98 #[Zg #[Zi s.Eb,Zs va vn vc,Zi s.next,Zs fa fn fc]] w (ABQ w s L.length):=by
 have a7:s.qz.length<=8:=by
  rcases hg.qz with e|e
  ·rw[e];simp
  exact e.2.1
 have hlen:s.qx.length=L.length:=by rw[h.qx];simp
 have O5:L.length<=40:=by rw[<-hlen];exact hg.Iz
 have u:∀j,j<L.length->L[j]!.1.2.2.length<=60:=λj z=>by
  have hx:L[j]! ∈L:=by rw[getElem!_pos L j z];exact Yh z
  exact Qr hg (by rw[h.qx];exact Y2 hx)
 have a5:=Aa u;have ar:=Aa h.qx;have ac:Hid (∀W,Below w.1.size w W->Zc 71 #[Zs va vn vc] W λen R=>∃a c,en=Zr (Zs a s.qz.length c)/\R.ownsRow W.1.size 69 7 (Zs a s.qz.length c) s.qz.length (Av s.qz)/\Below W.1.size W R):=λW hW=>wI 0 _ _ s.qz W (Bc h.qz hW) (by omega)
 have ad:Hid (∀W,Below w.1.size w W->Zc 154 #[Zs fa fn fc] W λen R=>∃a c,en=Zr (Zs a L.length c)/\R.ownsRow W.1.size 143 3 (Zs a L.length c) L.length (A8 L)/\Below W.1.size W R):=λW hW=>yS 0 _ _ L W (Bc h.row hW) (by omega)
 have aq:Hid (∀j,j<L.length->∀W,Below w.1.size w W->Zc 17 #[sv L[j]!.2] W λen R=>∃a c,en=Zr (Zs a L[j]!.1.2.2.length c)/\R.ownsRow W.1.size 3 1 (Zs a L[j]!.1.2.2.length c) L[j]!.1.2.2.length (L[j]!.1.2.2.map (.int .i64))/\Below W.1.size W R):=λj z W hW=>by
  have hx:L[j]! ∈L:=by rw[getElem!_pos L j z];exact Yh z
  exact vW 0 _ _ _ W (Bc (h.Cl _ hx) hW) (by have:=u j z;omega)
 have aj:∀args w,(callFunc 17 args).run prog w=.ok (.enter 17 args) w:=enters_of func17 (by kernel_rfl) rfl;have af:=Aa aj;obtain⟨t0,t1,t2,t3⟩:=ALM w (Zk #[Zi s.Eb,Zs va vn vc,Zi s.next,Zs fa fn fc] 56) (Zk #[Zi 0,Zs none 0 0,Zi 0,Zs none 0 0] 56);have T0:=Aa t0;have T1:=Aa t1;have T2:=Aa t2;have T3:=Aa t3;clear t0 t1 t2 t3 aj h hg u hlen;go_enter func98,ntmps98;go_wp2_with fail;obtain⟨wa,ao⟩:∃wa,wa=(w.alloc (Zk #[Zi s.Eb,Zs va vn vc,Zi s.next,Zs fa fn fc] 56)).alloc (Zk #[Zi 0,Zs none 0 0,Zi 0,Zs none 0 0] 56):=⟨_,rfl⟩;rw[<-ao] at T0 T1 T2 T3 ⊢;clear ao;refine(ac.o _ T3.o).mono ?_;rintro e w1⟨G,c1,rfl,X,i⟩;rw[T0.o] at X i;have ap:=i.size;rw[T0.o] at ap;have J:=Aa ((i.block w.1.size (by omega)).trans T1.o);have U:=Aa ((i.block (w.1.size+1) (by omega)).trans T2.o);have ah:=Aa (T3.o.trans (i.mono (by omega)));have d:=Aa X;clear X i T0 T1 T2 T3;obtain⟨k0,k1,k2,k3,kf⟩:=B3 J.o;have az:=kf 1;have n:=Aa (As w1 w.1.size 1 _ _ (Zs G s.qz.length c1) J.o);have D:=Aa (Aq w1 w.1.size 1 (Zs G s.qz.length c1));have t:=Aa (ah.o.setCell (p:=Zd w.1.size 1) (Y' _) (Zs G s.qz.length c1));have b:=Aa (Az d.o D.o (λq hq e=>by have:=(d.o.lt q hq).1;injection e with e;omega));have o:=Aa ((D.o.block (w.1.size+1) (Ac U.o) (λe=>by injection e with e;omega)).trans U.o);have O:w.1.size+2<=(w1.setCell (Zd w.1.size 1) (Zs G s.qz.length c1)).1.size:=by have:=D.o.size;omega
 clear k0 k2 kf D ah d J U ap;go_wp2_with fail;generalize w1.setCell (Zd w.1.size 1) (Zs G s.qz.length c1)=w2 at *;clear k1 az k3;refine(ad.o _ t.o).mono ?_;rintro e w3⟨I,y,rfl,an,l⟩;have a3:=l.size;have J:=Aa ((l.block w.1.size (by omega)).trans n.o);have U:=Aa ((l.block (w.1.size+1) (by omega)).trans o.o);have ai:=Aa (t.o.trans (l.mono (by omega)));have d:=Aa (Bc b.o l);have V:=Aa (G1 an O);clear an l n o t b;simp only[XS,XW,Wb] at J;obtain⟨k0,k1,k2,k3,kf⟩:=B3 J.o;have a0:=kf 3;have n:=Aa (As w3 w.1.size 3 _ _ (Zs I L.length y) J.o);have r:=Aa (Aq w3 w.1.size 3 (Zs I L.length y));have N:=Aa (ai.o.setCell (p:=Zd w.1.size 3) (Y' _) (Zs I L.length y));have b:=Aa (Az d.o r.o (λq hq e=>by have:=(d.o.lt q hq).1;injection e with e;omega));have M:=Aa (Az V.o r.o (λq hq e=>by have:=(V.o.lt q hq).1;injection e with e;omega));have o:=Aa ((r.o.block (w.1.size+1) (Ac U.o) (λe=>by injection e with e;omega)).trans U.o);have P:w.1.size+2<=(w3.setCell (Zd w.1.size 3) (Zs I L.length y)).1.size:=by have:=r.o.size;omega
 have ab:Hid (Cop w (w3.setCell (Zd w.1.size 3) (Zs I L.length y)) s L (Zs G s.qz.length c1) (Zs I L.length y) 0 L) :=
  Aa ⟨n.o,o.o,b.o,rfl,rfl,M.o,λj z=>absurd z (Yr _),λ_ _ _=>rfl,λ_ _ _ z=>absurd z (Yr _),N.o,P⟩
 clear k0 k1 k2 kf r ai d V J U a3 O b M n o N P ac ad;go_wp2_with fail
 go_loopw [15] (λvi wr=>∃k:Nat,k<=L.length/\vi=Zi k/\∃L',Hid (Cop w wr s L (Zs G s.qz.length c1) (Zs I L.length y) k L')) (λvi _=>L.length-(intOf vi).toNat)
 case atStart=>exact⟨0,XH _,rfl,L,ab⟩
 case round=>
  clear k3 a0 ab;obtain⟨k,hk,rfl,L',f⟩:=hrel;obtain⟨q0,q1,q2,q3,qf⟩:=B3 f.o.b1
  by_cases hlt:k<L.length
  ·have a6:(k:Int)<(L.length:Int):=by omega
   rcases Di f.o.row with⟨_,e0⟩|⟨g,cg,eg,a8,am,_,_⟩
   ·omega
   injection eg with av _ aw;subst av aw;have Y:=AJD f.o.row f.o.len.symm k (by rw[f.o.len];exact hlt) 2 (sv L'[k]!.2) rfl;rw[XJ,f.o.left k (Y' _) hlt] at Y;have al:=f.o.row.frozenAt (k*3+2);have ae:=Aa (aq.o k hlt)
   have ag:Hid (∀T,Below wr.1.size wr T->T.cell? (Zd w.1.size 3)=some (Zs (some (Zd g 0)) L.length y)/\T.cell? (Zd g (k*3+2))=some (sv L[k]!.2)/\T.frozen? (Zd g (k*3+2))=false):=λT m=>by refine⟨(m.cell (p:=Zd w.1.size 3) (by have:=f.o.size;show w.1.size<_;omega)).trans q3,(m.cell (p:=Zd g (k*3+2)) am).trans Y,(m.frozen (p:=Zd g (k*3+2)) am).trans al⟩
   obtain⟨⟨xe,xa,xn,xc⟩,aa⟩:∃x,L[k]! = x:=⟨_,rfl⟩;have au:=Aa aa;rw[aa] at Y ae ag;clear aa q0 q1 q2 qf al;go_wp2_with fail
   go_region_law
    (first
      | (refine I6 (by rfl) 17 (.tmp 26) 23 (by rfl) (Zs xa xn xc) (by rfl) af.o _ (ae.o _ (f.o.low.drew)) ?_
         rintro e T⟨a4,c4,rfl,ay,ak⟩;have m:Below wr.1.size wr T:=Below.Ap (XB _ _).drew ak;refine⟨_,rfl,?_⟩;obtain⟨p1,p2,p3⟩:=ag.o T m)
      | fail)
   all_goals
    go_wp2
    go_roundw
    case rel=>refine⟨k+1,by omega,by go_num,_,Aa (f.o.next hlt m (a4,xe.2.2.length,c4) ?_)⟩;rw[au.o];exact ay
    case measure=>simp[intOf];omega
  have ax:k=L.length:=by omega
  subst ax;obtain⟨z0,z1,z2,z3,zf⟩:=B3 f.o.b2;have a9:=zf 0;have ba:=zf 1;have bb:=zf 2;have bc:=zf 3;clear qf zf;go_wp2;refine bodyPost_ret (v:=Zg #[Zi s.Eb,Zs G s.qz.length c1,Zi s.next,Zs I L.length y]) (by simp[results,results98,go_sem,z0,z1,z2,z3]) rfl ?_;refine⟨G,c1,I,y,L',rfl,f.o.whole ar.o ?_,?_⟩
  ·exact Gp (Gp (Gp (Aq _ _ _ _) (Aq _ _ _ _)) (Aq _ _ _ _)) (Aq _ _ _ _)
  exact(((f.o.low.setCell (p:=Zd (w.1.size+1) _) (XA _) _).setCell (p:=Zd (w.1.size+1) _) (XA _) _).setCell (p:=Zd (w.1.size+1) _) (XA _) _).setCell (p:=Zd (w.1.size+1) _) (XA _) _
def M6(W:World)(g o:Nat)(a:ADV)(e:Option Addr)(h f:Nat)(b:Option Addr)(d c:Nat):Prop :=
 W.cell? ⟨g,o,none⟩=some (Zi a.1)/\W.cell? ⟨g,o+1,none⟩=some (.string a.2.1)/\W.cell? ⟨g,o+2,none⟩=some (Zi a.2.2.1)/\W.cell? ⟨g,o+3,none⟩=some (.slice e h f)/\W.cell? ⟨g,o+4,none⟩=some (.slice b d c)/\W.cell? ⟨g,o+5,none⟩=some (Zi a.2.2.2.2.2)
def Dt(W:World)(v:Value)(l:List ADV):Prop:=((∃a c,v=.slice a 0 c)/\l=[])\/∃g o c,v=.slice (some ⟨g,o,none⟩) l.length c/\l.length<=c/\g<W.1.size/\∀j,j<l.length->∃f i h b e d,Om W l[j]! f i h b e d/\M6 W g (o+j*6) l[j]! f i h b e d
theorem M6.below{g o:Nat}{e:To}{d:To}{i:Nat}(h:M6 w g o a e n k d i j)(c:g<w.1.size)(b:Zb w W):M6 W g o a e n k d i j :=
 ⟨(b.cell (p:=Zd g o) c).trans h.1,(b.cell (p:=Zd g (o+1)) c).trans h.2.1,(b.cell (p:=Zd g (o+2)) c).trans h.2.2.1,(b.cell (p:=Zd g (o+3)) c).trans h.2.2.2.1,(b.cell (p:=Zd g (o+4)) c).trans h.2.2.2.2.1,(b.cell (p:=Zd g (o+5)) c).trans h.2.2.2.2.2⟩
theorem Dt.below{w W:Tw}{v:Tv}{l:List ADV}(h:Dt w v l)(a:Zb w W):Dt W v l:=by
 rcases h with h|⟨g,o,c,i,k,b,m⟩
 ·exact .inl h
 refine .inr ⟨g,o,c,i,k,Ya b a.size,λj q=>?_⟩;obtain⟨r,t,s,d,f,e,n,p⟩:=m j q;exact⟨r,t,s,d,f,e,n.below a,p.below b a⟩
theorem Dt.len{a:To}(h:Dt w (Zs a n c) l):n=l.length:=by
 rcases h with⟨⟨_,_,e⟩,e0⟩|⟨g,o,c,e,_,_⟩
 ·cases e;subst e0;rfl
 cases e;rfl
def Bi(s:Ah)(c:Dn)(t:Ah):Prop:=oL Bx Bv Cm s c t
def X1(s:Ah)(l:List ADV)(t:Ah):Prop:=Il Bx Bv Cm s l t
def Wi:Value:=.agg #[Zi 0,.slice none 0 0,Zi 0,.slice none 0 0]
def Dl(W:World)(t:Ah)(v:Value):Prop:=∃a c1 b c L,v=.agg #[Zi t.Eb,.slice a t.qz.length c1,Zi t.next,.slice b L.length c]/\X8 W t (.slice a t.qz.length c1) (.slice b L.length c) L
def AJU(w:World)(s:Ah)(c:Dn)(e:Ending)(a:World):Prop :=
 Zb w a/\((∃t v,Bi s c t/\e=.returned (.tuple #[v,.nilIface])/\Dl a t v)\/(∃b x,e=.returned (.tuple #[Wi,.iface b x])/\∀t,¬Bi s c t))
theorem Dm.AJF{base b:Nat}(h:Dm base b W s v u L):∃a c1 c d,v=Zs a s.qz.length c1/\u=Zs c L.length d:=by obtain⟨a,c1,e,_⟩:=Au h.qz;obtain⟨c,d,f,_⟩:=Au h.row;exact⟨a,c1,c,d,e,f⟩
theorem Br(a:k<l.length):l.take (k+1)=l.take k++[l[k]!]:=by rw[YG,XE a,getElem!_pos l k a];rfl
theorem ACU{s u t:Ah}(b:k<l.length)(h:X1 s (l.take k) u)(a:Xx u l[k]! t):X1 s (l.take (k+1)) t:=by rw[Br b];exact tE h ⟨t,a,rfl⟩
theorem ADq{u:Ah}(a:k<l.length)(h:X1 s (l.take k) u)(f:∀t,¬Xx u l[k]! t):∀t,¬X1 s l t:=by
 intro t b
 have e:l=l.take k++(l[k]! :: l.drop (k+1)):=by rw[getElem!_pos l k a,<-Yl a,YU]
 rw[e] at b;obtain⟨g,c,x,d,_⟩:=cE b;have:=K6 h c;subst this;exact f x d
theorem On(w:Tw)(x y z:Obj):(((w.alloc x).alloc y).alloc z).heap.size=w.1.size+3/\(((w.alloc x).alloc y).alloc z).heap[w.1.size]? = some x/\(((w.alloc x).alloc y).alloc z).heap[w.1.size+1]? = some y/\(((w.alloc x).alloc y).alloc z).heap[w.1.size+2]? = some z/\Zb w (((w.alloc x).alloc y).alloc z):=by obtain⟨c,t1,t2,b⟩:=ALM w x y;have a:=(XB ((w.alloc x).alloc y).heap.size ((w.alloc x).alloc y)).alloc (Y' _) z;refine⟨by simp,(a.block _ (by omega)).trans t1,(a.block _ (by omega)).trans t2,?_,b.trans (a.mono b.size)⟩;have:=Yac ((w.alloc x).alloc y) z;rwa[c] at this
theorem Db{b:Nat}{v u f:Tv}{t:TypeId}(h:W.1[b]? = some (Zk #[v,u,f] t (0,0))):
 W.cell? (Zd b 0)=some v/\W.cell? (Zd b 1)=some u/\W.cell? (Zd b 2)=some f/\∀i,W.frozen? (Zd b i)=false:=by
 refine⟨?_,?_,?_,λi=>?_⟩ <;> simp[World.cell?,World.frozen?,h]
theorem ADj(s:Ah)(ar:Tv)(f:Tb)(G:Bool)(Bz:List ADV)(aa:To)(an ac:Nat)(w:Tw)(h:Dl w s ar)(hg:Good Bv Cm s)(bl:0<=s.Eb)(bm:s.Eb<=1000)(ha:Dt w (Zs aa an ac) Bz)(bi:Bz.length<=1000)(ba:f.size<=maxLen)(hw:Lw w):
 Zc 56 #[ar,Zg #[Zt f,Zo G,Zs aa an ac]] w (AJU w s (f,G,Bz)):=by
 obtain⟨a1,c1,a2,c2,L,rfl,hV⟩:=h;have a5:=ha.len;subst a5;have HN:=Aa (λW=>Mn f W ba);have HV:=Aa hV;have HA:=Aa ha;have HW:=Aa hw;have j:=Aa hg;have ai:=Aa (λ(W:Tw)(hW:Below w.1.size w W)=>AAE s a1 _ c1 a2 _ c2 L W (hV.up hW) hg)
 obtain⟨t0,t1,t2,t3,t4⟩:=On w (Zk #[Zi s.Eb,Zs a1 s.qz.length c1,Zi s.next,Zs a2 L.length c2] 56) (Zk #[Zt f,Zo G,Zs aa Bz.length ac] 53) (Zk #[Zi 0,Zs none 0 0,Zi 0,Zs none 0 0] 56);have T0:=Aa t0;have T1:=Aa t1;have T2:=Aa t2;have T3:=Aa t3;have T4:=Aa t4;clear t0 t1 t2 t3 t4 hV ha hw hg;cases hnb:Bx f with
 | false=>
   rw[hnb] at HN;have R:Hid (∀t,¬Bi s (f,G,Bz) t):=λt hh=>by have:=hh.1;simp only at this;rw[hnb] at this;cases this
   go_enter func56,ntmps56;go_wp2_with fail;obtain⟨wa,m⟩:∃wa,wa=((w.alloc (Zk #[Zi s.Eb,Zs a1 s.qz.length c1,Zi s.next,Zs a2 L.length c2] 56)).alloc (Zk #[Zt f,Zo G,Zs aa Bz.length ac] 53)).alloc (Zk #[Zi 0,Zs none 0 0,Zi 0,Zs none 0 0] 56):=⟨_,rfl⟩;rw[<-m] at T0 T1 T2 T3 T4 ⊢;clear m;refine(HN.o _).mono ?_;rintro e N⟨rfl,a⟩;have ad:=a.size
   change Below _ _ _ at a
   rw[T0.o] at a ad;obtain⟨z0,z1,z2,z3,d⟩:=B3 ((a.block (w.1.size+2) (by omega)).trans T3.o);have au:=d 0;have av:=d 1;have aw:=d 2;have ax:=d 3;have D:=Aa (T4.o.trans (a.mono (by omega)));clear d a T0 T1 T2 T3 T4;go_wp2;refine bodyPost_ret (v:=Zu #[Wi,Zf 91 (Zi 1)]) (by simp[results,results56,go_sem,z0,z1,z2,z3,Wi]) rfl ?_;exact⟨(((D.o.setCell (p:=Zd (w.1.size+2) _) (by show _<=w.1.size+2;omega) _).setCell (p:=Zd (w.1.size+2) _) (by show _<=w.1.size+2;omega) _).setCell (p:=Zd (w.1.size+2) _) (by show _<=w.1.size+2;omega) _).setCell (p:=Zd (w.1.size+2) _) (by show _<=w.1.size+2;omega) _,.inr ⟨_,_,rfl,R.o⟩⟩
 | true=>
   rw[hnb] at HN;have ae:Hid (∀t,Bi s (f,G,Bz) t↔X1 (bump s) Bz t):=λt=>⟨λhh=>hh.2,λhh=>⟨hnb,hh⟩⟩
   go_enter func56,ntmps56;go_wp2_with fail;obtain⟨wa,m⟩:∃wa,wa=((w.alloc (Zk #[Zi s.Eb,Zs a1 s.qz.length c1,Zi s.next,Zs a2 L.length c2] 56)).alloc (Zk #[Zt f,Zo G,Zs aa Bz.length ac] 53)).alloc (Zk #[Zi 0,Zs none 0 0,Zi 0,Zs none 0 0] 56):=⟨_,rfl⟩;rw[<-m] at T0 T1 T2 T3 T4 ⊢;clear m;refine(HN.o _).mono ?_;rintro e N⟨rfl,a⟩;have ad:=a.size
   change Below _ _ _ at a
   rw[T0.o] at a ad;have D:=Aa (T4.o.trans (a.mono (by omega)));have S1:=Aa ((a.block w.1.size (by omega)).trans T1.o);have S2:=Aa ((a.block (w.1.size+1) (by omega)).trans T2.o);have S3:=Aa ((a.block (w.1.size+2) (by omega)).trans T3.o);clear a T0 T1 T2 T3 T4 HN;obtain⟨k0,k1,k2,k3,_⟩:=B3 S1.o;go_wp2_with fail;refine(ai.o _ D.o).mono ?_;rintro e r⟨b1,d1,b2,d2,L2,rfl,hO,l⟩;have a9:=l.size;obtain⟨x0,O,I,P⟩:=Db ((l.block (w.1.size+1) (by omega)).trans S2.o);have af:=Aa (D.o.trans (l.mono (by omega)));have R2:=Aa ((l.block (w.1.size+2) (by omega)).trans S3.o);have T:=Aa hO;clear k0 k1 k2 k3 S1 S2 S3 l hO P ai
   have a4:L2.length=L.length:=by
    have e1:=T.o.qx;have e2:=HV.o.qx;have:L2.map (·.1)=L.map (·.1):=by rw[<-e1,<-e2]
    simpa using congrArg List.length this
   have y:Hid (Below r.1.size r (r.alloc (Zk #[Zi (s.Eb+1),Zs b1 s.qz.length d1,Zi s.next,Zs b2 L.length d2] 56))):=Zal;have bc:=(y.o.cell (p:=Zd (w.1.size+1) 2) (by show w.1.size+1<_;omega)).trans I;have ah:=Aa (Yac r (Zk #[Zi (s.Eb+1),Zs b1 s.qz.length d1,Zi s.next,Zs b2 L.length d2] 56));have al:Hid (tA N.1.size r (bump s) (Zs b1 s.qz.length d1) (Zs b2 L.length d2) L2):=Aa ⟨T.o.qz,T.o.qx,T.o.row,T.o.Cl,T.o.apart⟩;have ak:Hid (Iw N.1.size r.1.size (r.alloc (Zk #[Zi (s.Eb+1),Zs b1 s.qz.length d1,Zi s.next,Zs b2 L.length d2] 56)) (bump s)):=Aa ⟨_,_,L2,al.o.box y.o a9 ah.o⟩;have ag:Hid (Below w.1.size w (r.alloc (Zk #[Zi (s.Eb+1),Zs b1 s.qz.length d1,Zi s.next,Zs b2 L.length d2] 56))):=Aa (af.o.alloc (by omega) _);have R3:=Aa ((y.o.block (w.1.size+2) (by omega)).trans R2.o);have aj:Hid (Good Bv Cm (bump s)):=Aa ⟨j.o.Iz,j.o.qz,j.o.once,j.o.Cl,j.o.qj⟩;clear T al ah y R2 af a4 x0 O I;go_wp2_with fail;generalize r.alloc (Zk #[Zi (s.Eb+1),Zs b1 s.qz.length d1,Zi s.next,Zs b2 L.length d2] 56)=w3 at *;clear bc;generalize r.1.size=bb at *
   go_loopw [25] (λvi wr=>∃k:Nat,k<=Bz.length/\vi=Zi k/\∃t,Hid (X1 (bump s) (Bz.take k) t)/\Hid (Iw N.1.size bb wr t)/\Hid (Good Bv Cm t)/\Hid (Below w.1.size w wr)/\Hid (wr.1[w.1.size+2]? = some (Zk #[Zi 0,Zs none 0 0,Zi 0,Zs none 0 0] 56 (0,0)))) (λvi _=>Bz.length-(intOf vi).toNat)
   case atStart=>exact⟨0,XH _,rfl,bump s,Aa rfl,ak,aj,ag,R3⟩
   case round=>
    clear ak aj ag R3;obtain⟨k,hk,rfl,t,RU,SN,GD,BW,RZ⟩:=hrel
    by_cases hlt:k<Bz.length
    ·have bg:(k:Int)<(Bz.length:Int):=by omega
     rcases HA.o.below BW.o with⟨_,e0⟩|⟨g,o,c,eg,bd,bj,M⟩
     ·rw[e0] at hlt;simp at hlt
     injection eg with a0 _ a3;subst a0 a3;obtain⟨ma,mn,mc,ca,cn,cc,V,am⟩:=M k hlt;obtain⟨⟨O,I,P,x4,x5,x6⟩,hx⟩:∃x,Bz[k]! = x:=⟨_,rfl⟩;have HX:=Aa hx;rw[hx] at V am;obtain⟨q0,q1,q2,q3,q4,q5⟩:=am;simp only at q0 q1 q2 q3 q4 q5;have i:Hid (Below wr.1.size wr (wr.alloc (Zk #[Zi O,Zt I,Zi P,Zs ma mn mc,Zs ca cn cc,Zi x6] 111))):=Aa (Zal)
     have ay:Hid (Zc 99 #[Zp (some (Zd bb 0)),Zg #[Zi O,Zt I,Zi P,Zs ma mn mc,Zs ca cn cc,Zi x6]] (wr.alloc (Zk #[Zi O,Zt I,Zi P,Zs ma mn mc,Zs ca cn cc,Zi x6] 111)) (Ol N.1.size bb (wr.alloc (Zk #[Zi O,Zt I,Zi P,Zs ma mn mc,Zs ca cn cc,Zi x6] 111)) t (O,I,P,x4,x5,x6))):=Aa (by obtain⟨cv,fv,L3,b⟩:=SN.o;exact V1 N.1.size bb t O I P x4 x5 x6 ma mn mc ca cn cc _ ⟨cv,fv,L3,b.up i.o⟩ (V.below i.o) ((HW.o.below BW.o).below i.o) GD.o)
     have bk:N.1.size<=wr.1.size:=by obtain⟨_,_,_,b⟩:=SN.o;exact b.size
     clear V M hx;go_wp2_with fail;apply ay.o.mono;rintro e w5⟨code,rfl,X,Y⟩;have J:=Aa (BW.o.trans ((i.o.mono (by have:=BW.o.size;omega)).trans (X.mono (by omega))));have U:=Aa ((X.block (w.1.size+2) (by omega)).trans ((i.o.block (w.1.size+2) (by omega)).trans RZ.o));clear q0 q1 q2 q3 q4 q5 X
     rcases Y with⟨rfl,t',hd,aq⟩|⟨bh,ap⟩
     ·have HD:=Aa hd
      have az:=Aa aq;clear hd aq;go_wp2
      go_roundw
      case rel=>have ao:=HD.o;rw[<-HX.o] at ao;exact⟨k+1,by omega,by go_num,t',Aa (ACU hlt RU.o ao),az,Aa (lB HD.o GD.o),J,U⟩
      case measure=>simp[intOf];omega
     have R:Hid (∀t,¬Bi s (f,G,Bz) t):=Aa (λu hu=>ADq hlt RU.o (by rw[HX.o];exact ap) u ((ae.o u).1 hu));obtain⟨z0,z1,z2,z3,d⟩:=B3 U.o;have au:=d 0;have av:=d 1;have aw:=d 2;have ax:=d 3;have a7:w.1.size+2<w5.1.size:=Ac U.o;have a8:w.1.size+1+1<w5.1.size:=a7;clear ap d;go_wp2;refine bodyPost_ret (v:=Zu #[Wi,Zf 190 (Zp (some (Zd w5.1.size 0)))]) (by simp[results,results56,go_sem,z0,z1,z2,z3,Wi,a8]) rfl ?_;exact⟨((((J.o.setCell (p:=Zd (w.1.size+2) _) (by show _<=w.1.size+2;omega) _).setCell (p:=Zd (w.1.size+2) _) (by show _<=w.1.size+2;omega) _).setCell (p:=Zd (w.1.size+2) _) (by show _<=w.1.size+2;omega) _).setCell (p:=Zd (w.1.size+2) _) (by show _<=w.1.size+2;omega) _).alloc (by simp;omega) _,.inr ⟨_,_,rfl,R.o⟩⟩
    have a6:k=Bz.length:=by omega
    subst a6;have HR:=Aa ((ae.o t).2 (by have:=RU.o;rwa[Yg] at this));obtain⟨cv,fv,L3,b⟩:=SN.o;obtain⟨e1,e2,e3,e4,rfl,rfl⟩:=b.AJF;obtain⟨k0,k1,k2,k3,_⟩:=b.cells;obtain⟨z0,z1,z2,z3,d⟩:=B3 RZ.o;have au:=d 0;have av:=d 1;have aw:=d 2;have ax:=d 3;have HI:=Aa b;have bf:=b.low;clear d b RU SN;go_wp2;refine bodyPost_ret (v:=Zu #[Zg #[Zi t.Eb,Zs e1 t.qz.length e2,Zi t.next,Zs e3 L3.length e4],Zn]) (by simp[results,results56,go_sem,z0,z1,z2,z3]) rfl ?_;refine⟨(((BW.o.setCell (p:=Zd (w.1.size+2) _) (by show _<=w.1.size+2;omega) _).setCell (p:=Zd (w.1.size+2) _) (by show _<=w.1.size+2;omega) _).setCell (p:=Zd (w.1.size+2) _) (by show _<=w.1.size+2;omega) _).setCell (p:=Zd (w.1.size+2) _) (by show _<=w.1.size+2;omega) _,.inl ⟨t,_,HR.o,rfl,e1,e2,e3,e4,L3,rfl,?_⟩⟩;have ab:wr.grownBy _ (some (w.1.size+2)):=Gp (Gp (Gp (Aq wr (w.1.size+2) 0 (Zi t.Eb)) (Aq _ (w.1.size+2) 1 (Zs e1 t.qz.length e2))) (Aq _ (w.1.size+2) 2 (Zi t.next))) (Aq _ (w.1.size+2) 3 (Zs e3 L3.length e4));have b:=HI.o;have far:∀{e z:Nat}{v:Tv}{n:Nat}{xs:List Tv},wr.ownsRow N.1.size e z v n xs->∀q,v.ownBlock=some q->(some (w.1.size+2):Option Nat)≠some q:=λho q hq e=>by have:=(ho.lt q hq).1;injection e with e;omega
    exact⟨G1 (Az b.qz ab (far b.qz)) (XH _),b.qx,G1 (Az b.row ab (far b.row)) (XH _),λx hx=>G1 (Az (b.Cl x hx) ab (far (b.Cl x hx))) (XH _)⟩
def Jp(w:World):Prop:=Lib.TabIs prog w "internal/strconv.uint64pow10" .u64 Lib.pow10Tab
theorem Jp.below{w W:Tw}(h:Jp w)(a:Zb w W):Jp W:=Lib.tabBelow_of_tabIs h W a
theorem L7{a b:Tb}(h:a=b):Ending.returned (Zt a)=Zr (Zt b):=by rw[h]
def Bm(n:Int):ByteArray:=⟨(Lib.itoa n).toArray⟩
theorem Mx(n:Int)(w:Tw)(a:Lu n)(c:Jp w):Zc 79 #[Zi n] w λe f=>e=Zr (Zt (Bm n))/\Zb w f :=
 (Any.strconv_Itoa laysM171 n a.1 a.2 w c).mono λ_ _⟨b,_,_,d⟩=>⟨b,d ▸ below_grow _ _ (Y' _) _ _⟩
theorem Dw{n:Int}(a:Lu n):(Bm n).size<=21:=by have:=itoa_length_le n a.1 a.2;simpa[Bm,ByteArray.size] using this
def Fa(b:Bool)(x y:ByteArray):ByteArray:=if b then x else y
theorem fN(b:Bool)(x y:Tb)(w:Tw):Zc 91 #[Zo b,Zt x,Zt y] w λe a=>e=Zr (Zt (Fa b x y))/\a=w:=by
 cases b
 all_goals
  go_enter func91,ntmps91;go_wp2
  all_goals (go_ret;exact⟨rfl,rfl⟩)
def E7(k n:Int)(t:ByteArray):ByteArray:=if k=0 then ⟨#[110,117,108,108]⟩ else if k=1 then Bm n else if k=2 then ⟨#[39]⟩++t++⟨#[39]⟩ else ⟨#[]⟩
theorem pr0{k n:Int}{t:Tb}(h:(k==0)=true):⟨#[110,117,108,108]⟩=E7 k n t:=by simp at h;subst h;rfl
theorem pr1{k n:Int}{t:Tb}(h:(k==1)=true):Bm n=E7 k n t:=by simp at h;subst h;rfl
theorem pr2{k n:Int}{t:Tb}(h:(k==2)=true):⟨#[39]⟩++t++⟨#[39]⟩=E7 k n t:=by simp at h;subst h;rfl
theorem pr3{k n:Int}{t:Tb}(a:(k==0)=false)(b:(k==1)=false)(c:(k==2)=false):⟨#[]⟩=E7 k n t:=by simp at a b c;simp[E7,a,b,c]
theorem yH(k n:Int)(t:Tb)(w:Tw)(p:t.size<=1000)(i:Lu n)(a:Jp w):
 Zc 196 #[Zg #[Zi k,Zi n,Zt t]] w λe j=>e=Zr (Zt (E7 k n t))/\Zb w j:=by
 have m:Hid (∀o,Jp (w.alloc o)):=λo=>a.below (Zal)
 clear a;have l:Hid (∀W,Jp W->Calls prog 237 #[.int .i64 n,.int .i64 10] W λe j=>e=.returned (.string (Bm n))/\Below W.1.size W j):=λW h=>(Any.strconv_FormatInt_10 laysM173 n i.1 i.2 W h).mono λ_ _⟨he,_,_,hw⟩=>⟨he,hw ▸ below_grow _ _ (Y' _) _ _⟩
 have c:=Aa (@pr0 k n t);have b:=Aa (@pr1 k n t);have d:=Aa (@pr2 k n t);have f:=Aa (@pr3 k n t);clear i;generalize Bm n=q at l b;generalize E7 k n t=r at *;go_enter func196,ntmps196
 go_wp2_with (first
  | (go_at_call 237;refine(l.o _ (m.o _)).mono ?_;rintro e s⟨rfl,g⟩))
 all_goals go_ret
 ·exact⟨L7 (c.o ‹_›),Zal⟩
 ·exact⟨L7 (b.o ‹_›),(Zal).trans (g.mono (by simp))⟩
 ·exact⟨L7 (d.o ‹_›),Zal⟩
 exact⟨L7 (f.o ‹_› ‹_› ‹_›),Zal⟩
def Mm(p:ByteArray)(r:Int)(b a:Nat)(c:Int):Bool:=p.toList.isEmpty && (r==0 && ((b:Int)==0 && ((a:Int)==0 && c==0)))
theorem AF4(k:Int)(p:Tb)(r:Int)(i:To)(c j:Nat)(g:To)(b h:Nat)(d:Int)(w:Tw):
 Zc 149 #[Zg #[Zi k,Zt p,Zi r,Zs i c j,Zs g b h,Zi d]] w λe l=>e=Zr (Zo (Mm p r c b d))/\Zb w l:=by
 have f:Hid (Mm p r c b d=(p.toList.isEmpty && (r==0 && ((c:Int)==0 && ((b:Int)==0 && d==0))))):=rfl;generalize Mm p r c b d=q at f ⊢;cases h1:p.toList.isEmpty <;> cases h2:(r==0) <;> cases h3:((c:Int)==0) <;> cases h4:((b:Int)==0)
 all_goals
  rw[h1,h2,h3,h4] at f;have a:=h1
  try (have e0:p.toList=[]:=by simpa using a)
  try (have e0:¬p.toList=[]:=by simpa using a)
  clear a;go_enter func149,ntmps149;go_wp2
  all_goals
   go_ret;exact⟨Af (by rw[f.o];simp),Zal⟩
def Ch(a:ADV):Bool :=
 if a.1=1 then rfB a.2.1 a.2.2.1 && Mm ⟨#[]⟩ 0 a.2.2.2.1.length a.2.2.2.2.1.length a.2.2.2.2.2
 else if a.1=2 then Bx a.2.1 && Mm ⟨#[]⟩ a.2.2.1 a.2.2.2.1.length a.2.2.2.2.1.length a.2.2.2.2.2
 else if a.1=3 then (Bx a.2.1 && Dj a.2.2.2.1 60) && Mm ⟨#[]⟩ a.2.2.1 0 a.2.2.2.2.1.length a.2.2.2.2.2
 else if a.1=4 then Be a.2.2.2.2.1 a.2.2.2.2.2 && Mm a.2.1 a.2.2.1 a.2.2.2.1.length 0 0
 else false
theorem Vj{W:Tw}{b:Nat}{v u f a e c:Tv}{t:TypeId}(h:W.1[b]? = some (Zk #[v,u,f,a,e,c] t (0,0))):
 W.cell? (Zd b 0)=some v/\W.cell? (Zd b 1)=some u/\W.cell? (Zd b 2)=some f/\W.cell? (Zd b 3)=some a/\W.cell? (Zd b 4)=some e/\W.cell? (Zd b 5)=some c/\∀i,W.frozen? (Zd b i)=false:=by
 refine⟨?_,?_,?_,?_,?_,?_,λi=>?_⟩ <;> simp[World.cell?,World.frozen?,h]
theorem wO(k:Int)(p:Tb)(r:Int)(m:List Int)(cl:List Aj)(a:Int)(l:To)(g n:Nat)(h:To)(d i:Nat)(w:Tw)(I:Om w (k,p,r,m,cl,a) l g n h d i)(hw:Lw w):
 Zc 92 #[Zg #[Zi k,Zt p,Zi r,Zs l g n,Zs h d i,Zi a]] w λe w'=>e=Zr (Zo (Ch (k,p,r,m,cl,a)))/\Zb w w':=by
 have T:=I.qv.len.1;have R:=I.qz.len;simp only at T R;have N:=Aa T;have M:=Aa R;clear T R;have V:=Aa (λW=>Qw k p r l g n h d i a W I.qk);have x:=Aa (λW=>Mn p W I.qk);have X:=Aa (λ(W:Tw)(G:Zb w W)=>gW _ m 60 W (I.qv.below G) (by have:=I.Iz;simp only at this;unfold maxLen;omega))
 have Y:=Aa (λ(W:Tw)(G:Zb w W)=>Vs h d i cl a W (I.qz.below G) (hw.below G) I.texts)
 have v:=Aa (λp r l g n h d i a W=>AF4 k p r l g n h d i a W);obtain⟨t0,t1,t2,t3⟩:=ALM w (Zk #[Zi k,Zt p,Zi r,Zs l g n,Zs h d i,Zi a] 111) (Zk #[Zi k,Zt p,Zi r,Zs l g n,Zs h d i,Zi a] 111)
 have y:Hid (∀W,Below (w.1.size+2) ((w.alloc (Zk #[Zi k,Zt p,Zi r,Zs l g n,Zs h d i,Zi a] 111)).alloc (Zk #[Zi k,Zt p,Zi r,Zs l g n,Zs h d i,Zi a] 111)) W->W.1[w.1.size]? = some (Zk #[Zi k,Zt p,Zi r,Zs l g n,Zs h d i,Zi a] 111 (0,0))/\W.1[w.1.size+1]? = some (Zk #[Zi k,Zt p,Zi r,Zs l g n,Zs h d i,Zi a] 111 (0,0))/\Zb w W/\w.1.size+2<=W.1.size):=λW G=>by have hs:=G.size;rw[t0] at hs;exact⟨(G.block _ (by omega)).trans t1,(G.block _ (by omega)).trans t2,t3.trans (G.mono (by omega)),hs⟩
 clear t0 t1 t2 t3 I hw;generalize aa:(w.alloc (Zk #[Zi k,Zt p,Zi r,Zs l g n,Zs h d i,Zi a] 111)).alloc (Zk #[Zi k,Zt p,Zi r,Zs l g n,Zs h d i,Zi a] 111)=wA at y;have t:=(y.o wA (XB _ _)).2.2.2;have s:=Aa aa;clear aa
 by_cases k1:k=1
 ·subst k1
  have c:Hid (Ch (1,p,r,m,cl,a)=(rfB p r && Mm ⟨#[]⟩ 0 g d a)):=by rw[N.o,M.o];rfl
  generalize Ch (1,p,r,m,cl,a)=q at c ⊢;generalize rfB p r=O at V c;cases O
  all_goals
   go_enter func92,ntmps92;go_wp2_with fail;rw[s.o];refine(V.o _).mono ?_;rintro e U⟨rfl,b⟩;obtain⟨u1,u,L,u4⟩:=y.o U (b.mono t);obtain⟨_,y1,y2,y3,y4,y5,f⟩:=Vj u;have y0:=(Vj u).1;have J:=f 1;have ae:=f 2;have o:=Aa L;clear u1 u L f b;go_wp2_with (go_at_call 149;refine(v.o _ _ _ _ _ _ _ _ _ _).mono ?_;rintro e w2⟨rfl,j⟩);go_ret
   first
    | exact⟨Af (by rw[c.o];rfl),(o.o.setCell (p:=Zd (w.1.size+1) _) (XA _) _).setCell (p:=Zd (w.1.size+1) _) (XA _) _⟩
    | exact⟨Af (by rw[c.o];rfl),((o.o.setCell (p:=Zd (w.1.size+1) _) (XA _) _).setCell (p:=Zd (w.1.size+1) _) (XA _) _).trans (j.mono (by simp;omega))⟩
 by_cases k2:k=2
 ·subst k2
  have c:Hid (Ch (2,p,r,m,cl,a)=(Bx p && Mm ⟨#[]⟩ r g d a)):=by rw[N.o,M.o];rfl
  generalize Ch (2,p,r,m,cl,a)=q at c ⊢;generalize Bx p=O at x c;cases O
  all_goals
   go_enter func92,ntmps92;go_wp2_with fail;rw[s.o];refine(x.o _).mono ?_;rintro e U⟨rfl,b⟩;obtain⟨u1,u,L,u4⟩:=y.o U (b.mono t);obtain⟨_,y1,y2,y3,y4,y5,f⟩:=Vj u;have y0:=(Vj u).1;have J:=f 1;have o:=Aa L;clear u1 u L f b;go_wp2_with (go_at_call 149;refine(v.o _ _ _ _ _ _ _ _ _ _).mono ?_;rintro e w2⟨rfl,j⟩);go_ret
   first
    | exact⟨Af (by rw[c.o];rfl),o.o.setCell (p:=Zd (w.1.size+1) _) (XA _) _⟩
    | exact⟨Af (by rw[c.o];rfl),(o.o.setCell (p:=Zd (w.1.size+1) _) (XA _) _).trans (j.mono (by simp;omega))⟩
 by_cases k3:k=3
 ·subst k3
  have c:Hid (Ch (3,p,r,m,cl,a)=((Bx p && Dj m 60) && Mm ⟨#[]⟩ r 0 d a)):=by rw[M.o];rfl
  generalize Ch (3,p,r,m,cl,a)=q at c ⊢;generalize Bx p=O at x c;generalize Dj m 60=b2 at X c;cases O <;> cases b2
  all_goals
   go_enter func92,ntmps92;go_wp2_with fail;rw[s.o];refine(x.o _).mono ?_;rintro e U⟨rfl,b⟩;have D:=y.o U (b.mono t);obtain⟨v0,v1,v2,v3,v4,v5,vf⟩:=Vj D.1;obtain⟨y0,y1,y2,y3,y4,y5,f⟩:=Vj D.2.1;have J:=f 1;have ac:=f 3;have U1:=Aa D;have ad:=Aa (b.mono t);clear D vf v0 v1 v2 v4 v5 f b
   go_wp2_with (first
    | (go_at_call 148;refine(X.o _ U1.o.2.2.1).mono ?_;rintro e w3⟨rfl,ab⟩
       have P:=y.o w3 (ad.o.trans (ab.mono U1.o.2.2.2));clear y0 y1 y2 y3 y4 y5 J ac v3;obtain⟨y0,y1,y2,y3,y4,y5,f⟩:=Vj P.2.1;have J:=f 1;have ac:=f 3;have o:=Aa P;clear P f ab)
    | (go_at_call 149;refine(v.o _ _ _ _ _ _ _ _ _ _).mono ?_;rintro e w2⟨rfl,j⟩))
   go_ret
   first
    | exact⟨Af (by rw[c.o];rfl),(U1.o.2.2.1.setCell (p:=Zd (w.1.size+1) _) (XA _) _).setCell (p:=Zd (w.1.size+1) _) (XA _) _⟩
    | exact⟨Af (by rw[c.o];rfl),(o.o.2.2.1.setCell (p:=Zd (w.1.size+1) _) (XA _) _).setCell (p:=Zd (w.1.size+1) _) (XA _) _⟩
    | exact⟨Af (by rw[c.o];rfl),((o.o.2.2.1.setCell (p:=Zd (w.1.size+1) _) (XA _) _).setCell (p:=Zd (w.1.size+1) _) (XA _) _).trans (j.mono (by have:=o.o.2.2.2;simp;omega))⟩
 by_cases k4:k=4
 ·subst k4
  have c:Hid (Ch (4,p,r,m,cl,a)=(Be cl a && Mm p r g 0 0)):=by rw[N.o];rfl
  generalize Ch (4,p,r,m,cl,a)=q at c ⊢;generalize Be cl a=O at Y c;have z:=(y.o wA (XB _ _)).2.2.1;cases O
  all_goals
   go_enter func92,ntmps92;go_wp2_with fail;rw[s.o];refine(Y.o _ z).mono ?_;rintro e U⟨rfl,b⟩;obtain⟨u1,u,L,u4⟩:=y.o U (b.mono t);obtain⟨_,y1,y2,y3,y4,y5,f⟩:=Vj u;have y0:=(Vj u).1;have af:=f 4;have ag:=f 5;have o:=Aa L;clear u1 u L f b;go_wp2_with (go_at_call 149;refine(v.o _ _ _ _ _ _ _ _ _ _).mono ?_;rintro e w2⟨rfl,j⟩);go_ret
   first
    | exact⟨Af (by rw[c.o];rfl),(o.o.setCell (p:=Zd (w.1.size+1) _) (XA _) _).setCell (p:=Zd (w.1.size+1) _) (XA _) _⟩
    | exact⟨Af (by rw[c.o];rfl),((o.o.setCell (p:=Zd (w.1.size+1) _) (XA _) _).setCell (p:=Zd (w.1.size+1) _) (XA _) _).trans (j.mono (by simp;omega))⟩
 have c:Hid (Ch (k,p,r,m,cl,a)=false):=by simp[Hid,Ch,k1,k2,k3,k4]
 generalize Ch (k,p,r,m,cl,a)=q at c ⊢;have z:=Aa (y.o wA (XB _ _)).2.2.1;rw[<-s.o] at z;go_enter func92,ntmps92;go_wp2;go_ret;exact⟨Af (by rw[c.o]),z.o⟩
def Fe(xs:List ByteArray)(sep:ByteArray):ByteArray:=⟨(Lib.join (xs.map (·.data.toList)) sep.1.toList).toArray⟩
theorem Uz:(prog.info? 9).map (λi=>(i.zero,i.size,i.bytes))=some (some (.string ⟨#[]⟩),1,16):=by kernel_rfl
theorem AAz{b:Nat}:∀{xs:List ByteArray},(∀x∈xs,x.size<=b)->Lib.lens (xs.map (·.data.toList))<=xs.length*b
 | [],_=>by simp[Lib.lens]
 | x :: xs,h=>by
   have d:=h x (Ye ..);have f:=AAz (λy c=>h y (Yd _ c));have e:x.1.toList.length=x.size:=by simp
   have a:Lib.lens ((x :: xs).map (·.data.toList))=x.1.toList.length+Lib.lens (xs.map (·.data.toList)):=by simp[Lib.lens]
   rw[a,e,XC,Y3];omega
theorem Jh{b:Nat}{xs:List ByteArray}{sep:ByteArray}(h:∀x∈xs,x.size<=b):(Fe xs sep).size<=xs.length*(b+sep.size):=by
 have e:(Fe xs sep).size=(Lib.join (xs.map (·.data.toList)) sep.1.toList).length:=by simp[Fe,ByteArray.size]
 rw[e];cases xs with
 | nil=>simp[Lib.join_nil]
 | cons x xs=>
   have a:=AAz h;rw[WI,Lib.join_length];rw[WI] at a;have c:sep.1.toList.length=sep.size:=by simp
   rw[c,XM,XC,Nat.mul_add];rw[XC] at a;have:sep.size*xs.length<=(xs.length+1)*sep.size:=by rw[Yaa];exact Yo _ (XA _)
   omega
theorem dJ(base:Nat)(v:Value)(xs:List ByteArray)(sep:ByteArray)(w:World)(h:w.ownsRow base 9 1 v xs.length (xs.map (.string ·)))(q:xs.length<=1000)(p:(Fe xs sep).size<=100000000):
 Zc 195 #[v,.string sep] w λe o=>e=.returned (.string (Fe xs sep))/\Zb w o:=by
 rcases Di h with⟨a,e0⟩|⟨g,c,a,_,l,b,i⟩
 ·subst a
  have:xs=[]:=Yag.1 e0;subst this;exact(Any.strings_Join_none lays156 Qbx none 0 sep w).mono λ_ _⟨k,n⟩=>⟨k,n ▸ XB _ _⟩
 subst a;refine Any.strings_Join lays156 Qbx g 0 c xs sep w (λj x f=>?_) l (by omega) b ?_
 ·have m:j<xs.length:=by
   rcases Yc j xs.length with d|d
   ·exact d
   rw[Yb d] at f;cases f
  rw[XJ,h.cellAt j (by omega),XY,f];rfl
 have:(Fe xs sep).size=(Lib.join (xs.map (·.data.toList)) sep.1.toList).length:=by simp[Fe,ByteArray.size]
 omega
theorem rF(v:Value)(l:List Int)(sep:ByteArray)(w:World)(h:Ph w v l)(hl:l.length<=100)(hn:∀x∈l,Lu x)(hs:sep.size<=1)(ht:Jp w):
 Zc 150 #[v,.string sep,.func (.func 79) #[] #[]] w λe s=>e=.returned (.string (Fe (l.map Bm) sep))/\Zb w s:=by
 have ae:∀args w,(callFunc 79 args).run prog w=.ok (.enter 79 args) w:=enters_of func79 (by kernel_rfl) rfl
 have T:=Aa (λ(W:World)(i:Value)(J:W.ownsRow w.1.size 9 1 i l.length ((l.map Bm).map (.string ·)))=>dJ _ i (l.map Bm) sep W (by rw[XM];exact J) (by simp;omega) (by have:=Jh (b:=21) (xs:=l.map Bm) (sep:=sep) (by intro x hx;obtain⟨y,hy,rfl⟩:=List.mem_map.1 hx;exact Dw (hn y hy));rw[XM] at this;have h2:l.length*(21+sep.size)<=100*22:=YS hl (by omega);omega))
 have G:Hid (∀j,j<l.length->∀W,Zb w W->Zc 79 #[.int .i64 l[j]!] W λe s=>e=.returned (.string (Bm l[j]!))/\Zb W s):=λj t W J=>Mx _ W (hn _ (by rw[getElem!_pos l j t];exact Yh t)) (ht.below J)
 have hlen:(∃a c,v=.slice a 0 c)/\l=[]\/∃g o c,v=.slice (some (Zd g o)) l.length c/\g<w.1.size/\∀j,j<l.length->w.cell? (Zd g (o+j))=some (.int .i64 l[j]!):=by
  rcases h with h|⟨g,o,c,h1,h2,_,h4⟩
  ·exact .inl h
  exact .inr ⟨g,o,c,h1,h2,h4⟩
 obtain⟨iT,L,N,m,n⟩:=info_parts Uz;have f:=Zy L N m n
 have I:Hid (∀k,k<l.length->((l.take (k+1)).map Bm).map (Value.string ·)=((l.take k).map Bm).map (Value.string ·)++[.string (Bm l[k]!)]):=λk hk=>by rw[YG,XE hk,getElem!_pos l k hk,XL,XL];rfl
 have D:Hid (∀(W:World)(i:Value),W.ownsRow w.1.size 9 1 i l.length (((l.take l.length).map Bm).map (Value.string ·))->W.ownsRow w.1.size 9 1 i l.length ((l.map Bm).map (.string ·))):=λW i J=>by rwa[Yg] at J
 clear h hn ht L N m n;generalize Fe (l.map Bm) sep=ac at *
 rcases hlen with⟨⟨_,_,rfl⟩,rfl⟩|⟨g,o,c,rfl,hg,hc⟩
 ·have U:=Aa (T.o w (.slice none 0 0) (XF w w.1.size 9 1))
  clear T G I D;go_enter func150,ntmps150;go_wp2
  go_loopw [7,12] (λi O wr=>i=.slice none 0 0/\O=.int .i64 0/\wr=w) (λ_ _ _=>0)
  case atStart=>exact⟨rfl,rfl,rfl⟩
  case round=>obtain⟨rfl,rfl,rfl⟩:=hrel;go_wp2_with (go_at_call 195;apply U.o.mono;rintro e w1⟨rfl,d⟩);go_ret;exact⟨rfl,d⟩
 have HC:=Aa hc;clear hc;go_enter func150,ntmps150;go_wp2
 go_loopw [7,12] (λi O wr=>∃k:Nat,k<=l.length/\O=.int .i64 k/\Hid (wr.ownsRow w.1.size 9 1 i k (((l.take k).map Bm).map (.string ·)))/\Hid (Zb w wr)) (λ_ O _=>l.length-(intOf O).toNat)
 case atStart=>exact⟨0,XH _,rfl,Aa (XF _ _ _ _),Aa (XB _ _)⟩
 case round=>
  obtain⟨k,hk,rfl,P,z⟩:=hrel;obtain⟨ta,tc,rfl,_⟩:=Au P.o
  by_cases hlt:k<l.length
  ·have ad:(k:Int)<(l.length:Int):=by omega
   have r:=(z.o.cell (p:=Zd g (o+k)) hg).trans (HC.o k hlt);have R:=Aa (G.o k hlt);have q:=Aa (I.o k hlt);generalize l[k]! = x at r R q;generalize Bm x=ix at R q
   go_wp2_with (first
    | (go_at_fn 79;refine(R.o _ z.o).mono ?_;rintro e w1⟨rfl,d⟩;have af:=d.size;have ab:=z.o.size)
    | (at_builtin;refine wpList_append_own _ rfl _ _ 205 rfl w.1.size 9 iT (.string ⟨#[]⟩) 1 16 underlying205 f.o.1 f.o.2.1 f.o.2.2.1 f.o.2.2.2 rfl (by decide) _ _ _ rfl ((Bc P.o d).alloc _) (Zd w1.1.size 0) 1 1 [.string ix] rfl rfl (λj u t=>XV (Yac _ _) j u t) (by intro u hu;simp at hu;subst hu;rfl) ?d3 ?d4 ?d5 ?_))
   case d3=>unfold maxLen;omega
   case d4=>omega
   case d5=>simp;omega
   intro v2 w2 M Y _;have X:Zb w w2:=((z.o.trans (d.mono ab)).alloc (by omega) _).grown Y (by simp;omega) (λj t=>(P.o.lt j t).1);obtain⟨va,vc,rfl,_⟩:=Au M;go_wp2;exact⟨⟨k+1,by omega,by go_num,Aa (by rw[q.o];simpa using M),Aa X⟩,by simp[intOf];omega⟩
  have aa:k=l.length:=by omega
  subst aa;have V:=Aa (T.o _ _ (D.o _ _ P.o));go_wp2_with (go_at_call 195;apply V.o.mono;rintro e w1⟨rfl,d⟩);go_ret;exact⟨rfl,Below.Ap z.o d⟩
def Qn:ByteArray:=⟨#[109,117,115,116]⟩
def jI:ByteArray:=⟨#[109,97,121]⟩
def B9(c:Aj):ByteArray:=Fe [Bm c.1,c.2.1,Bm c.2.2.1,Fa c.2.2.2.1 Qn jI,E7 c.2.2.2.2.1 c.2.2.2.2.2.1 c.2.2.2.2.2.2] ⟨#[32]⟩
theorem Ea(a b:Tb):(a++b).size=a.size+b.size:=by simp
theorem pV{k n:Int}{t:Tb}(a:Lu n)(b:t.size<=100):(E7 k n t).size<=102:=by
 unfold E7;split
 ·decide
 split
 ·have:=Dw a;omega
 split
 ·rw[Ea,Ea];have:(⟨#[39]⟩:Tb).size=1:=rfl;omega
 decide
theorem mQ(b:Bool):(Fa b Qn jI).size<=4:=by cases b <;> decide
theorem S6{c:Aj}(d:Lu c.1)(i:c.2.1.size<=100)(f:Lu c.2.2.1)(g:Lu c.2.2.2.2.2.1)(h:c.2.2.2.2.2.2.size<=100):(B9 c).size<=600:=by
 have:=Jh (b:=102) (xs:=[Bm c.1,c.2.1,Bm c.2.2.1,Fa c.2.2.2.1 Qn jI,E7 c.2.2.2.2.1 c.2.2.2.2.2.1 c.2.2.2.2.2.2]) (sep:=⟨#[32]⟩) (by
  intro x a;simp only[XQ,X2,or_false] at a
  rcases a with rfl|rfl|rfl|rfl|rfl
  ·have:=Dw d;omega
  ·omega
  ·have:=Dw f;omega
  ·have:=mQ c.2.2.2.1;omega
  exact pV g h)
 have e:(⟨#[32]⟩:Tb).size=1:=rfl;rw[e] at this;simp only[XC,XP] at this;unfold B9;omega
theorem Rl(i:Int)(nm:ByteArray)(k:Int)(mu:Bool)(h d:Int)(f:ByteArray)(w:World)(P:Lu i)(R:Lu k)(O:Lu d)(z:nm.size<=100)(y:f.size<=100)(T:Jp w):
 Zc 152 #[.agg #[.int .i64 i,.string nm,.int .i64 k,.bool mu,.int .i64 h,.int .i64 d,.string f]] w λe j=>e=.returned (.string (B9 (i,nm,k,mu,h,d,f)))/\Zb w j:=by
 have o:Hid (Zb w (w.alloc (.cells #[.int .i64 i,.string nm,.int .i64 k,.bool mu,.int .i64 h,.int .i64 d,.string f] 69))):=(XB _ _).alloc (Y' _) _;have q:Hid (∀n,Lu n->∀W,Zb w W->Zc 79 #[.int .i64 n] W λe j=>e=.returned (.string (Bm n))/\Zb W j):=λn hn W m=>Mx n W hn (T.below m)
 have I:=Aa (λ(W:Tw)=>fN mu Qn jI W)
 have N:=Aa (λ(W:Tw)(m:Zb w W)=>yH h d f W (by omega) O (T.below m))
 have M:Hid (∀(W:World)(g:Nat),W.1[g]? = some (.cells #[.string (Bm i),.string nm,.string (Bm k),.string (Fa mu Qn jI),.string (E7 h d f)] 9)->Zc 195 #[.slice (some ⟨g,0,none⟩) 5 5,.string ⟨#[32]⟩] W λe j=>e=.returned (.string (B9 (i,nm,k,mu,h,d,f)))/\Zb W j):=λW g hg=>by have ho:W.ownsRow 0 9 1 (.slice (some ⟨g,0,none⟩) 5 5) 5 [.string (Bm i),.string nm,.string (Bm k),.string (Fa mu Qn jI),.string (E7 h d f)]:=⟨rfl,.inr ⟨g,5,_,rfl,XH _,hg,Y' _,by decide,rfl,rfl⟩⟩;exact dJ 0 _ [Bm i,nm,Bm k,Fa mu Qn jI,E7 h d f] ⟨#[32]⟩ W ho (by simp) (by have:=S6 (c:=(i,nm,k,mu,h,d,f)) P z R O y;unfold B9 at this;simp only at this;omega)
 have u:∀args w,(callFunc 79 args).run prog w=.ok (.enter 79 args) w:=enters_of func79 (by kernel_rfl) rfl;have t:∀args w,(callFunc 91 args).run prog w=.ok (.enter 91 args) w:=enters_of func91 (by kernel_rfl) rfl;have x:∀args w,(callFunc 196 args).run prog w=.ok (.enter 196 args) w:=enters_of func196 (by kernel_rfl) rfl;have v:∀args w,(callFunc 195 args).run prog w=.ok (.enter 195 args) w:=enters_of func195 (by kernel_rfl) rfl;have X:=Aa u;have V:=Aa t;have aa:=Aa x;have Y:=Aa v;have HI:=Aa P;have HK:=Aa R;obtain⟨d0,d1,d2,d3,d4,d5,d6⟩:=ABx w (.int .i64 i) (.string nm) (.int .i64 k) (.bool mu) (.int .i64 h) (.int .i64 d) (.string f);have D:w.1.size<(w.alloc (.cells #[.int .i64 i,.string nm,.int .i64 k,.bool mu,.int .i64 h,.int .i64 d,.string f] 69)).1.size:=by simp
 have l:=Aa D;clear u t x v P R O z y T D;generalize B9 (i,nm,k,mu,h,d,f)=ab at *;have J:=Aa (q.o i HI.o);have L:=Aa (q.o k HK.o);clear q HI HK;generalize Bm i=s1 at *;generalize Bm k=s3 at *;generalize Fa mu Qn jI=s4 at *;generalize E7 h d f=s5 at *;go_enter func152,ntmps152;go_wp2_with fail;generalize w.alloc (.cells #[.int .i64 i,.string nm,.int .i64 k,.bool mu,.int .i64 h,.int .i64 d,.string f] 69)=U at *
 have r:Hid (∀W,Zb U W->W.cell? ⟨w.1.size,0,none⟩=some (.int .i64 i)/\W.cell? ⟨w.1.size,1,none⟩=some (.string nm)/\W.cell? ⟨w.1.size,2,none⟩=some (.int .i64 k)/\W.cell? ⟨w.1.size,3,none⟩=some (.bool mu)/\W.cell? ⟨w.1.size,4,none⟩=some (.int .i64 h)/\W.cell? ⟨w.1.size,5,none⟩=some (.int .i64 d)/\W.cell? ⟨w.1.size,6,none⟩=some (.string f)):=Aa (λW m=>⟨(m.cell (p:=⟨w.1.size,0,none⟩) l.o).trans d0,(m.cell (p:=⟨w.1.size,1,none⟩) l.o).trans d1,(m.cell (p:=⟨w.1.size,2,none⟩) l.o).trans d2,(m.cell (p:=⟨w.1.size,3,none⟩) l.o).trans d3,(m.cell (p:=⟨w.1.size,4,none⟩) l.o).trans d4,(m.cell (p:=⟨w.1.size,5,none⟩) l.o).trans d5,(m.cell (p:=⟨w.1.size,6,none⟩) l.o).trans d6⟩)
 have a:Hid (Zb U U.drew):=Aa (XB _ _).drew
 go_region_held3 (λj=>j.cell? ⟨w.1.size,0,none⟩=some (.int .i64 i)/\j.cell? ⟨w.1.size,1,none⟩=some (.string nm)/\j.cell? ⟨w.1.size,2,none⟩=some (.int .i64 k)/\j.cell? ⟨w.1.size,3,none⟩=some (.bool mu)/\j.cell? ⟨w.1.size,4,none⟩=some (.int .i64 h)/\j.cell? ⟨w.1.size,5,none⟩=some (.int .i64 d)/\j.cell? ⟨w.1.size,6,none⟩=some (.string f))
  (first
    | exact r.o _ a.o
    | exact r.o _ (a.o.alloc a.o.size _)
    | exact r.o _ s.o
    | (go_keep;done)
    | fail)
  (first
    | (go_at_call_of 79 (#[.int .i64 i]:Array Value);refine(J.o _ (Below.Ap o.o a.o)).mono ?_;rintro e G⟨rfl,b⟩;replace a:=Aa (Below.Ap a.o b);clear b)
    | (go_at_call_of 79 (#[.int .i64 k]:Array Value);refine(L.o _ (Below.Ap o.o a.o)).mono ?_;rintro e G⟨rfl,b⟩;replace a:=Aa (Below.Ap a.o b);clear b)
    | (go_at_call 91;refine(I.o _).mono ?_;rintro e G⟨rfl,rfl⟩)
    | (go_at_call 196;refine(N.o _ (Below.Ap o.o a.o)).mono ?_;rintro e G⟨rfl,b⟩;replace a:=Aa (Below.Ap a.o b);clear b)
    | (go_at_call 195;refine(M.o _ _ (Yac _ _)).mono ?_;rintro e G⟨rfl,b⟩;have s:=Aa (Below.Ap (a.o.alloc a.o.size _) b);clear b)
    | fail)
 all_goals
  go_wp2;go_ret;exact⟨rfl,Below.Ap o.o s.o⟩
structure Ib(c:Aj):Prop where
 id:Lu c.1
 name:c.2.1.size<=100
 kind:Lu c.2.2.1
 num:Lu c.2.2.2.2.2.1
 text:c.2.2.2.2.2.2.size<=100
theorem Ib.size{c:Aj}(h:Ib c):(B9 c).size<=600:=S6 h.id h.name h.kind h.num h.text
theorem wN(c:Aj)(w:Tw)(h:Ib c)(a:Jp w):Zc 152 #[Zg (Cc c).toArray] w λe b=>e=Zr (Zt (B9 c))/\Zb w b :=
 Rl c.1 c.2.1 c.2.2.1 c.2.2.2.1 c.2.2.2.2.1 c.2.2.2.2.2.1 c.2.2.2.2.2.2 w h.id h.kind h.num h.name h.text a
theorem uM(v:Tv)(l:List Aj)(sep:Tb)(w:Tw)(h:bH w v l)(hl:l.length<=100)(hn:∀x∈l,Ib x)(hs:sep.size<=1)(ht:Jp w):
 Zc 151 #[v,Zt sep,.func (.func 152) #[] #[]] w λe m=>e=Zr (Zt (Fe (l.map B9) sep))/\Zb w m:=by
 have ai:∀args w,(callFunc 152 args).run prog w=.ok (.enter 152 args) w:=enters_of func152 (by kernel_rfl) rfl
 have HJ:=Aa (λ(W:Tw)(i:Tv)(J:W.ownsRow w.1.size 9 1 i l.length ((l.map B9).map (Zt ·)))=>dJ _ i (l.map B9) sep W (by rw[XM];exact J) (by simp;omega) (by have:=Jh (b:=600) (xs:=l.map B9) (sep:=sep) (by intro x N;obtain⟨y,hy,rfl⟩:=List.mem_map.1 N;exact(hn y hy).size);rw[XM] at this;have h2:l.length*(600+sep.size)<=100*601:=YS hl (by omega);omega))
 have D:Hid (∀j,j<l.length->∀W,Zb w W->Zc 152 #[Zg (Cc l[j]!).toArray] W λe m=>e=Zr (Zt (B9 l[j]!))/\Zb W m):=λj s W J=>wN _ W (hn _ (by rw[getElem!_pos l j s];exact Yh s)) (ht.below J)
 have hlen:(∃a c,v=Zs a 0 c)/\l=[]\/∃g o c,v=Zs (some (Zd g o)) l.length c/\I1 w g o l:=by
  rcases h with h|⟨g,o,c,h1,_,h4⟩
  ·exact .inl h
  exact .inr ⟨g,o,c,h1,h4⟩
 obtain⟨iT,L,O,n,p⟩:=info_parts Uz;have f:=Zy L O n p
 have I:Hid (∀k,k<l.length->((l.take (k+1)).map B9).map (Value.string ·)=((l.take k).map B9).map (Value.string ·)++[Zt (B9 l[k]!)]):=λk hk=>by rw[YG,XE hk,getElem!_pos l k hk,XL,XL];rfl
 have t:Hid (∀(W:Tw)(i:Tv),W.ownsRow w.1.size 9 1 i l.length (((l.take l.length).map B9).map (Value.string ·))->W.ownsRow w.1.size 9 1 i l.length ((l.map B9).map (Zt ·))):=λW i J=>by rwa[Yg] at J
 clear h hn ht L O n p;generalize Fe (l.map B9) sep=ag at *
 rcases hlen with⟨⟨_,_,rfl⟩,rfl⟩|⟨g,o,c,rfl,hc⟩
 ·have aa:=Aa (HJ.o w (Zs none 0 0) (XF w w.1.size 9 1))
  clear HJ D I t;go_enter func151,ntmps151;go_wp2
  go_loopw [7,12] (λi P wr=>i=Zs none 0 0/\P=Zi 0/\wr=w) (λ_ _ _=>0)
  case atStart=>exact⟨rfl,rfl,rfl⟩
  case round=>obtain⟨rfl,rfl,rfl⟩:=hrel;go_wp2_with (go_at_call 195;apply aa.o.mono;rintro e w1⟨rfl,d⟩);go_ret;exact⟨rfl,d⟩
 have HC:=Aa hc;clear hc;go_enter func151,ntmps151;go_wp2
 go_loopw [7,12] (λi P wr=>∃k:Nat,k<=l.length/\P=Zi k/\Hid (wr.ownsRow w.1.size 9 1 i k (((l.take k).map B9).map (Zt ·)))/\Hid (Zb w wr)) (λ_ P _=>l.length-(intOf P).toNat)
 case atStart=>exact⟨0,XH _,rfl,Aa (XF _ _ _ _),Aa (XB _ _)⟩
 case round=>
  obtain⟨k,hk,rfl,RO,R⟩:=hrel;obtain⟨ta,tc,rfl,_⟩:=Au RO.o
  by_cases hlt:k<l.length
  ·have ah:(k:Int)<(l.length:Int):=by omega
   obtain⟨⟨T,U,V,X,Y,x6,x7⟩,N⟩:∃x,l[k]! = x:=⟨_,rfl⟩;obtain⟨q0,q1,q2,q3,q4,q5,q6⟩:=(HC.o.below R.o).cells hlt N;have z:=Aa (D.o k hlt);have r:=Aa (I.o k hlt);rw[N] at z r;generalize B9 (T,U,V,X,Y,x6,x7)=ix at z r;replace z:Hid (∀W,Zb w W->Zc 152 #[Zg #[Zi T,Zt U,Zi V,Zo X,Zi Y,Zi x6,Zt x7]] W λe m=>e=Zr (Zt ix)/\Zb W m):=z;have q:=Aa (R.o.alloc R.o.size (Zk #[Zi T,Zt U,Zi V,Zo X,Zi Y,Zi x6,Zt x7] 69));have G:=Aa (Bc RO.o ((XB wr.1.size wr).alloc (Y' _) (Zk #[Zi T,Zt U,Zi V,Zo X,Zi Y,Zi x6,Zt x7] 69)));clear N
   go_wp2_with (first
    | (go_at_fn 152;refine(z.o _ q.o).mono ?_;rintro e w1⟨rfl,d⟩;have aj:=d.size;have af:=q.o.size)
    | (at_builtin;refine wpList_append_own _ rfl _ _ 205 rfl w.1.size 9 iT (.string ⟨#[]⟩) 1 16 underlying205 f.o.1 f.o.2.1 f.o.2.2.1 f.o.2.2.2 rfl (by decide) _ _ _ rfl ((Bc G.o d).alloc _) (Zd w1.1.size 0) 1 1 [.string ix] rfl rfl (λj u s=>XV (Yac _ _) j u s) (by intro u hu;simp at hu;subst hu;rfl) ?d3 ?d4 ?d5 ?_))
   case d3=>unfold maxLen;omega
   case d4=>omega
   case d5=>simp;omega
   intro v2 w2 M ad _;have ac:Zb w w2:=((q.o.trans (d.mono af)).alloc (by omega) _).grown ad (by simp;omega) (λj s=>(G.o.lt j s).1);obtain⟨va,vc,rfl,_⟩:=Au M;go_wp2;exact⟨⟨k+1,by omega,by go_num,Aa (by rw[r.o];simpa using M),Aa ac⟩,by simp[intOf];omega⟩
  have ae:k=l.length:=by omega
  subst ae;have ab:=Aa (HJ.o _ _ (t.o _ _ RO.o));go_wp2_with (go_at_call 195;apply ab.o.mono;rintro e w1⟨rfl,d⟩);go_ret;exact⟨rfl,Below.Ap R.o d⟩
structure Fh(a:ADV):Prop where
 qk:a.2.1.size<=100
 qj:Lu a.2.2.1
 qv:∀x∈a.2.2.2.1,Lu x
 Iz:a.2.2.2.1.length<=100
 qz:∀x∈a.2.2.2.2.1,Ib x
 ADp:a.2.2.2.2.1.length<=100
 next:Lu a.2.2.2.2.2
def F3(a:ADV):ByteArray :=
 if a.1=1 then ⟨#[97,100,100,32]⟩++a.2.1++⟨#[32]⟩++Bm a.2.2.1
 else if a.1=2 then ⟨#[114,101,109,111,118,101,32]⟩++a.2.1
 else if a.1=3 then ⟨#[109,97,115,107,32]⟩++a.2.1++⟨#[32]⟩++Fe (a.2.2.2.1.map Bm) ⟨#[44]⟩
 else ⟨#[115,99,104,101,109,97,32]⟩++Bm a.2.2.2.2.2++⟨#[32]⟩++Fe (a.2.2.2.2.1.map B9) ⟨#[59]⟩
theorem fV{l:List Int}(c:∀x∈l,Lu x)(a:l.length<=100):(Fe (l.map Bm) ⟨#[44]⟩).size<=2200:=by have:=Jh (b:=21) (xs:=l.map Bm) (sep:=⟨#[44]⟩) (by intro x d;obtain⟨y,hy,rfl⟩:=List.mem_map.1 d;exact Dw (c y hy));rw[XM] at this;have e:(⟨#[44]⟩:Tb).size=1:=rfl;rw[e] at this;have f:l.length*(21+1)<=100*22:=YS a (by omega);omega
theorem fW{l:List Aj}(c:∀x∈l,Ib x)(a:l.length<=100):(Fe (l.map B9) ⟨#[59]⟩).size<=60100:=by have:=Jh (b:=600) (xs:=l.map B9) (sep:=⟨#[59]⟩) (by intro x d;obtain⟨y,hy,rfl⟩:=List.mem_map.1 d;exact(c y hy).size);rw[XM] at this;have e:(⟨#[59]⟩:Tb).size=1:=rfl;rw[e] at this;have f:l.length*(600+1)<=100*601:=YS a (by omega);omega
theorem gB{a:ADV}(h:Fh a):(F3 a).size<=61000:=by
 have g:=Dw h.qj;have i:=Dw h.next;have j:=fV h.qv h.Iz;have k:=fW h.qz h.ADp;have l:=h.qk;have b:(⟨#[97,100,100,32]⟩:Tb).size=4:=rfl;have c:(⟨#[32]⟩:Tb).size=1:=rfl;have d:(⟨#[114,101,109,111,118,101,32]⟩:Tb).size=7:=rfl;have e:(⟨#[109,97,115,107,32]⟩:Tb).size=5:=rfl;have f:(⟨#[115,99,104,101,109,97,32]⟩:Tb).size=7:=rfl;unfold F3;split
 ·simp only[Ea];omega
 split
 ·simp only[Ea];omega
 split
 ·simp only[Ea];omega
 simp only[Ea];omega
theorem cS{c:Array Oper}{C:Tw->Prop}{Q:Act->Prop}{rest:List Oper}{o:Oper}{a:Act}(d:o.guard=none)(f:Nat)(xs:Array Operand)(ts:Array TypeId)(l:o.op=.call { callee:=.value (.func f),args:=xs,argTypes:=ts })(args:Array Tv)(j:xs.map a.eval=args)(i:∀args w,(callFunc f args).run prog w=.ok (.enter f args) w)(v:Tv)(k:∀w,C w->Zc f args w (λe g=>e=Zr v/\C g))(h:wpQuiet prog c C Q rest (a.put o.dst v)):wpQuiet prog c C Q (o :: rest) a:=by
 refine wpQuiet_step (λK hK=>?_);rw[Yae (by simp[Region.wanted,d])];refine⟨v,λw m=>?_,hK _ h⟩
 have b:(execOp a.eval o).run prog w=.ok (.enter f args) w:=by simp[execOp,l,resolve,invoke,j,i,Act.eval,Deferred.ofValue]
 unfold Oper.quietAt;rw[b];exact⟨rfl,k w m⟩
theorem AEC(k:Int)(p:ByteArray)(r:Int)(m:List Int)(cl:List Aj)(a:Int)(u:Option Addr)(x v:Nat)(n:Option Addr)(s o:Nat)(w:World)(Y:Om w (k,p,r,m,cl,a) u x v n s o)(i:Fh (k,p,r,m,cl,a))(R:Jp w):
 Zc 93 #[.agg #[.int .i64 k,.string p,.int .i64 r,.slice u x v,.slice n s o,.int .i64 a]] w λe z=>e=.returned (.string (F3 (k,p,r,m,cl,a)))/\Zb w z:=by
 have c:Hid (Zb w (w.alloc (.cells #[.int .i64 k,.string p,.int .i64 r,.slice u x v,.slice n s o,.int .i64 a] 111))):=(XB _ _).alloc (Y' _) _;have hp:p.size<=100:=i.qk;have P:(Bm r).size<=21:=Dw i.qj;have G:(Bm a).size<=21:=Dw i.next;have J:(Fe (m.map Bm) ⟨#[44]⟩).size<=2200:=fV i.qv i.Iz;have I:(Fe (cl.map B9) ⟨#[59]⟩).size<=60100:=fW i.qz i.ADp;have H1:Hid (∀W,Zb w W->Zc 79 #[.int .i64 r] W λe z=>e=.returned (.string (Bm r))/\Zb W z):=λW hW=>Mx r W i.qj (R.below hW)
 have H2:Hid (∀W,Zb w W->Zc 79 #[.int .i64 a] W λe z=>e=.returned (.string (Bm a))/\Zb W z):=λW hW=>Mx a W i.next (R.below hW)
 have H3:Hid (∀W,Zb w W->Zc 150 #[.slice u x v,.string ⟨#[44]⟩,.func (.func 79) #[] #[]] W λe z=>e=.returned (.string (Fe (m.map Bm) ⟨#[44]⟩))/\Zb W z):=λW hW=>rF _ m _ W (Y.qv.below hW) i.Iz i.qv (by decide) (R.below hW)
 have V:Hid (∀W,Zb w W->Zc 151 #[.slice n s o,.string ⟨#[59]⟩,.func (.func 152) #[] #[]] W λe z=>e=.returned (.string (Fe (cl.map B9) ⟨#[59]⟩))/\Zb W z):=λW hW=>uM _ cl _ W (Y.qz.below hW) i.ADp i.qz (by decide) (R.below hW)
 have T:(w.alloc (.cells #[.int .i64 k,.string p,.int .i64 r,.slice u x v,.slice n s o,.int .i64 a] 111)).1[w.1.size]? = some (.cells #[.int .i64 k,.string p,.int .i64 r,.slice u x v,.slice n s o,.int .i64 a] 111 (0,0)):=Yac w _;have D:=Aa T;have M:Hid (∀args w,(callFunc 150 args).run prog w=.ok (.enter 150 args) w):=enters_of func150 (by kernel_rfl) rfl;have N:Hid (∀args w,(callFunc 151 args).run prog w=.ok (.enter 151 args) w):=enters_of func151 (by kernel_rfl) rfl;clear Y R T i
 by_cases k1:k=1
 ·subst k1
  have l:Hid (F3 (1,p,r,m,cl,a)=⟨#[97,100,100,32]⟩++p++⟨#[32]⟩++Bm r):=rfl;generalize F3 (1,p,r,m,cl,a)=L at l ⊢;generalize Bm r=s1 at *;clear H2 H3 V G J I;go_enter func93,ntmps93;go_wp2_with fail;generalize w.alloc (.cells #[.int .i64 1,.string p,.int .i64 r,.slice u x v,.slice n s o,.int .i64 a] 111)=g at *;obtain⟨_,U,y2,_,_,_,_⟩:=Vj D.o;replace U:=cell_regrown U;replace y2:=cell_regrown y2;have j:Hid (∀d os,Zc 79 #[.int .i64 r] (grow (redrawn g d) os) λe h=>e=.returned (.string s1)/\∃b:Regrown,h=grow (redrawn g b.d) b.os):=λd os=>Calls.regrown_of (H1.o _ (Below.Ap c.o (below_regrown g d os)))
  refine wp_region_quiet_below (by kernel_rfl) (by kernel_rfl) ?_
  repeat (go_big_quiet_step (first
   | (go_at_call_of 79 (#[.int .i64 r]:Array Value);exact j.o _ _)))
  refine wpQuiet_nil ?_;intro _ t;obtain⟨⟨O,y⟩,f⟩:=t;subst f;go_wp2;go_ret;exact⟨L7 l.o.symm,Below.Ap c.o (below_regrown g O y)⟩
 by_cases k2:k=2
 ·subst k2
  have l:Hid (F3 (2,p,r,m,cl,a)=⟨#[114,101,109,111,118,101,32]⟩++p):=rfl;generalize F3 (2,p,r,m,cl,a)=L at l ⊢;clear H1 H2 H3 V G J I;go_enter func93,ntmps93;go_wp2;go_ret;exact⟨L7 l.o.symm,c.o⟩
 by_cases k3:k=3
 ·subst k3
  have l:Hid (F3 (3,p,r,m,cl,a)=⟨#[109,97,115,107,32]⟩++p++⟨#[32]⟩++Fe (m.map Bm) ⟨#[44]⟩):=rfl;generalize F3 (3,p,r,m,cl,a)=L at l ⊢;generalize Fe (m.map Bm) ⟨#[44]⟩=s1 at *;clear H1 H2 V G I P;go_enter func93,ntmps93;go_wp2_with fail;generalize w.alloc (.cells #[.int .i64 3,.string p,.int .i64 r,.slice u x v,.slice n s o,.int .i64 a] 111)=g at *;obtain⟨_,U,_,y3,_,_,_⟩:=Vj D.o;replace U:=cell_regrown U;replace y3:=cell_regrown y3;have j:Hid (∀d os,Zc 150 #[.slice u x v,.string ⟨#[44]⟩,.func (.func 79) #[] #[]] (grow (redrawn g d) os) λe h=>e=.returned (.string s1)/\∃b:Regrown,h=grow (redrawn g b.d) b.os):=λd os=>Calls.regrown_of (H3.o _ (Below.Ap c.o (below_regrown g d os)))
  refine wp_region_quiet_below (by kernel_rfl) (by kernel_rfl) ?_
  repeat (go_big_quiet_step (fail))
  refine cS (by rfl) 150 _ _ rfl #[.slice u x v,.string ⟨#[44]⟩,.func (.func 79) #[] #[]] (by simp[Act.eval]) M.o (.string s1) (λw hw=>by obtain⟨q,rfl⟩:=hw;exact j.o _ _) ?_;simp only[Act.put,XS,XW,Wb]
  repeat (go_big_quiet_step (fail))
  refine wpQuiet_nil ?_;intro _ t;obtain⟨⟨O,y⟩,f⟩:=t;subst f;go_wp2;go_ret;exact⟨L7 l.o.symm,Below.Ap c.o (below_regrown g O y)⟩
 have l:Hid (F3 (k,p,r,m,cl,a)=⟨#[115,99,104,101,109,97,32]⟩++Bm a++⟨#[32]⟩++Fe (cl.map B9) ⟨#[59]⟩):=by simp[Hid,F3,k1,k2,k3]
 generalize F3 (k,p,r,m,cl,a)=L at l ⊢;generalize Fe (cl.map B9) ⟨#[59]⟩=s1 at *;generalize Bm a=s2 at *;clear H1 H3 J P;go_enter func93,ntmps93;go_wp2_with fail;generalize w.alloc (.cells #[.int .i64 k,.string p,.int .i64 r,.slice u x v,.slice n s o,.int .i64 a] 111)=g at *;obtain⟨_,_,_,_,y4,y5,_⟩:=Vj D.o;replace y4:=cell_regrown y4;replace y5:=cell_regrown y5;have j:Hid (∀d os,Zc 151 #[.slice n s o,.string ⟨#[59]⟩,.func (.func 152) #[] #[]] (grow (redrawn g d) os) λe h=>e=.returned (.string s1)/\∃b:Regrown,h=grow (redrawn g b.d) b.os):=λd os=>Calls.regrown_of (V.o _ (Below.Ap c.o (below_regrown g d os)))
 have X:Hid (∀d os,Zc 79 #[.int .i64 a] (grow (redrawn g d) os) λe h=>e=.returned (.string s2)/\∃b:Regrown,h=grow (redrawn g b.d) b.os):=λd os=>Calls.regrown_of (H2.o _ (Below.Ap c.o (below_regrown g d os)))
 refine wp_region_quiet_below (by kernel_rfl) (by kernel_rfl) ?_
 repeat (go_big_quiet_step (first
  | (go_at_call_of 79 (#[.int .i64 a]:Array Value);exact X.o _ _)))
 refine cS (by rfl) 151 _ _ rfl #[.slice n s o,.string ⟨#[59]⟩,.func (.func 152) #[] #[]] (by simp[Act.eval]) N.o (.string s1) (λw hw=>by obtain⟨q,rfl⟩:=hw;exact j.o _ _) ?_;simp only[Act.put,XS,XW,Wb]
 repeat (go_big_quiet_step (fail))
 refine wpQuiet_nil ?_;intro _ t;obtain⟨⟨O,y⟩,f⟩:=t;subst f;go_wp2;go_ret;exact⟨L7 l.o.symm,Below.Ap c.o (below_regrown g O y)⟩
variable{T e:TypeId}{W w:Tw}{s:Tb}{l:List UInt8}{k n z:Nat}{c:UInt8}{v:Tv}
def Ov:ByteArray:=⟨#[114,101,97,100,115]⟩
def Oy:ByteArray:=⟨#[98,108,105,110,100]⟩
def I4(b:ByteArray)(a:Bool):ByteArray:=⟨#[99,111,109,109,105,116,32]⟩++b++⟨#[32]⟩++Fa a Ov Oy++⟨#[10]⟩
def Ed(l:List ADV):List UInt8:=l.flatMap λa=>(F3 a).1.toList++[10]
def Nn(c:Dn):List UInt8:=(I4 c.1 c.2.1).1.toList++Ed c.2.2
def C6(c:Dn):ByteArray:=⟨(Nn c).toArray⟩
def Cv(c:Dn):Bool:=Bx c.1 && c.2.2.all Ch
def Hz(c:Dn):Value:=if Cv c then .tuple #[.string (C6 c),.nilIface] else .tuple #[.string ⟨#[]⟩,.iface 91 (Zi 1)]
theorem uU(l:List ADV)(a:ADV):Ed (l++[a])=Ed l++((F3 a).1.toList++[10]):=by simp[Ed]
theorem iF{B b:Nat}{p:Tv}{bs:List Tv}(h:Lib.BuilderAt T e B b p bs w)(c:Zb w W):Lib.BuilderAt T e B b p bs W:=by obtain⟨d,v,a,f,g⟩:=h;exact⟨d,v,(c.block b (Ac a)).trans a,Bc f c,g⟩
theorem AJe{B b:Nat}{bs:List Tv}(h:Lib.IsBuilder T e B b bs w)(a:Zb w W):Lib.IsBuilder T e B b bs W:=by
 rcases h with h|h
 ·exact .inl (iF h a)
 exact .inr (iF h a)
theorem AFg{B b:Nat}{bs:List Tv}(h:Lib.IsBuilder T e B b bs w):b<w.1.size:=by rcases h with h|h <;> exact h.lt
theorem Qz(s:Tb):Lib.strCells s=Lib.byteCells s.1.toList:=rfl
theorem Bg(a b:List UInt8):Lib.byteCells (a++b)=Lib.byteCells a++Lib.byteCells b:=by simp[Lib.byteCells]
theorem Ri(a:Bool)(h:s.size<=100):(I4 s a).size<=114:=by
 have b:(⟨#[99,111,109,109,105,116,32]⟩:Tb).size=7:=rfl;have c:(⟨#[32]⟩:Tb).size=1:=rfl;have d:(⟨#[10]⟩:Tb).size=1:=rfl;have e:(Fa a Ov Oy).size=5:=by cases a <;> rfl
 unfold I4;simp only[Ea];omega
theorem fC{l:List ADV}(h:∀a∈l,Fh a):(Ed l).length<=l.length*61001:=by
 induction l with
 | nil=>simp[Ed]
 | cons a l ih=>
   have f:=gB (h a (Ye ..));have g:=ih (λb d=>h b (Yd _ d))
   have e:(Ed (a :: l)).length=(F3 a).1.toList.length+1+(Ed l).length:=by simp only[Ed,XR,XG,XC,XP]
   have c:(F3 a).1.toList.length=(F3 a).size:=by simp
   rw[e,c,XC,Y3];omega
theorem pN{Bz:List ADV}(m:Bz.length<=600000)(g:k<Bz.length)(d:∀a∈Bz,Ch a=true->Fh a)(h:∀j,j<k->Ch Bz[j]! = true):(Ed (Bz.take k)).length<=36600600000:=by
 have c:=fC (l:=Bz.take k) (λa e=>by
  obtain⟨j,f,rfl⟩:=Yk e;have b:j<k/\j<Bz.length:=by simpa[WT] using f
  rw[WL];have c:=h j b.1;rw[getElem!_pos Bz j b.2] at c;exact d _ (Yh b.2) c)
 have i:(Bz.take k).length<=600000:=by rw[XT];omega
 omega
theorem sK{a:Bool}{t:Tb}(b:(I4 s a).size<=114)(c:l.length<=36600600000)(d:t.size<=61000):(Lib.byteCells ((I4 s a).1.toList++l)).length+(t++⟨#[10]⟩).size<=140737488355328:=by
 have e9:(⟨#[10]⟩:Tb).size=1:=rfl;have e10:(I4 s a).1.toList.length=(I4 s a).size:=by simp
 rw[Lib.byteCells_length,XG,Ea,e9,e10];omega
theorem lW(f:Tb)(d:Bool)(Bz:List ADV)(aa:To)(an ac:Nat)(w:Tw)(ha:Dt w (Zs aa an ac) Bz)(hn:Bz.length<=600000)(G:f.size<=maxLen)(bb:∀a∈Bz,Ch a=true->Fh a)(hw:Lw w)(ht:Jp w):
 Zc 54 #[Zg #[Zt f,Zo d,Zs aa an ac]] w λe t=>e=Zr (Hz (f,d,Bz))/\Zb w t:=by
 have bn:=ha.len;subst bn;have v:=Aa (λW=>Mn f W G);have HA:=Aa ha;have HW:=Aa hw;have HT:=Aa ht;have aw:=Aa bb;have U:Hid (Zb w (w.alloc (Zk #[Zt f,Zo d,Zs aa Bz.length ac] 53))):=Zal;have ah:=Aa (Yac w (Zk #[Zt f,Zo d,Zs aa Bz.length ac] 53));clear ha hw ht bb G;cases hnb:Bx f with
 | false=>
   rw[hnb] at v;have HR:Hid (Hz (f,d,Bz)=Zu #[Zt ⟨#[]⟩,Zf 91 (Zi 1)]):=by simp[Hid,Hz,Cv,hnb]
   generalize Hz (f,d,Bz)=bz at HR ⊢;go_enter func54,ntmps54;go_wp2_with (go_at_call 70;refine(v.o _).mono ?_;rintro e b⟨rfl,n⟩);go_ret2;exact⟨by rw[HR.o];rfl,U.o.trans (n.mono (by simp))⟩
 | true=>
   rw[hnb] at v;have G:=Rk hnb
   have bh:Hid (∀k,k<Bz.length->Ch Bz[k]! = false->Hz (f,d,Bz)=Zu #[Zt ⟨#[]⟩,Zf 91 (Zi 1)]):=λk hk hr=>by
    have:Bz.all Ch=false:=by rw[List.all_eq_false];exact⟨Bz[k]!,by rw[getElem!_pos Bz k hk];exact Yh hk,by rw[hr];simp⟩
    simp[Hz,Cv,this]
   have a2:Hid ((∀k,k<Bz.length->Ch Bz[k]! = true)->Hz (f,d,Bz)=Zu #[Zt (C6 (f,d,Bz)),Zn]):=λhh=>by
    have:Bz.all Ch=true:=by rw[WE];intro x hx;obtain⟨k,hk,rfl⟩:=Yk hx;have:=hh k hk;rwa[getElem!_pos Bz k hk] at this
    simp[Hz,Cv,this,hnb]
   have ab:=Aa (λ(W:Tw)=>fN d Ov Oy W)
   have a4:∀args w,(callFunc 91 args).run prog w=.ok (.enter 91 args) w:=enters_of func91 (by kernel_rfl) rfl;have a3:∀args w,(callFunc 90 args).run prog w=.ok (.enter 90 args) w:=enters_of func90 (by kernel_rfl) rfl;have ar:=Aa a4;have aq:=Aa a3;have bp:(Fa d Ov Oy).size=5:=by cases d <;> rfl
   have ad:Hid (I4 f d=⟨#[99,111,109,109,105,116,32]⟩++f++⟨#[32]⟩++Fa d Ov Oy++⟨#[10]⟩):=rfl;have au:=Aa (Ri d (XI G (by decide)));generalize Fa d Ov Oy=ew at ab bp ad;clear a4 a3;go_enter func54,ntmps54;go_wp2_with fail;generalize w.alloc (Zk #[Zt f,Zo d,Zs aa Bz.length ac] 53)=wa at *;refine(v.o _).mono ?_;rintro e b⟨rfl,n⟩;have bf:=Aa (Below.Ap U.o n);have br:w.1.size<wa.1.size:=Ac ah.o;have bv:=n.size;have bk:=Aa ((n.block w.1.size br).trans ah.o);clear n ah U;have V:Hid (Zb b (b.alloc (Zk #[Zp none,Zs none 0 0] 178))):=Zal;have ao:Hid (Lib.IsBuilder 178 5 b.1.size b.1.size [] (b.alloc (Zk #[Zp none,Zs none 0 0] 178))):=.inl ⟨Y' _,_,Yac b _,XF _ _ _ _,by simp[Value.ownBlock]⟩;go_wp2_with fail;have bd:b.1.size<(b.alloc (Zk #[Zp none,Zs none 0 0] 178)).1.size:=by simp
   have ax:=Aa bd;clear bd;generalize b.alloc (Zk #[Zp none,Zs none 0 0] 178)=w2 at *;have ai:=Aa ((V.o.block w.1.size (by omega)).trans bk.o);obtain⟨x0,i,m,_⟩:=Db ai.o;have az:=Aa (λ(s:Tb)(hs:s.size<=114)=>Od b.1.size b.1.size [] s w2.drew ao.o (by simp;omega) (by show b.1.size<=w2.1.size;have:=ax.o;omega));have n1:¬9223372036854775807<7+f.size:=by omega
   have n2:¬9223372036854775807<7+f.size+1:=by omega
   have n3:¬9223372036854775807<7+f.size+1+5:=by omega
   have n4:¬9223372036854775807<7+f.size+1+5+1:=by omega
   go_region_law
    (first
      | (refine Nh (by rfl) 91 (.tmp 17) (.const (Zt ⟨#[114,101,97,100,115]⟩)) (.const (Zt ⟨#[98,108,105,110,100]⟩)) 4 9 9 (by rfl) (Zo d) (Zt ⟨#[114,101,97,100,115]⟩) (Zt ⟨#[98,108,105,110,100]⟩) (by rfl) (by rfl) (by rfl) ar.o _ (ab.o _) ?_
         rintro e w4⟨rfl,rfl⟩;refine⟨_,rfl,?_⟩)
      | (refine Gc (by rfl) 90 (.tmp 4) (.tmp 20) 178 9 (by rfl) _ _ rfl rfl aq.o _ (az.o _ (by rw[<-ad.o];exact au.o)) ?_
         rintro e w4⟨rfl,O,a7⟩;have p:=Aa O;have X:=Aa ((XB _ _).drew.trans a7);clear O a7;refine⟨_,rfl,?_⟩)
      | fail)
   all_goals
    have bw:b.1.size<w4.1.size:=p.o.lt;have L:=Aa (bf.o.trans ((V.o.trans X.o).mono (by omega)));have a0:=Aa ((X.o.block w.1.size (by omega)).trans ai.o);clear x0 i m;obtain⟨x0,i,m,_⟩:=Db a0.o
    have I:Hid (Lib.IsBuilder 178 5 b.1.size b.1.size (Lib.byteCells ((I4 f d).1.toList++Ed (Bz.take 0))) w4):=Aa (.inr (by have:=p.o;rw[<-ad.o,WS,Qz] at this;simpa[Ed] using this))
    clear p az ab n1 n2 n3 n4 X V ao ax ai;go_wp2_with fail
    go_loopw [25] (λvi wr=>∃k:Nat,k<=Bz.length/\vi=Zi k/\Hid (Lib.IsBuilder 178 5 b.1.size b.1.size (Lib.byteCells ((I4 f d).1.toList++Ed (Bz.take k))) wr)/\Hid (Zb w wr)/\Hid (∀j,j<k->Ch Bz[j]! = true)) (λvi _=>Bz.length-(intOf vi).toNat)
    case atStart=>exact⟨0,XH _,rfl,I,L,Aa (λj hj=>absurd hj (Yr _))⟩
    case round=>
     clear x0 i m a0 I L;obtain⟨k,hk,rfl,BD,T,RT⟩:=hrel
     by_cases hlt:k<Bz.length
     ·have bt:(k:Int)<(Bz.length:Int):=by omega
      rcases HA.o.below T.o with⟨_,e0⟩|⟨g,o,c,eg,bs,bu,N⟩
      ·rw[e0] at hlt;simp at hlt
      injection eg with bl _ bm;subst bl bm;obtain⟨ma,mn,mc,ca,cn,cc,aj,a5⟩:=N k hlt;have z:Hid (Ch Bz[k]! = true->Fh Bz[k]!):=Aa (aw.o _ (by rw[getElem!_pos Bz k hlt];exact Yh hlt));have D:Hid (Ed (Bz.take (k+1))=Ed (Bz.take k)++((F3 Bz[k]!).1.toList++[10])):=Aa (by rw[Br hlt,uU]);have af:=Aa (bh.o k hlt)
      have ag:Hid (Ch Bz[k]! = true->∀j,j<k+1->Ch Bz[j]! = true):=Aa (λhh j hj=>by
       by_cases e:j=k
       ·rw[e];exact hh
       exact RT.o j (by omega))
      have av:Hid (∀l,Ed (Bz.take k)=l->l.length<=36600600000):=Aa (λl hl=>by rw[<-hl];exact pN hn hlt aw.o RT.o);obtain⟨⟨i,m,q,x4,x5,r⟩,hx⟩:∃x,Bz[k]! = x:=⟨_,rfl⟩;rw[hx] at aj a5 z D af ag;obtain⟨q0,q1,q2,q3,q4,q5⟩:=a5;simp only at q0 q1 q2 q3 q4 q5;have u:Hid (Zb wr (wr.alloc (Zk #[Zi i,Zt m,Zi q,Zs ma mn mc,Zs ca cn cc,Zi r] 111))):=Aa (Zal);have a1:=Aa (Yac wr (Zk #[Zi i,Zt m,Zi q,Zs ma mn mc,Zs ca cn cc,Zi r] 111));have al:=Aa aj;have y:=Aa (λ(W:Tw)(hW:Zb wr W)=>wO i m q x4 x5 r ma mn mc ca cn cc W (al.o.below hW) ((HW.o.below T.o).below hW));have ae:Hid (Ch (i,m,q,x4,x5,r)=true->∀W,Zb wr W->Zc 93 #[Zg #[Zi i,Zt m,Zi q,Zs ma mn mc,Zs ca cn cc,Zi r]] W λe t=>e=Zr (Zt (F3 (i,m,q,x4,x5,r)))/\Zb W t):=Aa (λhr W hW=>AEC i m q x4 x5 r ma mn mc ca cn cc W (al.o.below hW) (z.o hr) ((HT.o.below T.o).below hW));clear aj N hx;cases hri:Ch (i,m,q,x4,x5,r) with
      | false=>rw[hri] at y;have HR:=Aa (af.o hri);go_wp2_with (go_at_call 92;refine(y.o _ u.o).mono ?_;rintro e w7⟨rfl,h⟩);go_ret2;exact⟨by rw[HR.o];rfl,Below.Ap T.o (Below.Ap u.o h)⟩
      | true=>
        rw[hri] at y ae;have ba:=gB (z.o hri);have M:=Aa (ae.o rfl);obtain⟨pl,ak⟩:∃pl,Ed (Bz.take k)=pl:=⟨_,rfl⟩;have bc:=av.o pl ak;rw[ak] at BD D;have bi:=Aa (ag.o hri);obtain⟨ls,R⟩:∃ls,F3 (i,m,q,x4,x5,r)=ls:=⟨_,rfl⟩;rw[R] at ba M D;clear R av ak af ag z ae;have bo:=T.o.size;have bj:=Aa (sK au.o bc ba)
        go_wp2_with (first
         | (go_at_call 92;refine(y.o _ u.o).mono ?_;rintro e w7⟨rfl,h⟩
            have am:=Aa (Below.Ap u.o h);have a6:=(h.block wr.1.size (Ac a1.o)).trans a1.o;obtain⟨y0,y1,y2,y3,y4,y5,_⟩:=Vj a6;clear a6 h)
         | (go_at_call 93;refine(M.o _ am.o).mono ?_;rintro e w8⟨rfl,a8⟩
            have Y:=Aa (Below.Ap am.o a8);have n5:¬9223372036854775807<ls.size+1:=by omega
            have J:=Aa (AJe BD.o Y.o);have bx:=Y.o.size;clear a8)
         | (go_at_call 90;refine(Od b.1.size b.1.size _ _ _ J.o bj.o (by have:=AFg J.o;omega)).mono ?_
            rintro e w9⟨rfl,P,a9⟩;have ap:=Aa P;have bg:=Aa a9;clear P a9))
        go_roundw
        case rel=>
         refine⟨k+1,by omega,by go_num,Aa (.inr ?_),Aa ((T.o.trans (Y.o.mono bo)).trans (bg.o.mono (by omega))),bi⟩;have:=ap.o;rw[Qz,<-Bg,WC] at this;rw[D.o];have e11:(ls++⟨#[10]⟩).1.toList=ls.1.toList++[10]:=by simp
         rw[e11] at this;exact this
        case measure=>simp[intOf];omega
     have bq:k=Bz.length:=by omega
     subst bq;have HR:=Aa (a2.o RT.o);have ay:=Aa (Any.Builder_String_any lays169 Qbx b.1.size b.1.size _ wr BD.o (by have:=AFg BD.o;omega));rw[Yg] at ay;go_wp2_with (go_at_call 94;apply ay.o.mono;rintro e w7⟨rfl,h⟩);go_ret2;exact⟨by rw[HR.o];rfl,T.o.trans (h.mono (by omega))⟩
theorem AGo(h:indexByte s.1.toList c = -1):bA (Ao c s.1.toList).1=s/\bA (Ao c s.1.toList).2.1=⟨#[]⟩/\(Ao c s.1.toList).2.2=false:=by rw[Np h];exact⟨Ju s,rfl,rfl⟩
theorem AE8{i:Nat}(h:indexByte s.1.toList c=i):bA (Ao c s.1.toList).1=s.extract 0 i/\bA (Ao c s.1.toList).2.1=s.extract (i+1) s.size/\(Ao c s.1.toList).2.2=true/\i<s.size:=by
 obtain⟨e,a⟩:=J0 h;rw[e];refine⟨?_,?_,rfl,by rw[X4] at a;exact a⟩
 ·rw[extract_eq];simp[bA]
 have b:List.take (s.size-(i+1)) (List.drop (i+1) s.1.toList)=List.drop (i+1) s.1.toList :=
  Yf (by rw[XK,<-Lib.size_eq];exact Y' _)
 rw[extract_eq,b];rfl
theorem AFA(s:Tb)(c:UInt8)(w:Tw)(j:s.size<=maxLen):
 Zc 238 #[Zt s,Zt ⟨#[c]⟩] w λe h=>e=Zr (Zu #[Zt (bA (Ao c s.1.toList).1),Zt (bA (Ao c s.1.toList).2.1),Zo (Ao c s.1.toList).2.2])/\∃n,h=w.drewN n:=by
 unfold maxLen at j
 rcases O3 s.1.toList c with a|⟨i,a⟩
 ·obtain⟨d,f,g⟩:=AGo a
  rw[d,f,g];have b:=Aa (λW=>Any.stringslite_Index_one lays219 s c W);rw[a] at b;clear a d f g;go_enter func238,ntmps238;go_wp2_with (go_at_call 279;refine(b.o _).mono ?_;rintro e h⟨rfl,rfl⟩);go_ret3;exact⟨rfl,0,rfl⟩
 obtain⟨d,f,g,o⟩:=AE8 a;rw[d,f,g];have b:=Aa (λW=>Any.stringslite_Index_one lays219 s c W);rw[a] at b;clear a d f g;have c1:(0:Int)<=(i:Int):=by omega
 have k:(i:Int)<=(s.size:Int):=by omega
 have l:(0:Int)<=(i:Int)+1:=by omega
 have m:(i:Int)+1<=(s.size:Int):=by omega
 go_enter func238,ntmps238;go_wp2_with (go_at_call 279;refine(b.o _).mono ?_;rintro e h⟨rfl,rfl⟩)
 go_region
 go_wp2;go_ret3;exact⟨rfl,1,rfl⟩
theorem L5(s:Tb)(c:UInt8)(w:Tw)(d:s.size<=maxLen):
 Zc 197 #[Zt s,Zt ⟨#[c]⟩] w λe a=>e=Zr (Zu #[Zt (bA (Ao c s.1.toList).1),Zt (bA (Ao c s.1.toList).2.1),Zo (Ao c s.1.toList).2.2])/\Zb w a:=by
 have b:=Aa (AFA s c w d);generalize bA (Ao c s.1.toList).1=x at *;generalize bA (Ao c s.1.toList).2.1=y at *;generalize (Ao c s.1.toList).2.2=z at *;go_enter func197,ntmps197;go_wp2_with (go_at_call 238;apply b.o.mono;rintro e a⟨rfl,n,rfl⟩);go_ret3;exact⟨rfl,⟨rfl,rfl,rfl,Y' _,λ_ _=>rfl⟩⟩
def Ik(w:World):Prop:=(∃te a,w.cell? ⟨7,0,none⟩=some (.iface te a))/\∃te a,w.cell? ⟨8,0,none⟩=some (.iface te a)
theorem Fv{b o:Nat}(h:w.cell? (Zd b o)=some v):b<w.1.size:=Lib.lt_of_cell h
theorem Ik.below(h:Ik w)(c:Zb w W):Ik W:=by obtain⟨⟨t1,d,a⟩,t2,e,b⟩:=h;exact⟨⟨t1,d,(c.cell (p:=Zd 7 0) (Fv a)).trans a⟩,t2,e,(c.cell (p:=Zd 8 0) (Fv b)).trans b⟩
def Ns(l:List UInt8)(w:World)(e:Ending)(b:World):Prop:=∃(n:Int)(a:Value),e=.returned (.tuple #[Zi n,a])/\Zb w b/\((numOf l=some n/\a=.nilIface)\/(numOf l=none/\∃t x,a=.iface t x))
theorem Ud(s:Tb)(w:Tw)(i:s.size<=100000000)(f:Ik w):Zc 241 #[Zt s] w (Ns s.1.toList w):=by
 obtain⟨⟨t1,j,c⟩,t2,k,d⟩:=f;cases h:atoiAll s.1.toList with
 | ok v=>
   refine(Any.strconv_Atoi_ok laysC172 s (by omega) v h w).mono ?_;rintro e b⟨rfl,g⟩;refine⟨v,_,rfl,?_,.inl ⟨by simp[numOf,h],rfl⟩⟩
   rcases g with rfl|⟨t,rfl⟩
   ·exact XB _ _
   exact Lib.bytesWorld_below _ _ _
 | «syntax» =>refine(Any.strconv_Atoi_syntax laysC172 s (by omega) h _ w c (.inr ⟨_,_,rfl⟩)).mono ?_;rintro e b⟨N,rfl,_,_,a⟩;exact⟨_,_,rfl,a,.inr ⟨by simp[numOf,h],_,_,rfl⟩⟩
 | range=>refine(Any.strconv_Atoi_range laysC172 s (by omega) h _ w d (.inr ⟨_,_,rfl⟩)).mono ?_;rintro e b⟨N,rfl,_,_,a⟩;exact⟨_,_,rfl,a,.inr ⟨by simp[numOf,h],_,_,rfl⟩⟩
theorem Vf(s:Tb)(w:Tw)(i:s.size<=100000000)(f:Ik w):Zc 340 #[Zt s,Zi 10,Zi 64] w (Ns s.1.toList w):=by
 obtain⟨⟨t1,j,c⟩,t2,k,d⟩:=f;cases h:atoiAll s.1.toList with
 | ok v=>
   refine(Any.strconv_ParseInt_10_at64_ok laysC174 s (by omega) v ((parseIntB_64 _).trans h) w).mono ?_;rintro e b⟨rfl,g⟩;refine⟨v,_,rfl,?_,.inl ⟨by simp[numOf,h],rfl⟩⟩
   rcases g with rfl|⟨t,rfl⟩
   ·exact XB _ _
   exact Lib.bytesWorld_below _ _ _
 | «syntax» =>refine(Any.strconv_ParseInt_10_at64_syntax laysC174 s (by omega) ((parseIntB_64 _).trans h) _ w c (.inr ⟨_,_,rfl⟩)).mono ?_;rintro e b⟨N,rfl,_,_,a⟩;exact⟨_,_,rfl,a,.inr ⟨by simp[numOf,h],_,_,rfl⟩⟩
 | range=>refine(Any.strconv_ParseInt_10_at64_range laysC174 s (by omega) ((parseIntB_64 _).trans h) _ w d (.inr ⟨_,_,rfl⟩)).mono ?_;rintro e b⟨N,rfl,_,_,a⟩;exact⟨_,_,rfl,a,.inr ⟨by simp[numOf,h],_,_,rfl⟩⟩
theorem Ky(l:List UInt8):(bA l).toList=l:=by rw[ByteArray.toList_eq];simp[bA]
def ABW(l:List UInt8)(w:World)(e:Ending)(a:World):Prop:=∃(k n:Int)(t b:ByteArray)(ok:Bool),e=.returned (.tuple #[.agg #[Zi k,Zi n,.string t],.string b,.bool ok])/\Zb w a/\((ok=true/\∃r,Ej l=some ((k,n,t),r)/\b=bA r)\/(ok=false/\Ej l=none))
theorem mH{b:Nat}{v u f:Tv}{t:TypeId}(h:W.1[b]? = some (Zk #[v,u,f] t (0,0))):W.cell? (Zd b 0)=some v/\W.cell? (Zd b 1)=some u/\W.cell? (Zd b 2)=some f:=by obtain⟨a,c,d,_⟩:=Db h;exact⟨a,c,d⟩
theorem Cz:(bA l).size=l.length:=by simp[bA,ByteArray.size]
theorem P1(c:UInt8)(l:List UInt8):(bA (Ao c l).1).size<=l.length:=by rw[Cz];have:=Gv c l;omega
theorem Ve(c:UInt8)(l:List UInt8):(bA (Ao c l).2.1).size<=l.length:=by rw[Cz];have:=Gv c l;omega
theorem Gm(s:Tb):s.1.toList.length=s.size:=by rw[X4];rfl
abbrev aL(W:World)(b:Nat)(a c d:Value):World:=((W.setCell ⟨b,0,none⟩ a).setCell ⟨b,1,none⟩ c).setCell ⟨b,2,none⟩ d
theorem pF(W:Tw)(b:Nat)(c0 c1 e a c d:Tv)(T:TypeId)(h:W.1[b]? = some (Zk #[c0,c1,e] T (0,0))):
 (aL W b a c d).heap[b]? = some (Zk #[a,c,d] T (0,0)):=As _ b 2 _ T d (As _ b 1 _ T c (As _ b 0 _ T a h))
theorem AKP(W:Tw)(b:Nat)(c0 c1 e a c d:Tv)(T:TypeId)(h:W.1[b]? = some (Zk #[c0,c1,e] T (0,0))):
 (W.setCell (Zd b 0) a).cell? (Zd b 0)=some a/\((W.setCell (Zd b 0) a).setCell (Zd b 1) c).cell? (Zd b 1)=some c/\(((W.setCell (Zd b 0) a).setCell (Zd b 1) c).setCell (Zd b 2) d).cell? (Zd b 2)=some d :=
 ⟨(Db (As _ b 0 _ T a h)).1,(Db (As _ b 1 _ T c (As _ b 0 _ T a h))).2.1,(Db (pF W b c0 c1 e a c d T h)).2.2.1⟩
theorem Fi(h:Below n w W){b:Nat}(a:n<=b)(c d e:Tv):Below n w (aL W b c d e) :=
 ((h.setCell (p:=Zd b 0) a _).setCell (p:=Zd b 1) a _).setCell (p:=Zd b 2) a _
theorem iR(s:Tb)(w:Tw)(hs:s.size<=1000000)(he:Ik w):Zc 320 #[Zt s] w (ABW s.1.toList w):=by
 have I:=Aa (λW=>Any.strings_CutPrefix lays103 s ⟨#[39]⟩ W);cases hp:Lib.hasPrefix s.1.toList [39] with
 | true=>
   have L:Lib.trimPrefix s.1.toList [39]=s.1.toList.drop 1:=by unfold Lib.trimPrefix;rw[hp];rfl
   have b:Hid (Ej s.1.toList=if (Ao 39 (s.1.toList.drop 1)).2.2=true then some ((2,0,bA (Ao 39 (s.1.toList.drop 1)).1),Lib.trimPrefix (Ao 39 (s.1.toList.drop 1)).2.1 [59]) else none):=Aa (by unfold Ej;rw[Yae hp])
   have g:Hid (∀W,Zc 338 #[Zt s,Zt ⟨#[39]⟩] W λe Y=>e=Zr (Zu #[Zt (bA (s.1.toList.drop 1)),Zo true])/\Y=W):=Aa (λW=>by have:=I.o W;rw[show (⟨#[39]⟩:Tb).1.toList=[39] from rfl,hp,L] at this;exact this)
   have j:=Aa (λW=>L5 (bA (s.1.toList.drop 1)) 39 W (by rw[Cz,XK,Gm];unfold maxLen;omega));rw[B5] at j;have HT:=Aa (λ(x:Tb)W=>Any.strings_TrimPrefix lays101 x ⟨#[59]⟩ W);have T:=Aa (λ(l:List UInt8)=>show (⟨(Lib.trimPrefix (bA l).1.toList (⟨#[59]⟩:Tb).1.toList).toArray⟩:Tb)=bA (Lib.trimPrefix l [59]) by rw[B5];rfl);generalize bA (s.1.toList.drop 1)=rs at *;clear I L hp;generalize Ao 39 (s.1.toList.drop 1)=U at *;obtain⟨c1,t,J⟩:=U;simp only at j b;generalize X:bA c1=O at *;generalize f:bA t=x2 at *;have i:=Aa f;clear X f;go_enter func320,ntmps320
   go_wp2_with (first
    | (go_at_call 338;refine(g.o _).mono ?_;rintro e w1⟨rfl,rfl⟩)
    | (go_at_call 197;refine(j.o _).mono ?_;rintro e M⟨rfl,a⟩;have c:=Aa a;have h:=Aa ((a.block w.1.size (by simp)).trans (Yac w _));obtain⟨z0,z1,z2,zf⟩:=Db h.o;have z:=zf 0;have D:=zf 1;have G:=zf 2;clear a zf)
    | (go_at_call 339;refine(HT.o _ _).mono ?_;rintro e N⟨rfl,h3⟩;obtain rfl:=h3.symm))
   obtain⟨p,q,r⟩:=mH (pF M w.1.size _ _ _ (Zi 2) (Zi 0) (Zt O) _ h.o);refine bodyPost_ret (v:=Zu #[Zg #[Zi 2,Zi 0,Zt O],Zt ⟨(Lib.trimPrefix x2.1.toList [59]).toArray⟩,Zo J]) (by simp[results,results320,go_sem,p,q,r]) rfl ⟨2,0,O,_,J,rfl,Fi (b1c c.o) (Y' _) _ _ _,?_⟩;rw[b.o];cases J with
   | true=>refine .inl ⟨rfl,_,rfl,?_⟩;rw[<-i.o];exact T.o t
   | false=>exact .inr ⟨rfl,rfl⟩
 | false=>
   have g:Hid (∀W,Zc 338 #[Zt s,Zt ⟨#[39]⟩] W λe Y=>e=Zr (Zu #[Zt s,Zo false])/\Y=W):=Aa (λW=>by
    have:=I.o W;rw[show (⟨#[39]⟩:Tb).1.toList=[39] from rfl,hp] at this;have L:Lib.trimPrefix s.1.toList [39]=s.1.toList:=by unfold Lib.trimPrefix;rw[hp];rfl
    rw[L] at this;exact this)
   have b:Hid (Ej s.1.toList=if (Ao 59 s.1.toList).1=Qm then some ((0,0,bA []),(Ao 59 s.1.toList).2.1) else (numOf (Ao 59 s.1.toList).1).map λn=>((1,n,bA []),(Ao 59 s.1.toList).2.1)):=Aa (by unfold Ej;rw[Yad (by rw[hp];decide)]);have j:=Aa (λW=>L5 s 59 W (by unfold maxLen;omega));have y:=P1 59 s.1.toList;rw[Gm] at y
   have R:Hid (∀W,Zb w W->Zc 340 #[Zt (bA (Ao 59 s.1.toList).1),Zi 10,Zi 64] W (Ns (Ao 59 s.1.toList).1 W)):=Aa (λW hW=>by have:=Vf (bA (Ao 59 s.1.toList).1) W (by omega) (he.below hW);rw[B5] at this;exact this)
   have d:=Aa (Ky (Ao 59 s.1.toList).1);clear I hp he y;generalize Ao 59 s.1.toList=U at *;obtain⟨c1,t,J⟩:=U;simp only at j b R d;generalize f:bA t=x2 at *;have i:=Aa f;clear f
   by_cases hn:c1=Qm
   ·subst hn
    have ex:bA Qm=⟨#[110,117,108,108]⟩:=rfl;rw[ex] at j;clear ex R d;go_enter func320,ntmps320
    go_wp2_with (first
     | (go_at_call 338;refine(g.o _).mono ?_;rintro e w1⟨rfl,rfl⟩)
     | (go_at_call 197;refine(j.o _).mono ?_;rintro e M⟨rfl,a⟩;have c:=Aa a;have h:=Aa ((a.block w.1.size (by simp)).trans (Yac w _));obtain⟨z0,z1,z2,zf⟩:=Db h.o;have z:=zf 0;have D:=zf 1;have G:=zf 2;clear a zf))
    obtain⟨p,q,r⟩:=mH (pF M w.1.size _ _ _ (Zi 0) (Zi 0) (Zt ⟨#[]⟩) _ h.o);refine bodyPost_ret (v:=Zu #[Zg #[Zi 0,Zi 0,Zt ⟨#[]⟩],Zt x2,Zo true]) (by simp[results,results320,go_sem,p,q,r]) rfl ⟨0,0,_,_,true,rfl,Fi (b1c c.o) (Y' _) _ _ _,?_⟩;rw[b.o];exact .inl ⟨rfl,t,by simp[bA],i.o.symm⟩
   have ab:((bA c1).toList==[110,117,108,108])=false:=by rw[d.o];exact beq_eq_false_iff_ne.2 hn
   have aa:¬(bA c1).toList=[110,117,108,108]:=by rw[d.o];exact hn
   have HN:=Aa hn;clear d hn;generalize bA c1=O at *;go_enter func320,ntmps320
   go_wp2_with (first
    | (go_at_call 338;refine(g.o _).mono ?_;rintro e w1⟨rfl,rfl⟩)
    | (go_at_call 197;refine(j.o _).mono ?_;rintro e M⟨rfl,a⟩;have c:=Aa a;have k:=Aa ((a.block w.1.size (by simp)).trans (Yac w _));clear a)
    | (go_at_call 340;refine(R.o _ (b1c c.o)).mono ?_;rintro e N⟨n,er,rfl,m,o⟩;have P:=Aa m;have h:=Aa ((m.block w.1.size (Ac k.o)).trans k.o);obtain⟨z0,z1,z2,zf⟩:=Db h.o;have z:=zf 0;have D:=zf 1;have G:=zf 2;clear m zf))
   have u:=Aa (Below.Ap (b1c c.o) P.o)
   rcases o with⟨V,rfl⟩|⟨V,ty,xx,rfl⟩
   ·go_region
    go_wp2;obtain⟨p,q,r⟩:=AKP N w.1.size _ _ _ (Zi 1) (Zi n) (Zt ⟨#[]⟩) _ h.o;refine bodyPost_ret (v:=Zu #[Zg #[Zi 1,Zi n,Zt ⟨#[]⟩],Zt x2,Zo true]) (by simp[results,results320,go_sem,p,q,r]) rfl ⟨1,n,_,_,true,rfl,(Fi u.o (Y' _) _ _ _).drew,?_⟩;rw[b.o,Yad HN.o,V];exact .inl ⟨rfl,t,rfl,i.o.symm⟩
   go_region
   go_wp2;obtain⟨p,q,r⟩:=AKP N w.1.size _ _ _ (Zi 1) (Zi n) (Zt ⟨#[]⟩) _ h.o;refine bodyPost_ret (v:=Zu #[Zg #[Zi 1,Zi n,Zt ⟨#[]⟩],Zt x2,Zo false]) (by simp[results,results320,go_sem,p,q,r]) rfl ⟨1,n,_,_,false,rfl,(Fi u.o (Y' _) _ _ _).drew,?_⟩;rw[b.o,Yad HN.o,V];exact .inr ⟨rfl,rfl⟩
def Fo:Nat->List UInt8->List UInt8
 | 0,l=>l
 | n+1,l=>Aw (Fo n l)
def Cj(n:Nat)(l:List UInt8):ByteArray:=bA (Ao 32 (Fo n l)).1
theorem Ug:∀(n:Nat)(l:List UInt8),(Fo n l).length<=l.length
 | 0,_=>Y' _
 | n+1,l=>XI (Gi _) (Ug n l)
def ABd(l:List UInt8)(w:World)(e:Ending)(i:World):Prop:=∃(c1:Int)(a:ByteArray)(c:Int)(d:Bool)(f g:Int)(h b:ByteArray)(ok:Bool),e=.returned (.tuple #[.agg #[Zi c1,.string a,Zi c,.bool d,Zi f,Zi g,.string h],.string b,.bool ok])/\Zb w i/\((ok=true/\∃r,ALP l=some ((c1,a,c,d,f,g,h),r)/\b=bA r)\/(ok=false/\ALP l=none))
theorem AG8{r:List UInt8}{i k:Int}{v:AIE}(a:numOf (Ao 32 (Fo 0 l)).1=some i)(b:numOf (Ao 32 (Fo 2 l)).1=some k)(c:Ej (Fo 4 l)=some (v,r)):ALP l=some ((i,Cj 1 l,k,decide ((Ao 32 (Fo 3 l)).1=dS),v),r):=by simp only[Fo] at a b c;unfold ALP;rw[a,b,c];rfl
theorem ABA(h:numOf (Ao 32 (Fo 0 l)).1=none):ALP l=none:=by simp only[Fo] at h;unfold ALP;rw[h];rfl
theorem ABL(h:numOf (Ao 32 (Fo 2 l)).1=none):ALP l=none:=by simp only[Fo] at h;unfold ALP;rw[h];cases numOf (Ao 32 l).1 <;> rfl
theorem ABE(h:Ej (Fo 4 l)=none):ALP l=none:=by
 simp only[Fo] at h;unfold ALP;rw[h];cases numOf (Ao 32 l).1 with
 | none=>rfl
 | some a=>cases numOf (Ao 32 (Aw (Aw l))).1 <;> rfl
theorem Jz{b:Nat}{v u f a:Tv}{t:TypeId}(h:W.1[b]? = some (Zk #[v,u,f,a] t (0,0))):W.cell? (Zd b 0)=some v/\W.cell? (Zd b 1)=some u/\W.cell? (Zd b 2)=some f/\W.cell? (Zd b 3)=some a/\∀i,W.frozen? (Zd b i)=false:=B3 h
theorem F8{b:Nat}{v u f a e c d:Tv}{t:TypeId}(h:W.1[b]? = some (Zk #[v,u,f,a,e,c,d] t (0,0))):
 W.cell? (Zd b 0)=some v/\W.cell? (Zd b 1)=some u/\W.cell? (Zd b 2)=some f/\W.cell? (Zd b 3)=some a/\W.cell? (Zd b 4)=some e/\W.cell? (Zd b 5)=some c/\W.cell? (Zd b 6)=some d/\∀i,W.frozen? (Zd b i)=false:=by
 refine⟨?_,?_,?_,?_,?_,?_,?_,λi=>?_⟩
 all_goals first|(rw[World.frozen?,h];simp)|(simp[World.cell?,h])
abbrev AKf(W:World)(b:Nat)(a c d e f g h:Value):World:=((((((W.setCell ⟨b,0,none⟩ a).setCell ⟨b,1,none⟩ c).setCell ⟨b,2,none⟩ d).setCell ⟨b,3,none⟩ e).setCell ⟨b,4,none⟩ f).setCell ⟨b,5,none⟩ g).setCell ⟨b,6,none⟩ h
theorem ALC(W:Tw)(b:Nat)(w u n m l j i a c d e f g k:Tv)(T:TypeId)(h:W.1[b]? = some (Zk #[w,u,n,m,l,j,i] T (0,0))):
 (W.setCell (Zd b 0) a).cell? (Zd b 0)=some a/\((W.setCell (Zd b 0) a).setCell (Zd b 1) c).cell? (Zd b 1)=some c/\(((W.setCell (Zd b 0) a).setCell (Zd b 1) c).setCell (Zd b 2) d).cell? (Zd b 2)=some d/\((((W.setCell (Zd b 0) a).setCell (Zd b 1) c).setCell (Zd b 2) d).setCell (Zd b 3) e).cell? (Zd b 3)=some e/\(((((W.setCell (Zd b 0) a).setCell (Zd b 1) c).setCell (Zd b 2) d).setCell (Zd b 3) e).setCell (Zd b 4) f).cell? (Zd b 4)=some f/\((((((W.setCell (Zd b 0) a).setCell (Zd b 1) c).setCell (Zd b 2) d).setCell (Zd b 3) e).setCell (Zd b 4) f).setCell (Zd b 5) g).cell? (Zd b 5)=some g/\(((((((W.setCell (Zd b 0) a).setCell (Zd b 1) c).setCell (Zd b 2) d).setCell (Zd b 3) e).setCell (Zd b 4) f).setCell (Zd b 5) g).setCell (Zd b 6) k).cell? (Zd b 6)=some k:=by
 have o:(W.setCell (Zd b 0) a).heap[b]? = some (Zk #[a,u,n,m,l,j,i] T (0,0)):=by simpa using As W b 0 _ T a h
 have p:((W.setCell (Zd b 0) a).setCell (Zd b 1) c).heap[b]? = some (Zk #[a,c,n,m,l,j,i] T (0,0)):=by simpa using As (W.setCell (Zd b 0) a) b 1 _ T c o
 have q:(((W.setCell (Zd b 0) a).setCell (Zd b 1) c).setCell (Zd b 2) d).heap[b]? = some (Zk #[a,c,d,m,l,j,i] T (0,0)):=by simpa using As ((W.setCell (Zd b 0) a).setCell (Zd b 1) c) b 2 _ T d p
 have r:((((W.setCell (Zd b 0) a).setCell (Zd b 1) c).setCell (Zd b 2) d).setCell (Zd b 3) e).heap[b]? = some (Zk #[a,c,d,e,l,j,i] T (0,0)):=by simpa using As (((W.setCell (Zd b 0) a).setCell (Zd b 1) c).setCell (Zd b 2) d) b 3 _ T e q
 have s:(((((W.setCell (Zd b 0) a).setCell (Zd b 1) c).setCell (Zd b 2) d).setCell (Zd b 3) e).setCell (Zd b 4) f).heap[b]? = some (Zk #[a,c,d,e,f,j,i] T (0,0)):=by simpa using As ((((W.setCell (Zd b 0) a).setCell (Zd b 1) c).setCell (Zd b 2) d).setCell (Zd b 3) e) b 4 _ T f r
 have t:((((((W.setCell (Zd b 0) a).setCell (Zd b 1) c).setCell (Zd b 2) d).setCell (Zd b 3) e).setCell (Zd b 4) f).setCell (Zd b 5) g).heap[b]? = some (Zk #[a,c,d,e,f,g,i] T (0,0)):=by simpa using As (((((W.setCell (Zd b 0) a).setCell (Zd b 1) c).setCell (Zd b 2) d).setCell (Zd b 3) e).setCell (Zd b 4) f) b 5 _ T g s
 have v:(((((((W.setCell (Zd b 0) a).setCell (Zd b 1) c).setCell (Zd b 2) d).setCell (Zd b 3) e).setCell (Zd b 4) f).setCell (Zd b 5) g).setCell (Zd b 6) k).heap[b]? = some (Zk #[a,c,d,e,f,g,k] T (0,0)):=by simpa using As ((((((W.setCell (Zd b 0) a).setCell (Zd b 1) c).setCell (Zd b 2) d).setCell (Zd b 3) e).setCell (Zd b 4) f).setCell (Zd b 5) g) b 6 _ T k t
 exact⟨(F8 o).1,(F8 p).2.1,(F8 q).2.2.1,(F8 r).2.2.2.1,(F8 s).2.2.2.2.1,(F8 t).2.2.2.2.2.1,(F8 v).2.2.2.2.2.2.1⟩
theorem Rs(h:Below n w W){b:Nat}(a:n<=b)(c d e f g i j:Tv):Below n w (AKf W b c d e f g i j) :=
 ((((((h.setCell (p:=Zd b 0) a _).setCell (p:=Zd b 1) a _).setCell (p:=Zd b 2) a _).setCell (p:=Zd b 3) a _).setCell (p:=Zd b 4) a _).setCell (p:=Zd b 5) a _).setCell (p:=Zd b 6) a _
theorem ABi(a b:List UInt8):(a==b)=decide (a=b):=by by_cases h:a=b <;> simp[h]
def AIs(k:Nat)(l:List UInt8):Array Value:=match k with
 | 0=>#[.string ⟨#[]⟩,.string ⟨#[]⟩,.string ⟨#[]⟩,.string ⟨#[]⟩]
 | 1=>#[.string (Cj 0 l),.string ⟨#[]⟩,.string ⟨#[]⟩,.string ⟨#[]⟩]
 | 2=>#[.string (Cj 0 l),.string (Cj 1 l),.string ⟨#[]⟩,.string ⟨#[]⟩]
 | 3=>#[.string (Cj 0 l),.string (Cj 1 l),.string (Cj 2 l),.string ⟨#[]⟩]
 | _=>#[.string (Cj 0 l),.string (Cj 1 l),.string (Cj 2 l),.string (Cj 3 l)]
theorem dX(s:ByteArray)(w:World)(hs:s.size<=1000000)(he:Ik w):Zc 284 #[.string s] w (ABd s.1.toList w):=by
 obtain⟨l,hl⟩:∃l,s.1.toList=l:=⟨_,rfl⟩;have ax:l.length<=1000000:=by rw[<-hl,Gm];exact hs
 have es:s=bA (Fo 0 l):=by rw[<-hl];exact(Ju s).symm
 rw[hl]
 have I:Hid (∀n W,Zc 197 #[.string (bA (Fo n l)),.string ⟨#[32]⟩] W λe w'=>∃z,e=.returned (.tuple #[.string (Cj n l),.string (bA (Fo (n+1) l)),.bool z])/\Zb W w'):=Aa (λn W=>by refine(L5 (bA (Fo n l)) 32 W (by rw[Cz];have:=Ug n l;unfold maxLen;omega)).mono ?_;rintro e w'⟨rfl,hb⟩;rw[B5];exact⟨_,rfl,hb⟩)
 have M:Hid (∀n W,Zb w W->Zc 241 #[.string (Cj n l)] W (Ns (Ao 32 (Fo n l)).1 W)):=Aa (λn W O=>by have:=Ud (Cj n l) W (by unfold Cj;have:=P1 32 (Fo n l);have:=Ug n l;omega) (he.below O);unfold Cj at this;rw[B5] at this;exact this)
 have Y:Hid (∀W,Zb w W->Zc 320 #[.string (bA (Fo 4 l))] W (ABW (Fo 4 l) W)):=Aa (λW O=>by have:=iR (bA (Fo 4 l)) W (by rw[Cz];have:=Ug 4 l;omega) (he.below O);rw[B5] at this;exact this)
 have X:Hid ((Cj 3 l).toList=(Ao 32 (Fo 3 l)).1):=Aa (Ky _);subst es;clear he hl hs;obtain⟨z0,z1,z2,z3⟩:=ALM w (.cells #[.int .i64 0,.string ⟨#[]⟩,.int .i64 0,.bool false,.int .i64 0,.int .i64 0,.string ⟨#[]⟩] 69) (.cells #[.string ⟨#[]⟩,.string ⟨#[]⟩,.string ⟨#[]⟩,.string ⟨#[]⟩] 403);have Z0:=Aa z0;have Z1:=Aa z1;have Z2:=Aa z2;have Z3:=Aa z3;clear z0 z1 z2 z3;go_enter func284,ntmps284;go_wp2_with fail
 go_loopw [0,13] (λvs vi wr=>∃k:Nat,k<=4/\vi=.int .i64 k/\vs=.string (bA (Fo k l))/\Hid (wr.1[w.1.size+1]? = some (.cells (AIs k l) 403 (0,0)))/\Hid (wr.1[w.1.size]? = some (.cells #[.int .i64 0,.string ⟨#[]⟩,.int .i64 0,.bool false,.int .i64 0,.int .i64 0,.string ⟨#[]⟩] 69 (0,0)))/\Hid (Zb w wr)) (λ_ vi _=>4-(intOf vi).toNat)
 case atStart=>exact⟨0,by decide,rfl,rfl,Z2,Z1,Z3⟩
 case round=>
  obtain⟨k,hk,rfl,rfl,a,f,i⟩:=hrel;clear Z0 Z1 Z2 Z3;obtain rfl|rfl|rfl|rfl|rfl:k=0\/k=1\/k=2\/k=3\/k=4:=by omega
  ·obtain⟨p0,y,D,G,h⟩:=Jz a.o
   have q:=h 0;clear h
   go_wp2_with (first
    | (go_at_call 197;refine(I.o 0 _).mono ?_;rintro e r⟨zz,rfl,b⟩;have c:=Aa b;have g:=Aa ((b.block (w.1.size+1) (Ac a.o)).trans a.o);obtain⟨p0,y,D,G,h⟩:=Jz g.o;have q:=h 0;clear b h))
   have o:=Aa (As r (w.1.size+1) 0 _ _ (.string (Cj 0 l)) g.o);have d:Hid (Zb w (r.setCell ⟨w.1.size+1,0,none⟩ (.string (Cj 0 l)))):=Aa ((Below.Ap i.o c.o).setCell (p:=⟨w.1.size+1,0,none⟩) (XA _) _);have m:Hid ((r.setCell ⟨w.1.size+1,0,none⟩ (.string (Cj 0 l))).1[w.1.size]? = some (.cells #[.int .i64 0,.string ⟨#[]⟩,.int .i64 0,.bool false,.int .i64 0,.int .i64 0,.string ⟨#[]⟩] 69 (0,0))):=Aa ((XO _ _ _ _ (by simp)).trans ((c.o.block w.1.size (Ac f.o)).trans f.o))
   go_roundw
   case rel=>exact⟨1,by decide,rfl,rfl,o,m,d⟩
   case measure=>simp[intOf]
  ·obtain⟨p0,y,D,G,h⟩:=Jz a.o
   have q:=h 1;clear h
   go_wp2_with (first
    | (go_at_call 197;refine(I.o 1 _).mono ?_;rintro e r⟨zz,rfl,b⟩;have c:=Aa b;have g:=Aa ((b.block (w.1.size+1) (Ac a.o)).trans a.o);obtain⟨p0,y,D,G,h⟩:=Jz g.o;have q:=h 1;clear b h))
   have o:=Aa (As r (w.1.size+1) 1 _ _ (.string (Cj 1 l)) g.o);have d:Hid (Zb w (r.setCell ⟨w.1.size+1,1,none⟩ (.string (Cj 1 l)))):=Aa ((Below.Ap i.o c.o).setCell (p:=⟨w.1.size+1,1,none⟩) (XA _) _);have m:Hid ((r.setCell ⟨w.1.size+1,1,none⟩ (.string (Cj 1 l))).1[w.1.size]? = some (.cells #[.int .i64 0,.string ⟨#[]⟩,.int .i64 0,.bool false,.int .i64 0,.int .i64 0,.string ⟨#[]⟩] 69 (0,0))):=Aa ((XO _ _ _ _ (by simp)).trans ((c.o.block w.1.size (Ac f.o)).trans f.o))
   go_roundw
   case rel=>exact⟨2,by decide,rfl,rfl,o,m,d⟩
   case measure=>simp[intOf]
  ·obtain⟨p0,y,D,G,h⟩:=Jz a.o
   have q:=h 2;clear h
   go_wp2_with (first
    | (go_at_call 197;refine(I.o 2 _).mono ?_;rintro e r⟨zz,rfl,b⟩;have c:=Aa b;have g:=Aa ((b.block (w.1.size+1) (Ac a.o)).trans a.o);obtain⟨p0,y,D,G,h⟩:=Jz g.o;have q:=h 2;clear b h))
   have o:=Aa (As r (w.1.size+1) 2 _ _ (.string (Cj 2 l)) g.o);have d:Hid (Zb w (r.setCell ⟨w.1.size+1,2,none⟩ (.string (Cj 2 l)))):=Aa ((Below.Ap i.o c.o).setCell (p:=⟨w.1.size+1,2,none⟩) (XA _) _);have m:Hid ((r.setCell ⟨w.1.size+1,2,none⟩ (.string (Cj 2 l))).1[w.1.size]? = some (.cells #[.int .i64 0,.string ⟨#[]⟩,.int .i64 0,.bool false,.int .i64 0,.int .i64 0,.string ⟨#[]⟩] 69 (0,0))):=Aa ((XO _ _ _ _ (by simp)).trans ((c.o.block w.1.size (Ac f.o)).trans f.o))
   go_roundw
   case rel=>exact⟨3,by decide,rfl,rfl,o,m,d⟩
   case measure=>simp[intOf]
  ·obtain⟨p0,y,D,G,h⟩:=Jz a.o
   have q:=h 3;clear h
   go_wp2_with (first
    | (go_at_call 197;refine(I.o 3 _).mono ?_;rintro e r⟨zz,rfl,b⟩;have c:=Aa b;have g:=Aa ((b.block (w.1.size+1) (Ac a.o)).trans a.o);obtain⟨p0,y,D,G,h⟩:=Jz g.o;have q:=h 3;clear b h))
   have o:=Aa (As r (w.1.size+1) 3 _ _ (.string (Cj 3 l)) g.o);have d:Hid (Zb w (r.setCell ⟨w.1.size+1,3,none⟩ (.string (Cj 3 l)))):=Aa ((Below.Ap i.o c.o).setCell (p:=⟨w.1.size+1,3,none⟩) (XA _) _);have m:Hid ((r.setCell ⟨w.1.size+1,3,none⟩ (.string (Cj 3 l))).1[w.1.size]? = some (.cells #[.int .i64 0,.string ⟨#[]⟩,.int .i64 0,.bool false,.int .i64 0,.int .i64 0,.string ⟨#[]⟩] 69 (0,0))):=Aa ((XO _ _ _ _ (by simp)).trans ((c.o.block w.1.size (Ac f.o)).trans f.o))
   go_roundw
   case rel=>exact⟨4,by decide,rfl,rfl,o,m,d⟩
   case measure=>simp[intOf]
  obtain⟨p0,y,D,G,_⟩:=Jz a.o
  have keep:∀W,Zb wr W->W.cell? ⟨w.1.size+1,0,none⟩=some (.string (Cj 0 l))/\W.cell? ⟨w.1.size+1,1,none⟩=some (.string (Cj 1 l))/\W.cell? ⟨w.1.size+1,2,none⟩=some (.string (Cj 2 l))/\W.cell? ⟨w.1.size+1,3,none⟩=some (.string (Cj 3 l)):=λW O=>by obtain⟨a0,a1,a2,a3,_⟩:=Jz ((O.block (w.1.size+1) (Ac a.o)).trans a.o);exact⟨a0,a1,a2,a3⟩
  have HK:=Aa keep;have ay:=Ac a.o;clear keep
  go_wp2_with (first
   | (go_at_call_of 241 (#[.string (Cj 0 l)]:Array Value);refine(M.o 0 _ i.o).mono ?_;rintro e w3⟨n1,av,rfl,ac,ag⟩;have d:=Aa ac;have T:=Aa ag;clear ac ag p0 y D G;obtain⟨p0,y,D,G⟩:=HK.o _ d.o)
   | (go_at_call_of 241 (#[.string (Cj 2 l)]:Array Value);refine(M.o 2 _ (Below.Ap i.o d.o)).mono ?_;rintro e w4⟨n2,aw,rfl,ad,ah⟩;have R:=Aa (Below.Ap d.o ad);have U:=Aa ah;clear ad ah)
   | (go_at_call 320;refine(Y.o _ (Below.Ap i.o R.o)).mono ?_;rintro e w5⟨t,u,x,vb,ok,rfl,ae,ai⟩;have j:=Aa (Below.Ap R.o ae);have V:=Aa ai;have a7:=j.o.size;clear ae ai p0 y D G;obtain⟨p0,y,D,G⟩:=HK.o _ (j.o.alloc j.o.size (.cells #[.int .i64 t,.int .i64 u,.string x] 67)))
   | fail)
  have aa:Hid (∀W,Zb wr W->W.1[w.1.size]? = some (.cells #[.int .i64 0,.string ⟨#[]⟩,.int .i64 0,.bool false,.int .i64 0,.int .i64 0,.string ⟨#[]⟩] 69 (0,0))):=Aa (λW O=>(O.block w.1.size (Ac f.o)).trans f.o);have HZ:Hid (Zb wr ((w5.alloc (.cells #[.int .i64 t,.int .i64 u,.string x] 67)).alloc (.cells #[.int .i64 n1,.string (Cj 1 l),.int .i64 n2,.bool ((Cj 3 l).toList==[109,117,115,116]),.int .i64 t,.int .i64 u,.string x] 69))):=Aa ((j.o.alloc j.o.size _).alloc (XI j.o.size (by rw[XD];exact XA _)) _);have J:=Aa (Yac (w5.alloc (.cells #[.int .i64 t,.int .i64 u,.string x] 67)) (.cells #[.int .i64 n1,.string (Cj 1 l),.int .i64 n2,.bool ((Cj 3 l).toList==[109,117,115,116]),.int .i64 t,.int .i64 u,.string x] 69));rw[XD] at J;have az:w5.1.size+1≠w.1.size:=by have:=j.o.size;omega
  have ak:((Cj 3 l).toList==[109,117,115,116])=decide ((Ao 32 (Fo 3 l)).1=dS):=by rw[X.o];exact ABi _ _
  generalize (w5.alloc (.cells #[.int .i64 t,.int .i64 u,.string x] 67)).alloc (.cells #[.int .i64 n1,.string (Cj 1 l),.int .i64 n2,.bool ((Cj 3 l).toList==[109,117,115,116]),.int .i64 t,.int .i64 u,.string x] 69)=wz at *;rw[ak] at J;have ab:=Aa (aa.o _ HZ.o);obtain⟨a0,a1,a2,a3,a4,a5,a6,L⟩:=F8 ab.o;obtain⟨b0,b1,b2,b3,b4,b5,b6,_⟩:=F8 J.o;have am:=L 0;have an:=L 1;have ao:=L 2;have ap:=L 3;have aq:=L 4;have ar:=L 5;have au:=L 6;have HY:=Aa (ALC wz w.1.size _ _ _ _ _ _ _ (.int .i64 n1) (.string (Cj 1 l)) (.int .i64 n2) (.bool (decide ((Ao 32 (Fo 3 l)).1=dS))) (.int .i64 t) (.int .i64 u) (.string x) _ ab.o);have N:=Aa (Below.Ap i.o HZ.o);clear L p0 y D G ak J X M I Y HK aa f a
  rcases V.o with⟨rfl,r3,e3,rfl⟩|⟨rfl,e3⟩ <;> rcases T.o with⟨e1,rfl⟩|⟨e1,t1,q1,rfl⟩ <;> rcases U.o with⟨e2,rfl⟩|⟨e2,t2,q2,rfl⟩
  all_goals
   have E1:=Aa e1;have E2:=Aa e2;have E3:=Aa e3;clear e1 e2 e3 T U V;generalize aj:decide ((Ao 32 (Fo 3 l)).1=dS)=P at *;have al:=Aa aj;clear aj
   go_region
  all_goals
   go_wp2;obtain⟨y0,y1,y2,y3,y4,y5,y6⟩:=HY.o
   first
    | (refine bodyPost_ret (v:=.tuple #[.agg #[.int .i64 n1,.string (Cj 1 l),.int .i64 n2,.bool P,.int .i64 t,.int .i64 u,.string x],.string (bA r3),.bool true]) (by simp[results,results284,go_sem,y0,y1,y2,y3,y4,y5,y6];done) rfl ⟨n1,Cj 1 l,n2,P,t,u,x,_,true,rfl,(Rs N.o (Y' _) _ _ _ _ _ _ _).drew,.inl ⟨rfl,r3,?_,rfl⟩⟩
       rw[AG8 E1.o E2.o E3.o,al.o])
    | (refine bodyPost_ret (v:=.tuple #[.agg #[.int .i64 n1,.string (Cj 1 l),.int .i64 n2,.bool P,.int .i64 t,.int .i64 u,.string x],.string (bA r3),.bool false]) (by simp[results,results284,go_sem,y0,y1,y2,y3,y4,y5,y6];done) rfl ⟨n1,Cj 1 l,n2,P,t,u,x,_,false,rfl,(Rs N.o (Y' _) _ _ _ _ _ _ _).drew,.inr ⟨rfl,?_⟩⟩
       first|exact ABE E3.o|exact ABA E1.o|exact ABL E2.o)
    | (refine bodyPost_ret (v:=.tuple #[.agg #[.int .i64 n1,.string (Cj 1 l),.int .i64 n2,.bool P,.int .i64 t,.int .i64 u,.string x],.string vb,.bool false]) (by simp[results,results284,go_sem,y0,y1,y2,y3,y4,y5,y6];done) rfl ⟨n1,Cj 1 l,n2,P,t,u,x,_,false,rfl,(Rs N.o (Y' _) _ _ _ _ _ _ _).drew,.inr ⟨rfl,?_⟩⟩
       first|exact ABE E3.o|exact ABA E1.o|exact ABL E2.o)
    | fail
def nC:Value->Nat
 | .string s=>s.size
 | _=>0
def sE(l:List UInt8)(w:World)(e:Ending)(b:World):Prop:=∃(a:Option Addr)(n c:Nat)(ok:Bool),e=.returned (.tuple #[.slice a n c,.bool ok])/\Zb w b/\((ok=true/\∃L,Dg l=some L/\n=L.length/\b.ownsRow w.1.size 69 7 (.slice a n c) L.length (Av L))\/(ok=false/\Dg l=none))
theorem qE(L:List Aj)(c:Aj):Av (L++[c])=Av L++Cc c:=by simp[Av]
theorem AAN{base:Nat}{xs:List Tv}(h:w.ownsRow base T z v n xs):∃a c,v=Zs a n c:=by
 rcases Di h with⟨e,e0⟩|⟨g,c,e,_⟩
 ·exact⟨none,0,by rw[e,e0]⟩
 exact⟨_,c,e⟩
theorem Fu{base:Nat}{xs:List Tv}(h:w.ownsRow base T z v n xs)(a:v.ownBlock=some k):base<=k:=by
 rcases Di h with⟨e,_⟩|⟨g,c,e,b,_⟩
 ·rw[e] at a;cases a
 rw[e] at a;cases a;exact b
theorem aE(s:Tb)(w:Tw)(hs:s.size<=1000000)(he:Ik w):Zc 243 #[Zt s] w (sE s.1.toList w):=by
 obtain⟨l,hl⟩:∃l,s.1.toList=l:=⟨_,rfl⟩;have ag:l.length<=1000000:=by rw[<-hl,Gm];exact hs
 have es:s=bA l:=by rw[<-hl];exact(Ju s).symm
 rw[hl];obtain⟨iC,T,U,V,X⟩:=info_parts Kh;have v:=Zy T U V X
 have ac:Hid (∀(r:List UInt8)W,r.length<=1000000->Zb w W->Zc 284 #[Zt (bA r)] W (ABd r W)):=Aa (λr W hr hW=>by have:=dX (bA r) W (by rw[Cz];exact hr) (he.below hW);rw[B5] at this;exact this)
 subst es;clear he hl hs T U V X;go_enter func243,ntmps243;go_wp2_with fail
 go_loopw [0,4] (λvs vl wr=>∃(r:List UInt8)(L:List Aj)(a:To)(c:Nat),vs=Zt (bA r)/\vl=Zs a L.length c/\Hid (Dg l=(Dg r).map (L++·))/\L.length+r.length<=l.length/\Hid (wr.ownsRow w.1.size 69 7 (Zs a L.length c) L.length (Av L))/\Hid (Zb w wr)) (λvs _ _=>nC vs)
 case atStart=>exact⟨l,[],none,0,rfl,rfl,Aa (by simp),by simp,Aa (XF ..),Aa (XB _ _)⟩
 case round=>
  obtain⟨r,L,a,c,rfl,rfl,I,hlen,G,d⟩:=hrel;cases r with
  | nil=>have e0:bA ([]:List UInt8)=⟨#[]⟩:=rfl;rw[e0];go_wp2_with fail;go_ret2;refine⟨a,L.length,c,true,rfl,d.o,.inl ⟨rfl,L,?_,rfl,G.o⟩⟩;rw[I.o,Kq];simp
  | cons x r=>
    have ah:((bA (x :: r)).toList==[])=false:=by rw[Ky];rfl
    have ae:¬(bA (x :: r)).toList=[]:=by rw[Ky];simp
    have HC:=Aa (ac.o (x :: r) wr (by simp only[XC] at hlen ⊢;omega) d.o);have HZ:Hid (nC (Zt (bA (x :: r)))=(x :: r).length):=Aa (by simp[nC,Cz]);have P:(x :: r).length<=l.length-L.length:=by omega
    have R:(x :: r)≠[]:=by simp
    generalize x :: r=xr at *;have M:=Aa R;have ab:=Aa P;clear R P;cases hrc:ALP xr with
    | none=>
      have HN:=Aa (Qt M.o hrc)
      have D:Hid (Zc 284 #[Zt (bA xr)] wr λe Y=>∃c1 f g i k m n b,e=Zr (Zu #[Zg #[Zi c1,Zt f,Zi g,Zo i,Zi k,Zi m,Zt n],Zt b,Zo false])/\Zb wr Y):=Aa (HC.o.mono (by
       rintro e Y⟨c1,f,g,i,k,m,n,b,ok,rfl,hb,⟨_,q,h,_⟩|⟨rfl,_⟩⟩
       ·rw[hrc] at h;cases h
       exact⟨c1,f,g,i,k,m,n,b,rfl,hb⟩))
      clear HC hrc
      go_wp2_with (first
       | (go_at_call 284;apply D.o.mono;rintro e w2⟨c1,f,g,i,k,m,n,b,rfl,o⟩))
      go_ret2;refine⟨none,0,0,false,rfl,(Below.Ap d.o o).alloc (Below.Ap d.o o).size _,.inr ⟨rfl,?_⟩⟩;rw[I.o,HN.o];rfl
    | some p=>
      obtain⟨⟨c1,f,g,i,k,m,n⟩,r2⟩:=p;have HN:=Aa (Jv M.o hrc);have ad:=Ru hrc
      have D:Hid (Zc 284 #[Zt (bA xr)] wr λe Y=>e=Zr (Zu #[Zg #[Zi c1,Zt f,Zi g,Zo i,Zi k,Zi m,Zt n],Zt (bA r2),Zo true])/\Zb wr Y):=Aa (HC.o.mono (by
       rintro e Y⟨d1,d2,d3,d4,d5,d6,d7,b,ok,rfl,hb,⟨rfl,q,h,rfl⟩|⟨_,h⟩⟩
       ·rw[hrc] at h;cases h;exact⟨rfl,hb⟩
       rw[hrc] at h;cases h))
      clear HC hrc;have af:=ab.o
      go_wp2_with (first
       | (go_at_call 284;apply D.o.mono;rintro e w2⟨rfl,o⟩;have z:=Aa o;have y:Hid (Zb w2 ((w2.alloc (Zk #[Zi c1,Zt f,Zi g,Zo i,Zi k,Zi m,Zt n] 69)).alloc (Zk #[Zi c1,Zt f,Zi g,Zo i,Zi k,Zi m,Zt n] 69))):=Aa ((Zal).alloc (by rw[XD];exact XA _) _);clear o)
       | (at_builtin;refine wpList_append_own _ rfl _ _ 32 rfl w.1.size 69 iC L6 7 72 underlying32 v.o.1 v.o.2.1 v.o.2.2.1 v.o.2.2.2 rfl (by decide) (.slice a L.length c) L.length (Av L) rfl (Bc (Bc G.o z.o) y.o) (Zd (w2.1.size+1) 0) 1 1 (Cc (c1,f,g,i,k,m,n)) rfl rfl (λj u hj=>XV (by rw[<-XD w2 (.cells #[Zi c1,.string f,Zi g,.bool i,Zi k,Zi m,.string n] 69)];exact Yac _ _) j u hj) (by intro u hu;simp[Cc] at hu;rcases hu with rfl|rfl|rfl|rfl|rfl|rfl|rfl <;> rfl) (by unfold maxLen;omega) (by omega) (XI d.o.size (XI z.o.size y.o.size)) ?_
          intro v1 w3 t O _;have J:=Aa t;have aa:=Aa O;clear t O))
      obtain⟨a',c',rfl⟩:=AAN J.o;have N:=Below.Ap (Below.Ap d.o z.o) y.o;refine⟨⟨r2,L++[(c1,f,g,i,k,m,n)],a',c',rfl,by simp,Aa ?_,?_,Aa ?_,Aa (N.grown aa.o N.size (λj hj=>Fu G.o hj))⟩,?_⟩
      ·rw[I.o,HN.o]
       cases Dg r2 <;> simp
      ·simp only[XG,XC,XP]
       omega
      ·rw[qE]
       simpa using J.o
      simp only[nC,Cz];exact ad
variable{w:Tw}{r:List UInt8}
attribute [local go_sem] Oper.semAt_some
theorem ADX(s:Tb)(w:Tw):
 Zc 198 #[Zt s] w λe a=>e=Zr (.func (.func 239) #[] #[Zp (some (Zd w.1.size 0))])/\a=w.alloc (Zk #[Zt s] 9):=by
 go_enter func198,ntmps198;go_wp2;go_ret;exact⟨rfl,rfl⟩
def mV(B:Nat)(w:World):Nat:=match w.cell? ⟨B,0,none⟩ with
 | some (.string s)=>s.size
 | _=>0
theorem Mt{B:Nat}(h:w.cell? (Zd B 0)=some (Zt (bA r))):mV B w=r.length:=by unfold mV;rw[h];exact Cz
def iN(B:Nat)(r:List UInt8)(w:World):Prop:=w.1[B]? = some (.cells #[.string (bA r)] 9 (0,0))
theorem iN.cell{B:Nat}{r:List UInt8}{w:Tw}(h:iN B r w):w.cell? (Zd B 0)=some (Zt (bA r)):=by have a:w.1[B]? = _:=h;simp[World.cell?,a]
theorem iN.frozen{B:Nat}{r:List UInt8}{w:Tw}(h:iN B r w):w.frozen? (Zd B 0)=false:=by have a:w.1[B]? = _:=h;simp[World.frozen?,a]
theorem iN.put{B:Nat}(h:iN B r w)(q:List UInt8):iN B q (w.setCell (Zd B 0) (Zt (bA q))):=As w B 0 _ _ _ h
theorem AGK(a:List UInt8):Lib.trimSuffix (a++[10]) [10]=a:=by unfold Lib.trimSuffix Lib.hasSuffix;rw[Yae (by rw[WA];exact⟨a,rfl⟩)];simp
theorem ABn{a:List UInt8}(h:(10:UInt8) ∉ a):Lib.trimSuffix a [10]=a:=by
 unfold Lib.trimSuffix Lib.hasSuffix
 rw[Yad (by rw[WA];rintro⟨t,rfl⟩;exact h (by simp))]
theorem ADN(n:Nat)(_hn:1<=n)(l B:Nat)(j:List UInt8)(hlen:j.length<=1000000)(I:List (List UInt8)->Tw->Prop)(U:Tw->Prop)(P:∀pre W,I pre W->I pre W.drew)(y:∀pre W v,I pre W->I pre (W.setCell (Zd B 0) v))(Y:∀pre a s W v,(∃t,Dp j=pre++a :: t)->Lib.trimSuffix s [10]=a->s.length<=1000000->I pre W->iN B v W->YieldAt Fence.wide (n-1) prog l #[Zt (bA s)] W λe u=>
   (e=Zr (Zo true)/\I (pre++[a]) u/\iN B v u)\/(e=Zr (Zo false)/\U u))(W:Tw)(hB:iN B j W)(h0:I [] W):
 CallsIn Fence.wide n prog 239 #[.func (.yield l) #[] #[],Zp (some (Zd B 0))] W λe u=>(∃v,e=Zr v)/\(I (Dp j) u\/U u):=by
 refine callsIn_of_wp func239 rfl trivial ?_ rfl;simp only[ntmps239,List.size_toArray,XC,XP,Nat.reduceAdd,Nat.reduceSub,Array.replicate_succ,Array.replicate_zero,List.push_toArray,List.append_toArray,WS,XZ];gi_wp2
 gi_loopw [3] (λ_ wr=>∃(pre:List (List UInt8))(r:List UInt8),Hid (Dp j=pre++Dp r)/\r.length<=1000000/\Hid (I pre wr)/\Hid (iN B r wr)) (λ_ wr=>mV B wr)
 case atStart=>exact⟨[],j,Aa rfl,hlen,Aa h0,Aa hB⟩
 case round=>
  obtain⟨pre,r,x,hr,M,J⟩:=hrel;have hc:=J.o.cell;have hf:=J.o.frozen
  by_cases he:r=[]
  ·subst he
   have e0:bA ([]:List UInt8)=⟨#[]⟩:=rfl;rw[e0] at hc;gi_wp2
   go_end0
   refine⟨⟨_,rfl⟩,.inl ?_⟩;rw[x.o,Jf,List.append_nil];exact M.o
  have D:0<r.length:=List.length_pos_iff.2 he;have T:(bA r).size=r.length:=Cz;have R:(0:Int)<((bA r).size:Int):=by omega
  have z:=Mt hc;have d:=Aa (λW=>Any.strings_IndexByte lays137 (bA r) 10 W);rw[B5,show ((10:Int).toNat.toUInt8)=10 from rfl] at d
  rcases O3 r 10 with o|⟨i,o⟩
  ·have b:=Np o
   rw[o] at d
   have g:(10:UInt8) ∉ r:=by
    rcases Rj 10 r with⟨X,_⟩|⟨_,h⟩
    ·rw[b] at X;cases X
    exact h
   have c:Dp r=r :: Dp []:=by rw[J1 he,b]
   obtain⟨fn,tmps,assign,body,hy,w⟩:=Y pre r r (wr.setCell (Zd B 0) (Zt ⟨#[]⟩)) [] ⟨_,by rw[x.o,c]⟩ (ABn g) hr (y _ _ _ M.o) (J.o.put []);have N:=Aa w;have k:Hid (Dp j=(pre++[r])++Dp []):=Aa (by rw[x.o,c];simp);clear o b c w g;gi_wp2_with (refine⟨trivial,?_⟩;gi_at_call 240;refine(callsIn_wide.2 (d.o _)).mono ?_;rintro e w1⟨rfl,rfl⟩);apply N.o.mono;rintro e W3 (⟨rfl,m,f⟩|⟨rfl,q⟩)
   ·gi_wp2
    go_roundw
    case rel=>exact⟨pre++[r],[],k,by simp,Aa m,Aa f⟩
    case measure=>rw[Mt f.cell,z];exact D
   gi_wp2;refine bodyPost_ret (results_none rfl _ _ _) rfl ?_;exact⟨⟨_,rfl⟩,.inr q⟩
  obtain⟨b,p⟩:=J0 o;rw[o] at d;have V:bA (r.take (i+1))=(bA r).extract 0 (i+1):=by rw[extract_eq,B5];simp[bA]
  have L:bA (r.drop (i+1))=(bA r).extract (i+1) (bA r).size:=by rw[extract_eq,B5,Yf (by rw[XK,Cz];exact Y' _)];rfl
  have G:r.take (i+1)=r.take i++[10]:=by
   rcases Rj 10 r with⟨_,O,_⟩|⟨h,_⟩
   ·rw[b] at O
    simp only at O
    have h3:r[i]? = some 10:=by rw[O,X' (by rw[XT];exact Nat.min_le_left _ _),XT,YY (Nat.le_of_lt p),YO];rfl
    rw[YG,h3];rfl
   rw[b] at h;simp at h
  have c:Dp r=r.take i :: Dp (r.drop (i+1)):=by rw[J1 he,b]
  obtain⟨fn,tmps,assign,body,hy,w⟩:=Y pre (r.take i) (r.take (i+1)) (wr.setCell (Zd B 0) (Zt (bA (r.drop (i+1))))).drew (r.drop (i+1)) ⟨_,by rw[x.o,c]⟩ (by rw[G];exact AGK _) (by rw[XT];omega) (P _ _ (y _ _ _ M.o)) (J.o.put (r.drop (i+1)));rw[V,L] at hy;rw[L] at w;have N:=Aa w;have k:Hid (Dp j=(pre++[r.take i])++Dp (r.drop (i+1))):=Aa (by rw[x.o,c];simp);have aa:=Aa L;have ab:=Aa p;have c1:(0:Int)<=(i:Int):=by omega
  have c0:(i:Int)<=1000000:=by omega
  have c3:(0:Int)<=(i:Int)+1:=by omega
  have c4:(i:Int)+1<=((bA r).size:Int):=by omega
  clear o b c w G V L p T;gi_wp2_with (refine⟨trivial,?_⟩;gi_at_call 240;refine(callsIn_wide.2 (d.o _)).mono ?_;rintro e w1⟨rfl,rfl⟩);refine wpIn_wide.2 ?_
  go_region
  all_goals gi_wp2
  apply N.o.mono;rintro e W3 (⟨rfl,m,f⟩|⟨rfl,q⟩)
  ·gi_wp2
   go_roundw
   case rel=>exact⟨pre++[r.take i],r.drop (i+1),k,by rw[XK];omega,Aa m,Aa f⟩
   case measure=>rw[Mt f.cell,z,XK];omega
  gi_wp2;refine bodyPost_ret (results_none rfl _ _ _) rfl ?_;exact⟨⟨_,rfl⟩,.inr q⟩
