import Derived.Test.YthpcepcghakimaaGreatDoorShelfT
import Derived.Shelf.SlIter.Nil
import Derived.Shelf.SortM.Plain
import Derived.Shelf.SortM.SortNone
import Derived.Test.YthpcepcghakimaaGreatDoorZVb
import Derived.Deep.RegionLawGrows
import Derived.Test.YthpcepcghakimaaGreatDoorCards
set_option maxHeartbeats 40000000
set_option maxRecDepth 100000
open List renaming getElem?_eq_getElem->Y',setIfInBounds_toArray->XA,length_map->XB,set_cons_zero->XC,set_cons_succ->XD,getElem?_append_right->XI,mem_of_getElem?->XJ,getElem?_append_left->XK,map_append->XN,take_succ_cons->XO,length_append->XQ,getElem?_map->XR,drop_succ_cons->XS,size_toArray->XT,length_take->XV,length_cons->XW,drop_zero->XX,take_zero->XY,sum_append->XZ,getD_eq_getElem?_getD->X2,getElem?_drop->X4,getElem_append_left->X6,map_cons->X',sum_cons->Wb,not_mem_nil->WB,mem_map->WD,mem_of_mem_drop->WK,toList_toArray->WL,append_toArray->WM,mem_cons->WN,map_nil->WQ,sum_nil->WR,push_toArray->WT,any_eq_true->WV,cons_append->WW,length_drop->WX,length_nil->WY,nil_append->WZ,map_map->W0
open Nat renaming zero_le->XE,le_refl->XF,le_trans->XH,zero_add->WC,add_zero->WG,le_succ->W1
open Go.RowKit.Below renaming refl->XG,heap_alloc->WA
open Go.World renaming news_of_block->XL,putObj_heap_other->XM,ownsRow_nil->XU,cell?_alloc_past->WE,cells?_some->WO,new_ne->WS,size_alloc->WU
open Array renaming getElem?_eq_none->XP,getElem?_modify->WH,replicate_succ->WI,replicate_zero->WJ
namespace Go.Proofs.YthpcepcghakimaaGreatDoor
open _root_.Go.Proofs.Tryz RowKit Maps Go.Sort Shelf Lib Joins ChangeShapes WideShapes ChangeAt Deep
open Go.Sort (grow)
namespace B
def Ss(w:World)(base:Nat)(v:Value)(L:List (List UInt8)):Prop:=∃a c,v=.slice a L.length c/\L.length<=c/\(L≠[]->∃b,a=some ⟨b,0,none⟩/\base<=b/\b<w.1.size/\Holds encStr w b 0 L.toArray)
theorem AL4{w:Tw}{base:Nat}{v:Tv}{L:List (List UInt8)}(h:w.ownsRow base 9 1 v L.length (L.map encStr)):Ss w base v L:=by
 obtain⟨_,⟨rfl,i⟩|⟨g,c,d,rfl,l,b,k,n,o,m⟩⟩:=h
 ·rw[Yah.1 i]
  exact⟨_,_,rfl,XF _,λh=>absurd rfl h⟩
 refine⟨_,c,rfl,k,λ_=>⟨g,rfl,l,Nat.lt_of_not_le (λhl=>by rw[XP hl] at b;cases b),λj hj=>?_⟩⟩;have a:j<L.length:=by simpa using hj
 have f:(d.toList.take (L.length*1))[j]? = some (encStr L[j]!):=by rw[m,XR,Y' a,getElem!_pos L j a];rfl
 rw[Yh (by omega)] at f;have e:L.toArray[j]! = L[j]! := by rw[getElem!_pos L j a,getElem!_pos L.toArray j hj];simp
 constructor
 ·simp only[World.cell?,b,WC,e]
  simpa using f
 simp[World.frozen?,b]
theorem AL2{base zG off n:Nat}{w:Tw}(d:Array (List UInt8))(h:base<=zG):Below base w (putRow encStr (Sort.ahead w n) zG off d) :=
 ⟨rfl,rfl,rfl,by simp,λk a=>by simp only[putRow,mapBlock,heap_ahead,WH];rw[A1 (by omega)]⟩
theorem below_grow{base:Nat}{w0 w:Tw}(a:Array Obj)(h:Below base w0 w)(b:base<=w.1.size):Below base w0 (grow w a) :=
 h.trans ⟨rfl,rfl,rfl,by simp,λk c=>heap_grow_old w a (by omega)⟩
theorem AL8(s p:Tb)(w:Tw):
 Zc 53 #[Zt s,Zt p] w λe a=>e=Zr (Zo (Lib.hasPrefix s.1.toList p.1.toList))/\a=w:=by
 rw[<-Lib.hasPrefix_of_take,<-Lib.size_eq,<-Lib.size_eq];go_enter func53,ntmps53;go_wp2
 ·rename_i h
  go_ret;refine⟨?_,rfl⟩;show Ending.returned (Value.bool ((s.extract 0 p.size).toList==p.toList))=_;rw[Lib.extract_toList,Lib.toList_data];simp[h]
 rename_i h;go_ret;refine⟨?_,rfl⟩;show Ending.returned (Value.bool false)=_;simp[h]
theorem AMX(s p:Tb)(w:Tw):
 Zc 30 #[Zt s,Zt p] w λe a=>e=Zr (Zo (Lib.hasPrefix s.1.toList p.1.toList))/\a=w:=by
 go_enter func30,ntmps30;go_wp2_with (go_at_call 53;refine(AL8 _ _ _).mono ?_;rintro e a⟨rfl,b⟩;rw[b]);go_ret;exact⟨rfl,rfl⟩
theorem AND(p:Tb)(x:List UInt8)(B:Nat)(W:Tw)(f:W.cell? (Zd B 0)=some (Zt p)):
 FnGives prog 29 #[Zp (some (Zd B 0))] #[encStr x] (Zo (!Lib.hasPrefix x p.1.toList)) W:=by
 show Zc 29 #[Zt ⟨x.toArray⟩,Zp (some (Zd B 0))] W _;have a:=AMX ⟨x.toArray⟩ p;simp only at a;have b:Hid (∀w,Zc 30 #[Zt ⟨x.toArray⟩,Zt p] w λe c=>e=Zr (Zo (Lib.hasPrefix x p.1.toList))/\c=w):=a;clear a;generalize Lib.hasPrefix x p.1.toList=r at b ⊢;go_enter func29,ntmps29;go_wp2_with (go_at_call 30;refine(b.o _).mono ?_;rintro e c⟨rfl,d⟩;rw[d]);go_ret;exact⟨rfl,0,rfl⟩
theorem AOV(p:Tb)(B:Nat)(w:Tw)(b:B<w.1.size)(a:w.cell? (Zd B 0)=some (Zt p)):
 PredAt prog 29 #[Zp (some (Zd B 0))] encStr (λx=>!Lib.hasPrefix x p.1.toList) w :=
 λW x c=>AND p x B W ((c.cell (p:=Zd B 0) b).trans a)
theorem AOU(p:Tb)(B zG off size:Nat)(w:Tw)(c:B<w.1.size)(b:B≠zG)(a:w.cell? (Zd B 0)=some (Zt p)):
 PredOver prog 29 #[Zp (some (Zd B 0))] encStr (λx=>!Lib.hasPrefix x p.1.toList) zG off size w :=
 λn e d x _=>AND p x B _ (by unfold sortWorld;rw[cell?_grow _ _ _ (by show B<(putRow _ _ _ _ _).heap.size;rw[size_putRow];exact c),cell?_putRow_other _ _ zG off _ _ (Or.inl b)];exact a)
theorem ANl(a:Option Nat)(W:Tw):Zc 26 #[.map a] W λe b=>e=Zr (.func (.func 51) #[] #[Zp (some (Zd W.1.size 0))])/\b=W.alloc (Zk #[.map a] 26) :=
 (callsIn_wide (n:=5)).1 (AnyZ.keys_in layKeys Fence.wide 5 trivial rfl a W)
theorem AMp(mv:Tv)(n:Nat)(D:Td)(w:Tw)(k:Th w mv n D)(q:n<=100000):
 Zc 25 #[.func (.func 51) #[] #[Zp (some (Zd w.1.size 0))]] (w.alloc (Zk #[mv] 26)) λe i=>∃v c,e=Zr v/\c.Perm (strKeys D)/\Ss i (w.1.size+1) v c/\w.1.size+1<=i.1.size/\Zb w i:=by
 have f:Zb w (w.alloc (Zk #[mv] 26)):=Zal
 rcases k with⟨rfl,rfl⟩|⟨m,rfl,j⟩
 ·have b:SeqGives Fence.wide 3 prog 51 #[Zp (some (Zd w.1.size 0))] encStr (λc:List (List UInt8)=>c=[]) 0 (w.alloc (Zk #[.map none] 26)) :=
   AnyZ.keys_gives_nil (ρ:=layKeys_ren) { layKeys with } Fence.wide _ trivial rfl w.1.size _ (by simp) (by simp)
  have g:=(callsIn_wide (n:=5)).1 (AnyZ.collect_in layCollect Fence.wide 5 trivial trivial rfl (by omega) 51 #[Zp (some (Zd w.1.size 0))] trivial (enters_of func51 (by kernel_rfl) rfl) _ 0 (XE _) (by omega) _ b)
  change Zc 25 _ _ _ at g
  apply g.mono;rintro e i⟨v,c,rfl,rfl,a,h,d⟩;exact⟨v,[],rfl,List.Perm.refl _,(by simp at a;exact AL4 a),by simpa using d.size,f.trans (d.mono (by simp))⟩
 have p:Maps.size D<=n:=j.size_le;have l:=j.lt
 have b:SeqGives Fence.wide 3 prog 51 #[Zp (some (Zd w.1.size 0))] encStr (λc=>c.Perm (strKeys D)) (Maps.size D) (w.alloc (Zk #[.map (some m)] 26)) :=
  AnyZ.keys_gives (ρ:=layKeys_ren) { layKeys with } Fence.wide _ trivial rfl (by omega) w.1.size m n D _ (by simp) (by simp) (j.alloc _)
 have g:=(callsIn_wide (n:=5)).1 (AnyZ.collect_in layCollect Fence.wide 5 trivial trivial rfl (by omega) 51 #[Zp (some (Zd w.1.size 0))] trivial (enters_of func51 (by kernel_rfl) rfl) _ _ (by unfold maxLen;omega) (by omega) _ b)
 change Zc 25 _ _ _ at g
 apply g.mono;rintro e i⟨v,c,rfl,o,a,h,d⟩;exact⟨v,c,rfl,o,(by simp at a;exact AL4 a),by simpa using d.size,f.trans (d.mono (by simp))⟩
theorem AM5(a:To)(b:Nat)(c:Tv)(w:Tw):Zc 52 #[Zs a 0 b,c] w λe d=>e=Zr (Zi (-1))/\d=w:=by go_enter func52,ntmps52;go_wp2;refine wp_loop_rounds 1 ?_;rw[rounds_succ];go_wp2;go_ret;exact⟨rfl,rfl⟩
theorem AMr(a:To)(b:Nat)(c:Tv)(w:Tw):Zc 28 #[Zs a 0 b,c] w λe d=>e=Zr (Zs a 0 b)/\d=w:=by have f:=AM5 a b c;go_enter func28,ntmps28;go_wp2_with (go_at_call 52;refine(f _).mono ?_;rintro e d⟨rfl,g⟩;rw[g]);go_ret;exact⟨rfl,rfl⟩
theorem AN9(base B:Nat)(p:Tb)(v:Tv)(d:List (List UInt8))(w:Tw)(G:Ss w base v d)(L:B<base)(I:base<=w.1.size)(f:w.cell? (Zd B 0)=some (Zt p))(J:d.length<=100000):
 Zc 28 #[v,.func (.func 29) #[] #[Zp (some (Zd B 0))]] w λe k=>∃v',e=Zr v'/\Ss k base v' (d.filter λx=>Lib.hasPrefix x p.1.toList)/\Below base w k:=by
 obtain⟨a,g,rfl,u,z⟩:=G;cases d with
 | nil=>refine(AMr a g _ w).mono ?_;rintro e k⟨rfl,rfl⟩;exact⟨_,rfl,⟨_,_,rfl,XE _,λh=>absurd rfl h⟩,XG _ _⟩
 | cons x0 ss0=>
   generalize s:x0 :: ss0=d at u z J ⊢;obtain⟨b,rfl,i,l,t⟩:=z (by rw[<-s];simp);have D:∀args w,(callFunc 29 args).run prog w=.ok (.enter 29 args) w:=enters_of func29 (by kernel_rfl) rfl
   have c:=AnyE.slices_DeleteFunc layDel encStr (λ_=>rfl) (λx=>!Lib.hasPrefix x p.1.toList) 29 #[Zp (some (Zd B 0))] D [] zeroValue9 b 0 g d.toArray w
    (AOV p B w (by omega) f) (AOU p B b 0 _ w (by omega) (by omega) f) t (by simp;omega) (by simpa using u)
   change Zc 28 _ _ _ at c
   have m:(d.toArray.toList.filter λx=>!(!Lib.hasPrefix x p.1.toList))=d.filter λx=>Lib.hasPrefix x p.1.toList:=by simp
   rw[m] at c;simp only[XT] at c;have o:(d.filter λx=>Lib.hasPrefix x p.1.toList).length<=d.length:=Yu _ _;generalize (d.filter λx=>Lib.hasPrefix x p.1.toList)=r at c o ⊢;apply c.mono;rintro e k⟨rfl,q,rfl⟩;refine⟨_,rfl,⟨_,g,rfl,by omega,λ_=>⟨b,rfl,i,by simpa using l,λj hj=>?_⟩⟩,AL2 _ i⟩;have n:j<r.length:=by simpa using hj
   have y:=holds_putRow encStr (Sort.ahead w q) b 0 d.toArray (r++List.replicate (d.length-r.length) []).toArray t (by simp;omega) j (by simp;omega);rw[y.1,y.2];refine⟨?_,rfl⟩;rw[getElem!_pos _ j (by simp;omega),getElem!_pos _ j hj];simp[X6 n]
theorem ANq(base:Nat)(v:Tv)(f:List (List UInt8))(w:Tw)(p:Ss w base v f)(k:base<=w.1.size)(r:f.length<=100000):
 Zc 31 #[v] w λe j=>e=Zr (Zu #[])/\Ss j base v (f.mergeSort leB)/\Below base w j:=by
 obtain⟨a,d,rfl,n,o⟩:=p;cases f with
 | nil=>
   have c:=AnyM.slices_Sort_string_none laySortS a d w
   change Zc 31 _ _ _ at c
   apply c.mono;rintro e j⟨rfl,rfl⟩;exact⟨rfl,⟨a,d,by simp,by simp,λh=>absurd (by simp) h⟩,XG _ _⟩
 | cons x0 ss0=>
   generalize l:x0 :: ss0=f at n o r ⊢;obtain⟨b,rfl,g,i,m⟩:=o (by rw[<-l];simp);have c:=AnyM.slices_Sort_string laySortS b 0 d f w m i (by omega)
   change Zc 31 _ _ _ at c
   apply c.mono;rintro e j⟨rfl,q,s,rfl⟩;refine⟨rfl,⟨_,d,by simp,by simpa using n,λ_=>⟨b,rfl,g,by simp;omega,?_⟩⟩,below_grow _ (AL2 _ g) (by simpa using k)⟩;exact holds_grow _ _ _ _ _ _ (by simpa using i) (holds_putRow encStr (Sort.ahead w q) b 0 f.toArray _ m (by simp))
def AMu(D:DataW Unit)(p:ByteArray):List (List UInt8):=((strKeys D).filter λx=>Lib.hasPrefix x p.1.toList).mergeSort leB
theorem AL7{D:Td}(h:IsMap D):(strKeys D).length=Maps.size D:=by obtain⟨es,rfl⟩:=h;simp[strKeys,Maps.size]
def AMC(D:DataW Unit)(p:ByteArray)(w:World)(e:Ending)(a:World):Prop:=∃v,e=.returned v/\Ss a w.1.size v (AMu D p)/\Zb w a
theorem AMv(bb n:Nat)(D:Td)(mv:Tv)(p:Tb)(w:Tw)(z:w.cell? (Zd bb 0)=some mv)(k:Th w mv n D)(r:n<=100000):
 Zc 12 #[Zp (some (Zd bb 0)),Zt p] w (AMC D p w):=by
 have R:bb<w.1.size:=World.block_lt_of_cell? w (Zd bb 0) z
 have T:∃y,mv=.map y:=by
  rcases k with⟨rfl,_⟩|⟨m,rfl,_⟩
  ·exact⟨_,rfl⟩
  exact⟨_,rfl⟩
 obtain⟨y,rfl⟩:=T;have l:=ABJ bb (.map y) (w.alloc (Zk #[Zt p] 9)) ((Yl _ _ (Zd bb 0) R).trans z);have g:=AMp (.map y) n D (w.alloc (Zk #[Zt p] 9)) (k.alloc _) r;simp only[Zb,WU] at g;have i:(strKeys D).length<=100000:=by rw[AL7 k.isMap];exact XH k.size_le r
 have V:Hid (((w.alloc (Zk #[Zt p] 9)).cell? (Zd w.1.size 0))=some (Zt p)):=Aa (by simp)
 have W:Hid (∀(v:Tv)(f:List (List UInt8))(d:Tw),f.Perm (strKeys D)->Ss d (w.1.size+1+1) v f->w.1.size+1+1<=d.1.size->Below (w.1.size+1) (w.alloc (Zk #[Zt p] 9)) d->Zc 28 #[v,.func (.func 29) #[] #[Zp (some (Zd w.1.size 0))]] d λe j=>∃v',e=Zr v'/\Ss j (w.1.size+1+1) v' (f.filter λx=>Lib.hasPrefix x p.1.toList)/\Below (w.1.size+1+1) d j):=by intro v f d u G U N;exact AN9 _ _ p v f d G (by omega) U ((N.cell (p:=Zd w.1.size 0) (by simp)).trans V.o) (by rw[u.length_eq];exact i)
 have X:Hid (∀(v:Tv)(f:List (List UInt8))(d:Tw),f.Perm (strKeys D)->Ss d (w.1.size+1+1) v (f.filter λx=>Lib.hasPrefix x p.1.toList)->w.1.size+1+1<=d.1.size->Zc 31 #[v] d λe j=>e=Zr (Zu #[])/\Ss j (w.1.size+1+1) v (AMu D p)/\Below (w.1.size+1+1) d j):=by intro v f d u G N;have hl:(f.filter λx=>Lib.hasPrefix x p.1.toList).length<=100000:=XH (Yu _ _) (by rw[u.length_eq];exact i);refine(ANq _ v _ d G N hl).mono ?_;rintro e j⟨rfl,I,O⟩;refine⟨rfl,?_,O⟩;unfold AMu;rw[<-mergeSort_of_perm (u.filter _)];exact I
 clear k r i z;go_enter func12,ntmps12
 go_wp2_with (first
  | (go_at_call 27;apply l.mono;rintro e d⟨rfl,rfl⟩)
  | (go_at_call 26;refine(ANl _ _).mono ?_;rintro e d⟨rfl,rfl⟩)
  | (go_at_call 25;apply g.mono;rintro e w2⟨v2,f,rfl,s,J,t,o⟩)
  | (go_at_call 28;refine(W.o _ _ _ s J t o).mono ?_;rintro e w3⟨v3,rfl,L,q⟩)
  | (go_at_call 31;refine(X.o _ _ _ s L (XH t q.size)).mono ?_;rintro e w4⟨rfl,M,P⟩))
 go_ret;refine⟨_,rfl,?_,?_⟩
 ·obtain⟨a,c,Y,e2,h⟩:=M
  exact⟨a,c,Y,e2,λr=>by obtain⟨b,x1,x2,x3⟩:=h r;exact⟨b,x1,by omega,x3⟩⟩
 exact((XG _ w).alloc (XF _) _).trans ((o.mono (by simp)).trans ((q.mono (by omega)).trans (P.mono (by omega))))
def ANC(bb n:Nat)(D:DataW Unit)(fs:List Int)(a:ByteArray)(mv c:Value)(w:World)(e:Ending)(b:World):Prop:=e=.returned (L8 (if Maps.has D (lit a)=true then 0 else 7))/\Bu b bb n (D.del (lit a)) fs mv c/\A0 (Own bb mv) w b
theorem Lo(bb n:Nat)(D:Td)(fs:List Int)(mv j:Tv)(b:Tb)(w:Tw)(h:Bu w bb n D fs mv j)(l:b.size<=maxLen):
 Zc 36 #[Zp (some (Zd bb 0)),Zt b] w (ANC bb n D fs b mv j w):=by
 have H:Hid (Bu w bb n D fs mv j):=h;have u:Hid (∀p x,w.cell? p=some (Zi x)->p.block≠bb):=λp x g=>Fs.far h.1 h.2.1 h.2.2 g
 have c:=ABJ bb mv w h.1.c0
 rcases h.2.1 with⟨rfl,rfl⟩|⟨m,rfl,y⟩
 ·clear h
  go_enter func36,ntmps36
  go_wp2_with (first
   | (go_at_call 27;apply c.mono;rintro e r⟨rfl,rfl⟩)
   | (at_lookup;refine Wv _ rfl _ _ rfl n (.map []) (.map none) b rfl rfl H.o.2.1 l ?_;intro t k))
  rename_i i;have d:=nt i;go_ret;refine⟨by rw[d];rfl,?_,(A0.refl _ _).alloc _⟩;rw[del_of_not_has d];exact H.o.below (Zal)
 clear h;go_enter func36,ntmps36
 go_wp2_with (first
  | (go_at_call 27;apply c.mono;rintro e r⟨rfl,rfl⟩)
  | (at_lookup;refine Wv _ rfl _ _ rfl n D (.map (some m)) b rfl rfl H.o.2.1 l ?_;intro t k)
  | (at_delete;refine wpList_delete_own _ rfl _ _ 26 9 rfl 87 Wl underlying26 _ m n D rfl (y.alloc _) _ _ rfl (Mh l) ?_;intro G f a))
 ·rename_i i
  have d:=nt i;go_ret;refine⟨by rw[d];rfl,?_,(A0.refl _ _).alloc _⟩;rw[del_of_not_has d];exact H.o.below (Zal)
 have i:(!Maps.has D (lit b))=false:=by assumption
 have d:=nf i;go_ret;have s:A0 (Own bb (.map (some m))) r G:=((A0.refl _ r).alloc _).AFb a (λ_=>.inr rfl)
 have q:m≠bb:=λe=>by have:=H.o.2.1.ne H.o.1.c0;rw[e] at this;exact this rfl
 have o:=H.o.1.lt;refine⟨by rw[d];rfl,⟨H.o.1.keep ?_,.inr ⟨m,rfl,f⟩,H.o.2.2.keep λp v⟨x,z⟩g=>s.cell g ?_⟩,s⟩
 ·rw[a.grown.block bb (by simp;omega) (λe=>q (Yq e).symm)]
  exact WA _ _ _ o
 rintro(e|e)
 ·exact u.o p x (by rw[z] at g;exact g) e
 exact H.o.2.1.ne g e
end B
namespace F
variable{W w:Tw}{M:Td}{x:List UInt8}
abbrev Tx:={x:List UInt8 // x.length<=1000}
def AMM(x:Tx):Value:=encStr x.1
def ALf(M:DataW Unit)(x:List UInt8):Int:=match M.atKey (.string x) (.lit (.int .i64 0)) with
 | .lit (.int _ c)=>c
 | _=>0
theorem AOm(M:Td)(f:Int)(x:Tx)(b d m k:Nat)(W:Tw)(q:W.cell? (Zd b 0)=some (.map (some m)))(r:W.cell? (Zd d 0)=some (Zi f))(j:ALP W m k M):
 FnGives prog 35 #[Zp (some (Zd b 0)),Zp (some (Zd d 0))] #[AMM x] (Zo (decide (f<=ALf M x.1))) W:=by
 show Zc 35 #[Zt ⟨x.1.toArray⟩,Zp (some (Zd b 0)),Zp (some (Zd d 0))] W _;obtain⟨x,o⟩:=x
 have n:(⟨x.toArray⟩:Tb).size<=maxLen:=by show x.toArray.size<=maxLen;rw[XT];unfold maxLen;omega
 have l:=Aa j
 have e:Hid (∀c,M.atKey (B.lit ⟨x.toArray⟩) (.lit (.int .i64 0))=.lit (.int .i64 c)->ALf M x=c):=Aa (λc h=>by unfold ALf;rw[show Lit.string x=B.lit ⟨x.toArray⟩ from by simp[B.lit],h])
 simp only;generalize (⟨x.toArray⟩:Tb)=p at *;generalize ALf M x=s at *;clear j o;go_enter func35,ntmps35
 go_wp2_with (first
  | (at_lookup;refine wpList_lookup_own_int _ rfl _ _ 93 rfl 9 3 .i64 B.Wl underlying93 underlying3 (zeroValue3 _) m k M rfl l.o _ _ rfl (B.Mh n) ?_
     intro c a i;have g:=e.o c a;clear a i;subst g))
 go_ret;exact⟨rfl,0,rfl⟩
theorem AMS{α:Type}[Inhabited α]{enc:α->Tv}{zG off n:Nat}{b:Array α}{d:Array Obj}{k:Nat}(c:k<w.1.size)(a:¬zG=k):(sortWorld enc w zG off n b d).heap[k]? = w.1[k]? := by
 unfold sortWorld;simp[Go.Sort.grow,Go.Sort.putRow,Go.Sort.mapBlock,Array.getElem?_append,Array.getElem_modify,a,c,Go.Sort.ahead]
theorem AOP{b:Nat}{c:List (List UInt8)}[Inhabited Tx](d:List Tx)(g:d.map (·.1)=c)(h:Holds encStr w b 0 c.toArray):Holds AMM w b 0 d.toArray:=λj i=>by
 have f:j<d.length:=by simpa using i
 have a:j<c.length:=by rw[<-g,XB];exact f
 have k:=h j (by simpa using a)
 have e:AMM d.toArray[j]! = encStr c.toArray[j]! := by rw[getElem!_pos d.toArray j i,getElem!_pos c.toArray j (by simpa using a)];subst g;simp[AMM]
 rw[e];exact k
theorem AOC(M:Td)(f:Int)(i l m N base:Nat)(v:Tv)(g:List (List UInt8))(w:Tw)(hS:B.Ss w base v g)(u:∀x∈g,x.length<=1000)(aa:base<=w.1.size)(q1:i<base)(q2:l<base)(q3:m<base)(O:w.cell? (Zd i 0)=some (.map (some m)))(P:w.cell? (Zd l 0)=some (Zi f))(Y:ALP w m N M)(hn:g.length<=100000):
 Zc 28 #[v,.func (.func 35) #[] #[Zp (some (Zd i 0)),Zp (some (Zd l 0))]] w λe y=>∃v',e=Zr v'/\B.Ss y base v' (g.filter λx=>!decide (f<=ALf M x))/\Below base w y:=by
 obtain⟨a,s,rfl,T,X⟩:=hS;cases g with
 | nil=>refine(B.AMr a s _ w).mono ?_;rintro e y⟨rfl,rfl⟩;exact⟨_,rfl,⟨_,_,rfl,XE _,λh=>absurd rfl h⟩,XG _ _⟩
 | cons x0 ss0=>
   generalize I:x0 :: ss0=g at T X hn u ⊢;obtain⟨b,rfl,D,G,hH⟩:=X (by rw[<-I];simp)
   haveI:Inhabited Tx:=⟨⟨[],by simp⟩⟩
   let d:List Tx:=g.pmap (λx h=>⟨x,h⟩) u
   have U:d.map (·.1)=g:=by simp[d,List.map_pmap]
   have o:d.length=g.length:=by simp[d]
   have eg:∀args w,(callFunc 35 args).run prog w=.ok (.enter 35 args) w:=enters_of func35 (by kernel_rfl) rfl;have t:=AOP d U hH
   have c:=AnyE.slices_DeleteFunc layDel AMM (λ_=>rfl) (λx:Tx=>decide (f<=ALf M x.1)) 35 #[Zp (some (Zd i 0)),Zp (some (Zd l 0))] eg ⟨[],by simp⟩ zeroValue9 b 0 s d.toArray w
    (λW x z=>AOm M f x i l m N W ((z.cell (p:=Zd i 0) (by show i<_;omega)).trans O) ((z.cell (p:=Zd l 0) (by show l<_;omega)).trans P) (Y.up z))
    (λn os dk x _=>AOm M f x i l m N _ ((Y0 (a:=(Zd i 0)) (AMS (by show i<_;omega) (by show ¬b=i;omega))).trans O) ((Y0 (a:=(Zd l 0)) (AMS (by show l<_;omega) (by show ¬b=l;omega))).trans P) (by obtain⟨es,clock,R,h4⟩:=Y;exact⟨es,clock,(AMS (Ac R) (by omega)).trans R,h4⟩))
    t (by simp[o];omega) (by simpa[o] using T)
   change Zc 28 _ _ _ at c
   have hr:(d.toArray.toList.filter λx:Tx=>!decide (f<=ALf M x.1)).map (·.1)=g.filter λx=>!decide (f<=ALf M x):=by rw[WL,<-U,List.filter_map];rfl
   rw[<-hr]
   have L:(d.toArray.toList.filter λx:Tx=>!decide (f<=ALf M x.1)).length<=g.length:=by refine XH (Yu _ _) ?_;rw[WL,o];exact XF _
   generalize (d.toArray.toList.filter λx:Tx=>!decide (f<=ALf M x.1))=r at c L ⊢;simp only[XT,o] at c;apply c.mono;rintro e y⟨rfl,q,rfl⟩;refine⟨_,rfl,⟨_,s,by rw[XB],by rw[XB];omega,λ_=>⟨b,rfl,D,by simpa using G,λj hj=>?_⟩⟩,?_⟩
   ·have J:j<r.length:=by simpa using hj
    have V:=holds_putRow AMM (Sort.ahead w q) b 0 d.toArray (r++List.replicate (g.length-r.length) (⟨[],by simp⟩:Tx)).toArray t (by simp[o];omega) j (by simp;omega);rw[V.1,V.2];refine⟨?_,rfl⟩;rw[getElem!_pos _ j (by simp;omega),getElem!_pos _ j hj];simp[AMM,X6 J]
   exact⟨rfl,rfl,rfl,by simp,λk hk=>by simp only[putRow,mapBlock,heap_ahead,WH];rw[A1 (by omega)]⟩
theorem AOX(m:Nat):AnyZ.SortsIn prog laySorted_ren Fence.wide m :=
 ⟨λzG off a e W d b c=>callsIn_wide.2 (AnyM.slices_Sort_string laySortS zG off a e W d b c),
  λp a W=>callsIn_wide.2 (AnyM.slices_Sort_string_none laySortS p a W)⟩
theorem ANM(a:Option Nat)(W:Tw):Zc 34 #[.map a] W λe b=>e=Zr (.func (.func 60) #[] #[Zp (some (Zd W.1.size 0))])/\b=W.alloc (Zk #[.map a] 93) :=
 (callsIn_wide (n:=5)).1 (AnyZ.keys_in layKeysI Fence.wide 5 trivial rfl a W)
theorem AMy(m g:Nat)(M:Td)(w:Tw)(f:ALP w m g M)(q:g<=40000):
 Zc 33 #[.func (.func 60) #[] #[Zp (some (Zd w.1.size 0))]] (w.alloc (Zk #[.map (some m)] 93)) λe h=>∃v a,e=Zr v/\a.Perm (Go.strKeys M)/\B.Ss h (w.1.size+1) v a/\a.length<=40000/\w.1.size+1<=h.1.size/\Zb w h:=by
 have c:Zb w (w.alloc (Zk #[.map (some m)] 93)):=Zal;have i:Maps.size M<=g:=World.ownsMap.size_le f;have p:=f.lt
 have d:SeqGives Fence.wide 2 prog 60 #[Zp (some (Zd w.1.size 0))] encStr (λa=>a.Perm (Go.strKeys M)) (Maps.size M) (w.alloc (Zk #[.map (some m)] 93)) :=
  AnyZ.keys_gives (ρ:=layKeysI_ren) { layKeysI with } Fence.wide _ trivial rfl (by omega) w.1.size m g M _ (by simp) (by simp) (f.up c)
 have k:=(callsIn_wide (n:=5)).1 (AnyZ.sorted_in laySorted Fence.wide 5 trivial trivial trivial trivial rfl (by omega) (AOX _) (enters_of func31 (by kernel_rfl) rfl) 60 #[Zp (some (Zd w.1.size 0))] trivial (enters_of func60 (by kernel_rfl) rfl) _ _ (by unfold maxLen;omega) (by omega) _ d)
 change Zc 33 _ _ _ at k
 apply k.mono;rintro e h⟨v,a,rfl,o,b,l,j⟩;have hlen:a.length=(a.mergeSort λx y=>decide (x<=y)).length:=by rw[YW]
 refine⟨v,a.mergeSort λx y=>decide (x<=y),rfl,(List.mergeSort_perm _ _).trans o,?_,?_,by simpa using j.size,c.trans (j.mono (by simp))⟩
 ·rw[show (w.alloc (Zk #[.map (some m)] 93)).1.size=w.1.size+1 by simp] at b
  refine B.AL4 ?_;rw[YW];exact b
 rw[<-hlen,o.length_eq];obtain⟨es,rfl⟩:=World.ownsMap.isMap f;simp only[Go.strKeys,XB];exact XH i q
theorem mem_keys{b n:Nat}(h:ALP W b n M):x∈Go.strKeys M↔Maps.has M (Lit.string x)=true:=by
 obtain⟨es,rfl,f⟩:=World.ownsMap.keysOf h
 have g:∀p∈es,∃y,p.1=Lit.string y:=λp a=>by obtain⟨v,i⟩:=f p a;obtain⟨y,_,e,_⟩:=Go.Maps.keyOf_str underlying9 i;exact⟨y,e⟩
 show x∈es.map (λp=>Go.strOf p.1)↔es.any (λp=>p.1.sameKey (Lit.string x))=true;rw[WD,WV];constructor
 ·rintro⟨p,a,e⟩
  obtain⟨y,d⟩:=g p a;refine⟨p,a,?_⟩;rw[d] at e ⊢;have c:y=x:=e;rw[c];exact WideAt.sameKey_self (by simp[WideAt.IsKeyLit])
 rintro⟨p,a,e⟩;exact⟨p,a,by rw[WideAt.sameKey_eq e];rfl⟩
theorem AM6{b n:Nat}(h:ALP W b n M):(Go.strKeys M).Nodup:=by
 obtain⟨es,e,o⟩:=World.ownsMap.tidy h B.Wl;obtain⟨a,c,j⟩:=World.ownsMap.keysOf h;have k:a=es:=by rw[e] at c;injection c with c;exact c.symm
 subst k e;show (a.map λp=>Go.strOf p.1).Nodup;refine List.pairwise_map.2 (o.imp_of_mem λ{p q}f g d e=>d ?_);obtain⟨v,r⟩:=j p f;obtain⟨y,_,l,_⟩:=Go.Maps.keyOf_str underlying9 r;obtain⟨v',i⟩:=j q g;obtain⟨z,_,m,_⟩:=Go.Maps.keyOf_str underlying9 i;rw[l,m] at e ⊢;exact congrArg _ e
theorem ANE{j:Nat}(h:M.atKey (Lit.string x) (ALv 0)=ALv j):ALf M x=j:=by unfold ALf;rw[show (DataW.lit (.int .i64 0):Td)=ALv 0 from rfl,h];rfl
theorem ANg{b:Nat}{v:Tv}{T:TypeId}(h:W.1[b]? = some (Zk #[v] T)):W.cell? (Zd b 0)=some v/\W.frozen? (Zd b 0)=false:=by simp[World.cell?,World.frozen?,h]
def AON(w0 w:World)(bb n:Nat)(D:DataW Unit)(fs:List Int)(mv c:Value)(H:List (Dn×Ah))(f:Nat)(e:Ending)(b:World):Prop :=
 ∃a:List ByteArray,a.Nodup/\(∀p,p∈a↔ANK H f p)/\e=.returned (.tuple #[Zi (ALj D a),.nilIface])/\Ey w0 b 0 bb n (ALM D a) fs mv c/\B.A0 (B.Own bb mv) w b
theorem AMW(w0:Tw)(bb n:Nat)(D:Td)(fs:List Int)(mv fv:Tv)(H:List (Dn×Ah))(f:Nat)(w:Tw)(h:Ey w0 w 0 bb n D fs mv fv)(hl:U6 D H)(hp:La H)(O5:H.length<=40)(hf:∀k,k<=H.length->(Ae H k).qx.length<=1000)(ci:f<=H.length):
 Zc 14 #[Zp (some (Zd bb 0)),Zi (f:Int)] w (AON w0 w bb n D fs mv fv H f):=by
 have a:=Aa h;have az:=Aa (λW(hW:Below w.1.size w W)=>Ua bb n D mv H (-1) H.length W (h.ground.up hW) hl hp (by omega) (XF _) (.inl ⟨by omega,rfl⟩));have a0:=Aa (λW(hW:Below w.1.size w W)=>ANO bb n D mv H W (h.ground.up hW) hl hp O5 hf);have a6:=Aa hp;have cj:(f:Int)<=(H.length:Int):=by omega
 have cf:(0:Int)<=(f:Int):=by omega
 clear h hl hp hf;go_enter func14,ntmps14;go_wp2_with fail;have ap:Below w.1.size w (w.alloc (Zk #[Zi (f:Int)] 3)):=Zal;have ao:=Aa (Yad w (Zk #[Zi (f:Int)] 3));refine(az.o _ ap).mono ?_;rintro e w1⟨a1,n1,c1,x2,a2,n2,c2,rfl,b1,aa⟩;clear b1;unfold K4;have aq:Below w1.1.size w1 (w1.alloc (Zk #[Zi (H.length:Int),Zs a1 n1 c1,Zi x2,Zs a2 n2 c2] 71)):=Zal;have u:=Aa (((Ap aa aq).block _ (Ac ao.o)).trans ao.o);have ak:=Aa (Yad w1 (Zk #[Zi (H.length:Int),Zs a1 n1 c1,Zi x2,Zs a2 n2 c2] 71));have G:=Aa (Ap ap (Ap aa aq));have ae:=Aa (Ac u.o);clear aa aq ao az ap;go_wp2_with fail;refine(a0.o _ G.o).mono ?_;rintro e g⟨m,nn,M,rfl,bl,b5,hM,bd,r⟩;have l:Below g.1.size g (g.alloc (Zk #[.map (some m)] 93)):=Zal;have ag:=Aa ((r.block _ (Ac u.o)).trans u.o);have af:=Aa hM;have ad:=Aa (Ap G.o r);have b9:min (f:Int) (H.length:Int)=(f:Int):=by omega
 have Y:=Aa (((Ap r l).block _ (Ac u.o)).trans u.o);have a4:=Aa (((Ap r l).block _ (Ac ak.o)).trans ak.o);have ay:=Aa (Yad g (Zk #[.map (some m)] 93));have bw:=Aa (hM.up l);have q:=Aa bd;have br:=Aa (Ap G.o (Ap r l));have I:=Aa (And.intro bl hM.lt);clear r l u ak a0 hM bd bl;obtain⟨y0,y1,y3,y4,yf⟩:=Go.Proofs.YthpcepcghakimaaGreatDoor.B3 a4.o;have kF:=(S.cell_of_heap Y.o 0);have kL:=(S.cell_of_heap ay.o 0);have kZ:(g.alloc (Zk #[.map (some m)] 93)).frozen? (Zd w.1.size 0)=false:=(ANg Y.o).2;have cg:¬(f:Int)<0:=by omega
 have ch:¬(H.length:Int)<(f:Int):=by omega
 have b8:w.1.size<g.1.size:=by have h1:=Ac Y.o;have h2:=I.o.2;have h3:=G.o.size;have h4:=I.o.1;simp at h3 h4;omega
 have cb:w.1.size≠g.1.size:=by omega
 have cc:g.1.size≠w.1.size:=by omega
 simp only[List.getElem?_toArray,List.getElem?_cons_zero] at kF kL;go_wp2_with fail;have bj:Below w.1.size w (g.setCell (Zd w.1.size 0) (Zi (f:Int))):=ad.o.setCell (p:=Zd w.1.size 0) (XF _) _;have b6:(g.setCell (Zd w.1.size 0) (Zi (f:Int))).1.size=g.1.size:=by simp[World.setCell]
 have an:=Aa (As g w.1.size 0 _ _ (Zi (f:Int)) ag.o);have a3:=Aa (af.o.far (Aq g w.1.size 0 (Zi (f:Int))) (by have:=I.o.1;have h2:=ae.o;omega));clear Y ay bw br G a4 y0 y1 y3 y4 yf kF kL kZ ad ag af;generalize g.setCell (Zd w.1.size 0) (Zi (f:Int))=wS at *;have l:Below wS.1.size wS (wS.alloc (Zk #[.map (some m)] 93)):=Zal;have aj:=Aa (Yad wS (Zk #[.map (some m)] 93));have bc:=Aa ((l.block _ (Ac an.o)).trans an.o);have t:=Aa (a3.o.up l);have aw:=Aa (Ap bj l);have U:=Aa (AMy m nn M _ t.o b5);simp only[Zb,WU] at U;rw[b6] at U aj;clear l an a3 bj;refine(ANM _ _).mono ?_;rintro e w4⟨rfl,rfl⟩;go_wp2_with fail;apply U.o.mono;rintro e w5⟨v5,ss,rfl,ac,bf,bk,bq,z⟩;have b2:Below (g.1.size+1) (wS.alloc (Zk #[.map (some m)] 93)) w5:=z;have au:∀x∈ss,Maps.has M (Lit.string x)=true:=λx s=>(mem_keys t.o).1 (ac.mem_iff.1 s)
 have av:∀x∈ss,x.length<=1000:=λx s=>by
  obtain⟨j,j1,j2,_,j4,_⟩:=q.o.last ⟨x.toArray⟩ (by simpa[B.lit] using au x s);obtain⟨e,he,ee⟩:=List.mem_map.1 j4;have hn:=(Jb a6.o (i:=j) j2).2.1 e he;rw[ee] at hn;have:(⟨x.toArray⟩:Tb).size=x.length:=by show x.toArray.size=_;simp
  omega
 have ca:m<g.1.size:=I.o.2
 have a5:=Aa (AOC M (f:Int) g.1.size w.1.size m nn (g.1.size+1+1) v5 ss w5 bf av bq (by omega) (by omega) (by omega) ((z.cell (p:=Zd g.1.size 0) (by show g.1.size<g.1.size+1;omega)).trans (ANg aj.o).1) ((z.cell (p:=Zd w.1.size 0) (by show w.1.size<g.1.size+1;omega)).trans (ANg bc.o).1) (by obtain⟨es,clock,h3,h4⟩:=t.o;exact⟨es,clock,(z.block _ (by omega)).trans h3,h4⟩) (by omega))
 have bi:Below w.1.size w w5:=aw.o.trans (z.mono (by omega));go_wp2_with fail;apply a5.o.mono;rintro e w6⟨v6,rfl,bg,bh⟩;obtain⟨R,hR⟩:∃R,R=ss.filter λx=>!decide ((f:Int)<=ALf M x):=⟨_,rfl⟩
 rw[<-hR] at bg;obtain⟨oa,oc,rfl,cm,bn⟩:=bg;have a8:Hid (R.length<=40000):=Aa (by rw[hR];exact XH (Yu _ _) bk);have a7:Hid (∀x∈R,x.length<=1000):=Aa (λx s=>by rw[hR] at s;exact av x (List.mem_filter.1 s).1)
 have a9:Hid (R.Nodup):=Aa (by rw[hR];refine List.Nodup.sublist List.filter_sublist ?_;exact(ac.nodup_iff).2 (AM6 t.o))
 have ba:Hid (∀p:Tb,p∈R.map (λx=>(⟨x.toArray⟩:Tb))↔ANK H f p):=Aa (λp=>by
  rw[hR,WD];constructor
  ·rintro⟨x,s,rfl⟩
   obtain⟨h1,h2⟩:=List.mem_filter.1 s;have hh:Maps.has M (B.lit ⟨x.toArray⟩)=true:=by simpa[B.lit] using au x h1
   obtain⟨j,j1,j2,j3,_⟩:=q.o.last _ hh;refine(q.o.old hh (j3 _)).2 ?_;rw[ANE (x:=x) (by simpa[B.lit] using j3 (ALv 0))] at h2;simp at h2;omega
  intro ho;have hh:=q.o.AO3 ho;obtain⟨j,j1,j2,j3,_⟩:=q.o.last _ hh;refine⟨p.1.toList,List.mem_filter.2 ⟨ac.mem_iff.2 ((mem_keys t.o).2 hh),?_⟩,by simp⟩;have:=(q.o.old hh (j3 _)).1 ho;rw[ANE (x:=p.1.toList) (j3 (ALv 0))];simp;omega)
 have bz:Hid (R≠[]->∃b,oa=some (Zd b 0)/\g.1.size+1+1<=b/\b<w6.1.size/\Holds encStr w6 b 0 R.toArray):=Aa bn;have P:=Aa (bi.trans (bh.mono (by omega)));clear bn bh bi hR au av ac bf bk bq z b2 a5 U t bc aj q I aw ae a6;have ce:bb<w.1.size:=a.o.bu.1.lt;have bx:Hid (∀k,mv=.map (some k)->k<w.1.size):=Aa (λk e=>a.o.bu.2.1.lt e);obtain⟨c,N⟩:∃c:List Tb,c=R.map λx=>(⟨x.toArray⟩:Tb):=⟨_,rfl⟩
 have cl:c.length=R.length:=by rw[N,XB]
 have ax:Hid (c.Nodup):=Aa (by rw[N];exact List.pairwise_map.2 (a9.o.imp λ{x y}h e=>h (by simpa using congrArg (λb:Tb=>b.1.toList) e)))
 have bv:Hid (∀p,p∈c↔ANK H f p):=Aa (by rw[N];exact ba.o);have bt:Hid (∀(j:Nat)x,R[j]? = some x->c[j]? = some ⟨x.toArray⟩):=Aa (λj x h=>by rw[N,XR,h];rfl);clear N a9 ba;go_wp2_with fail
 go_loopw [10,37] (λvg vi wr=>∃j:Nat,j<=R.length/\vi=Zi (j:Int)/\vg=Zi (ALj D (c.take j):Int)/\Hid (B.Bu wr bb n (ALM D (c.take j)) fs mv fv)/\Hid (B.A0 (B.Own bb mv) w6 wr)) (λ_ vi _=>R.length-(intOf vi).toNat)
 case atStart=>exact⟨0,XE _,rfl,rfl,Aa (a.o.up P.o).bu,Aa (B.A0.refl _ _)⟩
 case round=>
  obtain⟨j,hj,rfl,rfl,HU,HO⟩:=hrel
  by_cases hjl:j<R.length
  ·obtain⟨x,s⟩:∃x,R[j]? = some x:=⟨_,Y' hjl⟩
   obtain⟨b,rfl,aa,r,hH⟩:=bz.o (by intro e;rw[e] at hjl;simp at hjl)
   have b4:¬B.Own bb mv b:=λh=>by
    rcases h with h|h
    ·omega
    have:=bx.o b h;omega
   have c0:wr.cell? (Zd b j)=some (Zt ⟨x.toArray⟩):=by
    have h:=(hH j (by simpa using hjl)).1;rw[getElem!_pos R.toArray j (by simpa using hjl),WC] at h
    have e:R.toArray[j]'(by simpa using hjl)=x:=by rw[Y' hjl] at s;simpa using s
    rw[e] at h;exact HO.o.cell h b4
   have bp:=a7.o x (XJ s);have ab:=bt.o j x s
   have bo:(⟨x.toArray⟩:Tb).size<=1000:=by show x.toArray.size<=1000;simpa using bp
   generalize (⟨x.toArray⟩:Tb)=p at *
   have bm:¬p∈c.take j:=λh=>by have hn:=ax.o;rw[<-YM j c,YN] at hn;refine hn.2.2 p h p ?_ rfl;rw[Ym (by omega)];rw[Y' (by omega)] at ab;rw[Yq ab];exact List.mem_cons_self ..
   have V:Hid (c.take (j+1)=c.take j++[p]):=Aa (S.Cs ab);have X:=Aa (ANW D (c.take j) p bm);have T:=Aa (λW=>tC p W bo)
   have o:=Aa (B.Lo bb n (ALM D (c.take j)) fs mv fv (Eh p) wr HU.o (by
    show (Eh p).size<=maxLen;have:(Eh p).size=5+p.size:=by unfold Eh;rw[ByteArray.size_append];rfl
    unfold maxLen;omega))
   unfold B.ANC at o;have cd:R.length<=40000:=a8.o;have b3:(j:Int)<(R.length:Int):=by omega
   have ck:(0:Int)<=(j:Int):=by omega
   have co:(ALj D (c.take j):Int)<=40000:=by have h1:ALj D (c.take j)<=(c.take j).length:=Yu _ _;have h2:=a8.o;rw[XV] at h1;omega
   have cn:(0:Int)<=(ALj D (c.take j):Int):=by omega
   clear s hH bp ab bm bo;cases hh:Maps.has (ALM D (c.take j)) (B.lit (Eh p)) with
   | true=>
     rw[hh,A2 rfl] at X o;rw[show B.L8 0=Zn from rfl] at o;obtain⟨O,d⟩:∃O,O=Eh p:=⟨_,rfl⟩;have ai:=Aa d;rw[<-d] at T o;clear d;go_wp2_with fail;refine(T.o _).mono ?_;rintro e w7⟨rfl,rfl⟩;go_wp2_with fail;apply o.o.mono;rintro e w8⟨rfl,L,J⟩;have am:=Aa L;have al:=Aa (HO.o.trans J λi _ h=>h);clear L J;go_wp2
     go_roundw
     case rel=>exact⟨j+1,by omega,by go_num,by rw[V.o,X.o];go_num,Aa (by rw[V.o,AMg,<-ai.o];exact am.o),al⟩
     case measure=>simp[intOf];omega
   | false=>
     rw[hh,A1 (by decide)] at X o;rw[show B.L8 7=Zf 107 (Zi 7) from rfl] at o;obtain⟨O,d⟩:∃O,O=Eh p:=⟨_,rfl⟩;have ai:=Aa d;rw[<-d] at T o;clear d;go_wp2_with fail;refine(T.o _).mono ?_;rintro e w7⟨rfl,rfl⟩;go_wp2_with fail;apply o.o.mono;rintro e w8⟨rfl,L,J⟩;have am:=Aa L;have al:=Aa (HO.o.trans J λi _ h=>h);clear L J;go_wp2
     go_roundw
     case rel=>exact⟨j+1,by omega,by go_num,by rw[V.o,X.o];go_num,Aa (by rw[V.o,AMg,<-ai.o];exact am.o),al⟩
     case measure=>simp[intOf];omega
  have b3:¬(j:Int)<(R.length:Int):=by omega
  have ar:c.take j=c:=Yd (by omega);rw[ar] at HU
  have ah:Below w0.1.size w0 wr:=by
   refine B.A0.below (a.o.up P.o).low HO.o (a.o.up P.o).low.size λi h=>?_
   rcases h with h|h
   ·rw[h];exact a.o.hb
   exact a.o.hm i h
  have bs:Hid (Ey w0 wr 0 bb n (ALM D c) fs mv fv):=Aa ⟨HU.o,ah,a.o.hb,a.o.hm,a.o.er,a.o.nc,a.o.tb,a.o.hf⟩;have b0:Hid (B.A0 (B.Own bb mv) w wr):=Aa ((B.A0.Ba P.o).trans HO.o λi _ h=>h);have b7:ALj D (c.take j)=ALj D c:=by rw[ar]
  clear ah ar;generalize ALj D (c.take j)=wn at *;go_wp2;subst b7;exact bodyPost_ret (v:=Zu #[Zi (ALj D c:Int),Zn]) (by simp[results,results14,go_sem]) rfl ⟨c,ax.o,bv.o,rfl,bs.o,b0.o⟩
def Pb(P:Prop)(w:World)(e:Ending)(a:World):Prop:=∃b,e=.returned (.bool b)/\(b=true->P)/\Zb w a
def ABP(l:List Aj):Prop:=l.length<=20/\∀c∈l,c.2.1.size<=60/\c.2.2.2.2.2.2.size<=100
def RowsFit(l:List (List V)):Prop:=l.length<=70/\∀r∈l,r.length<=20/\∀v∈r,v.2.2.size<=100
theorem O1{α:Type}{P:α->Prop}{l:List α}{k:Nat}(h:∀x∈l.take k,P x)(a:l.length<=k):∀x∈l,P x:=by rwa[Yd a] at h
theorem My{α:Type}{P:α->Prop}{l:List α}{k:Nat}{x:α}(h:∀x∈l.take k,P x)(c:l[k]? = some x)(b:P x):∀x∈l.take (k+1),P x:=by
 rw[E.Br c];intro y a
 rcases List.mem_append.1 a with a|a
 ·exact h y a
 simp at a;subst a;exact b
theorem pS(u:Tv)(l:List Aj)(w:Tw)(s:F7 7 Cc w u l)(e:∀c∈l,c.2.1.size<=maxLen/\c.2.2.2.2.2.2.size<=maxLen):
 Zc 15 #[u] w (Pb (ABP l) w):=by
 have x:=Aa s;obtain⟨R,T,rfl,_⟩:=s.slice;have h:=Aa e;clear s e
 by_cases h20:l.length<=20
 ·have d:¬(20:Int)<(l.length:Int):=by omega
  go_enter func15,ntmps15;go_wp2
  go_loopw [3] (λt wr=>∃k:Nat,k<=l.length/\t=Zi k/\Hid (∀c∈l.take k,c.2.1.size<=60/\c.2.2.2.2.2.2.size<=100)/\Hid (Zb w wr)) (λt _=>l.length-(intOf t).toNat)
  case atStart=>exact⟨0,XE _,rfl,Aa (by simp),Aa (XG _ _)⟩
  case round=>
   obtain⟨k,P,rfl,f,b⟩:=hrel
   by_cases hlt:k<l.length
   ·obtain⟨⟨c1,n,L,M,N,O,o⟩,g⟩:∃c,l[k]? = some c:=⟨_,Y' hlt⟩
    obtain⟨lb,U,G,z,_,D,a⟩:=(x.o.up b.o).cons (by omega);injection z with p _ q;subst p q;obtain⟨V,W,X,Y,q4,q5,q6⟩:=F8 a g;obtain⟨I,J⟩:=h.o _ (XJ g);dsimp only at I J;have r:(k:Int)<(l.length:Int):=by omega
    have v:=Aa g;clear a g
    by_cases a1:n.size<=60
    ·have j:¬(60:Int)<(n.size:Int):=by omega
     by_cases a2:o.size<=100
     ·have m:¬(100:Int)<(o.size:Int):=by omega
      have i:=Aa (My f.o v.o ⟨a1,a2⟩);go_wp2;exact⟨⟨k+1,by omega,by go_num,i,b⟩,by simp[intOf];omega⟩
     have m:(100:Int)<(o.size:Int):=by omega
     go_wp2;go_ret;exact⟨_,rfl,by simp,b.o⟩
    have j:(60:Int)<(n.size:Int):=by omega
    go_wp2;go_ret;exact⟨_,rfl,by simp,b.o⟩
   have r:¬(k:Int)<(l.length:Int):=by omega
   have y:=Aa (O1 f.o (by omega));go_wp2;go_ret;exact⟨_,rfl,λ_=>⟨h20,y.o⟩,b.o⟩
 have d:(20:Int)<(l.length:Int):=by omega
 go_enter func15,ntmps15;go_wp2;go_ret;exact⟨_,rfl,by simp,XG _ _⟩
theorem oH(W:Tv)(l:List (List V))(w:Tw)(T:iJ w W l)(m:∀r∈l,∀v∈r,v.2.2.size<=maxLen):
 Zc 16 #[W] w (Pb (RowsFit l) w):=by
 have HL:=Aa T;obtain⟨la,lc,rfl,_⟩:=T.slice;have y:=Aa m;clear T m
 by_cases h70:l.length<=70
 ·have h:¬(70:Int)<(l.length:Int):=by omega
  go_enter func16,ntmps16;go_wp2
  go_loopw [3] (λg wr=>∃k:Nat,k<=l.length/\g=Zi k/\Hid (∀r∈l.take k,r.length<=20/\∀v∈r,v.2.2.size<=100)/\Hid (Zb w wr)) (λg _=>l.length-(intOf g).toNat)
  case atStart=>exact⟨0,XE _,rfl,Aa (by simp),Aa (XG _ _)⟩
  case round=>
   obtain⟨k,hk,rfl,n,c⟩:=hrel
   by_cases hlt:k<l.length
   ·obtain⟨r,s⟩:∃r,l[k]? = some r:=⟨_,Y' hlt⟩
    obtain⟨rb,ro,ac,xv,er,aa,f,N⟩:=(HL.o.up c.o).at s;injection er with L _ M;subst L M;obtain⟨xa,xc,rfl,_,p⟩:=N;have G:=Aa p;have o:=y.o r (XJ s);have D:=Aa o;have z:=Aa s;have R:(k:Int)<(l.length:Int):=by omega
    clear p o s
    by_cases a1:r.length<=20
    ·have I:¬(20:Int)<(r.length:Int):=by omega
     go_wp2;rename Tw=>wo
     go_loopw [4] (λg wi=>∃j:Nat,j<=r.length/\g=Zi j/\Hid (∀v∈r.take j,v.2.2.size<=100)/\Hid (Zb wo wi)) (λg _=>r.length-(intOf g).toNat)
     case atStart=>exact⟨0,XE _,rfl,Aa (by simp),Aa (XG _ _)⟩
     case round=>
      obtain⟨j,hj,rfl,i,a⟩:=hrel;have q:=Ag a.o f
      by_cases hjl:j<r.length
      ·obtain⟨⟨vk,vn,U⟩,t⟩:∃x,r[j]? = some x:=⟨_,Y' hjl⟩
       obtain⟨xb,xo,rfl,ab,b⟩:=G.o (by intro e;rw[e] at hjl;simp at hjl);obtain⟨X,Y,y2⟩:=b j _ t;replace X:=Ag a.o X;replace Y:=Ag a.o Y;replace y2:=Ag a.o y2;have m1:=D.o _ (XJ t);dsimp only at m1;have O:(j:Int)<(r.length:Int):=by omega
       have HV:=Aa t;clear b t
       by_cases a2:U.size<=100
       ·have J:¬(100:Int)<(U.size:Int):=by omega
        have d:=Aa (My (P:=λv:V=>v.2.2.size<=100) i.o HV.o a2);go_wp2;exact⟨⟨j+1,by omega,by go_num,d,a⟩,by simp[intOf];omega⟩
       have J:(100:Int)<(U.size:Int):=by omega
       go_wp2;go_ret;exact⟨_,rfl,by simp,Ap c.o a.o⟩
      have O:¬(j:Int)<(r.length:Int):=by omega
      have d:=Aa (My (P:=λr:List V=>r.length<=20/\∀v∈r,v.2.2.size<=100) n.o z.o ⟨a1,O1 (P:=λv:V=>v.2.2.size<=100) i.o (by omega)⟩);have u:=Aa (Ap c.o a.o);go_wp2;exact⟨⟨k+1,by omega,by go_num,d,u⟩,by simp[intOf];omega⟩
    have I:(20:Int)<(r.length:Int):=by omega
    go_wp2;go_ret;exact⟨_,rfl,by simp,c.o⟩
   have R:¬(k:Int)<(l.length:Int):=by omega
   have z:=Aa (O1 (P:=λr:List V=>r.length<=20/\∀v∈r,v.2.2.size<=100) n.o (by omega));go_wp2;go_ret;exact⟨_,rfl,λ_=>⟨h70,z.o⟩,c.o⟩
 have h:(70:Int)<(l.length:Int):=by omega
 go_enter func16,ntmps16;go_wp2;go_ret;exact⟨_,rfl,by simp,XG _ _⟩
variable{H:Type}{W:Tw}{x:DataW H×List MemPlace}
theorem Db:prog.cellsOf 3=1:=by kernel_rfl
theorem zS:prog.cellsOf 2=1:=by kernel_rfl
theorem Vw:prog.cellsOf 9=1:=by kernel_rfl
theorem gQ:prog.cellsOf 55=3:=by kernel_rfl
theorem AGR:prog.cellsOf 59=7:=by kernel_rfl
theorem AHc:prog.cellsOf 61=1:=by kernel_rfl
theorem bounds{n:Int}(h:(Lit.int .i64 n).wf=true):-9223372036854775808<=n/\n<=9223372036854775807:=by have a:IntKind.i64.min = -9223372036854775808:=rfl;have b:IntKind.i64.max=9223372036854775807:=rfl;simp[Lit.wf,a,b] at h;omega
theorem qU{enc:TypeId×Tv->H}{base:Nat}{j:Nat->Bool}{held:Bool}{n:Nat}{cs:List Tv}(h:DataW.trod enc prog W base j held n 55 cs=some x):
 ∃v:V,cs=[Zi v.1,Zi v.2.1,Zt v.2.2]/\Ks v/\v.2.2.size<=maxLen:=by
 obtain⟨l,o,p,n1,_,f,c,d,e⟩:=trod_struct3 underlying55 h;rw[gQ] at f
 match cs,f with
 | [v0,v1,v2],_=>simp only[Db,Vw,zS,XX,XS,XO,XY] at c d e;obtain⟨k,e0,_,_⟩:=DataW.trod_int underlying3 c;obtain⟨m,a,_,g⟩:=DataW.trod_int underlying2 d;obtain⟨t,b,_,i⟩:=DataW.trod_string underlying9 e;simp at e0 a b;subst e0 a b;exact⟨(k,m,t),rfl,⟨(bounds g).1,(bounds g).2⟩,i⟩
theorem M0{α:Type}[Inhabited α]{enc:TypeId×Tv->H}{O:Nat->Bool}{held:Bool}{fuel k:Nat}{T E:TypeId}{en:α->List Tv}{P:α->Prop}{cs:List Tv}(y:0<k)(hlen:∀x,(en x).length=k)(X:prog.underlying T=some (.slice E))(V:prog.cellsOf E=k)(J:∀{n:Nat}{cs:List Tv}{x:DataW H×List MemPlace},DataW.trod enc prog W 0 O held n E cs=some x->∃q,cs=en q/\P q)(h:DataW.trod enc prog W 0 O held fuel T cs=some x):∃v,cs=[v]/\∃l:List α,F7 k en W v l/\∀q∈l,P q:=by
 rcases open_slice X h with⟨d,_⟩|⟨a,len,G,m,n,D,Pl,d,hb,Y,hm,L,b,r⟩
 ·exact⟨_,d,[],⟨_,_,rfl,XE _,λh=>absurd rfl h⟩,λx b=>by simp at b⟩
 refine⟨_,d,?_⟩
 rcases Yt len with rfl|c
 ·exact⟨[],⟨_,_,rfl,XE _,λh=>absurd rfl h⟩,λx b=>by simp at b⟩
 have aa:len<=m:=by rw[L];split <;> omega
 have p:∀i,i<len->∃q:α,W.cells? 0 (a.add (i*k)) k=some (en q)/\P q:=λi w=>by obtain⟨R,N,U⟩:=r i (by omega);obtain⟨q,rfl,hq⟩:=J U;rw[V] at N;exact⟨q,N,hq⟩
 obtain⟨Q,I⟩:=choose_lt p;obtain⟨z,M,spot⟩:=a
 have g:spot=none:=by have:=(WO (I 0 c).1).2.2 0 y;obtain⟨u,t,o⟩:=YY (l:=en (Q 0)) (by rw[hlen];exact y);rw[o] at this;simpa[Addr.add] using World.cell?_spot this
 subst g
 have cell:∀j,j<len->∀i,i<k->W.cell? (Zd z (M+j*k+i))=(en (Q j))[i]? := λj e i w=>by have:=(WO (I j e).1).2.2 i w;rwa[Lib.add_plain,Lib.add_plain] at this
 have f:((List.range len).map Q).length=len:=by simp
 refine⟨(List.range len).map Q,⟨some (Zd z M),G,by rw[f],by rw[f];exact Y,λ_=>⟨z,M,rfl,?_,λj x e i u o=>?_⟩⟩,λx b=>?_⟩
 ·obtain⟨u,t,o⟩:=YY (l:=en (Q 0)) (by rw[hlen];exact y)
  exact block_lt_of_cell ((cell 0 c 0 y).trans (by rw[o];rfl))
 ·have s:j<len:=by have:=Ax e;rwa[f] at this
  have b:x=Q j:=by rw[XR,List.getElem?_range s] at e;exact(Yq e).symm
  subst b;have w:i<k:=by have:=Ax o;rwa[hlen] at this
  rw[cell j s i w,o]
 simp only[WD,List.mem_range] at b;obtain⟨j,e,rfl⟩:=b;exact(I j e).2
def AIQ(v:V):List Value:=[Zi v.1,Zi v.2.1,.string v.2.2]
theorem mW{w:Tw}{v:Tv}{l:List V}(h:F7 3 AIQ w v l):E.Sl w v l:=by obtain⟨a,c,e,k,m⟩:=h;refine⟨a,c,e,k,λn=>?_⟩;obtain⟨b,off,g,i,d⟩:=m n;exact⟨b,off,g,i,λj x f=>⟨d j x f 0 _ rfl,d j x f 1 _ rfl,d j x f 2 _ rfl⟩⟩
end F
namespace S
variable{W w:Tw}{u v:Tv}{g i m n q:Nat}{X Y:List Tv}{a d:List CT}{T:CT}{c k:Int}
def AGj:CT->Nat
 | .nil=>0
 | .node _ _ _ l r=>1+max (AGj l) (AGj r)
theorem Gy.grown{w W:Tw}{row:Option Nat}(i:w.grownBy W row)(a:∀g,row=some g->∃d,w.1[g]? = some (Zk d 103)):∀{T:CT}{v:Tv},Gy w T v->Gy W T v
 | .nil,_,h=>h
 | .node _ _ ⟨_,_,_,_,_⟩ _ _,_,⟨b,pl,pr,e,hh,hcd,hl,hr⟩=>⟨b,pl,pr,e,by
    rw[i.block b (by
     rcases Yc b w.1.size with f|f
     ·exact f
     rw[XP f] at hh;cases hh) (λj=>by
     obtain⟨d,c⟩:=a b j.symm;rw[hh] at c;injection c with c;injection c with _ c;exact absurd c (by decide))]
    exact hh,hcd,Gy.grown i a hl,Gy.grown i a hr⟩
structure Stack(w0 wr:World)(i:Nat)(v:Value)(n:Nat)(vs:List Value)(Ts:List CT):Prop where
 own:wr.ownsRow w0.1.size 103 1 v n vs
 len:Ts.length=n
 ins:∀(j:Nat)(T:CT)(u:Value),Ts[j]? = some T->vs[j]? = some u->Gy wr T u/\0<AGj T
 dep:(Ts.map AGj).sum<=i
 xL:Zb w0 wr
theorem Ad{B e z n:Nat}{xs:List Tv}(h:w.ownsRow B e z v n xs)(k:Zb w W):W.ownsRow B e z v n xs:=by
 refine⟨h.1,?_⟩
 rcases h.2 with a|⟨g,b,c,f,i,d,j⟩
 ·exact .inl a
 refine .inr ⟨g,b,c,f,i,?_,j⟩
 rw[k.block g (by
  rcases Yc g w.1.size with a|a
  ·exact a
  rw[XP a] at d;cases d)]
 exact d
theorem Ai{B k e z n:Nat}{xs:List Tv}(h:w.ownsRow B e z v n xs)(j:k<=B):w.ownsRow k e z v n xs:=by
 refine⟨h.1,?_⟩
 rcases h.2 with i|⟨g,a,b,c,d,f⟩
 ·exact .inl i
 exact .inr ⟨g,a,b,c,XH j d,f⟩
theorem Ak{B e z n:Nat}{xs:List Tv}(h:w.ownsRow B e z v n xs):∃b a,v=Zs b n a/\n<=a/\a<=maxLen:=by
 rcases h.2 with⟨rfl,rfl⟩|⟨g,c,d,f,k,l,i,j,_⟩
 ·exact⟨none,0,rfl,XF _,by unfold maxLen;omega⟩
 exact⟨_,_,f,i,j⟩
theorem below_grown(a:w.grownBy W none):Zb w W :=
 ⟨a.os,a.tape,a.output,a.size,λk b=>a.block k b (by simp)⟩
theorem AFp:∀(a:List CT),(∀T∈a,0<AGj T)->a.length<=(a.map AGj).sum
 | [],_=>by simp
 | T :: a,h=>by have d:=h T (by simp);have e:=AFp a (λc b=>h c (by simp[b]));simp only[X',Wb,XW];omega
theorem Stack.sS{w0 wr:Tw}(h:Stack w0 wr i v n X a):X.length=n:=by have:=h.own.1;omega
theorem Stack.pos{w0 wr:Tw}(h:Stack w0 wr i v n X a):∀T∈a,0<AGj T:=by
 intro T c;obtain⟨j,b,e⟩:=List.mem_iff_getElem.1 c;have d:j<X.length:=by rw[h.sS,<-h.len];exact b
 exact(h.ins j T X[j] (by rw[Y' b,e]) (Y' d)).2
theorem Stack.AK5{w0 wr:Tw}(h:Stack w0 wr i v n X a):n<=i:=by have b:=AFp a h.pos;have c:=h.dep;have d:=h.len;omega
theorem Stack.up{w0 wr W:Tw}{i k:Nat}{v:Tv}{n:Nat}{X:List Tv}{b:List CT}(h:Stack w0 wr i v n X b)(a:Zb wr W)(e:i<=k):Stack w0 W k v n X b :=
 ⟨Ad h.own a,h.len,λj T u c d=>⟨(h.ins j T u c d).1.up a,(h.ins j T u c d).2⟩,XH h.dep e,Below.up h.xL a⟩
theorem AHw{B n:Nat}{xs:List Tv}(h:w.ownsRow B 103 1 v n xs):∀g,v.ownBlock=some g->∃a,w.1[g]? = some (Zk a 103):=by
 intro g b
 rcases h.2 with⟨rfl,_⟩|⟨i,c,a,rfl,e,d,f⟩
 ·cases b
 cases b;exact⟨a,d⟩
theorem Stack.push{w0 wr w:Tw}{v v':Tv}(h:Stack w0 wr i v n X d)(o:Gy wr T u)(s:AGj T=1)(f:wr.grownBy w v.ownBlock)(r:w.ownsRow w0.1.size 103 1 v' (n+1) (X++[u])):Stack w0 w (i+1) v' (n+1) (X++[u]) (d++[T]):=by
 have b:=AHw h.own;refine⟨r,by simp[h.len],?_,?_,?_⟩
 ·intro j g m a c
  have q:d.length=X.length:=by rw[h.len,h.sS]
  by_cases hj:j<d.length
  ·rw[XK hj] at a
   rw[XK (by omega)] at c;exact⟨(h.ins j g m a c).1.grown f b,(h.ins j g m a c).2⟩
  rw[XI (by omega)] at a;rw[XI (by omega)] at c
  have e:j-d.length=0:=by
   rcases Yt (j-d.length) with l|l
   ·exact l
   rw[Yb (by simp;omega)] at a;cases a
  rw[e] at a;rw[<-q,e] at c;simp at a c;subst a c;exact⟨o.grown f b,by omega⟩
 ·have:=h.dep;simp;omega
 exact Below.grown h.xL f h.xL.size (λk p=>(h.own.lt k p).1)
theorem Stack.replace{w0 wr w:Tw}{v v':Tv}{c:List CT}(h:Stack w0 wr i v n X c)(m:Nat)(x:m<=n)(l:Gy wr T u)(r:0<AGj T)(t:((c.take m).map AGj).sum+AGj T<=i+1)(o:wr.grownBy w none)(q:w.ownsRow wr.1.size 103 1 v' (m+1) (X.take m++[u])):Stack w0 w (i+1) v' (m+1) (X.take m++[u]) (c.take m++[T]):=by
 have d:=below_grown o;have p:(c.take m).length=m:=by simp[h.len];omega
 have s:(X.take m).length=m:=by simp[h.sS];omega
 refine⟨Ai q h.xL.size,by simp[h.len];omega,?_,by rw[XN,XZ];simp only[X',WQ,Wb,WR];omega,Below.up h.xL d⟩;intro j f k a b
 by_cases hj:j<m
 ·rw[XK (by omega),Yh hj] at a
  rw[XK (by omega),Yh hj] at b;exact⟨(h.ins j f k a b).1.up d,(h.ins j f k a b).2⟩
 rw[XI (by omega)] at a;rw[XI (by omega)] at b
 have e:j-m=0:=by
  rcases Yt (j-m) with g|g
  ·exact g
  rw[Yb (by simp;omega)] at a;cases a
 rw[p,e] at a;rw[s,e] at b;simp at a b;subst a b;exact⟨l.up d,r⟩
theorem Stack.AK1{w0 wr:Tw}(h:Stack w0 wr i v (m+1) X a):∃u T,X[m]? = some u/\Gy wr T u/\((a.take m).map AGj).sum+AGj T<=i/\a[m]? = some T:=by
 have c:m<X.length:=by rw[h.sS];omega
 have b:m<a.length:=by rw[h.len];omega
 refine⟨X[m],a[m],Y' c,(h.ins m _ _ (Y' b) (Y' c)).1,?_,Y' b⟩
 have e:a=a.take m++[a[m]]:=by rw[<-Yr b,Yd (by rw[h.len];omega)]
 have f:=h.dep;have d:=congrArg (λl=>(l.map AGj).sum) e;simp only[XN,XZ,X',WQ,Wb,WR] at d;omega
theorem Stack.AKv{w0 wr:Tw}(h:Stack w0 wr i v (m+2) X a):∃k n c d,X[m]? = some k/\X[m+1]? = some n/\Gy wr c k/\Gy wr d n/\0<AGj c/\0<AGj d/\((a.take m).map AGj).sum+AGj c+AGj d<=i/\a[m]? = some c/\a[m+1]? = some d:=by
 have f:m+1<X.length:=by rw[h.sS];omega
 have b:m+1<a.length:=by rw[h.len];omega
 have g:=h.ins m _ _ (Y' (Yaa b)) (Y' (Yaa f));have j:=h.ins (m+1) _ _ (Y' b) (Y' f);refine⟨X[m],X[m+1],a[m],a[m+1],Y' _,Y' f,g.1,j.1,g.2,j.2,?_,Y' _,Y' b⟩
 have e:a=a.take m++[a[m]]++[a[m+1]]:=by rw[<-Yr (Yaa b),<-Yr b,Yd (by rw[h.len];omega)]
 have p:=h.dep;have o:=congrArg (λl=>(l.map AGj).sum) e;simp only[XN,XZ,X',WQ,Wb,WR] at o;omega
theorem Stack.cells{w0 wr:Tw}{i:Nat}{g k:Nat}{n:Nat}{X:List Tv}{b:List CT}(h:Stack w0 wr i (Zs (some (Zd g 0)) n k) n X b){j:Nat}{u:Tv}(c:X[j]? = some u):wr.cell? (Zd g j)=some u:=by
 have:=h.own.cells (g:=g) rfl j u c;have a:((Zd g 0):Addr).add j=(Zd g j):=by unfold Addr.add;split <;> simp_all
 rwa[a] at this
theorem Stack.Hc{w0 wr:Tw}{c:To}{k:Nat}{f:List CT}(h:Stack w0 wr i (Zs c n k) n X f)(p:0<n):∃g,c=some (Zd g 0)/\w0.1.size<=g/\g<wr.1.size:=by
 rcases h.own.2 with⟨e,o⟩|⟨g,j,l,a,m,d,_⟩
 ·omega
 injection a with a _ _;refine⟨g,a,m,?_⟩
 rcases Yc g wr.1.size with b|b
 ·exact b
 rw[XP b] at d;cases d
theorem Stack.last{w0 wr:Tw}(h:Stack w0 wr i v n X a){j:Nat}(d:j<n):∃u T,X[j]? = some u/\a[j]? = some T/\Gy wr T u/\0<AGj T:=by
 have c:j<X.length:=by rw[h.sS];omega
 have b:j<a.length:=by rw[h.len];omega
 exact⟨X[j],a[j],Y' c,Y' b,h.ins j _ _ (Y' b) (Y' c)⟩
theorem Ip:(prog.info? 103).map (λi=>(i.zero,i.size,i.bytes))=some (some (Zp none),1,8):=by kernel_rfl
theorem wrap_small(m:Nat)(h:m<=1000):IntKind.i64.wrap (m:Int)=(m:Int):=by rw[IntKind.wrap_i64];omega
theorem Gy.ptr:∀{T:CT}{v:Tv},Gy w T v->∃p,v=Zp p
 | .nil,_,h=>⟨none,h⟩
 | .node _ _ ⟨_,_,_,_,_⟩ _ _,_,⟨b,_,_,e,_⟩=>⟨some (Zd b 0),e⟩
theorem L9(w:Tw)(X Y Z:Obj):Zb w (((w.alloc X).alloc Y).alloc Z).drew:=(((Zal).alloc (by simp) _).alloc (by simp;omega) _).drew
theorem AFv(w:Tw)(X Y Z:Obj):(((w.alloc X).alloc Y).alloc Z).drew.heap[w.1.size+1+1]? = some Z:=by rw[<-show ((w.alloc X).alloc Y).heap.size=w.1.size+1+1 by simp];exact Yad _ _
theorem second(w:Tw)(X Y Z:Obj):(((w.alloc X).alloc Y).alloc Z).drew.heap[w.1.size+1]? = some Y:=by refine(WA _ _ _ (by simp)).trans ?_;rw[<-show (w.alloc X).heap.size=w.1.size+1 by simp];exact Yad _ _
theorem Nr(w:Tw)(cs:Array Tv)(Y Z:Obj):(((w.alloc (Zk cs 63)).alloc Y).alloc Z).drew.cell? (Zd w.1.size 0)=cs[0]? := by
 show (((w.alloc (Zk cs 63)).alloc Y).alloc Z).cell? (Zd w.1.size 0)=cs[0]?;rw[WE _ _ _ (by simp;omega),WE _ _ _ (by simp),World.cell?_alloc_at _ _ _ _ rfl]
theorem take_one{b:List CT}(h:b[0]? = some T):AGj T<=((b.take 1).map AGj).sum:=by
 cases b with
 | nil=>simp at h
 | cons a l=>simp at h;subst h;simp
theorem Br(h:a[q]? = some T):((a.take (q+1)).map AGj).sum=((a.take q).map AGj).sum+AGj T:=by
 have c:q<a.length:=by
  rcases Yc q a.length with b|b
  ·exact b
  rw[Yb b] at h;cases h
 rw[Yr c,XN,XZ];rw[Y' c] at h;injection h with h;simp[h]
theorem jQ{w0 wr:Tw}{k:Nat}{f:List CT}(h:Stack w0 wr i (Zs (some (Zd g 0)) n k) n X f)(m:Nat):
 ∀W,Zb wr W->∀b,(some (Zd g 0):To)=some b->∀(j:Nat)(u:Tv),(X.take m)[j]? = some u->W.cell? (b.add j)=some u:=by
 intro W l b e j u c;cases e;have a:((Zd g 0):Addr).add j=(Zd g j):=by unfold Addr.add;split <;> simp_all
 rw[a]
 have d:X[j]? = some u:=by
  rw[List.getElem?_take] at c;split at c
  ·exact c
  cases c
 have:=(h.up l (XF _)).cells d;exact this
theorem fP{w0 wr:Tw}{k:Nat}{e:List CT}(h:Stack w0 wr i (Zs (some (Zd g 0)) n k) n Y e):
 ∃a:Tw->Prop,Hid (a wr/\(∀W X,a W->a (W.alloc X))/\(∀W,a W->∀q,q<n->∃b c,W.cell? (Zd g q)=some (Zp b)/\Gy W c (Zp b)/\0<AGj c/\e[q]? = some c)/\(∀W,a W->Zb w0 W)):=by
 refine⟨λW=>Zb wr W,XG _ _,λW X hb=>hb.alloc hb.size _,λW hb q hq=>?_,λW hb=>Below.up h.xL hb⟩;obtain⟨u,T,l,d,f,j⟩:=h.last hq;obtain⟨b,rfl⟩:=f.ptr;exact⟨b,T,(h.up hb (XF _)).cells l,f.up hb,j,d⟩
theorem rA{a:CT}{p b:To}{c:List CT}{d:Tw->Prop}(f:Gy w T (Zp p))(g:Gy w a (Zp b))(j:0<AGj T)(k:0<AGj a)(l:AGj T<=((c.take q).map AGj).sum)(i:c[q]? = some a)(h:d (w.alloc (Zk #[Zi 9,Zt ⟨#[]⟩,Zi 0,Zi 0,Zt ⟨#[]⟩,Zp p,Zp b] 153))):
 Gy (w.alloc (Zk #[Zi 9,Zt ⟨#[]⟩,Zi 0,Zi 0,Zt ⟨#[]⟩,Zp p,Zp b] 153)) (.node 0 0 ⟨9,⟨#[]⟩,0,0,⟨#[]⟩⟩ T a) (Zp (some (Zd w.1.size 0)))/\0<AGj (.node 0 0 ⟨9,⟨#[]⟩,0,0,⟨#[]⟩⟩ T a)/\AGj (.node 0 0 ⟨9,⟨#[]⟩,0,0,⟨#[]⟩⟩ T a)<=((c.take (q+1)).map AGj).sum/\d (w.alloc (Zk #[Zi 9,Zt ⟨#[]⟩,Zi 0,Zi 0,Zt ⟨#[]⟩,Zp p,Zp b] 153)):=by
 have e:Zb w (w.alloc (Zk #[Zi 9,Zt ⟨#[]⟩,Zi 0,Zi 0,Zt ⟨#[]⟩,Zp p,Zp b] 153)):=Zal;refine⟨?_,by simp only[AGj];omega,by rw[Br i];simp only[AGj];omega,h⟩;unfold Gy;exact⟨_,Zp p,Zp b,rfl,Yad _ _,by omega,f.up e,g.up e⟩
theorem vI(w:Tw):Gy w .nil (Zp none):=rfl
theorem Stack.step{w0 wr w:Tw}{v v':Tv}{a b:CT}{u f:Tv}{c k n':Int}{Bl t:Tb}{X Z:Obj}(h:Stack w0 wr i v n Y d)(o:m<=n)(g:1<=c/\c<=11)(l:Gy wr a u)(q:Gy wr b f)(r:((d.take m).map AGj).sum+(1+max (AGj a) (AGj b))<=i+1)(j:(((wr.alloc X).alloc (Zk #[Zi c,Zt Bl,Zi k,Zi n',Zt t,u,f] 153)).alloc Z).drew.grownBy w none)(p:w.ownsRow (((wr.alloc X).alloc (Zk #[Zi c,Zt Bl,Zi k,Zi n',Zt t,u,f] 153)).alloc Z).drew.heap.size 103 1 v' (m+1) (Y.take m++[Zp (some (Zd (wr.1.size+1) 0))])):
 Stack w0 w (i+1) v' (m+1) (Y.take m++[Zp (some (Zd (wr.1.size+1) 0))]) (d.take m++[.node 0 0 ⟨c,Bl,k,n',t⟩ a b]):=by
 have e:=L9 wr X (Zk #[Zi c,Zt Bl,Zi k,Zi n',Zt t,u,f] 153) Z;refine(h.up e (XF _)).replace m o ?_ (by simp only[AGj];omega) (by simp only[AGj];omega) j p;unfold Gy;exact⟨_,u,f,rfl,second wr _ _ _,g,l.up e,q.up e⟩
theorem M4(w:Tw)(X Y:Obj):Zb w ((w.alloc X).alloc Y):=(Zal).alloc (by simp) _
theorem AJC(w:Tw)(X Y:Obj)(H:Nat)(a:w.1.size=H):((w.alloc X).alloc Y).heap[H]? = some X:=by subst a;exact(WA _ _ _ (by simp)).trans (Yad _ _)
theorem bG(w:Tw)(X Y:Obj)(H:Nat)(a:w.1.size+1=H):((w.alloc X).alloc Y).heap[H]? = some Y:=by subst a;rw[<-show (w.alloc X).heap.size=w.1.size+1 by simp];exact Yad _ _
theorem Stack.leaf{w0 wr w W:Tw}{v v':Tv}{b:List CT}{c k n':Int}{Bl t:Tb}{Z:Obj}{H:Nat}(h:Stack w0 wr i v n X b)(a:1<=c/\c<=11)(e:Zb wr w)(d:w.1.size=H)(f:((w.alloc (Zk #[Zi c,Zt Bl,Zi k,Zi n',Zt t,Zp none,Zp none] 153)).alloc Z).grownBy W v.ownBlock)(g:W.ownsRow w0.1.size 103 1 v' (n+1) (X++[Zp (some (Zd H 0))])):
 Stack w0 W (i+1) v' (n+1) (X++[Zp (some (Zd H 0))]) (b++[.node 0 0 ⟨c,Bl,k,n',t⟩ .nil .nil]):=by
 refine(h.up (Below.up e (M4 w _ _)) (XF _)).push ?_ (by simp[AGj]) f g;unfold Gy;exact⟨_,Zp none,Zp none,rfl,AJC w _ _ H d,a,vI _,vI _⟩
def stp(c:Int)(Bl:ByteArray)(k n:Int)(t:ByteArray)(a:List CT):List CT :=
 if c=11 then (if a.length=0 then a else a.take (a.length-1)++[.node 0 0 ⟨11,⟨#[]⟩,0,0,⟨#[]⟩⟩ (a[a.length-1]?.getD .nil) .nil])
 else if c=9\/c=10 then (if a.length<=1 then a else a.take (a.length-2)++[.node 0 0 ⟨c,⟨#[]⟩,0,0,⟨#[]⟩⟩ (a[a.length-2]?.getD .nil) (a[a.length-1]?.getD .nil)])
 else if 1<=c/\c<=6 then (if t.size<=100/\E.A9 k n t=true then a++[.node 0 0 ⟨c,Bl,k,n,t⟩ .nil .nil] else a)
 else if c=7\/c=8 then a++[.node 0 0 ⟨c,Bl,0,0,⟨#[]⟩⟩ .nil .nil]
 else a
theorem ANt{Bl t:Tb}{n:Int}(h:a.length=0):stp 11 Bl k n t a=a:=by simp[stp,h]
theorem AOE{Bl t:Tb}{n:Int}(h:a.length=m+1)(b:a[m]? = some T):stp 11 Bl k n t a=a.take m++[.node 0 0 ⟨11,⟨#[]⟩,0,0,⟨#[]⟩⟩ T .nil]:=by unfold stp;rw[A2 rfl,A1 (by omega),h,show m+1-1=m from rfl,b];rfl
theorem ANv{n:Int}{Bl t:Tb}(b:c=9\/c=10)(h:a.length<=1):stp c Bl k n t a=a:=by unfold stp;rw[A1 (by omega),A2 b,A2 h]
theorem AOF{n:Int}{Bl t:Tb}{b d:CT}(g:c=9\/c=10)(h:a.length=m+2)(e:a[m]? = some b)(f:a[m+1]? = some d):stp c Bl k n t a=a.take m++[.node 0 0 ⟨c,⟨#[]⟩,0,0,⟨#[]⟩⟩ b d]:=by unfold stp;rw[A1 (by omega),A2 g,A1 (by omega),h,show m+2-2=m from rfl,show m+2-1=m+1 from rfl,e,f];rfl
theorem AMz{n:Int}{Bl t:Tb}(b:1<=c)(d:c<=6)(f:(t.size:Int)<=100)(e:E.A9 k n t=true):stp c Bl k n t a=a++[.node 0 0 ⟨c,Bl,k,n,t⟩ .nil .nil]:=by unfold stp;rw[A1 (by omega),A1 (by omega),A2 ⟨b,d⟩,A2 ⟨by omega,e⟩]
theorem AMl{n:Int}{Bl t:Tb}(b:1<=c)(d:c<=6)(h:¬((t.size:Int)<=100/\E.A9 k n t=true)):stp c Bl k n t a=a:=by unfold stp;rw[A1 (by omega),A1 (by omega),A2 ⟨b,d⟩,A1 (λe=>h ⟨by omega,e.2⟩)]
theorem ANu{n:Int}{Bl t:Tb}(h:c=7\/c=8):stp c Bl k n t a=a++[.node 0 0 ⟨c,Bl,0,0,⟨#[]⟩⟩ .nil .nil]:=by unfold stp;rw[A1 (by omega),A1 (by omega),A1 (by omega),A2 h]
theorem AOa{n:Int}{Bl t:Tb}(h:¬(1<=c/\c<=11)):stp c Bl k n t a=a:=by unfold stp;rw[A1 (by omega),A1 (by omega),A1 (by omega),A1 (by omega)]
def stk(a PK c:Nat->Int)(b d:Nat->ByteArray):Nat->List CT
 | 0=>[]
 | k+1=>stp (a k) (b k) (PK k) (c k) (d k) (stk a PK c b d k)
def AL0:List CT->CT
 | []=>.nil
 | T :: l=>l.foldl (λa b=>.node 0 0 ⟨9,⟨#[]⟩,0,0,⟨#[]⟩⟩ a b) T
theorem AMt(h:a[0]? = some T):AL0 (a.take 1)=T:=by
 cases a with
 | nil=>cases h
 | cons x l=>simp at h;subst h;rfl
theorem AMi(b:1<=q)(h:a[q]? = some T):AL0 (a.take (q+1))=.node 0 0 ⟨9,⟨#[]⟩,0,0,⟨#[]⟩⟩ (AL0 (a.take q)) T:=by
 cases a with
 | nil=>cases h
 | cons x l=>obtain⟨r,rfl⟩:∃r,q=r+1:=⟨q-1,by omega⟩;simp only[List.getElem?_cons_succ] at h;simp only[XO,AL0];rw[YE,h,Option.toList_some,YV];rfl
def ALh(L:Nat)(a PK c:Nat->Int)(b d:Nat->ByteArray):CT:=AL0 (stk a PK c b d (min L 14))
theorem AMb{A B C D E:Prop}(h:A/\B/\C/\D)(e:E):A/\B/\C/\D/\E:=⟨h.1,h.2.1,h.2.2.1,h.2.2.2,e⟩
theorem AMq(O ol L aq:Nat)(D PK I:Nat->Int)(G z:Nat->Tb)(w:Tw)(_hL:L<=aq)(_hcap:aq<=maxLen)(hT:∀j,(z j).size<=maxLen)(ab:O<w.1.size)(q0:∀j,j<L->w.cell? (Zd O (ol+j*5))=some (Zi (D j)))(q1:∀j,j<L->w.cell? (Zd O (ol+j*5+1))=some (Zt (G j)))(q2:∀j,j<L->w.cell? (Zd O (ol+j*5+2))=some (Zi (PK j)))(q3:∀j,j<L->w.cell? (Zd O (ol+j*5+3))=some (Zi (I j)))(q4:∀j,j<L->w.cell? (Zd O (ol+j*5+4))=some (Zt (z j))):
 Zc 41 #[Zs (some (Zd O ol)) L aq] w λe w'=>∃v,e=Zr v/\Gy w' (ALh L D PK I G z) v/\AGj (ALh L D PK I G z)<=14/\Zb w w':=by
 obtain⟨i0,a6,ba,bb,bc⟩:=info_parts Ip;have y:Hid (prog.info? 103=some i0/\i0.zero=some (Zp none)/\i0.size=1/\i0.bytes=8):=⟨a6,ba,bb,bc⟩;clear a6 ba bb bc;have Q0:=Ab q0;have Q1:=Ab q1;have Q2:=Ab q2;have Q3:=Ab q3;have Q4:=Ab q4;have HT:=Ab hT;clear q0 q1 q2 q3 q4 hT;unfold maxLen at _hcap;go_enter func41,ntmps41;go_wp2
 go_loopw [3,4] (λo i wr=>∃(k n:Nat)(N:List Tv)(l:List CT),k<=14/\i=Zi k/\Hid (Stack w wr k o n N l/\k<=L/\l=stk D PK I G z k)) (λ_ i _=>14-(intOf i).toNat)
 case atStart=>exact⟨0,0,[],[],by omega,rfl,⟨⟨XU _ _ _ _,rfl,λj T u h=>by simp at h,by simp,XG _ _⟩,XE _,rfl⟩⟩
 case round=>
  obtain⟨k,n,N,l,hk,rfl,d⟩:=hrel;obtain⟨ao,cp,rfl,bm,bd⟩:=Ak d.o.1.own;have bx:=d.o.1.AK5;unfold maxLen at bd
  by_cases aa:k<L/\k<14
  ·obtain⟨V,a7⟩:=aa
   have hb:=d.o.1.xL;have bk:O<wr.1.size:=Ya ab hb.size;have c0:wr.cell? (Zd O (ol+k*5))=some (Zi (D k)):=(hb.cell (p:=Zd O (ol+k*5)) ab).trans (Q0.o k V);have c1:wr.cell? (Zd O (ol+k*5+1))=some (Zt (G k)):=(hb.cell (p:=Zd O (ol+k*5+1)) ab).trans (Q1.o k V);have c2:wr.cell? (Zd O (ol+k*5+2))=some (Zi (PK k)):=(hb.cell (p:=Zd O (ol+k*5+2)) ab).trans (Q2.o k V);have c3:wr.cell? (Zd O (ol+k*5+3))=some (Zi (I k)):=(hb.cell (p:=Zd O (ol+k*5+3)) ab).trans (Q3.o k V);have c4:wr.cell? (Zd O (ol+k*5+4))=some (Zt (z k)):=(hb.cell (p:=Zd O (ol+k*5+4)) ab).trans (Q4.o k V);have ht:=HT.o k;have HE:Hid (stk D PK I G z (k+1)=stp (D k) (G k) (PK k) (I k) (z k) l):=Ab (by rw[d.o.2.2];rfl);have s:=Ab V;clear hb Q0 Q1 Q2 Q3 Q4 HT;generalize D k=c at *;generalize G k=Bl at *;generalize PK k=kk at *;generalize I k=nn at *;generalize z k=tt at *;have HB:Hid (∀X,Zb wr (wr.alloc X)):=λX=>Zal
   by_cases h11:c=11
   ·subst h11
    by_cases hn0:n=0
    ·subst hn0
     have M:Hid (stk D PK I G z (k+1)=l):=Ab (HE.o.trans (ANt d.o.1.len));go_wp2
     all_goals
      go_roundw
      case rel=>exact⟨k+1,_,N,l,by omega,by go_num,Ab ⟨d.o.1.up (HB.o _) (by omega),s.o,M.o.symm⟩⟩
      case measure=>simp[intOf];omega
    obtain⟨m,rfl⟩:∃m,n=m+1:=⟨n-1,by omega⟩;obtain⟨g,rfl,ax,ac⟩:=d.o.1.Hc (by omega);obtain⟨u,T,hu,aw,Y,a2⟩:=d.o.1.AK1;have M:Hid (stk D PK I G z (k+1)=l.take m++[.node 0 0 ⟨11,⟨#[]⟩,0,0,⟨#[]⟩⟩ T .nil]):=Ab (HE.o.trans (AOE d.o.1.len a2));clear a2;obtain⟨pu,rfl⟩:=aw.ptr;have cu:=d.o.1.cells hu;have HU:Hid (Gy wr T (Zp pu)/\N[m]? = some (Zp pu)):=⟨aw,hu⟩;have HD:=Ab Y;have bf:(0:Int)<=(m:Int):=by omega
    have bg:(m:Int)<(m:Int)+1:=by omega
    clear hu aw Y;have HC:Hid (∀W,Zb wr W->∀b,(some (Zd g 0):To)=some b->∀(j:Nat)(u':Tv),(N.take m)[j]? = some u'->W.cell? (b.add j)=some u'):=jQ d.o.1 m;have HV:Hid ((N.take m).length=m*1):=Ab (by simp[d.o.1.sS]);have bw:=WS wr (Zd g m) cu;have HK:Hid (∀W,Zb wr W->W.cell? (Zd g m)=some (Zp pu)):=λW hb=>(hb.cell (p:=Zd g m) ac).trans cu
    have bj:IntKind.i64.wrap (m:Int)=(m:Int):=wrap_small m (by omega);have bh:(m:Int)<=(cp:Int):=by omega
    go_wp2_with fail
    go_region_held3 (λw'=>w'.cell? (Zd g m)=some (Zp pu))
     (first
       | (go_keep;done)
       | exact HK.o _ (L9 wr _ _ _)
       | exact HK.o _ (Below.up (L9 wr _ _ _) (below_grown a)))
     ((refine step_append_grows (by rfl) (.tmp 38) (.tmp 46) 151 (by rfl) 103 i0 (.pointer none) 1 8 underlying151 y.o.1 y.o.2.1 y.o.2.2.1 y.o.2.2.2 rfl (by omega) (some (Zd g 0)) m m (N.take m) (by rfl) (by simp) HV.o (HC.o _ (L9 wr _ _ _)) (Zd (wr.1.size+1+1) 0) 1 1 [.pointer (some (Zd (wr.1.size+1) 0))] (by rfl) (by rfl) (XL (cs:=#[.pointer (some (Zd (wr.1.size+1) 0))]) (t:=103) (fr:=(0,0)) (AFv wr _ _ _)) (by simp[Value.oneCell']) (by omega) (by unfold maxLen;omega) (by omega) ?_;intro v' P f a))
    go_wp2
    go_roundw
    case rel=>exact⟨k+1,m+1,_,_,by omega,by go_num,Ab ⟨d.o.1.step (by omega) (by omega) HU.o.1 (vI wr) (by have:=HD.o;simp only[AGj];omega) a f,s.o,M.o.symm⟩⟩
    case measure=>simp[intOf];omega
   have bs:(c==11)=false:=by simpa using h11
   by_cases h9:c=9\/c=10
   ·by_cases ak:n<=1
    ·have M:Hid (stk D PK I G z (k+1)=l):=Ab (HE.o.trans (ANv h9 (by rw[d.o.1.len];exact ak)))
     rcases h9 with rfl|rfl
     ·go_wp2
      all_goals
       go_roundw
       case rel=>exact⟨k+1,_,N,l,by omega,by go_num,Ab ⟨d.o.1.up (HB.o _) (by omega),s.o,M.o.symm⟩⟩
       case measure=>simp[intOf];omega
     go_wp2
     all_goals
      go_roundw
      case rel=>exact⟨k+1,_,N,l,by omega,by go_num,Ab ⟨d.o.1.up (HB.o _) (by omega),s.o,M.o.symm⟩⟩
      case measure=>simp[intOf];omega
    obtain⟨m,rfl⟩:∃m,n=m+2:=⟨n-2,by omega⟩;obtain⟨g,rfl,ax,ac⟩:=d.o.1.Hc (by omega);obtain⟨u1,u2,T1,T2,a8,a9,au,av,a4,a5,Y,am,an⟩:=d.o.1.AKv;have M:Hid (stk D PK I G z (k+1)=l.take m++[.node 0 0 ⟨c,⟨#[]⟩,0,0,⟨#[]⟩⟩ T1 T2]):=Ab (HE.o.trans (AOF h9 d.o.1.len am an));clear am an;have a1:=d.o.1.cells a8;have ar:=d.o.1.cells a9;obtain⟨p1,rfl⟩:=au.ptr;obtain⟨p2,rfl⟩:=av.ptr;have HU:Hid (Gy wr T1 (Zp p1)/\Gy wr T2 (Zp p2)):=⟨au,av⟩;have HD:Hid (0<AGj T1/\0<AGj T2/\((l.take m).map AGj).sum+AGj T1+AGj T2<=k):=⟨a4,a5,Y⟩;have bf:(0:Int)<=(m:Int):=by omega
    have bg:(m:Int)<(m:Int)+2:=by omega
    obtain⟨m1,ap⟩:∃m1:Nat,m1=m+1:=⟨_,rfl⟩;have bu:(m1:Int)<(m:Int)+2:=by omega
    have bv:(0:Int)<=(m1:Int):=by omega
    have bq:IntKind.i64.wrap ((m:Int)+2-1)=(m1:Int):=by rw[show ((m:Int)+2-1)=(m1:Int) by omega];exact wrap_small m1 (by omega)
    rw[<-ap] at ar;clear ap;clear a8 a9 au av a4 a5 Y;have HC:Hid (∀W,Zb wr W->∀b,(some (Zd g 0):To)=some b->∀(j:Nat)(u':Tv),(N.take m)[j]? = some u'->W.cell? (b.add j)=some u'):=jQ d.o.1 m;have HV:Hid ((N.take m).length=m*1):=Ab (by simp[d.o.1.sS]);have bn:=WS wr (Zd g m) a1;have bo:=WS wr (Zd g m1) ar;have HK:Hid (∀W,Zb wr W->∀X,W.cell? (Zd wr.1.size 0)=some X->W.cell? (Zd g m)=some (Zp p1)/\W.cell? (Zd g m1)=some (Zp p2)/\W.cell? (Zd wr.1.size 0)=some X):=λW hb X hX=>⟨(hb.cell (p:=Zd g m) ac).trans a1,(hb.cell (p:=Zd g m1) ac).trans ar,hX⟩
    have bj:IntKind.i64.wrap (m:Int)=(m:Int):=wrap_small m (by omega);have bh:(m:Int)<=(cp:Int):=by omega
    rcases h9 with rfl|rfl
    ·go_wp2_with fail
     go_region_held3 (λw'=>w'.cell? (Zd g m)=some (Zp p1)/\w'.cell? (Zd g m1)=some (Zp p2)/\w'.cell? (Zd wr.1.size 0)=some (Zi 9))
      (first
        | (go_keep;done)
        | exact HK.o _ (L9 wr _ _ _) _ (Nr wr _ _ _)
        | exact HK.o _ (Below.up (L9 wr _ _ _) (below_grown a)) _ ((a.cell_far _ (by simp;omega) (by simp)).trans (Nr wr _ _ _)))
      ((refine step_append_grows (by rfl) (.tmp 66) (.tmp 81) 151 (by rfl) 103 i0 (.pointer none) 1 8 underlying151 y.o.1 y.o.2.1 y.o.2.2.1 y.o.2.2.2 rfl (by omega) (some (Zd g 0)) m m (N.take m) (by rfl) (by simp) HV.o (HC.o _ (L9 wr _ _ _)) (Zd (wr.1.size+1+1) 0) 1 1 [.pointer (some (Zd (wr.1.size+1) 0))] (by rfl) (by rfl) (XL (cs:=#[.pointer (some (Zd (wr.1.size+1) 0))]) (t:=103) (fr:=(0,0)) (AFv wr _ _ _)) (by simp[Value.oneCell']) (by omega) (by unfold maxLen;omega) (by omega) ?_;intro v' P f a))
     go_wp2
     go_roundw
     case rel=>exact⟨k+1,m+1,_,_,by omega,by go_num,Ab ⟨d.o.1.step (by omega) (by omega) HU.o.1 HU.o.2 (by have:=HD.o;omega) a f,s.o,M.o.symm⟩⟩
     case measure=>simp[intOf];omega
    go_wp2_with fail
    go_region_held3 (λw'=>w'.cell? (Zd g m)=some (Zp p1)/\w'.cell? (Zd g m1)=some (Zp p2)/\w'.cell? (Zd wr.1.size 0)=some (Zi 10))
     (first
       | (go_keep;done)
       | exact HK.o _ (L9 wr _ _ _) _ (Nr wr _ _ _)
       | exact HK.o _ (Below.up (L9 wr _ _ _) (below_grown a)) _ ((a.cell_far _ (by simp;omega) (by simp)).trans (Nr wr _ _ _)))
     ((refine step_append_grows (by rfl) (.tmp 66) (.tmp 81) 151 (by rfl) 103 i0 (.pointer none) 1 8 underlying151 y.o.1 y.o.2.1 y.o.2.2.1 y.o.2.2.2 rfl (by omega) (some (Zd g 0)) m m (N.take m) (by rfl) (by simp) HV.o (HC.o _ (L9 wr _ _ _)) (Zd (wr.1.size+1+1) 0) 1 1 [.pointer (some (Zd (wr.1.size+1) 0))] (by rfl) (by rfl) (XL (cs:=#[.pointer (some (Zd (wr.1.size+1) 0))]) (t:=103) (fr:=(0,0)) (AFv wr _ _ _)) (by simp[Value.oneCell']) (by omega) (by unfold maxLen;omega) (by omega) ?_;intro v' P f a))
    go_wp2
    go_roundw
    case rel=>exact⟨k+1,m+1,_,_,by omega,by go_num,Ab ⟨d.o.1.step (by omega) (by omega) HU.o.1 HU.o.2 (by have:=HD.o;omega) a f,s.o,M.o.symm⟩⟩
    case measure=>simp[intOf];omega
   have b9:(c==9)=false:=by simp;omega
   have br:(c==10)=false:=by simp;omega
   by_cases h16:1<=c/\c<=6
   ·obtain⟨h1,h6⟩:=h16
    have b7:(c==7)=false:=by simp;omega
    have b8:(c==8)=false:=by simp;omega
    by_cases hsz:(tt.size:Int)<=100
    ·have x:Hid (∀W,Zc 70 #[Zg #[Zi kk,Zi nn,Zt tt]] W λe w'=>e=Zr (Zo (E.A9 kk nn tt))/\Zb W w'):=λW=>E.Ln kk nn tt W ht
     cases hrv:E.A9 kk nn tt
     ·rw[hrv] at x
      have M:Hid (stk D PK I G z (k+1)=l):=Ab (HE.o.trans (AMl h1 h6 (λhh=>by rw[hrv] at hh;cases hh.2)));clear hrv;go_wp2_with fail;refine(x.o _).mono ?_;rintro e P⟨rfl,J⟩;have x0:P.cell? (Zd wr.1.size 0)=some (Zi c):=(J.cell (p:=Zd wr.1.size 0) (by simp)).trans (by go_simp);have HX:=Ab J;clear J;go_wp2
      all_goals
       go_roundw
       case rel=>exact⟨k+1,n,N,l,by omega,by go_num,Ab ⟨d.o.1.up (Below.up (HB.o _) HX.o) (by omega),s.o,M.o.symm⟩⟩
       case measure=>simp[intOf];omega
     rw[hrv] at x;have M:Hid (stk D PK I G z (k+1)=l++[.node 0 0 ⟨c,Bl,kk,nn,tt⟩ .nil .nil]):=Ab (HE.o.trans (AMz h1 h6 hsz hrv));clear hrv;go_wp2_with fail;refine(x.o _).mono ?_;rintro e P⟨rfl,J⟩;have x0:P.cell? (Zd wr.1.size 0)=some (Zi c):=(J.cell (p:=Zd wr.1.size 0) (by simp)).trans (by go_simp);have x1:P.cell? (Zd wr.1.size 1)=some (Zt Bl):=(J.cell (p:=Zd wr.1.size 1) (by simp)).trans (by go_simp);have x2:P.cell? (Zd wr.1.size 2)=some (Zi kk):=(J.cell (p:=Zd wr.1.size 2) (by simp)).trans (by go_simp);have x3:P.cell? (Zd wr.1.size 3)=some (Zi nn):=(J.cell (p:=Zd wr.1.size 3) (by simp)).trans (by go_simp);have x4:P.cell? (Zd wr.1.size 4)=some (Zt tt):=(J.cell (p:=Zd wr.1.size 4) (by simp)).trans (by go_simp);have HX:Hid (Zb wr P):=Below.up (HB.o _) J;clear J;go_wp2_with (at_builtin;refine wpList_append_lies _ rfl (.tmp 104) (.tmp 113) 151 rfl w.1.size 103 i0 (.pointer none) 1 8 underlying151 y.o.1 y.o.2.1 y.o.2.2.1 y.o.2.2.2 rfl (by omega) (.slice ao n cp) n N rfl (Ad d.o.1.own (Below.up HX.o (M4 P _ _))) (Zd (P.1.size+1) 0) 1 1 [.pointer (some (Zd P.1.size 0))] rfl rfl (XL (cs:=#[.pointer (some (Zd P.1.size 0))]) (t:=103) (fr:=(0,0)) (bG P _ _ _ (by simp))) (by simp[Value.oneCell']) (by omega) (by unfold maxLen;omega) (by omega) (XH d.o.1.xL.size (Below.up HX.o (M4 P _ _)).size) (P.1.size+1+1) (by simp) ?_;intro gg a0 w2 f a a3 aa)
     go_roundw
     case rel=>exact⟨k+1,n+1,_,_,by omega,by go_num,Ab ⟨d.o.1.leaf (by omega) HX.o (by simp) a f,s.o,M.o.symm⟩⟩
     case measure=>simp[intOf];omega
    have bp:(100:Int)<tt.size:=by omega
    have M:Hid (stk D PK I G z (k+1)=l):=Ab (HE.o.trans (AMl h1 h6 (λhh=>by omega)));clear hsz;go_wp2
    all_goals
     go_roundw
     case rel=>exact⟨k+1,_,N,l,by omega,by go_num,Ab ⟨d.o.1.up (HB.o _) (by omega),s.o,M.o.symm⟩⟩
     case measure=>simp[intOf];omega
   by_cases al:c=7\/c=8
   ·skip
    have M:Hid (stk D PK I G z (k+1)=l++[.node 0 0 ⟨c,Bl,0,0,⟨#[]⟩⟩ .nil .nil]):=Ab (HE.o.trans (ANu al));clear h16 h9 h11
    rcases al with rfl|rfl
    ·go_wp2_with (at_builtin;refine wpList_append_lies _ rfl (.tmp 124) (.tmp 131) 151 rfl w.1.size 103 i0 (.pointer none) 1 8 underlying151 y.o.1 y.o.2.1 y.o.2.2.1 y.o.2.2.2 rfl (by omega) (.slice ao n cp) n N rfl (Ad d.o.1.own (Below.up (HB.o _) (M4 _ _ _))) (Zd (wr.1.size+1+1) 0) 1 1 [.pointer (some (Zd (wr.1.size+1) 0))] rfl rfl (XL (cs:=#[.pointer (some (Zd (wr.1.size+1) 0))]) (t:=103) (fr:=(0,0)) (bG (wr.alloc _) _ _ _ (by simp))) (by simp[Value.oneCell']) (by omega) (by unfold maxLen;omega) (by omega) (XH d.o.1.xL.size (Below.up (HB.o _) (M4 _ _ _)).size) (wr.1.size+1+1+1) (by simp) ?_;intro gg a0 w2 f a a3 aa)
     go_roundw
     case rel=>exact⟨k+1,n+1,_,_,by omega,by go_num,Ab ⟨d.o.1.leaf (by omega) (HB.o _) (by simp) a f,s.o,M.o.symm⟩⟩
     case measure=>simp[intOf];omega
    go_wp2_with (at_builtin;refine wpList_append_lies _ rfl (.tmp 124) (.tmp 131) 151 rfl w.1.size 103 i0 (.pointer none) 1 8 underlying151 y.o.1 y.o.2.1 y.o.2.2.1 y.o.2.2.2 rfl (by omega) (.slice ao n cp) n N rfl (Ad d.o.1.own (Below.up (HB.o _) (M4 _ _ _))) (Zd (wr.1.size+1+1) 0) 1 1 [.pointer (some (Zd (wr.1.size+1) 0))] rfl rfl (XL (cs:=#[.pointer (some (Zd (wr.1.size+1) 0))]) (t:=103) (fr:=(0,0)) (bG (wr.alloc _) _ _ _ (by simp))) (by simp[Value.oneCell']) (by omega) (by unfold maxLen;omega) (by omega) (XH d.o.1.xL.size (Below.up (HB.o _) (M4 _ _ _)).size) (wr.1.size+1+1+1) (by simp) ?_;intro gg a0 w2 f a a3 aa)
    go_roundw
    case rel=>exact⟨k+1,n+1,_,_,by omega,by go_num,Ab ⟨d.o.1.leaf (by omega) (HB.o _) (by simp) a f,s.o,M.o.symm⟩⟩
    case measure=>simp[intOf];omega
   have b7:(c==7)=false:=by simp;omega
   have b8:(c==8)=false:=by simp;omega
   have M:Hid (stk D PK I G z (k+1)=l):=Ab (HE.o.trans (AOa (by omega)))
   by_cases hc1:1<=c
   ·have bt:¬c<=6:=by omega
    clear h16 al h9 h11;go_wp2
    all_goals
     go_roundw
     case rel=>exact⟨k+1,_,N,l,by omega,by go_num,Ab ⟨d.o.1.up (HB.o _) (by omega),s.o,M.o.symm⟩⟩
     case measure=>simp[intOf];omega
   clear h16 al h9 h11;go_wp2
   all_goals
    go_roundw
    case rel=>exact⟨k+1,_,N,l,by omega,by go_num,Ab ⟨d.o.1.up (HB.o _) (by omega),s.o,M.o.symm⟩⟩
    case measure=>simp[intOf];omega
  by_cases V:k<L
  ·have a7:¬k<14:=λhh=>aa ⟨V,hh⟩
   have ad:Hid (ALh L D PK I G z=AL0 l):=Ab (by unfold ALh;rw[d.o.2.2];congr 1;have:=d.o.2.1;congr 1;omega);clear aa
   by_cases hn0:n=0
   ·subst hn0
    have ae:Hid (ALh L D PK I G z=.nil):=Ab (by rw[ad.o,Yah.1 d.o.1.len];rfl);go_wp2;go_ret;exact⟨_,rfl,by rw[ae.o];exact vI _,by rw[ae.o];simp[AGj],d.o.1.xL⟩
   obtain⟨g,rfl,ax,ac⟩:=d.o.1.Hc (by omega);obtain⟨BW,r⟩:=fP d.o.1;obtain⟨p0,T0,cu,ag,ai,R⟩:=r.o.2.2.1 _ r.o.1 0 (by omega);have H0:Hid (Gy wr T0 (Zp p0)/\0<AGj T0/\l[0]? = some T0):=⟨ag,ai,R⟩;have HD:=Ab d.o.1.dep;have HL:=Ab d.o.1.len;clear ag ai R d Q0 Q1 Q2 Q3 Q4 HT;have ak:(n==0)=false:=by simpa using hn0
   have ay:(0:Int)<(n:Int):=by omega
   go_wp2
   go_loopw [7,8] (λcv iv w2=>∃(q:Nat)(T:CT)(p:To),1<=q/\q<=n/\iv=Zi q/\cv=Zp p/\Hid (Gy w2 T (Zp p)/\0<AGj T/\AGj T<=((l.take q).map AGj).sum/\BW w2/\T=AL0 (l.take q))) (λ_ iv _=>n-(intOf iv).toNat)
   case atStart=>exact⟨1,T0,p0,by omega,by omega,rfl,rfl,⟨H0.o.1,H0.o.2.1,take_one H0.o.2.2,r.o.1,(AMt H0.o.2.2).symm⟩⟩
   case round=>
    obtain⟨q,T,p,az,bi,rfl,rfl,x⟩:=hrel;clear cu ak ay
    by_cases hq:q<n
    ·obtain⟨pu,Tq,cq,ah,aj,U⟩:=r.o.2.2.1 _ x.o.2.2.2.1 q hq
     have HU:Hid (Gy wr Tq (Zp pu)/\0<AGj Tq/\l[q]? = some Tq):=⟨ah,aj,U⟩;clear ah aj U;go_wp2
     go_roundw
     case rel=>exact⟨q+1,.node 0 0 ⟨9,⟨#[]⟩,0,0,⟨#[]⟩⟩ T Tq,some (Zd wr.1.size 0),by omega,by omega,by go_num,rfl,Ab (AMb (rA x.o.1 HU.o.1 x.o.2.1 HU.o.2.1 x.o.2.2.1 HU.o.2.2 (r.o.2.1 _ _ x.o.2.2.2.1)) (by rw[AMi az HU.o.2.2,<-x.o.2.2.2.2]))⟩
     case measure=>simp[intOf];omega
    have af:Hid (ALh L D PK I G z=T):=Ab (by rw[ad.o,x.o.2.2.2.2,Yd (by have:=HL.o;omega)])
    have HF:Hid (AGj T<=14):=Ab (by have h1:=x.o.2.2.1;have h2:=HD.o;rw[Yd (by have:=HL.o;omega)] at h1;omega)
    go_wp2;go_ret;exact⟨_,rfl,by rw[af.o];exact x.o.1,by rw[af.o];exact HF.o,r.o.2.2.2 _ x.o.2.2.2.1⟩
  have ad:Hid (ALh L D PK I G z=AL0 l):=Ab (by unfold ALh;rw[d.o.2.2];congr 1;have:=d.o.2.1;congr 1;omega);clear aa
  by_cases hn0:n=0
  ·subst hn0
   have ae:Hid (ALh L D PK I G z=.nil):=Ab (by rw[ad.o,Yah.1 d.o.1.len];rfl);go_wp2;go_ret;exact⟨_,rfl,by rw[ae.o];exact vI _,by rw[ae.o];simp[AGj],d.o.1.xL⟩
  obtain⟨g,rfl,ax,ac⟩:=d.o.1.Hc (by omega);obtain⟨BW,r⟩:=fP d.o.1;obtain⟨p0,T0,cu,ag,ai,R⟩:=r.o.2.2.1 _ r.o.1 0 (by omega);have H0:Hid (Gy wr T0 (Zp p0)/\0<AGj T0/\l[0]? = some T0):=⟨ag,ai,R⟩;have HD:=Ab d.o.1.dep;have HL:=Ab d.o.1.len;clear ag ai R d Q0 Q1 Q2 Q3 Q4 HT;have ak:(n==0)=false:=by simpa using hn0
  have ay:(0:Int)<(n:Int):=by omega
  go_wp2
  go_loopw [7,8] (λcv iv w2=>∃(q:Nat)(T:CT)(p:To),1<=q/\q<=n/\iv=Zi q/\cv=Zp p/\Hid (Gy w2 T (Zp p)/\0<AGj T/\AGj T<=((l.take q).map AGj).sum/\BW w2/\T=AL0 (l.take q))) (λ_ iv _=>n-(intOf iv).toNat)
  case atStart=>exact⟨1,T0,p0,by omega,by omega,rfl,rfl,⟨H0.o.1,H0.o.2.1,take_one H0.o.2.2,r.o.1,(AMt H0.o.2.2).symm⟩⟩
  case round=>
   obtain⟨q,T,p,az,bi,rfl,rfl,x⟩:=hrel;clear cu ak ay
   by_cases hq:q<n
   ·obtain⟨pu,Tq,cq,ah,aj,U⟩:=r.o.2.2.1 _ x.o.2.2.2.1 q hq
    have HU:Hid (Gy wr Tq (Zp pu)/\0<AGj Tq/\l[q]? = some Tq):=⟨ah,aj,U⟩;clear ah aj U;go_wp2
    go_roundw
    case rel=>exact⟨q+1,.node 0 0 ⟨9,⟨#[]⟩,0,0,⟨#[]⟩⟩ T Tq,some (Zd wr.1.size 0),by omega,by omega,by go_num,rfl,Ab (AMb (rA x.o.1 HU.o.1 x.o.2.1 HU.o.2.1 x.o.2.2.1 HU.o.2.2 (r.o.2.1 _ _ x.o.2.2.2.1)) (by rw[AMi az HU.o.2.2,<-x.o.2.2.2.2]))⟩
    case measure=>simp[intOf];omega
   have af:Hid (ALh L D PK I G z=T):=Ab (by rw[ad.o,x.o.2.2.2.2,Yd (by have:=HL.o;omega)])
   have HF:Hid (AGj T<=14):=Ab (by have h1:=x.o.2.2.1;have h2:=HD.o;rw[Yd (by have:=HL.o;omega)] at h1;omega)
   go_wp2;go_ret;exact⟨_,rfl,by rw[af.o];exact x.o.1,by rw[af.o];exact HF.o,r.o.2.2.2 _ x.o.2.2.2.1⟩
theorem V8(c:To)(a:Nat)(w:Tw):
 Zc 41 #[Zs c 0 a] w λe b=>∃v,e=Zr v/\Gy b .nil v/\Zb w b:=by
 go_enter func41,ntmps41;go_wp2
 go_loopw [3,4] (λo i wr=>o=Zs none 0 0/\i=Zi 0/\wr=w) (λ_ _ _=>0)
 case atStart=>exact⟨rfl,rfl,rfl⟩
 case round=>obtain⟨rfl,rfl,rfl⟩:=hrel;go_wp2;go_ret;exact⟨_,rfl,rfl,XG _ _⟩
theorem AHt:prog.cellsOf 63=5:=by kernel_rfl
theorem Db:prog.cellsOf 3=1:=by kernel_rfl
theorem zS:prog.cellsOf 2=1:=by kernel_rfl
theorem Vw:prog.cellsOf 9=1:=by kernel_rfl
theorem gQ:prog.cellsOf 55=3:=by kernel_rfl
theorem ABw{H:Type}{enc:TypeId×Tv->H}{W:Tw}{base:Nat}{s:Nat->Bool}{held:Bool}{n:Nat}{cs:List Tv}{x:DataW H×List MemPlace}(h:DataW.trod enc prog W base s held n 63 cs=some x):
 ∃(c k m:Int)(l t:Tb),cs=[Zi c,Zt l,Zi k,Zi m,Zt t]/\t.size<=maxLen:=by
 obtain⟨u,v,w,n1,_,q,j,o,p⟩:=trod_struct3 underlying63 h;rw[AHt] at q
 match cs,q with
 | [v0,v1,v2,v3,v4],_=>simp only[Db,Vw,gQ,XX,XS,XO,XY] at j o p;obtain⟨c,e0,_,_⟩:=DataW.trod_int underlying3 j;obtain⟨l,a,_,_⟩:=DataW.trod_string underlying9 o;obtain⟨y,z,D,n2,_,_,f,g,i⟩:=trod_struct3 underlying55 p;simp only[Db,Vw,zS,XX,XS,XO,XY] at f g i;obtain⟨k,b,_,_⟩:=DataW.trod_int underlying3 f;obtain⟨m,d,_,_⟩:=DataW.trod_int underlying2 g;obtain⟨t,e,_,r⟩:=DataW.trod_string underlying9 i;simp at e0 a b d e;subst e0 a b d e;exact⟨c,k,m,l,t,rfl,r⟩
structure Pt where
 c:Int
 k:Int
 m:Int
 l:ByteArray
 t:ByteArray
end S
namespace F
variable{w:Tw}{v:Tv}{H:Type}
theorem kM:prog.cellsOf 39=8:=by kernel_rfl
theorem pR:prog.cellsOf 57=4:=by kernel_rfl
theorem ACj:prog.cellsOf 63=5:=by kernel_rfl
theorem AH4:prog.cellsOf 34=1:=by kernel_rfl
theorem AID:prog.cellsOf 35=1:=by kernel_rfl
theorem AH3:prog.cellsOf 36=1:=by kernel_rfl
theorem AHJ:prog.cellsOf 37=1:=by kernel_rfl
structure DdS where
 x:J4
 ca:Option Addr
 cc:Nat
 ra:Option Addr
 rc:Nat
 pa:Option Addr
 pn:Nat
 pc:Nat
 sa:Option Addr
 sc:Nat
def AGa(q:DdS):List Value:=[Zi q.x.Qk,.slice q.ca q.x.qz.length q.cc,.slice q.ra q.x.qj.length q.rc,.slice q.pa q.pn q.pc,.slice q.sa q.x.A3.length q.sc,Zi q.x.change,.string q.x.name,.string q.x.tw]
structure Nf(w:World)(q:DdS):Prop where
 qz:F7 7 Cc w (.slice q.ca q.x.qz.length q.cc) q.x.qz
 ACl:∀c∈q.x.qz,c.2.1.size<=maxLen/\c.2.2.2.2.2.2.size<=maxLen
 uB:∀c∈q.x.qz,Vp c
 qj:iJ w (.slice q.ra q.x.qj.length q.rc) q.x.qj
 ACg:∀r∈q.x.qj,∀v∈r,Ks v/\v.2.2.size<=maxLen
 A3:F7 4 Wu w (.slice q.sa q.x.A3.length q.sc) q.x.A3
 wX:∀s∈q.x.A3,Ks s.2/\s.2.2.2.size<=maxLen
 cnd:∀W,Zb w W->Zc 41 #[.slice q.pa q.pn q.pc] W λe w'=>∃v T,e=.returned v/\S.Gy w' T v/\q.x.tree T/\Zb W w'
 nm:q.x.name.size<=maxLen
 tw:q.x.tw.size<=maxLen
structure U8(q:DdS):Prop where
 qz:ABP q.x.qz
 qj:RowsFit q.x.qj
 parts:q.pn<=20
 A3:q.x.A3.length<=10
 wX:∀s∈q.x.A3,s.2.2.2.size<=100
theorem ADe{l:List Aj}(h:F7 7 Cc w v l):bH w v l:=by
 obtain⟨a,c,e,k,n⟩:=h
 by_cases hn:l=[]
 ·subst hn;exact .inl ⟨⟨_,_,e⟩,rfl⟩
 obtain⟨b,off,f,g,d⟩:=n hn;subst f;refine .inr ⟨b,off,c,e,k,g,λj m i v o=>?_⟩;exact d j l[j]! (by rw[List.getElem!_eq_getElem?_getD,Y' m];rfl) i v o
theorem Nf.at{q:DdS}(h:Nf w q)(f:U8 q):K8 w q.x q.ca q.cc q.ra q.rc q.pa q.pn q.pc q.sa q.sc :=
 ⟨ADe h.qz,h.ACl,h.qj,λr a v b=>(h.ACg r a v b).2,h.A3,by have:=f.A3;omega,λs hs=>(h.wX s hs).2,h.cnd,h.tw,⟨h.uB,f.qz.1,λr a v b=>(h.ACg r a v b).1,by have:=f.qj.1;omega,λs hs=>(h.wX s hs).1⟩⟩
theorem oC{enc:TypeId×Tv->H}{P:Program}{base:Nat}{spare:Nat->Bool}{held:Bool}{t:TypeId}{b c d e f g i j:Field}{fuel:Nat}{cs:List Tv}{x:DataW H×List MemPlace}(m:P.underlying t=some (.struct #[b,c,d,e,f,g,i,j]))(h:DataW.trod enc P w base spare held fuel t cs=some x):
 ∃(n:Nat),cs.length=P.cellsOf t/\(∃y,DataW.trod enc P w base spare held n b.type ((cs.drop b.offset).take (P.cellsOf b.type))=some y)/\(∃y,DataW.trod enc P w base spare held n c.type ((cs.drop c.offset).take (P.cellsOf c.type))=some y)/\(∃y,DataW.trod enc P w base spare held n d.type ((cs.drop d.offset).take (P.cellsOf d.type))=some y)/\(∃y,DataW.trod enc P w base spare held n e.type ((cs.drop e.offset).take (P.cellsOf e.type))=some y)/\(∃y,DataW.trod enc P w base spare held n f.type ((cs.drop f.offset).take (P.cellsOf f.type))=some y)/\(∃y,DataW.trod enc P w base spare held n g.type ((cs.drop g.offset).take (P.cellsOf g.type))=some y)/\(∃y,DataW.trod enc P w base spare held n i.type ((cs.drop i.offset).take (P.cellsOf i.type))=some y)/\(∃y,DataW.trod enc P w base spare held n j.type ((cs.drop j.offset).take (P.cellsOf j.type))=some y):=by
 obtain⟨xs,n,_,_,l,k,a⟩:=DataW.trod_struct m h
 match xs,k with
 | [y0,y1,y2,y3,y4,y5,y6,y7],_=>exact⟨n,l,⟨y0,a 0 b rfl⟩,⟨y1,a 1 c rfl⟩,⟨y2,a 2 d rfl⟩,⟨y3,a 3 e rfl⟩,⟨y4,a 4 f rfl⟩,⟨y5,a 5 g rfl⟩,⟨y6,a 6 i rfl⟩,⟨y7,a 7 j rfl⟩⟩
section
variable {H : Type} {enc : TypeId × Value → H} {W : World} {sp : Nat → Bool} {held : Bool} {n : Nat} {cs : List Value} {x : DataW H × List MemPlace}
theorem AFs(h:DataW.trod enc prog W 0 sp held n 57 cs=some x):∃s:Vi,cs=Wu s/\Ks s.2/\s.2.2.2.size<=maxLen:=by
 obtain⟨k,l,n1,_,e,b,d⟩:=trod_struct2 underlying57 h;rw[pR] at e
 match cs,e with
 | [v0,v1,v2,v3],_=>simp only[Vw,gQ,XX,XS,XO,XY] at b d;obtain⟨c,e0,_,_⟩:=DataW.trod_string underlying9 b;obtain⟨v,a,j,i⟩:=qU d;simp at e0 a;obtain⟨a,f,g⟩:=a;subst e0 a f g;exact⟨(c,v),rfl,j,i⟩
theorem zP(h:DataW.trod enc prog W 0 sp held n 35 cs=some x):∃v,cs=[v]/\∃l:List (List V),iJ W v l/\∀r∈l,∀x∈r,Ks x/\x.2.2.size<=maxLen:=by
 obtain⟨v',e,l,z,p⟩:=M0 (α:=Tv×List V) (k:=1) (en:=λq=>[q.1]) (P:=λq=>E.Sl W q.1 q.2/\∀x∈q.2,Ks x/\x.2.2.size<=maxLen) (by decide) (λ_=>rfl) underlying35 AHc (λh=>by obtain⟨u,e,r,f,d⟩:=M0 (k:=3) (en:=AIQ) (P:=λx:V=>Ks x/\x.2.2.size<=maxLen) (by decide) (λ_=>rfl) underlying61 gQ (λh=>qU h) h;exact⟨(u,r),e,mW f,d⟩) h
 refine⟨v',e,?_⟩;obtain⟨a,c,t,y,g⟩:=z;refine⟨l.map (·.2),⟨l.map (·.1),⟨a,c,by rw[XB];exact t,by rw[XB];exact y,λD=>?_⟩,by simp,λj x r m f=>?_⟩,λr f=>?_⟩
 ·obtain⟨b,off,s,w,o⟩:=g (by intro h0;exact D (by rw[h0];rfl))
  refine⟨b,off,s,w,λj x m i u G=>?_⟩;rw[XR] at m;obtain⟨q,d,rfl⟩:=Option.map_eq_some_iff.1 m;exact o j q d i u G
 ·rw[XR] at m f
  obtain⟨q,d,rfl⟩:=Option.map_eq_some_iff.1 m;rw[d] at f;simp at f;subst f;exact(p q (XJ d)).1
 obtain⟨q,d,rfl⟩:=List.mem_map.1 f;exact(p q d).2
def AHF(q:S.Pt):List Value:=[Zi q.c,.string q.l,Zi q.k,Zi q.m,.string q.t]
def AEm(W:World)(v:Value):Prop:=∃T,∀a,Zb W a->Zc 41 #[v] a λe b=>∃u,e=.returned u/\S.Gy b T u/\Zb a b
theorem AAi{l:List S.Pt}(h:F7 5 AHF W v l)(I:∀q∈l,q.t.size<=maxLen)(G:∀a n c,v=Zs a n c->c<=maxLen):AEm W v:=by
 obtain⟨a,c,rfl,z,D⟩:=h
 by_cases hn:l=[]
 ·subst hn
  refine⟨.nil,λs y=>(S.V8 a c s).mono ?_⟩;rintro e L⟨u,rfl,w,x⟩;exact⟨u,rfl,w,x⟩
 refine⟨S.ALh l.length (λj=>(l.getD j ⟨0,0,0,⟨#[]⟩,⟨#[]⟩⟩).c) (λj=>(l.getD j ⟨0,0,0,⟨#[]⟩,⟨#[]⟩⟩).k) (λj=>(l.getD j ⟨0,0,0,⟨#[]⟩,⟨#[]⟩⟩).m) (λj=>(l.getD j ⟨0,0,0,⟨#[]⟩,⟨#[]⟩⟩).l) (λj=>(l.getD j ⟨0,0,0,⟨#[]⟩,⟨#[]⟩⟩).t),λs y=>?_⟩;obtain⟨b,off,rfl,r,g⟩:=D hn;have M:∀j,j<l.length->∃q,l[j]? = some q:=λj d=>⟨_,Y' d⟩
 have f:∀(j:Nat)(d:j<l.length)(i:Nat)u,(AHF l[j])[i]? = some u->s.cell? (Zd b (off+j*5+i))=some u:=λj d i u J=>(y.cell (p:=Zd b (off+j*5+i)) r).trans (g j _ (Y' d) i u J)
 have o:∀(j:Nat)(d:j<l.length),l.getD j ⟨0,0,0,⟨#[]⟩,⟨#[]⟩⟩=l[j]:=λj d=>by rw[X2,Y' d];rfl
 refine(S.AMq b off l.length c (λj=>(l.getD j ⟨0,0,0,⟨#[]⟩,⟨#[]⟩⟩).c) (λj=>(l.getD j ⟨0,0,0,⟨#[]⟩,⟨#[]⟩⟩).k) (λj=>(l.getD j ⟨0,0,0,⟨#[]⟩,⟨#[]⟩⟩).m) (λj=>(l.getD j ⟨0,0,0,⟨#[]⟩,⟨#[]⟩⟩).l) (λj=>(l.getD j ⟨0,0,0,⟨#[]⟩,⟨#[]⟩⟩).t) s z (G _ _ _ rfl) (λj=>?_) (Ya r y.size) (λj d=>?_) (λj d=>?_) (λj d=>?_) (λj d=>?_) (λj d=>?_)).mono ?_
 ·rcases Yc j l.length with d|d
  ·simp only[o j d];exact I _ (Yg d)
  rw[X2,Yb d];decide
 ·rw[o j d];exact f j d 0 _ rfl
 ·rw[o j d];exact f j d 1 _ rfl
 ·rw[o j d];exact f j d 2 _ rfl
 ·rw[o j d];exact f j d 3 _ rfl
 ·rw[o j d];exact f j d 4 _ rfl
 rintro e L⟨u,rfl,w,_,x⟩;exact⟨u,rfl,w,x⟩
theorem AAh(h:DataW.trod enc prog W 0 sp held n 63 cs=some x):∃q:S.Pt,cs=AHF q/\q.t.size<=maxLen:=by obtain⟨c,k,m,l,t,e,a⟩:=S.ABw h;exact⟨⟨c,k,m,l,t⟩,e,a⟩
theorem ACw{T E:TypeId}(g:prog.underlying T=some (.slice E))(h:DataW.trod enc prog W 0 sp held n T cs=some x)(e:cs=[v]):∀a l c,v=.slice a l c->c<=maxLen:=by
 intro a l c f;subst f
 rcases open_slice g h with⟨b,_⟩|⟨k,len,d,m,n,D,j,b,o,p,i,_⟩
 ·rw[e] at b
  simp at b;rw[b.2.2];exact XE _
 rw[e] at b;simp at b;rw[b.2.2];exact i
theorem qH(h:DataW.trod enc prog W 0 sp held n 36 cs=some x):∃a l c,cs=[.slice a l c]/\l<=c/\AEm W (.slice a l c):=by
 haveI:Inhabited S.Pt:=⟨⟨0,0,0,⟨#[]⟩,⟨#[]⟩⟩⟩
 obtain⟨v,e,l,f,i⟩:=M0 (k:=5) (en:=AHF) (P:=λq:S.Pt=>q.t.size<=maxLen) (by decide) (λ_=>rfl) underlying36 ACj (λh=>AAh h) h;have g:=ACw underlying36 h e;have b:=f;obtain⟨a,c,rfl,d,_⟩:=b;exact⟨a,l.length,c,e,d,AAi f i g⟩
theorem ADH(h:DataW.trod enc prog W 0 sp held n 39 cs=some x):∃q:DdS,cs=AGa q/\Nf W q/\∃T,q.x.tree=λj=>j=T:=by
 obtain⟨n1,O,⟨y0,G⟩,⟨y1,g⟩,⟨y2,i⟩,⟨y3,I⟩,⟨y4,J⟩,⟨y5,L⟩,⟨y6,M⟩,⟨y7,N⟩⟩:=oC underlying39 h;rw[kM] at O
 match cs,O with
 | [v0,v1,v2,v3,v4,v5,v6,v7],_=>simp only[Db,Vw,AH4,AID,AH3,AHJ,XX,XS,XO,XY] at G g i I J L M N;obtain⟨wh,e0,_,_⟩:=DataW.trod_int underlying3 G;obtain⟨cv,t,qz,a,b⟩:=M0 (k:=7) (en:=Cc) (P:=λc:Aj=>(c.2.1.size<=maxLen/\c.2.2.2.2.2.2.size<=maxLen)/\Vp c) (by decide) (λ_=>rfl) underlying34 AGR (λh=>Go.Proofs.YthpcepcghakimaaGreatDoor.AEc h) g;obtain⟨rv,v,qj,d,o⟩:=zP i;obtain⟨pa,Y,X,w,_,m⟩:=qH I;obtain⟨sv,y,A3,f,p⟩:=M0 (k:=4) (en:=Wu) (P:=λs:Vi=>Ks s.2/\s.2.2.2.size<=maxLen) (by decide) (λ_=>rfl) underlying37 pR (λh=>AFs h) J;obtain⟨V,z,_,_⟩:=DataW.trod_int underlying3 L;obtain⟨nm,D,_,l⟩:=DataW.trod_string underlying9 M;obtain⟨tw,e7,_,r⟩:=DataW.trod_string underlying9 N;simp at e0 t v w y z D e7;subst e0 t v w y z D e7;obtain⟨R,U,rfl,_⟩:=a.slice;obtain⟨ra,rc,rfl,_⟩:=d.slice;obtain⟨sa,sc,rfl,_⟩:=f.slice;obtain⟨T,m⟩:=m;refine⟨⟨⟨wh,qz,qj,A3,V,nm,tw,λj=>j=T⟩,R,U,ra,rc,pa,Y,X,sa,sc⟩,rfl,⟨a,λc hc=>(b c hc).1,λc hc=>(b c hc).2,d,o,f,p,λW' hb=>?_,l,r⟩,T,rfl⟩;refine(m W' hb).mono ?_;rintro e w'⟨u,rfl,g,i⟩;exact⟨u,T,rfl,g,rfl,i⟩
end
theorem yI{enc:TypeId×Tv->H}{W:Tw}{n:Nat}{d:DataW H}{p:List MemPlace}(m:Value.okWide prog W .any n 22 v)(h:DataW.Trod enc prog W 0 (λ_=>true) true 22 v d p):
 ∃l:List DdS,F7 8 AGa W v l/\∀q∈l,Nf W q/\∃T,q.x.tree=λa=>a=T:=by
 haveI:Inhabited DdS:=⟨⟨⟨0,[],[],[],0,⟨#[]⟩,⟨#[]⟩,λ_=>True⟩,none,0,none,0,none,0,0,none,0⟩⟩
 obtain⟨c,len,b,rfl⟩:=okWide_slice underlying22 m;obtain⟨fuel,g⟩:=h;obtain⟨v',e,l,i,j⟩:=M0 (k:=8) (en:=AGa) (P:=λq:DdS=>Nf W q/\∃T,q.x.tree=λa=>a=T) (by decide) (λ_=>rfl) underlying22 kM (λh=>ADH h) g;have f:v'=Zs c len b:=by simpa[Value.cells] using e.symm
 subst f;exact⟨l,i,j⟩
theorem Py(lv:Tv)(l:List DdS)(w:Tw)(hl:F7 8 AGa w lv l)(T:∀q∈l,Nf w q):
 Zc 4 #[lv] w (Pb (l.length<=30/\∀q∈l,U8 q) w):=by
 have HL:=Aa hl;obtain⟨la,lc,rfl,_⟩:=hl.slice;have HR:=Aa T;clear hl T
 by_cases h30:l.length<=30
 ·have I:¬(30:Int)<(l.length:Int):=by omega
  go_enter func4,ntmps4;go_wp2
  go_loopw [3] (λy wr=>∃k:Nat,k<=l.length/\y=Zi k/\Hid (∀q∈l.take k,U8 q)/\Hid (Zb w wr)) (λy _=>l.length-(intOf y).toNat)
  case atStart=>exact⟨0,XE _,rfl,Aa (by simp),Aa (XG _ _)⟩
  case round=>
   obtain⟨k,hk,rfl,M,u⟩:=hrel
   by_cases hlt:k<l.length
   ·obtain⟨q,f⟩:∃q,l[k]? = some q:=⟨_,Y' hlt⟩
    obtain⟨lb,lo,ap,el,_,an,a⟩:=(HL.o.up u.o).cons (by omega);injection el with ah _ ai;subst ah ai;have q0:=a k q f 0 _ rfl;have q1:=a k q f 1 _ rfl;have q2:=a k q f 2 _ rfl;have q3:=a k q f 3 _ rfl;have q4:=a k q f 4 _ rfl;have q5:=a k q f 5 _ rfl;have q6:=a k q f 6 _ rfl;have q7:=a k q f 7 _ rfl;simp only[WG] at q0;have d:=Aa (HR.o q (XJ f));have HQ:=Aa f;have am:(k:Int)<(l.length:Int):=by omega
    clear a f;obtain⟨⟨wh,qz,qj,A3,ch,nm,z,tr⟩,ca,cc,ra,rc,pa,R,pc,sa,sc⟩:=q;simp only at q0 q1 q2 q3 q4 q5 q6 q7;have J:Zb wr (wr.alloc (Zk #[Zi wh,Zs ca qz.length cc,Zs ra qj.length rc,Zs pa R pc,Zs sa A3.length sc,Zi ch,Zt nm,Zt z] 39)):=Zal;have G:=Aa (Yad wr (Zk #[Zi wh,Zs ca qz.length cc,Zs ra qj.length rc,Zs pa R pc,Zs sa A3.length sc,Zi ch,Zt nm,Zt z] 39));have D:=Aa (Ap u.o J);have m1:nm.size<=maxLen:=d.o.nm;have m2:z.size<=maxLen:=d.o.tw;have i:=Aa (pS (Zs ca qz.length cc) qz _ (d.o.qz.up D.o) d.o.ACl);have o:=Aa (λW(hW:Zb w W)=>oH (Zs ra qj.length rc) qj W (d.o.qj.up hW) (λr T v g=>(d.o.ACg r T v g).2));unfold Pb at i o;clear J;go_wp2_with fail;apply i.o.mono;rintro e w2⟨b2,rfl,N,p⟩;have X:=Aa N;have h:=Aa (Ap D.o p);have m:=Aa ((p.block _ (Ac G.o)).trans G.o);clear N p i;obtain⟨y0,y1,y2,y3,y4,y5,y6,y7,yf⟩:=F2 m.o;clear q0 q1 q2 q3 q4 q5 q6 q7;cases b2 with
    | false=>go_wp2_with fail;go_ret;exact⟨_,rfl,by simp,h.o⟩
    | true=>
      go_wp2_with fail;refine(o.o _ h.o).mono ?_;rintro e w3⟨b3,rfl,O,t⟩;have Y:=Aa O;have c:=Aa (Ap h.o t);have V:=Aa ((t.block _ (Ac m.o)).trans m.o);clear O t o y0 y1 y2 y3 y4 y5 y6 y7 yf;obtain⟨y0,y1,y2,y3,y4,y5,y6,y7,yf⟩:=F2 V.o;cases b3 with
      | false=>go_wp2_with fail;go_ret;exact⟨_,rfl,by simp,c.o⟩
      | true=>
        by_cases a1:R<=20
        ·have ac:¬(20:Int)<(R:Int):=by omega
         by_cases a2:A3.length<=10
         ·have ad:¬(10:Int)<(A3.length:Int):=by omega
          by_cases a3:nm.size<=60
          ·have ae:¬(60:Int)<(nm.size:Int):=by omega
           by_cases a4:z.size<=60
           ·have af:¬(60:Int)<(z.size:Int):=by omega
            have ab:=Aa d.o.wX;have aa:=Aa (d.o.A3.up c.o);go_wp2_with fail
            go_loopw [5] (λy wi=>∃j:Nat,j<=A3.length/\y=Zi j/\Hid (∀s∈A3.take j,s.2.2.2.size<=100)/\wi=w3) (λy _=>A3.length-(intOf y).toNat)
            case atStart=>exact⟨0,XE _,rfl,Aa (by simp),rfl⟩
            case round=>
             obtain⟨j,hj,rfl,L,rfl⟩:=hrel
             by_cases hjl:j<A3.length
             ·obtain⟨⟨sn,vk,vn,U⟩,g⟩:∃x,A3[j]? = some x:=⟨_,Y' hjl⟩
              obtain⟨sb,so,aq,es,_,ao,b⟩:=aa.o.cons (by omega);injection es with aj _ ak;subst aj ak;have s0:=b j _ g 0 _ rfl;have s1:=b j _ g 1 _ rfl;have s2:=b j _ g 2 _ rfl;have s3:=b j _ g 3 _ rfl;simp only[WG] at s0;have m3:U.size<=maxLen:=(ab.o _ (XJ g)).2;have al:(j:Int)<(A3.length:Int):=by omega
              have HV:=Aa g;clear b g
              by_cases a5:U.size<=100
              ·have ag:¬(100:Int)<(U.size:Int):=by omega
               have n:=Aa (My (P:=λv:Vi=>v.2.2.2.size<=100) L.o HV.o a5);go_wp2;exact⟨⟨j+1,by omega,by go_num,n,trivial⟩,by simp[intOf];omega⟩
              have ag:(100:Int)<(U.size:Int):=by omega
              go_wp2;go_ret;exact⟨_,rfl,by simp,c.o⟩
             have al:¬(j:Int)<(A3.length:Int):=by omega
             have n:=Aa (My (P:=λq:DdS=>U8 q) M.o HQ.o ⟨X.o trivial,Y.o trivial,a1,a2,O1 (P:=λv:Vi=>v.2.2.2.size<=100) L.o (show A3.length<=j by omega)⟩);go_wp2;exact⟨⟨k+1,by omega,by go_num,n,c⟩,by simp[intOf];omega⟩
           have af:(60:Int)<(z.size:Int):=by omega
           go_wp2_with fail;go_ret;exact⟨_,rfl,by simp,c.o⟩
          have ae:(60:Int)<(nm.size:Int):=by omega
          go_wp2_with fail;go_ret;exact⟨_,rfl,by simp,c.o⟩
         have ad:(10:Int)<(A3.length:Int):=by omega
         go_wp2_with fail;go_ret;exact⟨_,rfl,by simp,c.o⟩
        have ac:(20:Int)<(R:Int):=by omega
        go_wp2_with fail;go_ret;exact⟨_,rfl,by simp,c.o⟩
   have am:¬(k:Int)<(l.length:Int):=by omega
   have HF:=Aa (O1 (P:=λq:DdS=>U8 q) M.o (by omega));go_wp2;go_ret;exact⟨_,rfl,λ_=>HF.o,u.o⟩
 have I:(30:Int)<(l.length:Int):=by omega
 go_enter func4,ntmps4;go_wp2;go_ret;exact⟨_,rfl,by simp,XG _ _⟩
def mO(e:Vc):Gx:=((2,e.1,0,[],[],0),(none,0,0),(none,0,0))
theorem sL(s:Ah)(v:Int)(a1:To)(n1 c1:Nat)(x2:Int)(V:To)(n2 c2:Nat)(w:Tw)(hS:Dl w s (K4 v a1 n1 c1 x2 V n2 c2))(O5:s.qx.length<=1000)(hz:∀e∈s.qx,e.1.size<=maxLen):
 Zc 76 #[Zs V n2 c2] w λe w'=>∃a c,e=Zr (Zs a s.qx.length c)/\w'.ownsRow w.1.size 144 6 (Zs a s.qx.length c) s.qx.length (Ci (s.qx.map mO))/\Zb w w':=by
 obtain⟨b1,d1,b2,d2,Ls,x,X⟩:=hS;unfold K4 at x;simp only[Value.agg.injEq,Array.mk.injEq,List.cons.injEq,Value.int.injEq,Value.slice.injEq] at x;obtain⟨-,-,-,⟨e1,e2,e3⟩,-⟩:=x;subst e1 e3;have o:s.qx.length=Ls.length:=by rw[X.qx,XB]
 have r:=Aa o;have ac:n2=s.qx.length:=by omega
 subst ac;have HV:=Aa X;obtain⟨iA,I,p⟩:=Option.map_eq_some_iff.1 gO;simp only[Prod.mk.injEq] at p;have h:=Aa (And.intro I p);have HZ:=Aa hz;clear X o I p hz e2;go_enter func76,ntmps76;go_wp2_with fail
 go_loopw [3,8] (λvo vi wr=>∃(k:Nat)(a:To)(c:Nat),k<=s.qx.length/\vi=Zi (k:Int)/\vo=Zs a k c/\Hid (wr.ownsRow w.1.size 144 6 (Zs a k c) k (Ci ((s.qx.take k).map mO)))/\Hid (Zb w wr)) (λ_ vi _=>s.qx.length-Ev vi)
 case atStart=>exact⟨0,none,0,XE _,rfl,rfl,Aa (XU _ _ _ _),Aa (XG _ _)⟩
 case round=>
  obtain⟨k,a,c,hk,rfl,rfl,R,L⟩:=hrel
  rcases Yc k s.qx.length with ah|ag
  ·obtain⟨y,q⟩:∃y,Ls[k]? = some y:=⟨_,Y' (by have:=r.o;omega)⟩
   have D:s.qx[k]? = some y.1:=by rw[HV.o.qx,XR,q];rfl
   obtain⟨⟨b,M,qv⟩,ma,mn,mc⟩:=y;have f:=Bc HV.o.row L.o
   obtain⟨fb,Y,o,e0,e1,af⟩:∃fb,V=some (Zd fb 0)/\fb<wr.1.size/\wr.cell? (Zd fb (k*3))=some (Zt b)/\wr.cell? (Zd fb (k*3+1))=some (Zi M)/\wr.cell? (Zd fb (k*3+2))=some (Zs ma mn mc):=by
    rcases f.2 with⟨_,h0⟩|⟨fb,ad,ae,x,_,hh,_,_,_⟩
    ·have:=r.o;omega
    injection x with W _ _;subst W;have hc:=f.cells (g:=fb) rfl;simp only[E.addr_add] at hc
    have n:∀(i:Nat)u,(Lv ((b,M,qv),ma,mn,mc))[i]? = some u->wr.cell? (Zd fb (k*3+i))=some u:=λi u N=>by have:=hc (k*3+i) u (Hi (k:=3) (enc:=Lv) (λ_=>rfl) q N);simpa using this
    exact⟨fb,rfl,E.Ac hh,n 0 _ rfl,n 1 _ rfl,n 2 _ rfl⟩
   subst Y;have ab:(k:Int)<(s.qx.length:Int):=by omega
   have U:Hid ((s.qx.take (k+1)).map mO=(s.qx.take k).map mO++[mO (b,M,qv)]):=Aa (by rw[S.Cs D];simp);obtain⟨t0,t1,t2,t3⟩:=C1 wr (Zk #[Zt b,Zi M,Zs ma mn mc] 122) (Zk #[Zi 2,Zt b,Zi 0,Zs none 0 0,Zs none 0 0,Zi 0] 144);have l:=Aa t3;have P:=Aa t2;have J:=L.o.size;clear f q D t0 t1 t2 t3
   go_wp2_with (first
    | (at_builtin;refine wpList_append_own _ rfl _ _ 108 rfl w.1.size 144 iA Mi 6 88 underlying108 h.o.1 h.o.2.1 h.o.2.2.1 h.o.2.2.2 rfl (by decide) (.slice a k c) k _ rfl (Bc R.o l.o) (Zd (wr.1.size+1) 0) 1 1 [Zi 2,.string b,Zi 0,.slice none 0 0,.slice none 0 0,Zi 0] rfl rfl (λj u hj=>XL P.o j u hj) (by intro u N;simp only[WN,WB,or_false] at N;rcases N with rfl|rfl|rfl|rfl|rfl|rfl <;> rfl) (by unfold maxLen;omega) (by omega) (XH J l.o.size) ?_
       intro v5 w5 d G _;have t:=Aa d;have O:=Aa G;clear d G))
   obtain⟨a',c',rfl,_⟩:=Au t.o;have z:=Ap L.o l.o;refine⟨⟨k+1,a',c',by omega,by simp,rfl,Aa ?_,Aa (z.grown O.o z.size (λj hj=>Fu R.o hj))⟩,by simp only[Ev];omega⟩;rw[U.o];simpa[Ci,nU,mO,sv] using t.o
  have ab:¬((k:Int)<(s.qx.length:Int)):=by omega
  have aa:k=s.qx.length:=by omega
  subst aa;have m:=R.o;rw[Ye] at m;have T:=Aa m;clear m;go_wp2;go_ret;exact⟨_,_,rfl,T.o,L.o⟩
def Uj(x:Ef):Bool:=decide (0<x.2.2.1)
theorem AES(w:Tw):PredBelow prog 118 #[] (λx:Ef=>Zg (Lv x).toArray) Uj w:=λW c hb=>by
 obtain⟨⟨p,r,m⟩,b,a,d⟩:=c;show Zc 118 #[Zg #[Zt p,Zi r,Zs b a d]] W _;have e:Hid (Uj ((p,r,m),b,a,d)=decide (0<a)):=rfl;generalize Uj ((p,r,m),b,a,d)=q at *
 by_cases hq:0<a
 ·have f:(0:Int)<(a:Int):=by omega
  go_enter func118,ntmps118;go_wp2
  all_goals (go_ret;exact⟨(by rw[e.o];simp[hq]),hb.alloc hb.size _⟩)
 have f:¬(0:Int)<(a:Int):=by omega
 go_enter func118,ntmps118;go_wp2
 all_goals (go_ret;exact⟨(by rw[e.o];simp[hq]),hb.alloc hb.size _⟩)
theorem dO(a:To)(c:Nat)(b:Tv)(w:Tw):Zc 181 #[Zs a 0 c,b] w λe d=>e=Zr (Zi (-1))/\d=w:=by go_enter func181,ntmps181;go_wp2_with fail;refine wp_loop_rounds 1 ?_;rw[rounds_succ];go_wp2;go_ret;exact⟨rfl,rfl⟩
theorem AF2(a:To)(c:Nat)(b:Tv)(w:Tw):Zc 117 #[Zs a 0 c,b] w λe d=>e=Zr (Zo false)/\d=w:=by go_enter func117,ntmps117;go_wp2_with fail;refine(dO a c _ _).mono ?_;rintro e f⟨rfl,rfl⟩;go_wp2;go_ret;exact⟨rfl,rfl⟩
theorem AGc(a:To)(c:Nat)(b:List Ef)(w:Tw)(h:w.ownsRow 0 122 3 (Zs a b.length c) b.length (A8 b))(y:b.length<=1000):
 Zc 117 #[Zs a b.length c,.func (.func 118) #[] #[]] w λe o=>e=Zr (Zo (b.any Uj))/\Zb w o:=by
 rcases h.2 with⟨e0,t⟩|⟨g,p,q,s,_,u,_,_,_⟩
 ·have:b=[]:=Yah.1 t
  subst this;refine(AF2 a c _ w).mono ?_;rintro e o⟨rfl,rfl⟩;exact⟨rfl,XG _ _⟩
 injection s with l _ _;subst l;have r:∀args w,(callFunc 118 args).run prog w=.ok (.enter 118 args) w:=enters_of func118 (by kernel_rfl) rfl
 have f:∀j,j<b.length->∀i v,(Lv b[j]!)[i]? = some v->w.cell? (Zd g (0+j*3+i))=some v:=λj n i v x=>by have m:=h.cells (g:=g) rfl;simp only[E.addr_add] at m;have:=m (j*3+i) v (Hi (k:=3) (enc:=Lv) (λ_=>rfl) (by rw[Y' n,<-getElem!_pos b j n]) x);simpa using this
 have d:=AnyQ.slices_ContainsFunc layConE 3 isAgg122 sizeOf122 Lv (λ_=>rfl) Uj 118 #[] r g 0 b.length c b w (AES w) (XF _) (by omega) (E.Ac u) f;rw[Ye] at d;exact d
theorem AGE{w:Tw}{s:Ah}{v u:Tv}{d:List Ef}(h:X8 w s v u d):d.any Uj=!decide (∀e∈s.qx,e.2.2=[]):=by
 have g:∀x∈d,x.2.2.1=x.1.2.2.length:=λx b=>by obtain⟨a,c,e,_⟩:=Au (h.Cl x b);obtain⟨_,m,n,o⟩:=x;unfold sv at e;injection e with _ e _
 rw[Y2];simp only[WV,Bool.not_eq_true',decide_eq_false_iff_not,Uj,decide_eq_true_eq,h.qx,WD];constructor
 ·rintro⟨x,b,f⟩j
  have i:=j _ ⟨x,b,rfl⟩;rw[g x b,i] at f;simp at f
 intro l;refine Classical.byContradiction λk=>l ?_
 rintro e⟨x,b,rfl⟩;refine Yah.1 (Classical.byContradiction λf=>k ⟨x,b,?_⟩);rw[g x b];omega
theorem nW(s:Ah)(v:Int)(o:To)(n1 c1:Nat)(D:Int)(i:To)(n2 j:Nat)(n:Nat)(w:Tw)(u:Dl w s (K4 v o n1 c1 D i n2 j))(O5:s.qx.length<=1000)(N:n<=100000):
 Zc 73 #[Zs i n2 j,Zi (n:Int)] w λe y=>∃q,e=Zr (Zo q)/\(q=true↔Tog s n)/\Zb w y:=by
 obtain⟨I,L,J,M,c,k,g⟩:=u;unfold K4 at k;simp only[Value.agg.injEq,Array.mk.injEq,List.cons.injEq,Value.int.injEq,Value.slice.injEq] at k;obtain⟨-,-,-,⟨p,r,t⟩,-⟩:=k;subst p t;have f:s.qx.length=c.length:=by rw[g.qx,XB]
 have l:n2=c.length:=by omega
 subst l;have m:=AGE g;have a:=AGc i j c w g.row (by omega)
 have h:Hid ((!c.any Uj && decide (c.length<=(n+59) / 60))=true↔Tog s n):=Aa (by rw[m];unfold Tog n60;rw[f];simp)
 clear g f m r;generalize c.any Uj=z at *
 have x:(((n:Int)+60-1).tdiv 60)=(((n+59) / 60:Nat):Int):=by rw[Int.tdiv_eq_ediv_of_nonneg (by omega)];omega
 have G:=Aa x;go_enter func73,ntmps73;go_wp2_with fail;apply a.mono;rintro e O⟨rfl,d⟩;have b:=Aa d;clear d a;cases z with
 | true=>go_wp2;go_ret;exact⟨_,rfl,h.o,b.o⟩
 | false=>
   by_cases hle:c.length<=(n+59) / 60
   ·go_wp2
    go_ret;exact⟨true,(by simp;omega),(by simpa[hle] using h.o),b.o⟩
   go_wp2;go_ret;exact⟨false,(by simp;omega),(by simpa[hle] using h.o),b.o⟩
theorem cH:∀l:List Gx,(Ci l).length=l.length*6
 | []=>rfl
 | c :: l=>by simp only[Ci,List.flatMap_cons,XQ,XW];have:=cH l;simp only[Ci] at this;rw[this];simp[nU];omega
theorem yB(l:List Gx):∀u∈Ci l,u.oneCell'=true:=by
 intro u b;simp only[Ci,List.mem_flatMap] at b;obtain⟨c,_,a⟩:=b;simp only[nU,WN,WB,or_false] at a
 rcases a with rfl|rfl|rfl|rfl|rfl|rfl <;> rfl
theorem iQ(a b:List Gx):Ci (a++b)=Ci a++Ci b:=by simp[Ci]
theorem pL(n:Nat):(Builtin.zeroCells Mi.cells n).size=n*6:=by simp[Builtin.zeroCells,show Mi.cells.size=6 from rfl]
theorem AB8(n:Nat)(w:Tw)(o:1<=n)(p:n<=1000):
 Zc 120 #[Zs none 0 0,Zi n] w λe i=>∃k j,e=Zr (Zs (some (Zd k 0)) 0 j)/\i.ownsRow w.1.size 144 6 (Zs (some (Zd k 0)) 0 j) 0 (Ci [])/\Zb w i:=by
 obtain⟨m,f,b⟩:=Option.map_eq_some_iff.1 gO;simp only[Prod.mk.injEq] at b;obtain⟨g,l,h⟩:=b;refine(Any8.slices_Grow_grow layGroA m Mi f g (by omega) none 0 0 n [] w (XF _) (by omega) (by rw[h];omega) (by omega) (by simp) (λ_=>rfl) (λa ha=>by cases ha)).mono ?_;rintro e i⟨rfl,rfl⟩;have d:0+n<=grownCap w (0+n) 0 144:=grownCap_ge w _ _ _;have c:grownCap w (0+n) 0 144<=maxLen:=grownCap_le_maxLen w (0+n) 0 144 (by unfold maxLen;omega);refine⟨_,_,rfl,?_,((XG _ _).drew).alloc (XF _) _⟩
 change (w.drew.alloc (Zk (#[]++Builtin.zeroCells Mi.cells (0+n-0)++Builtin.zeroCells Mi.cells (grownCap w (0+n) 0 144-(0+n))) 144)).ownsRow w.1.size 144 6 (Zs (some (Zd w.1.size 0)) 0 (grownCap w (0+n) 0 144)) 0 []
 generalize grownCap w (0+n) 0 144=G at d c;exact YR (w:=w.drew) _ G (XF _) c (by simp only[Array.size_append,pL,Array.size_empty];omega)
theorem Oa{n:Array Oper}{rest:List Oper}{o:Oper}{a:Act}{Q:Exit->Act->Tw->Prop}{W:Tw}(i:o.guard=none)(s x:Operand)(z:o.op=.call { callee:=.builtin .append,args:=#[s,x],argTypes:=#[108,108] })(base g c:Nat)(l:List Gx)(D:a.eval s=Zs (some (Zd g 0)) l.length c)(b:W.ownsRow base 144 6 (Zs (some (Zd g 0)) l.length c) l.length (Ci l))(L:Nat)(J:Tv)(m:List Gx)(G:a.eval x=J)(y:W.ownsRow L 144 6 J m.length (Ci m))(U:l.length+m.length<=1000)(e:base<=W.1.size)(h:∀q f p,Hid (p.ownsRow base 144 6 (Zs (some (Zd q 0)) (l.length+m.length) f) (l.length+m.length) (Ci (l++m))/\W.grownBy p (some g))->wpList prog n Q rest (a.put o.dst (Zs (some (Zd q 0)) (l.length+m.length) f)) p):wpList prog n Q (o :: rest) a W:=by
 obtain⟨I,j,k⟩:=Option.map_eq_some_iff.1 gO;simp only[Prod.mk.injEq] at k;obtain⟨r,t,u⟩:=k
 rcases Di y with⟨d,O⟩|⟨v,N,d,-,-,-,-⟩
 ·have:m=[]:=Yah.1 O
  subst this d;refine wpList_append_own_none i s x 108 z base 144 I 6 underlying108 j _ _ _ D b G ?_;exact h g c W ⟨by simpa using b,World.grownBy.refl _ _⟩
 subst d;have T:=y.cells (g:=v) rfl;refine wpList_append_own W i s x 108 z base 144 I Mi 6 88 underlying108 j r t u rfl (by omega) _ _ _ D b (Zd v 0) m.length N (Ci m) G (cH m) T (yB m) (by unfold maxLen;omega) (by omega) e ?_;intro v' p w P R
 rcases Di w with⟨d,_⟩|⟨q,M,d,-,-,-,-⟩
 ·exact absurd (R.1 d).1 (by simp)
 subst d;exact h q M p ⟨by rw[iQ];exact w,P⟩
theorem uO(p:Nat)(n o:To)(c1 q:Nat)(a b:List Gx)(u v:Nat)(w:Tw)(s:w.cell? (Zd p 0)=some (Zs n a.length c1))(t:w.cell? (Zd p 1)=some (Zs o b.length q))(J:p<w.1.size)(G:w.ownsRow u 144 6 (Zs n a.length c1) a.length (Ci a))(I:w.ownsRow v 144 6 (Zs o b.length q) b.length (Ci b))(V:1<=a.length+b.length)(X:a.length+b.length<=1000):
 Zc 75 #[Zs (some (Zd p 0)) 2 2] w λe m=>∃i h,e=Zr (Zs (some (Zd i 0)) (a.length+b.length) h)/\m.ownsRow w.1.size 144 6 (Zs (some (Zd i 0)) (a.length+b.length) h) (a.length+b.length) (Ci (a++b))/\Zb w m:=by
 have O:Hid (Zc 120 #[Zs none 0 0,Zi ((a.length:Int)+(b.length:Int))] w λe m=>∃i h,e=Zr (Zs (some (Zd i 0)) 0 h)/\m.ownsRow w.1.size 144 6 (Zs (some (Zd i 0)) 0 h) 0 (Ci [])/\Zb w m):=by have:=AB8 (a.length+b.length) w V X;rwa[show ((a.length+b.length:Nat):Int)=(a.length:Int)+(b.length:Int) by omega] at this
 have M:=Aa G;have N:=Aa I;have x:Hid (∀W,Zb w W->W.cell? (Zd p 0)=some (Zs n a.length c1)/\W.cell? (Zd p 1)=some (Zs o b.length q)):=λW D=>⟨(D.cell (p:=Zd p 0) J).trans s,(D.cell (p:=Zd p 1) J).trans t⟩
 clear G I;have n1:¬(a.length:Int)<0:=by omega
 have n2:¬(a.length:Int)+(b.length:Int)<0:=by omega
 have Y:IntKind.i64.wrap ((a.length:Int)+(b.length:Int))=(a.length:Int)+(b.length:Int):=by rw[IntKind.wrap_i64];omega
 have n4:IntKind.i64.wrap (a.length:Int)=(a.length:Int):=by rw[IntKind.wrap_i64];omega
 go_enter func75,ntmps75;go_wp2;refine wp_loop_rounds 3 ?_;rw[rounds_succ];go_wp2;rw[rounds_succ];go_wp2;rw[rounds_succ]
 go_wp2_with (first
  | (go_at_call 120;apply O.o.mono;rintro e w1⟨T,P,rfl,k,c⟩;obtain⟨r0,r1⟩:=x.o _ c))
 refine wp_loop_rounds 3 ?_;rw[rounds_succ];go_wp2_with (at_builtin;refine Oa rfl _ _ rfl w.1.size T P [] rfl k u _ a rfl (Bc M.o c) (by simp;omega) c.size ?_;intro z y L f;have d:Zb w L:=c.grown f.o.2 c.size (λj hj=>by cases hj;exact(k.lt _ rfl).1);obtain⟨s0,s1⟩:=x.o _ d;have g:Hid (L.ownsRow w.1.size 144 6 (Zs (some (Zd z 0)) a.length y) a.length (Ci a)):=Aa (by have:=f.o.1;simpa using this);clear f);rw[rounds_succ];go_wp2_with (at_builtin;refine Oa rfl _ _ rfl w.1.size z y a rfl g.o v _ b rfl (Bc N.o d) (by omega) d.size ?_;intro U R w5 l;have r:Zb w w5:=d.grown l.o.2 d.size (λj hj=>by cases hj;exact(g.o.lt _ rfl).1));rw[rounds_succ];go_wp2;go_ret;exact⟨U,R,rfl,l.o.1,r⟩
attribute [local go_sem] Oper.semAt_some
theorem qS(b:To)(len a:Nat)(w:Tw):
 Zc 74 #[Zs b len a,Zi 60] w λe c=>e=Zr (.func (.func 119) #[] #[Zp (some (Zd w.1.size 0)),Zp (some (Zd (w.1.size+1) 0))])/\c=(w.alloc (Zk #[Zs b len a] 35)).alloc (Zk #[Zi 60] 3):=by
 go_enter func74,ntmps74;go_wp2;go_ret;exact⟨rfl,rfl⟩
abbrev CK6(n:Nat):={ k:Nat // 60*k<n }
def AG1{n:Nat}(x:CK6 n):Nat:=x.1
def nE(n k:Nat):Nat:=if n-60*k<60 then n-60*k else 60
def ACt(b off n:Nat)(k:CK6 n):Value:=.slice (some ⟨b,off+60*k.1,none⟩) (nE n k.1) (nE n k.1)
theorem xD(n:Nat)(_hn:1<=n)(l h g b off len a:Nat)(r:To)(d:0<len->r=some (Zd b off))(hlen:len<=100000)(N:len<=a)(J I:List (CK6 len)->Tw->Prop)(y:∀pre W,J pre W->J pre W.drew)(hY:∀pre x W,J pre W->pre.length<n60 len->YieldAt Fence.wide (n-1) prog l #[ACt b off len x] W λe f=>
   (e=Zr (Zo true)/\J (pre++[x]) f/\KpC h g W f)\/(e=Zr (Zo false)/\I (pre++[x]) f))(W:Tw)(u:W.cell? (Zd h 0)=some (Zs r len a))(t:W.cell? (Zd g 0)=some (Zi 60))(h0:J [] W):
 CallsIn Fence.wide n prog 119 #[.func (.yield l) #[] #[],Zp (some (Zd h 0)),Zp (some (Zd g 0))] W λe f=>(∃v,e=Zr v) /\
  ((∃T:List (CK6 len),T.map AG1=List.range (n60 len)/\J T f)\/(∃pre:List (CK6 len),True/\I pre f)):=by
 refine callsIn_of_wp func119 rfl trivial ?_ rfl;simp only[ntmps119,XT,XW,WY,Nat.reduceAdd,Nat.reduceSub,WI,WJ,WT,WM,WZ,WW];gi_wp2
 gi_loopw [4] (λi wr=>∃(k:Nat)(pre:List (CK6 len)),k<=n60 len/\i=Zi ((60*k:Nat):Int)/\pre.map AG1=List.range k/\J pre wr/\wr.cell? (Zd h 0)=some (Zs r len a)/\wr.cell? (Zd g 0)=some (Zi 60))
  (λi _=>len+60-(intOf i).toNat)
 case atStart=>exact⟨0,[],XE _,rfl,rfl,h0,u,t⟩
 case round=>
  obtain⟨k,pre,hk,rfl,c,j,R,q1⟩:=hrel;have D:pre.length=k:=by have:=congrArg List.length c;simpa using this
  by_cases hlt:60*k<len
  ·obtain⟨fn,tmps,assign,body,G,hR⟩:=hY pre ⟨k,hlt⟩ wr.drew (y _ _ j) (by rw[D];unfold n60;omega)
   have s:Hid (60*k<len):=Aa hlt;have z:k<n60 len:=by unfold n60;omega
   obtain⟨m,q⟩:∃m,60*k=m:=⟨_,rfl⟩;have M:nE len k=(((m:Int)+min 60 ((len-m:Nat):Int)).toNat-m):=by unfold nE;rw[q];split <;> omega
   unfold ACt at G;dsimp only at G;rw[M,q] at G;rw[q] at hlt ⊢;have O:(m:Int)<(len:Int):=by omega
   have P:(m:Int)<=(len:Int):=by omega
   have ac:(0:Int)<=(m:Int):=by omega
   have aa:¬a=m:=by omega
   have ad:m<=a:=by omega
   have U:=Aa q;have X:=Aa R;rw[d (by omega)] at R;have V:=Aa d;clear d;clear M q;gi_wp2;refine wpIn_wide.2 ?_
   go_region
   all_goals gi_wp2
   apply hR.mono;rintro e L (⟨rfl,w,p⟩|⟨rfl,o⟩)
   ·have p0:L.cell? (Zd h 0)=some (Zs r len a):=p.1.trans X.o
    have p1:L.cell? (Zd g 0)=some (Zi 60):=p.2.trans q1;gi_wp2
    go_roundw
    case rel=>
     refine⟨k+1,pre++[⟨k,s.o⟩],z,?_,?_,w,p0,p1⟩
     ·have:=U.o
      congr 1;omega
     rw[XN,c,List.range_succ];rfl
    case measure=>simp[intOf];omega
   gi_wp2;refine bodyPost_ret (results_none rfl _ _ _) rfl ?_;exact⟨⟨_,rfl⟩,.inr ⟨_,trivial,o⟩⟩
  have ab:¬((60*k:Nat):Int)<(len:Int):=by omega
  have Y:k=n60 len:=by unfold n60 at hk ⊢;omega
  gi_wp2
  go_end0
  exact⟨⟨_,rfl⟩,.inl ⟨pre,by rw[c,Y],j⟩⟩
theorem jC(n:Nat)(o:1<=n)(d c b off len a:Nat)(k:To)(j:0<len->k=some (Zd b off))(hlen:len<=100000)(f:len<=a)(w:Tw)(i:d<w.1.size)(g:c<w.1.size)(q:w.cell? (Zd d 0)=some (Zs k len a))(m:w.cell? (Zd c 0)=some (Zi 60)):
 SeqStopsK Fence.wide n prog 119 #[Zp (some (Zd d 0)),Zp (some (Zd c 0))] (λx:CK6 len=>#[ACt b off len x]) (KpC d c) (λys=>ys.map AG1=List.range (n60 len)) (λ_=>True) (n60 len) w:=λl J Jx W hW hJ _ hY h0=>
 xD n o l d c b off len a k j hlen f J Jx (λpre W h=>hJ pre W _ none h ⟨rfl,rfl,rfl,XF _,λ_ _ _=>rfl⟩ (λr e=>by cases e)) hY W ((hW.cell (p:=Zd d 0) i).trans q) ((hW.cell (p:=Zd c 0) g).trans m) h0
variable{W w:Tw}{u v x:Tv}{i n:Nat}{s:Ah}{L:List Gx}{D:Td}{p:Tb}{R:List (List V)}{H:List (Dn×Ah)}{X:List Tv}
theorem qF{b off n c:Nat}{qj:List (List V)}(h:iJ w (Zs (some (Zd b off)) n c) qj)(J:n=qj.length)(k:CK6 qj.length):iJ w (ACt b off qj.length k) (Gg qj k.1):=by
 obtain⟨m,q,s,t⟩:=h;have I:=k.2;obtain⟨z,l,D,e,G,v,a⟩:=q.cons (by omega);injection e with g _ _;injection g with g;injection g with o p _;subst o p;have y:(Gg qj k.1).length=nE qj.length k.1:=by simp only[Gg,XV,WX,nE];split <;> omega
 have d:((m.drop (60*k.1)).take 60).length=nE qj.length k.1:=by simp only[XV,WX,nE,s];split <;> omega
 refine⟨(m.drop (60*k.1)).take 60,⟨_,nE qj.length k.1,by rw[d];rfl,by rw[d];exact XF _,λ_=>⟨b,off+60*k.1,rfl,v,λj x hx i u hu=>?_⟩⟩,by rw[y,d],λj x r hx hr=>?_⟩
 ·have f:j<60:=by have:=Ax hx;rw[XV] at this;omega
  rw[Yh f,X4] at hx;have:=a (60*k.1+j) x hx i u hu;rwa[show off+(60*k.1+j)*1+i=off+60*k.1+j*1+i by omega] at this
 have f:j<60:=by have:=Ax hx;rw[XV] at this;omega
 rw[Yh f,X4] at hx;unfold Gg at hr;rw[Yh f,X4] at hr;exact t _ x r hx hr
theorem jX(b:Tb)(l:List Aj)(p:List (List V)):∀(a:List (List (List V)))(k:Nat)(D:Td),Km b l k (a++[p]) D=(Km b l k a D).put (B.lit (Eh (Bw b (k+a.length)))) (Pa l p)
 | [],k,D=>by simp[Km]
 | q :: a,k,D=>by show Km b l (k+1) (a++[p]) _=_;rw[jX b l p a (k+1)];simp only[Km,XW];rw[show k+1+a.length=k+(a.length+1) by omega]
theorem ACh(b:Tb)(k:Nat)(a:List (List (List V)))(p:List (List V)):N5 b k (a++[p])=N5 b k a++[(1,Bw b (k+a.length),(p.length:Int),[],[],0)]:=by unfold N5;rw[List.zipIdx_append];simp
theorem eQ(b:Tb)(k:Nat)(a:List (List (List V))):(N5 b k a).length=a.length:=by simp[N5]
theorem V4{b e z n:Nat}{xs:List Tv}{row:Option Nat}(h:w.ownsRow b e z v n xs)(m:w.grownBy W row)(p:∀r,row=some r->∃o:Obj,w.1[r]? = some o/\o.isCells=false):W.ownsRow b e z v n xs:=by
 refine⟨h.1,?_⟩
 rcases h.2 with k|⟨g,c,a,q,d,f,i⟩
 ·exact .inl k
 refine .inr ⟨g,c,a,q,d,(m.block g (Ac f) (λe=>?_)).trans f,i⟩;obtain⟨o,j,l⟩:=p g e.symm;rw[f] at j;cases j;cases l
theorem vX{cs:Array Tv}{t:TypeId}{row:Option Nat}(h:w.1[i]? = some (Zk cs t (0,0)))(c:w.grownBy W row)(d:∀r,row=some r->∃o:Obj,w.1[r]? = some o/\o.isCells=false):W.1[i]? = some (Zk cs t (0,0)):=by refine(c.block i (Ac h) (λe=>?_)).trans h;obtain⟨o,a,b⟩:=d i e.symm;rw[h] at a;cases a;cases b
theorem Dv.no{base:Nat}{v:Int}{d:To}{n1 c1:Nat}{y:Int}{f:To}{n2 k:Nat}{t:Tb}{l:Bool}{g:To}{qj:Int}{row:Option Nat}(h:Dv base w n s v d n1 c1 y f n2 k t l g i L qj)(a:w.grownBy W row)(b:∀r,row=some r->∃o:Obj,w.1[r]? = some o/\o.isCells=false):Dv base W n s v d n1 c1 y f n2 k t l g i L qj:=by refine⟨vX h.box a b,?_,V4 h.row a b,λq j=>⟨V4 (h.own q j).1 a b,V4 (h.own q j).2 a b⟩,h.Vv,h.low⟩;obtain⟨p,z,u,D,m,e,c⟩:=h.snap;exact⟨p,z,u,D,m,e,V4 c.qz a b,c.qx,V4 c.row a b,λx G=>V4 (c.Cl x G) a b⟩
theorem bF{w0 w W:Tw}{j bb n d:Nat}{fs:List Int}{row:Option Nat}{B0:Nat}(h:Ey w0 w j bb n D fs (.map (some d)) v)(s:d<B0)(u:w0.1.size<=B0)(a:w.grownBy W row)(f:∀r,row=some r->B0<=r/\∃o:Obj,w.1[r]? = some o/\o.isCells=false):Ey w0 W j bb n D fs (.map (some d)) v:=by
 have l:B.A0 (λi=>row=some i) w W:=⟨a.os,a.tape,a.output,a.size,λk s hn=>a.block k s (λe=>hn e.symm)⟩;refine⟨h.bu.only l (λe=>?_) (λm e q=>?_) (λp x b q=>?_),l.below h.low h.low.size (λi q=>XH u (f i q).1),h.hb,h.hm,h.er,h.nc,h.tb,h.hf⟩
 ·obtain⟨_,o,c,b⟩:=f bb e
  have g:w.1[bb]? = _:=h.bu.1;rw[g] at c;cases c;cases b
 ·cases e
  have:=(f _ q).1;omega
 obtain⟨_,o,c,t⟩:=f _ q;unfold World.cell? at b;rw[c] at b;cases o <;> simp_all [Obj.isCells]
def CmI(w0:World)(e bb n:Nat)(D:DataW Unit)(c base l:Nat)(s:Ah)(v:Int)(f:Option Addr)(n1 c1:Nat)(m:Int)(g:Option Addr)(n2 j:Nat)(d:ByteArray)(qj:Int)(R:List (List V))(W8:World)(pre:List (CK6 R.length))(W:World):Prop :=
 ∃n' a b h i L,Ey w0 W e bb n' (Km d s.qz 0 (pre.map λk=>Gg R k.1) D) a (.map (some c)) b/\n'<=n+pre.length/\Dv base W l s v f n1 c1 m g n2 j d true h i L qj /\
  L.map (·.1)=N5 d 0 (pre.map λk=>Gg R k.1)/\(∀k∈pre,De s.qz (Gg R k.1)=true)/\Mv base bb (.map (some c)) (.map (some c)) W8 W
theorem CmI.own{w0:Tw}{k bb n:Nat}{i base j:Nat}{v:Int}{l:To}{n1 c1:Nat}{x:Int}{p:To}{n2 d:Nat}{t:Tb}{qj:Int}{W8:Tw}{B0:Nat}(J:i<B0)(N:w0.1.size<=B0)(O:W8.1.size<=B0):OwnFrom B0 (CmI w0 k bb n D i base j s v l n1 c1 x p n2 d t qj R W8):=λpre A C row M f g=>by
 obtain⟨n',a,b,q,u,L,w,y,z,G,I,c⟩:=M;have h:∀r,row=some r->∃o:Obj,A.1[r]? = some o/\o.isCells=false:=λr e=>(g r e).2
 exact⟨n',a,b,q,u,L,bF w J N f g,y,z.no f h,G,I,⟨c.only.grown f (λm e P=>by have:=(g m e).1;omega),c.link,c.stay⟩⟩
theorem CmI.keeps{w0:Tw}{i bb n:Nat}{fs:List Int}{j base:Nat}{B0:Nat}(h:Ey w0 W i bb n D fs (.map (some j)) v)(l:j<B0)(d:Mv base bb (.map (some j)) (.map (some j)) W w):KeepsFrom B0 W w:=by
 refine⟨d.only.size,λk o g a c=>(d.only.block k (Array.getElem?_eq_some_iff.1 a).1 ?_).trans a⟩;rintro((e|e)|⟨_,cs,T,f,_⟩)
 ·subst e
  have b:W.1[k]? = _:=h.bu.1;rw[b] at a;cases a;cases c
 ·cases e
  omega
 rw[f] at a;cases a;cases c
theorem CmI.step{w0:Tw}{i bb n:Nat}{j base m:Nat}{v:Int}{b:To}{n1 c1:Nat}{x:Int}{c:To}{n2 d:Nat}{t:Tb}{qj:Int}{W8 W w:Tw}{pre:List (CK6 R.length)}{k:CK6 R.length}{n' p:Nat}{z:List Int}{e:To}{g:Nat}(J:n'<=n+pre.length)(f:L.map (·.1)=N5 t 0 (pre.map λk=>Gg R k.1))(l:∀k∈pre,De s.qz (Gg R k.1)=true)(o:Mv base bb (.map (some j)) (.map (some j)) W8 W)(r:Ey w0 w i bb p ((Km t s.qz 0 (pre.map λk=>Gg R k.1) D).put (B.lit (Eh (Bw t L.length))) (Pa s.qz (Gg R k.1))) z (.map (some j)) u)(M:p<=n'+1)(y:Mv base bb (.map (some j)) (.map (some j)) W w)(I:De s.qz (Gg R k.1)=true)(G:Dv base w m s v b n1 c1 x c n2 d t true e g (L++[noA (Bw t L.length) (Gg R k.1).length]) qj):CmI w0 i bb n D j base m s v b n1 c1 x c n2 d t qj R W8 (pre++[k]) w:=by
 have h:L.length=pre.length:=by have:=congrArg List.length f;rw[XB,eQ,XB] at this;exact this
 refine⟨p,z,u,e,g,_,?_,by rw[XQ];simp;omega,G,?_,?_,o.trans y⟩
 ·rw[XN,Y8,jX,XB,WC,<-h]
  exact r
 ·rw[XN,XN,Y8,Y8,ACh,f,XB,WC,h]
  rfl
 intro q a
 rcases List.mem_append.1 a with a|a
 ·exact l q a
 simp at a;subst a;exact I
theorem lC(a:Tb)(c:Plain a)(l:List Aj):∀(b:List (List (List V)))(k:Nat)(D:Td)(j:Nat),k+b.length<=j->j<=1000000->Maps.has D (B.lit (Eh (Bw a j)))=false->Maps.has (Km a l k b D) (B.lit (Eh (Bw a j)))=false
 | [],_,_,_,_,_,h=>h
 | p :: b,k,D,j,hk,hj,h=>by
   simp at hk;refine lC a c l b (k+1) _ j (by omega) hj ?_;rw[Maps.has_put_other (λe=>?_)]
   ·exact h
   have:=(S5 c c (Uw (B.Jr e))).2 (by omega) (by omega);omega
theorem Xo(a:Tb)(f:Plain a)(l:List Aj)(D:Td):∀(c:List (List (List V)))(k:Nat)(b:Td),k+c.length<=1000->Grown a D b->(∀j,k<=j->j<=1000->Maps.has b (B.lit (Eh (Bw a j)))=false)->Grown a D (Km a l k c b)
 | [],_,_,_,h,_=>h
 | p :: c,k,b,hk,h,hf=>by
   simp at hk;refine Xo a f l D c (k+1) _ (by omega) (.put k _ h (hf k (XF _) (by omega))) (λj g d=>?_);rw[Maps.has_put_other (λe=>?_)]
   ·exact hf j (by omega) d
   have:=(S5 f f (Uw (B.Jr e))).2 (by omega) (by omega);omega
theorem fM(a:Tb)(d:Plain a)(l:List Aj)(D:Td)(c:∀k,Maps.has D (B.lit (Eh (Bw a k)))=false)(b:List (List (List V)))(h:b.length<=100):Grown a D (Km a l 0 b D) :=
 Xo a d l D b 0 D (by omega) .refl λj _ _=>c j
theorem AGz{w0 w:Tw}{k bb n:Nat}{fs:List Int}{mv v:Tv}{U:List Tb}{s:Tb}(h:iK w0 w k bb n D fs mv v H U s)(c:(Ae H H.length).qz≠[]):∃a,mv=.map (some a)/\a<w.1.size:=by
 have f:B.Th w mv n D:=h.base.bu.2.1
 rcases f with⟨g,b⟩|⟨m,e,d⟩
 ·exfalso
  cases H with
  | nil=>exact c rfl
  | cons x H=>have:=((h.inv.Lm.2 0 (by omega)).1 x.1 rfl).1;rw[b] at this;exact absurd this (by simp[Maps.has])
 exact⟨m,e,B.Th.lt (.inr ⟨m,e,d⟩) e⟩
theorem Uu{w0 W:Tw}{j bb n d b:Nat}{fs:List Int}{t:TypeId}(h:Ey w0 W j bb n D fs (.map (some d)) u)(l:W.1[b]? = some (Zk #[x] t))(r:∀i,x≠Zi i)(f:b≠bb)(g:b≠d)(o:w0.1.size<=b)(v:Tv):Ey w0 (W.setCell (Zd b 0) v) j bb n D fs (.map (some d)) u:=by
 have a:=E.Ar W b 0 v;have c:B.A0 (λi=>i=b) W (W.setCell (Zd b 0) v):=⟨a.os,a.tape,a.output,a.size,λk hk hn=>a.block k hk (λe=>hn (Yq e))⟩;refine⟨h.bu.only c (λe=>f e.symm) (λm e q=>?_) (λp y hc q=>?_),c.below h.low h.low.size (λi q=>by rw[q];exact o),h.hb,h.hm,h.er,h.nc,h.tb,h.hf⟩
 ·cases e
  exact g q.symm
 obtain⟨s,off,st⟩:=p;simp only at q;subst q;unfold World.cell? at hc;simp only[l] at hc
 rcases off with _|off
 ·cases st <;> simp at hc
  exact r _ hc
 cases st <;> simp at hc
theorem ANm{D b:Td}{xs:List A6}{t:Tb}{x:J4}{f:Bool}{A:List A5}{qj:Int}(c:C7 D s xs)(d:Good Bv Cm s)(e:Plain t)(a:∀k,Maps.has D (B.lit (Eh (Bw t k)))=false)(h:V7 D s xs t x b f A qj):Grown t D b:=by
 rcases h with⟨_,_,_,rfl,_⟩|⟨_,_,_,rfl,_⟩|⟨_,_,_,rfl,_⟩|⟨_,T,_,_,_,rfl,_⟩|⟨_,T,_,_,_,_,_,ts,_,⟨_,rfl,_⟩|⟨_,R,_,_,rfl,_⟩⟩|⟨_,_,_,_,⟨_,rfl,_⟩|⟨_,_,rfl,_⟩⟩
 ·exact .refl
 ·exact .refl
 ·exact .put 0 _ .refl (a 0)
 ·exact .refl
 ·exact .refl
 ·exact .put 0 _ .refl (a 0)
 ·exact .refl
 have g:n60 (Fc s.qz xs).length<=40:=nH (by unfold Fc;rw[XB];exact aN c d .nil);exact fM t e s.qz D a _ (by rw[Oz];omega)
def ANd(w0 w:World)(bb i:Nat)(D:DataW Unit)(mv:Value)(H:List (Dn×Ah))(g:Value)(h:World):Prop :=
 ∃j f b e d a,LwT w0 h bb (i+1) j f b e d a/\B.A0 (B.Own bb mv) w h/\(∀s zs,Xh D s zs->Xh f s zs)/\((g=.nilIface/\(a=H\/∃c,a=H++[c]))\/∃T y,g=.iface T y/\a=H)
theorem AN7(p:Mw)(w0:Tw)(bb i m:Nat)(D:Td)(fs:List Int)(mv M:Tv)(H:List (Dn×Ah))(x:J4)(g:To)(j:Nat)(z:To)(G:Nat)(pa:To)(v u:Nat)(I:To)(J:Nat)(w:Tw)(h:LwT w0 w bb i m D fs mv M H)(hi:i<30)(X:B.Ob w0)(ho:S.Lp w0)(hx:K8 w x g j z G pa v u I J):
 Zc 6 #[Zp (some (Zd bb 0)),Zg #[Zi x.Qk,Zs g x.qz.length j,Zs z x.qj.length G,Zs pa v u,Zs I x.A3.length J,Zi x.change,Zt x.name,Zt x.tw],Zt (wK i)] w λe P=>∃L,e=Zr L/\Hid (ANd w0 w bb i D mv H L P):=by
 obtain⟨xs,N⟩:=h.inv.wU H.length (XF _);have f:=h.sit (by omega) X ho;refine(V1 p w0 0 bb m D fs mv M H (nms i) (wK i) xs x g j z G pa v u I J w f (by have:=h.Iz;omega) N hx).mono ?_;intro e P O;have hk:=O;obtain⟨n',R,a,c,b,H',l,h2,n,h4,o,⟨rfl,D1,rd,A,qj,Y,W⟩|⟨T,y,rfl,rfl,q,_⟩⟩:=O
 ·have d:=ANm N f.Of f.plain (λk=>f.free k) Y
  rcases W with⟨U,rfl,rfl⟩|⟨U,V,t,ha,rfl,rfl⟩
  ·exact⟨_,rfl,Aa ⟨n',_,a,c,b,_,⟨l,o,by have:=h.Iz;omega,by have:=h.AFx;omega⟩,n,λs zs r=>r.grown d,.inl ⟨rfl,.inl rfl⟩⟩⟩
  exact⟨_,rfl,Aa ⟨n',_,a,c,b,_,⟨l,o,by have:=h.Iz;simp;omega,by have:=h.AFx;omega⟩,n,λs zs r=>(r.grown d).put ((V.Lm.2 H.length (by have:=h.Iz;omega)).2 (XF _)) _,.inl ⟨rfl,.inr ⟨_,rfl⟩⟩⟩⟩
 exact⟨_,rfl,Aa ⟨n',R,a,c,b,_,⟨l,o,by have:=h.Iz;omega,by have:=h.AFx;omega⟩,n,q,.inr ⟨T,y,rfl,rfl⟩⟩⟩
def ALz(D:DataW Unit)(H:List (Dn×Ah))(a:List (List (List V))):Prop:=a.length=H.length/\∀(k:Nat)R,a[k]? = some R->∃xs,C7 D (Ae H (k+1)) xs/\R=Fc (Ae H (k+1)).qz xs
theorem ALz.nil(D:Td):ALz D [] []:=⟨rfl,λk R h=>by simp at h⟩
theorem ALz.kept{a:Td}{b:List (List (List V))}(h:ALz D H b)(f:∀s zs,Xh D s zs->Xh a s zs):ALz a H b:=⟨h.1,λk R e=>by
 obtain⟨xs,c,d⟩:=h.2 k R e;exact⟨xs,{ c with Lz:=f _ _ c.Lz },d⟩⟩
theorem ALz.snoc{b:List (List (List V))}(h:ALz D H b)(c:Dn×Ah){xs:List A6}(m:C7 D (Ae (H++[c]) (H.length+1)) xs):ALz D (H++[c]) (b++[Fc (Ae (H++[c]) (H.length+1)).qz xs]):=by
 refine⟨by rw[XQ,XQ,h.1];rfl,λk R a=>?_⟩
 rcases Yc k b.length with g|f
 ·rw[XK g] at a
  obtain⟨n,j,l⟩:=h.2 k R a;have d:k+1<=H.length:=by rw[<-h.1];omega
  rw[qV d];exact⟨n,j,l⟩
 rw[XI f] at a
 have d:k=b.length:=by
  rcases Yt (k-b.length) with i|i
  ·omega
  rw[Yb (by simp;omega)] at a;cases a
 rw[d,YU] at a;have e:Fc (Ae (H++[c]) (H.length+1)).qz xs=R:=by simpa using a
 rw[d,h.1];exact⟨xs,m,e.symm⟩
def ALN(B:Nat)(w:World)(v:Value)(a:List (List (List V))):Prop:=∃b:List Value,b.length=a.length/\w.ownsRow B 35 1 v a.length b/\∀(j:Nat)x R,b[j]? = some x->a[j]? = some R->Sc 0 w x R
theorem ALN.nil(B:Nat)(w:Tw):ALN B w (Zs none 0 0) []:=⟨[],rfl,XU _ _ _ _,λj x R h=>by simp at h⟩
theorem ALN.up{B:Nat}{w W:Tw}{v:Tv}{a:List (List (List V))}(h:ALN B w v a)(b:Zb w W):ALN B W v a:=by obtain⟨i,c,d,e⟩:=h;exact⟨i,c,E.Ad d b,λj x R g f=>(e j x R g f).up b⟩
theorem ALN.only{B0:Nat}{bb n:Nat}{fs:List Int}{mv u:Tv}{a:List (List (List V))}(h:ALN B0 w v a)(b:B.Bu w bb n D fs mv u)(k:B.A0 (B.Own bb mv) w W):ALN B0 W v a:=by have c:Mv 0 bb mv mv w W:=Mv.put k ⟨λ_ e=>.inl e,B.St.refl _⟩;obtain⟨m,d,f,g⟩:=h;exact⟨m,d,c.row b f (by decide) (by decide) (by decide),λj x R l i=>c.slO b (g j x R l i)⟩
theorem AOA:(prog.info? 35).map (λi=>(i.zero,i.size,i.bytes))=some (some (Zs none 0 0),1,24):=by kernel_rfl
theorem Sc.grown{m:Nat}(g:Sc i w x R)(b:w.ownsRow m 35 1 v n X)(c:w.grownBy W v.ownBlock):Sc i W x R:=by obtain⟨l,h,d,f⟩:=g;exact⟨l,h,Az d c λk a e=>a8 b d (by decide) k e a,λj y q hy hq=>Az (f j y q hy hq) c λk a e=>a8 b (f j y q hy hq) (by decide) k e a⟩
theorem ALN.snoc{B0:Nat}{v v':Tv}{b:List (List (List V))}(f:X.length=b.length)(g:w.ownsRow B0 35 1 v b.length X)(i:∀(j:Nat)x R,X[j]? = some x->b[j]? = some R->Sc 0 w x R)(l:Sc 0 w x R)(h:w.grownBy W v.ownBlock)(k:W.ownsRow B0 35 1 v' (b.length+1) (X++[x])):ALN B0 W v' (b++[R]):=by
 refine⟨X++[x],by simp[f],?_,λj y q a c=>?_⟩
 ·simpa using k
 rcases Yc j X.length with e|d
 ·rw[XK e] at a
  rw[XK (by omega)] at c;exact(i j y q a c).grown g h
 rw[XI d] at a;rw[XI (by omega)] at c;rw[f] at a;cases hj:j-b.length with
 | zero=>rw[hj] at a c;simp at a c;subst a c;exact l.grown g h
 | succ m=>rw[hj] at a;simp at a
theorem ALN.at{B0:Nat}{w:Tw}{o:To}{n k j:Nat}{c:List (List (List V))}{R:List (List V)}(h:ALN B0 w (Zs o n k) c)(f:c[j]? = some R):∃g a b,o=some (Zd g 0)/\g<w.1.size/\w.cell? (Zd g j)=some (Zs a R.length b)/\Sc 0 w (Zs a R.length b) R:=by
 obtain⟨u,y,e,s⟩:=h;have z:j<c.length:=(List.getElem?_eq_some_iff.1 f).1;obtain⟨x,m⟩:∃x,u[j]? = some x:=⟨_,Y' (by omega)⟩;have i:=s j x R m f;obtain⟨a,b,rfl,_⟩:=i.slr.slice
 rcases e.2 with⟨_,v⟩|⟨g,p,q,r,_,t,_,_,_⟩
 ·omega
 injection r with d _ _;subst d;have l:=e.cells (g:=g) rfl;simp only[E.addr_add] at l;have:=l j _ m;exact⟨g,a,b,rfl,E.Ac t,by simpa using this,i⟩
theorem ANf{w0 w W:Tw}{bb n B0 k:Nat}{fs:List Int}{mv u v:Tv}(h:Ey w0 w 0 bb n D fs mv u)(g:w.ownsRow B0 35 1 v k X)(t:w0.1.size<=B0)(b:w.grownBy W v.ownBlock):Ey w0 W 0 bb n D fs mv u:=by
 have r:B.A0 (λi=>v.ownBlock=some i) w W:=⟨b.os,b.tape,b.output,b.size,λk hk hn=>b.block k hk (λe=>hn e.symm)⟩;obtain rfl:=bJ h;obtain⟨p,d,a,c,rfl,s,_⟩:=h.bu;refine⟨⟨Hq p g (by decide) b,d.keep λm e=>b.block m (d.lt e) λek=>?_,a,c,rfl,s,λhn=>absurd rfl hn⟩,r.below h.low h.low.size (λi q=>XH t (Fu g q)),h.hb,h.hm,h.er,h.nc,h.tb,h.hf⟩;obtain⟨j,q⟩:=Ho g ek.symm
 rcases d with⟨o,_⟩|⟨x,l,es,clock,f,_⟩
 ·rw[o] at e;cases e
 rw[l] at e;cases e;rw[f] at q;cases q
theorem LwT.row{w0 w W:Tw}{bb i m B0 k:Nat}{fs:List Int}{mv u v:Tv}(h:LwT w0 w bb i m D fs mv u H)(b:w.ownsRow B0 35 1 v k X)(c:w0.1.size<=B0)(a:w.grownBy W v.ownBlock):LwT w0 W bb i m D fs mv u H:=⟨ANf h.base b c a,h.inv,h.Iz,h.AFx⟩
theorem AOD(h:R6 D H){f:Nat}(d:ANK H f p):Maps.has D (B.lit (Eh p))=true:=by obtain⟨⟨i,_,c,a⟩,_⟩:=d;obtain⟨xs,b⟩:=h i c;unfold paths at a;rw[<-b.Lz.qx,W0] at a;obtain⟨x,e,rfl⟩:=List.mem_map.1 a;exact(b.Lz.each x e).has
theorem ANr{base:Nat}(h:B.Ss w base v (B.AMu D p)):∃a c,v=Zs a (iH D p) c:=by obtain⟨a,c,rfl,_⟩:=h;refine⟨a,c,?_⟩;unfold B.AMu iH;rw[YW]
theorem ANA{xs:List A6}(h:C7 D s xs)(b:Good Bv Cm s):(Fc s.qz xs).length<=2400/\∀r∈Fc s.qz xs,r.length<=1000:=by refine⟨by unfold Fc;rw[XB];exact aN h b .nil,λr c=>?_⟩;rw[sW] at c;obtain⟨z,d,rfl⟩:=List.mem_map.1 c;obtain⟨x,_,a⟩:=List.mem_flatMap.1 d;have:=ADa a;have:=M9 b;omega
theorem AJf{mv:Tv}(h:B.Th w mv n D)(p:Tb):iH D p<=n:=by have a:=h.size_le;have b:=B.AL7 h.isMap;unfold iH;exact XH (Yu _ _) (by omega)
theorem AMP(h:R6 D H):∀k,k<=H.length->(Ae H k).qx.length<=1000:=λk b=>by
 obtain⟨xs,a⟩:=h k b;rw[<-a.Lz.qx,XB];exact a.Lz.Iz
def AGA:Prop:=∀w:World,Ik w->Lw w->Jp w->B.Ob w->S.Lp w->Zc 5 #[] w λe a=>e=.returned (.bool true)/\Zb w a
theorem ANx(dd:Mw)(de:AGA)(lv:Tv)(from_:Int)(l:List DdS)(w:Tw)(hl:F7 8 AGa w lv l)(hr:∀q∈l,Nf w q)(he:Ik w)(hw:Lw w)(ht:Jp w)(hg:B.Ob w)(ho:S.Lp w):
 Zc 3 #[lv,Zi from_] w λe w'=>e=Zr (Zo true)/\Zb w w':=by
 have bk:=Aa (Py lv l w hl hr);unfold Pb at bk;have HL:=Aa hl;have HR:=Aa hr;have HV:=Aa (And.intro he (And.intro hw (And.intro ht (And.intro hg ho))));obtain⟨la,lc,rfl,_⟩:=hl.slice;clear hl hr he hw ht hg ho;obtain⟨iC,cy,cz,c1,c2⟩:=info_parts AOA;have au:=Zy cy cz c1 c2;clear cy cz c1 c2;go_enter func3,ntmps3;go_wp2_with fail;apply bk.o.mono;rintro e w1⟨b1,rfl,cu,co⟩;have M:=Aa co;have bi:=Aa cu;clear co cu bk;cases b1 with
 | false=>go_wp2_with fail;go_ret;exact⟨rfl,M.o⟩
 | true=>
   have d1:=(bi.o rfl).1;have b2:=Aa (bi.o rfl).2;have ce:=Aa (de w1 (HV.o.1.below M.o) (HV.o.2.1.below M.o) (HV.o.2.2.1.below M.o) (HV.o.2.2.2.1.below M.o) (HV.o.2.2.2.2.below M.o));clear bi;go_wp2_with fail;apply ce.o.mono;rintro e t⟨rfl,cp⟩;have I:=Aa (Ap M.o cp);have n:Hid (Ik t/\Lw t/\Jp t/\B.Ob t/\S.Lp t):=Aa ⟨HV.o.1.below I.o,HV.o.2.1.below I.o,HV.o.2.2.1.below I.o,HV.o.2.2.2.1.below I.o,HV.o.2.2.2.2.below I.o⟩;have cb:=Aa (LwT.start t n.o.1 n.o.2.1 n.o.2.2.1);clear cp ce M HV;go_wp2_with fail
   go_loopw [6,7] (λvw vi wr=>∃(i m:Nat)(D:Td)(fs:List Int)(mv fv:Tv)(H:List (Dn×Ah))(ka:To)(kc:Nat)(RW:List (List (List V))),i<=l.length/\vi=Zi i/\vw=Zs ka H.length kc/\Hid (LwT t wr t.1.size i m D fs mv fv H)/\Hid (ALz D H RW)/\Hid (ALN t.1.size wr (Zs ka H.length kc) RW)) (λ_ vi _=>l.length-(intOf vi).toNat)
   case atStart=>exact⟨0,0,_,_,_,_,[],none,0,[],XE _,rfl,rfl,cb,Aa (ALz.nil _),Aa (ALN.nil _ _)⟩
   case round=>
    obtain⟨i,m,D,fs,mv,fv,H,ka,kc,RW,hi,rfl,rfl,HI,al,bn⟩:=hrel;clear cb
    by_cases hlt:i<l.length
    ·obtain⟨q,hq⟩:∃q,l[i]? = some q:=⟨_,Y' hlt⟩
     have a9:=Aa (Ap I.o HI.o.base.low);obtain⟨lb,P,ea,el,_,d5,b⟩:=HL.o.cons (by omega);injection el with db _ dc;subst db dc;have c5:=Aa ((HR.o q (XJ hq)).at (b2.o q (XJ hq)));have q0:=b i q hq 0 _ rfl;have q1:=b i q hq 1 _ rfl;have q2:=b i q hq 2 _ rfl;have q3:=b i q hq 3 _ rfl;have q4:=b i q hq 4 _ rfl;have q5:=b i q hq 5 _ rfl;have q6:=b i q hq 6 _ rfl;have q7:=b i q hq 7 _ rfl;simp only[WG] at q0;have dl:(i:Int)<(l.length:Int):=by omega
     clear b hq;obtain⟨⟨wh,qz,qj,A3,ch,nm,tw,tr⟩,ca,cc,ra,rc,pa,pn,pc,sa,sc⟩:=q;simp only at q0 q1 q2 q3 q4 q5 q6 q7;have bg:=Aa (λW=>ADi i (by omega) W);have ba:=Aa (λW(hW:Zb wr W)=>AN7 dd t t.1.size i m D fs mv fv H ⟨wh,qz,qj,A3,ch,nm,tw,tr⟩ ca cc ra rc pa pn pc sa sc W (HI.o.up hW) (by omega) n.o.2.2.2.1 n.o.2.2.2.2 (c5.o.up (Ap a9.o hW)));have ai:Hid (∀W,Zb w W->W.cell? (Zd lb (P+i*8))=some (Zi wh)/\W.cell? (Zd lb (P+i*8+1))=some (Zs ca qz.length cc)/\W.cell? (Zd lb (P+i*8+2))=some (Zs ra qj.length rc)/\W.cell? (Zd lb (P+i*8+3))=some (Zs pa pn pc)/\W.cell? (Zd lb (P+i*8+4))=some (Zs sa A3.length sc)/\W.cell? (Zd lb (P+i*8+5))=some (Zi ch)/\W.cell? (Zd lb (P+i*8+6))=some (Zt nm)/\W.cell? (Zd lb (P+i*8+7))=some (Zt tw)):=Aa λW hb=>⟨Ag hb q0,Ag hb q1,Ag hb q2,Ag hb q3,Ag hb q4,Ag hb q5,Ag hb q6,Ag hb q7⟩
     have b0:=Aa ((XG wr.1.size wr).drew);have cx:IntKind.i64.wrap ((H.length:Int)+1)=(H.length:Int)+1:=by have:=HI.o.Iz;rw[IntKind.wrap_i64];omega
     clear q0 q1 q2 q3 q4 q5 q6 q7;go_wp2_with fail;refine wp_region_held_drew (S:=λW=>W.cell? (Zd lb (P+i*8))=some (Zi wh)/\W.cell? (Zd lb (P+i*8+1))=some (Zs ca qz.length cc)/\W.cell? (Zd lb (P+i*8+2))=some (Zs ra qj.length rc)/\W.cell? (Zd lb (P+i*8+3))=some (Zs pa pn pc)/\W.cell? (Zd lb (P+i*8+4))=some (Zs sa A3.length sc)/\W.cell? (Zd lb (P+i*8+5))=some (Zi ch)/\W.cell? (Zd lb (P+i*8+6))=some (Zt nm)/\W.cell? (Zd lb (P+i*8+7))=some (Zt tw)) (by kernel_rfl) (ai.o _ (Ap a9.o b0.o)) (λhHeld=>?_);refine wpAnyH_take (i:=0) (v:=?v0) rfl (by kernel_rfl) (by kernel_rfl) (by kernel_rfl) (λ_ _ _ h=>h) (Or.inl ⟨by rfl,?h0⟩) (by assumption) ?r0
     case h0=>intro w a;(try dsimp only at a);go_simp <;> with_reducible rfl
     change wpAnyH _ _ _ _ _ _ _ (Act.put _ (some 32) _) _
     simp only[Act.put,XA,XC,XD];refine wpAnyH_take (i:=1) (v:=?v1) rfl (by kernel_rfl) (by kernel_rfl) (by kernel_rfl) (λ_ _ _ h=>h) (Or.inl ⟨by rfl,?h1⟩) (by assumption) ?r1
     case h1=>intro w a;(try dsimp only at a);go_simp <;> with_reducible rfl
     change wpAnyH _ _ _ _ _ _ _ (Act.put _ (some 33) _) _
     simp only[Act.put,XA,XC,XD];refine wpAnyH_take (i:=2) (v:=?v2) rfl (by kernel_rfl) (by kernel_rfl) (by kernel_rfl) (λ_ _ _ h=>h) (Or.inl ⟨by rfl,?h2⟩) (by assumption) ?r2
     case h2=>intro w a;(try dsimp only at a);go_simp <;> with_reducible rfl
     change wpAnyH _ _ _ _ _ _ _ (Act.put _ (some 34) _) _
     simp only[Act.put,XA,XC,XD];refine wpAnyH_take (i:=3) (v:=?v3) rfl (by kernel_rfl) (by kernel_rfl) (by kernel_rfl) (λ_ _ _ h=>h) (Or.inl ⟨by rfl,?h3⟩) (by assumption) ?r3
     case h3=>intro w a;(try dsimp only at a);go_simp <;> with_reducible rfl
     change wpAnyH _ _ _ _ _ _ _ (Act.put _ (some 35) _) _
     simp only[Act.put,XA,XC,XD];refine wpAnyH_take (i:=4) (v:=?v4) rfl (by kernel_rfl) (by kernel_rfl) (by kernel_rfl) (λ_ _ _ h=>h) (Or.inl ⟨by rfl,?h4⟩) (by assumption) ?r4
     case h4=>intro w a;(try dsimp only at a);go_simp <;> with_reducible rfl
     change wpAnyH _ _ _ _ _ _ _ (Act.put _ (some 36) _) _
     simp only[Act.put,XA,XC,XD];refine wpAnyH_take (i:=5) (v:=?v5) rfl (by kernel_rfl) (by kernel_rfl) (by kernel_rfl) (λ_ _ _ h=>h) (Or.inl ⟨by rfl,?h5⟩) (by assumption) ?r5
     case h5=>intro w a;(try dsimp only at a);go_simp <;> with_reducible rfl
     change wpAnyH _ _ _ _ _ _ _ (Act.put _ (some 37) _) _
     simp only[Act.put,XA,XC,XD];refine wpAnyH_ready (rs:=[6]) (by kernel_rfl) (by simp) ?_;refine AllReadyH.cons rfl (λK hK=>?_) AllReadyH.nil;go_simp
     go_at_call 7
     refine(bg.o _).mono ?_;rintro e w3⟨rfl,a5⟩;have ao:=Ap b0.o a5;clear a5;refine hK.o _ _ (ai.o _ (Ap a9.o ao)) (λhHeld=>?_);clear hK K;refine wpAnyH_ready (rs:=[7]) (by kernel_rfl) (by simp) ?_;refine AllReadyH.cons rfl (λK hK=>?_) AllReadyH.nil;go_simp
     go_at_call 6
     refine(ba.o _ ao).mono ?_;rintro e w4⟨er,rfl,cd⟩;obtain⟨m',D',bp,ar,bq,H',aw,cn,cm,av⟩:=cd.o;have ax:=aw.base.low;have ag:=Aa aw;have aj:=Aa ((bn.o.up ao).only (HI.o.up ao).base.bu cn);have ae:=Aa (al.o.kept cm);have dv:=aw.Iz;clear aw cn cm cd;refine hK.o _ _ (ai.o _ (Ap I.o ax)) (λhHeld=>?_);clear hK K
     rcases av with⟨rfl,av⟩|⟨T,y,rfl,rfl⟩
     ·refine wpAnyH_take (i:=8) (v:=?v8) rfl (by kernel_rfl) (by kernel_rfl) (by kernel_rfl) (λ_ _ _ h=>h) (Or.inl ⟨by rfl,?h8⟩) (by assumption) ?r8
      case h8=>intro w a;(try dsimp only at a);go_simp <;> with_reducible rfl
      change wpAnyH _ _ _ _ _ _ _ (Act.put _ (some 40) _) _
      simp only[Act.put,XA,XC,XD];refine wpAnyH_take (i:=9) (v:=?v9) rfl (by kernel_rfl) (by kernel_rfl) (by kernel_rfl) (λ_ _ _ h=>h) (Or.inl ⟨by rfl,?h9⟩) (by assumption) ?r9
      case h9=>intro w a;(try dsimp only at a);go_simp <;> with_reducible rfl
      change wpAnyH _ _ _ _ _ _ _ (Act.put _ (some 41) _) _
      simp only[Act.put,XA,XC,XD];refine wpAnyH_take (i:=10) (v:=?v10) rfl (by kernel_rfl) (by kernel_rfl) (by kernel_rfl) (λ_ _ _ h=>h) (Or.inl ⟨by rfl,?h10⟩) (by assumption) ?r10
      case h10=>intro w a;(try dsimp only at a);go_simp <;> with_reducible rfl
      change wpAnyH _ _ _ _ _ _ _ (Act.put _ (some 42) _) _
      simp only[Act.put,XA,XC,XD];refine wpAnyH_take (i:=12) (v:=?v12) rfl (by kernel_rfl) (by kernel_rfl) (by kernel_rfl) (λ_ _ _ h=>h) (Or.inl ⟨by rfl,?h12⟩) (by assumption) ?r12
      case h12=>intro w a;(try dsimp only at a);go_simp <;> with_reducible rfl
      change wpAnyH _ _ _ _ _ _ _ (Act.put _ (some 44) _) _
      simp only[Act.put,XA,XC,XD];refine wpAnyH_take (i:=13) (v:=?v13) rfl (by kernel_rfl) (by kernel_rfl) (by kernel_rfl) (λ_ _ _ h=>h) (Or.inl ⟨by rfl,?h13⟩) (by assumption) ?r13
      case h13=>intro w a;(try dsimp only at a);go_simp <;> with_reducible rfl
      change wpAnyH _ _ _ _ _ _ _ (Act.put _ (some 45) _) _
      simp only[Act.put,XA,XC,XD];refine wpAnyH_take (i:=14) (v:=?v14) rfl (by kernel_rfl) (by kernel_rfl) (by kernel_rfl) (λ_ _ _ h=>h) (Or.inl ⟨by rfl,?h14⟩) (by assumption) ?r14
      case h14=>intro w a;(try dsimp only at a);go_simp <;> with_reducible rfl
      change wpAnyH _ _ _ _ _ _ _ (Act.put _ (some 46) _) _
      simp only[Act.put,XA,XC,XD];have cf:=Aa (qQ t.1.size m' D' ar H' w4 ag.o.base.ground ag.o.inv.Lm ag.o.inv.past (by omega));refine wpAnyH_ready (rs:=[11]) (by kernel_rfl) (by simp) ?_;refine AllReadyH.cons rfl (λK hK=>?_) AllReadyH.nil;go_simp
      go_at_call 8
      apply cf.o.mono;rintro e w5⟨rfl,ay⟩;refine hK.o _ _ (ai.o _ (Ap I.o (Ap ax ay))) (λhHeld=>?_);have G:=Aa (ag.o.up ay);have ak:=Aa (aj.o.up ay);clear hK K;refine wpAnyH_take (i:=15) (v:=?v15) rfl (by kernel_rfl) (by kernel_rfl) (by kernel_rfl) (λ_ _ _ h=>h) (Or.inl ⟨by rfl,?h15⟩) (by assumption) ?r15
      case h15=>intro w a;(try dsimp only at a);go_simp <;> with_reducible rfl
      change wpAnyH _ _ _ _ _ _ _ (Act.put _ (some 47) _) _
      simp only[Act.put,XA,XC,XD];refine wpAnyH_take (i:=16) (v:=?v16) rfl (by kernel_rfl) (by kernel_rfl) (by kernel_rfl) (λ_ _ _ h=>h) (Or.inl ⟨by rfl,?h16⟩) (by assumption) ?r16
      case h16=>intro w a;(try dsimp only at a);go_simp <;> with_reducible rfl
      change wpAnyH _ _ _ _ _ _ _ (Act.put _ (some 48) _) _
      simp only[Act.put,XA,XC,XD];refine wpAnyH_done (by kernel_rfl) ?_ _
      have N:Hid (if ((H'.length:Int) != (H.length:Int)+1)=true then H'=H else ∃c,H'=H++[c]):=by
       rcases av with e1|⟨c,e1⟩
       ·rw[e1,A2 (by simp;omega)]
        exact Aa rfl
       rw[e1,A1 (by simp)];exact Aa ⟨c,rfl⟩
      clear hHeld ai ba bg cf ay ax ao ag aj cx av;cases hb:((H'.length:Int) != (H.length:Int)+1) with
      | true=>rw[hb,A2 rfl] at N;go_wp2;have e1:H'=H:=N.o;subst e1;exact⟨⟨i+1,m',D',bp,ar,bq,_,ka,kc,RW,by omega,by go_num,rfl,G,ae,ak⟩,by simp[intOf];omega⟩
      | false=>
        rw[hb,A1 (by decide)] at N;go_wp2_with fail;clear hb;obtain⟨c,e1⟩:=N.o;clear N;subst e1;have el:(H++[c]).length=H.length+1:=by simp
        obtain⟨ys,d⟩:=G.o.inv.wU (H++[c]).length (XF _);rw[el] at d;have du:H.length+1<=30:=by have:=G.o.Iz;rw[el] at this;omega
        have z:=Aa (ABH t.1.size m' D' ar (H++[c]) (-1) (H.length+1) ys w5 G.o.base.ground (n.o.2.2.2.1.below G.o.base.low) (n.o.2.2.2.2.below G.o.base.low) G.o.inv.Lm G.o.inv.past (by rw[el];omega) (by rw[el];exact XF _) (.inl ⟨by omega,el.symm⟩) d.Lz);have ck:=Aa (ae.o.snoc c d);have a4:RW.length=H.length:=ae.o.1;clear d;generalize Fc (Ae (H++[c]) (H.length+1)).qz ys=R at *;apply z.o.mono;rintro e w6⟨v6,rfl,s,L⟩;obtain⟨c3,c4,rfl,_⟩:=s.slr.slice;have c8:=Aa (Sc.base s (XE _));have b4:=Aa (G.o.up L);obtain⟨vs,o1,o2,o3⟩:=ak.o.up L;have c6:=Aa o1;have bh:=Aa o2;have c7:=Aa o3;have U:Hid (Zb w6 (w6.alloc (Zk #[Zs c3 R.length c4] 35))):=Aa (Zal);have cw:t.1.size<=w6.1.size:=b4.o.base.low.size;have b9:=Aa a4;clear o1 o2 o3 s L z G ak a4 el
        go_wp2_with (first
         | (at_builtin;refine wpList_append_own _ rfl _ _ 30 rfl t.1.size 35 iC (.slice none 0 0) 1 24 underlying30 au.o.1 au.o.2.1 au.o.2.2.1 au.o.2.2.2 rfl (by decide) (.slice ka H.length kc) H.length vs rfl (by have q:=E.Ad bh.o U.o;rw[b9.o] at q;exact q) (Zd w6.1.size 0) 1 1 [.slice c3 R.length c4] rfl rfl (λj u hj=>XL (Yad _ _) j u hj) (by intro u hu;simp at hu;subst hu;rfl) (by unfold maxLen;omega) (by omega) (XH cw U.o.size) ?_
            intro v7 w7 ad cs _;obtain⟨a',c',rfl,_⟩:=Au ad;have c9:=Aa ad;have b3:=Aa cs;clear ad cs))
        refine⟨⟨i+1,m',D',bp,ar,bq,H++[c],a',c',RW++[R],by omega,by go_num,by rw[XQ];rfl,Aa ((b4.o.up U.o).row (E.Ad bh.o U.o) (XF _) b3.o),ck,Aa ?_⟩,by simp[intOf];omega⟩;rw[XQ];exact ALN.snoc c6.o (E.Ad bh.o U.o) (λj x R hx hR=>(c7.o j x R hx hR).up U.o) (c8.o.up U.o) b3.o (by rw[b9.o];exact c9.o)
     have df:∀w,(binOp .neq 32 (Zf T y) Zn).run prog w=.ok (Zo true) w:=λw=>by kernel_rfl
     refine wpAnyH_take (i:=8) (v:=?y8) rfl (by kernel_rfl) (by kernel_rfl) (by kernel_rfl) (λ_ _ _ h=>h) (Or.inl ⟨by rfl,?z8⟩) (by assumption) ?u8
     case z8=>intro w a;(try dsimp only at a);go_simp <;> with_reducible rfl
     change wpAnyH _ _ _ _ _ _ _ (Act.put _ (some 40) _) _
     simp only[Act.put,XA,XC,XD];refine wpAnyH_take (i:=9) (v:=?y9) rfl (by kernel_rfl) (by kernel_rfl) (by kernel_rfl) (λ_ _ _ h=>h) (Or.inl ⟨by rfl,?z9⟩) (by assumption) ?u9
     case z9=>intro w a;(try dsimp only at a);go_simp <;> with_reducible rfl
     change wpAnyH _ _ _ _ _ _ _ (Act.put _ (some 41) _) _
     simp only[Act.put,XA,XC,XD];refine wpAnyH_take (i:=10) (v:=undef) rfl (by kernel_rfl) (by kernel_rfl) (by kernel_rfl) (λ_ _ _ h=>h) (Or.inr ⟨by rfl,rfl⟩) (by assumption) ?_
     change wpAnyH _ _ _ _ _ _ _ (Act.put _ (some 42) _) _
     simp only[Act.put,XA,XC,XD];refine wpAnyH_take (i:=11) (v:=undef) rfl (by kernel_rfl) (by kernel_rfl) (by kernel_rfl) (λ_ _ _ h=>h) (Or.inr ⟨by rfl,rfl⟩) (by assumption) ?_
     change wpAnyH _ _ _ _ _ _ _ (Act.put _ (some 43) _) _
     simp only[Act.put,XA,XC,XD];refine wpAnyH_take (i:=12) (v:=undef) rfl (by kernel_rfl) (by kernel_rfl) (by kernel_rfl) (λ_ _ _ h=>h) (Or.inr ⟨by rfl,rfl⟩) (by assumption) ?_
     change wpAnyH _ _ _ _ _ _ _ (Act.put _ (some 44) _) _
     simp only[Act.put,XA,XC,XD];refine wpAnyH_take (i:=13) (v:=undef) rfl (by kernel_rfl) (by kernel_rfl) (by kernel_rfl) (λ_ _ _ h=>h) (Or.inr ⟨by rfl,rfl⟩) (by assumption) ?_
     change wpAnyH _ _ _ _ _ _ _ (Act.put _ (some 45) _) _
     simp only[Act.put,XA,XC,XD];refine wpAnyH_take (i:=14) (v:=undef) rfl (by kernel_rfl) (by kernel_rfl) (by kernel_rfl) (λ_ _ _ h=>h) (Or.inr ⟨by rfl,rfl⟩) (by assumption) ?_
     change wpAnyH _ _ _ _ _ _ _ (Act.put _ (some 46) _) _
     simp only[Act.put,XA,XC,XD];refine wpAnyH_take (i:=15) (v:=undef) rfl (by kernel_rfl) (by kernel_rfl) (by kernel_rfl) (λ_ _ _ h=>h) (Or.inr ⟨by rfl,rfl⟩) (by assumption) ?_
     change wpAnyH _ _ _ _ _ _ _ (Act.put _ (some 47) _) _
     simp only[Act.put,XA,XC,XD];refine wpAnyH_take (i:=16) (v:=?y16) rfl (by kernel_rfl) (by kernel_rfl) (by kernel_rfl) (λ_ _ _ h=>h) (Or.inl ⟨by rfl,?z16⟩) (by assumption) ?u16
     case z16=>intro w a;(try dsimp only at a);go_simp <;> with_reducible rfl
     change wpAnyH _ _ _ _ _ _ _ (Act.put _ (some 48) _) _
     simp only[Act.put,XA,XC,XD];refine wpAnyH_done (by kernel_rfl) ?_ _;clear hHeld ai ba bg df ax cx;go_wp2;exact⟨⟨i+1,m',D',bp,ar,bq,_,ka,kc,RW,by omega,by go_num,rfl,ag,ae,aj⟩,by simp[intOf];omega⟩
    have dl:¬(i:Int)<(l.length:Int):=by omega
    have d2:H.length<=30:=by have:=HI.o.Iz;omega
    have dw:i<=30:=by omega
    have dx:m<=3000:=by have:=HI.o.AFx;omega
    obtain⟨wA,dn⟩:∃W,W=wr:=⟨_,rfl⟩;subst dn;have bc:=Aa HI.o;have bo:=Aa bn.o;have cl:=Aa al.o;have bb:=Aa HI.o.inv.wU;have b6:Hid (∀k,k<H.length->∃R,RW[k]? = some R):=Aa λk hk=>⟨_,Y' (by rw[al.o.1];exact hk)⟩
    have a0:Hid (∀(j:Nat)R,RW[j]? = some R->j<H.length->R.length<=2400/\∀r∈R,r.length<=1000):=Aa λj R hR hj=>by obtain⟨ys,d,ab⟩:=al.o.2 j R hR;rw[ab];exact ANA d (Jb HI.o.inv.past (i:=j+1) (by omega)).1
    clear HI bn al HL HR b2;go_wp2_with fail
    go_loopw [10] (λvi wn=>∃j:Nat,j<=H.length/\vi=Zi (j:Int)/\Hid (Zb wA wn)) (λvi _=>H.length-(intOf vi).toNat)
    case atStart=>exact⟨0,XE _,rfl,Aa (XG _ _)⟩
    case round=>
     obtain⟨j,hj,rfl,J⟩:=hrel
     by_cases hjl:j<H.length
     ·have bs:(j:Int)<(H.length:Int):=by omega
      obtain⟨R,hR⟩:=b6.o j hjl;have aa:=Aa hR;obtain⟨ys,d,ab⟩:=cl.o.2 j R hR;have o:=bc.o.up J.o;have z:=Aa (ABH t.1.size m D mv H ((j:Int)+1) (j+1) ys wr o.base.ground (n.o.2.2.2.1.below o.base.low) (n.o.2.2.2.2.below o.base.low) o.inv.Lm o.inv.past (by omega) (by omega) (.inr rfl) d.Lz);rw[<-ab] at z;clear hR d ab o ys;go_wp2_with fail;apply z.o.mono;rintro e w6⟨v6,rfl,s,L⟩;obtain⟨ra,rc,rfl,_⟩:=s.slr.slice;have X:=Aa (Ap J.o L);obtain⟨g,xa,xc,bt,_,ac,hX⟩:=(bo.o.up X.o).at aa.o;subst bt;obtain⟨bw,aq⟩:=a0.o j R aa.o hjl;have O:=Aa (ACk (Zs ra R.length rc) (Zs xa R.length xc) R w6 s.slr hX.slr (by omega) aq);have dk:(0:Int)<=(j:Int):=by omega
      clear s L hX z aa bw aq;go_wp2_with fail;apply O.o.mono;rintro e w7⟨rfl,ap⟩;have a8:=Aa (Ap X.o ap);clear ap O X ac;go_wp2;exact⟨⟨j+1,by omega,by go_num,a8⟩,by simp[intOf];omega⟩
     have bs:¬(j:Int)<(H.length:Int):=by omega
     obtain⟨wB,dp⟩:∃W,W=wr:=⟨_,rfl⟩;subst dp;have bj:=Aa (ANn from_ (H.length+1) (by omega) (by omega) wB);simp only[Int.natCast_add,Int.natCast_one] at bj;have ah:=Aa (bc.o.up J.o);have cj:=Aa (bo.o.up J.o);clear bc bo J;go_wp2_with fail;apply bj.o.mono;rintro e w8⟨f,hf,rfl,d6⟩;subst w8;have b5:=Aa (λW=>tC ⟨#[]⟩ W (by decide));have bd:=Aa (B.AMv t.1.size m D mv (Eh ⟨#[]⟩) wB ah.o.base.ground.c0 ah.o.base.ground.th (by omega));have d3:=AJf ah.o.base.ground.th (Eh ⟨#[]⟩);have da:=Aa ah.o.base.ground.th.tidy;unfold B.AMC at bd;clear bj;go_wp2_with fail;refine(b5.o _).mono ?_;rintro e w9⟨rfl,d7⟩;subst w9;go_wp2_with fail;apply bd.o.mono;rintro e w9⟨v9,rfl,cv,br⟩;obtain⟨d9,eb,rfl⟩:=ANr cv;have Y:=Aa (ah.o.up br);have ci:=Aa (cj.o.up br);have bl:=Aa (AMW t t.1.size m D fs mv fv H f w9 Y.o.base Y.o.inv.Lm Y.o.inv.past (by omega) (AMP bb.o) (by omega));unfold AON at bl;clear cv br bd ah cj;go_wp2_with fail;apply bl.o.mono;rintro e ds⟨ks,ct,bv,rfl,af,a3⟩;have am:∀p∈ks,Maps.has D (B.lit (Eh p))=true:=λp hp=>AOD bb.o ((bv p).1 hp)
     have cr:=AMo ks da.o ct am;rw[<-ANy am] at cr;have a1:=Aa (ci.o.only Y.o.base.bu a3);have bz:=Aa af;have O:=Aa bv;have b7:=Aa (ANN Y.o.inv.Lm ks);have b8:=Aa Y.o.inv.past;have bf:=Aa (B.AMv t.1.size m (ALM D ks) mv (Eh ⟨#[]⟩) ds af.ground.c0 af.ground.th (by omega));unfold B.AMC at bf;clear ct bv am af a3 bl ci Y;generalize dg:iH D (Eh ⟨#[]⟩)=cA at *;generalize dh:ALj D ks=cB at *;generalize cq:iH (ALM D ks) (Eh ⟨#[]⟩)=cC at *;have d8:IntKind.i64.wrap ((cA:Int)-(cB:Int))=(cA:Int)-(cB:Int):=by rw[IntKind.wrap_i64];omega
     have d4:(cC:Int)=(cA:Int)-(cB:Int):=by omega
     have N:=Aa cq;clear dg dh cq cr;go_wp2_with fail;refine(b5.o _).mono ?_;rintro e bx⟨rfl,dy⟩;subst bx;go_wp2_with fail;apply bf.o.mono;rintro e bx⟨ec,rfl,a7,an⟩;obtain⟨dz,d0,rfl⟩:=ANr a7;rw[N.o];have az:=Aa (bz.o.up an);have cg:=Aa (a1.o.up an);clear a7 an bf bz a1 N;obtain⟨g0,dj⟩:∃g0:Nat,g0=f-1:=⟨_,rfl⟩;have dm:max ((f:Int)-1) 0=(g0:Int):=by omega
     have dq:IntKind.i64.wrap ((f:Int)-1)=(f:Int)-1:=by rw[IntKind.wrap_i64];omega
     go_wp2_with fail
     go_loopw [16] (λvi wn=>∃j:Nat,f<=j+1/\j<=H.length/\vi=Zi (j:Int)/\Hid (Zb bx wn)) (λvi _=>H.length-(intOf vi).toNat)
     case atStart=>exact⟨g0,by omega,by omega,by rw[dj],Aa (XG _ _)⟩
     case round=>
      obtain⟨j,di,hj,rfl,J⟩:=hrel
      by_cases hjl:j<H.length
      ·have bs:(j:Int)<(H.length:Int):=by omega
       obtain⟨R,hR⟩:=b6.o j hjl;have aa:=Aa hR;obtain⟨ys,d,ab⟩:=cl.o.2 j R hR;have o:=az.o.up J.o;have z:=Aa (ABH t.1.size m (ALM D ks) mv H ((j:Int)+1) (j+1) ys wr o.ground (n.o.2.2.2.1.below o.low) (n.o.2.2.2.2.below o.low) b7.o b8.o (by omega) (by omega) (.inr rfl) (ANw d.Lz λp hp=>((O.o p).1 hp).2 (j+1) di (by omega)));rw[<-ab] at z;clear hR d ab o ys;go_wp2_with fail;apply z.o.mono;rintro e dt⟨v6,rfl,s,L⟩;obtain⟨ra,rc,rfl,_⟩:=s.slr.slice;have X:=Aa (Ap J.o L);obtain⟨g,xa,xc,bt,_,ac,hX⟩:=(cg.o.up X.o).at aa.o;subst bt;obtain⟨bw,aq⟩:=a0.o j R aa.o hjl;have O:=Aa (ACk (Zs ra R.length rc) (Zs xa R.length xc) R dt s.slr hX.slr (by omega) aq);have dk:(0:Int)<=(j:Int):=by omega
       clear s L hX z aa bw aq;go_wp2_with fail;apply O.o.mono;rintro e w7⟨rfl,ap⟩;have a8:=Aa (Ap X.o ap);clear ap O X ac;go_wp2;exact⟨⟨j+1,by omega,by omega,by go_num,a8⟩,by simp[intOf];omega⟩
      have bs:¬(j:Int)<(H.length:Int):=by omega
      have bm:=Aa (AMW t t.1.size m (ALM D ks) fs mv fv H f wr (az.o.up J.o) b7.o b8.o (by omega) (AMP bb.o) (by omega));unfold AON at bm;clear dm dq;go_wp2_with fail;apply bm.o.mono;rintro e ed⟨dr,_,a6,rfl,a2,_⟩;have h0:ALj (ALM D ks) dr=0:=ANV λp hp=>AMf ks D ((O.o p).2 ((a6 p).1 hp))
      have HF:=Aa (Ap I.o a2.low);rw[h0];clear a6 a2 bm h0;go_wp2;go_ret;exact⟨rfl,HF.o⟩
variable{W w:Tw}{n:Nat}{u v:Tv}
attribute [local go_sem] Oper.semAt_some
theorem one_cell{b:Nat}{x:Tv}{T:TypeId}(h:W.1[b]? = some (Zk #[x] T)):W.cell? (Zd b 0)=some x:=by simp[World.cell?,h]
theorem Dv.far{base:Nat}{w:Tw}{n:Nat}{s:Ah}{v:Int}{f:To}{n1 c1:Nat}{y:Int}{g:To}{n2 k:Nat}{p:Tb}{D:Bool}{j:To}{i:Nat}{L:List Gx}{qj:Int}{W:Tw}{b:Nat}{cs:Array Tv}{t:TypeId}(h:Dv base w n s v f n1 c1 y g n2 k p D j i L qj)(a:w.1[b]? = some (Zk cs t (0,0)))(o:w.grownBy W (some b))(O:t≠112)(P:t≠144)(R:t≠59)(U:t≠122)(V:t≠3):Dv base W n s v f n1 c1 y g n2 k p D j i L qj:=by
 have c:∀{l z m:Nat}{T:TypeId}{u:Tv}{xs:List Tv},w.ownsRow l T z u m xs->t≠T->W.ownsRow l T z u m xs:=λY X=>Mk Y a X o
 refine⟨(o.block n (Ac h.box) ?_).trans h.box,?_,c h.row P,λq r=>⟨c (h.own q r).1 (by assumption),c (h.own q r).2 (by assumption)⟩,h.Vv,h.low⟩
 ·intro e
  injection e with e;subst e;rw[h.box] at a;injection a with a;injection a with _ a;exact O a.symm
 obtain⟨I,M,J,N,G,e,d⟩:=h.snap;exact⟨I,M,J,N,G,e,c d.qz R,d.qx,c d.row U,λx hx=>c (d.Cl x hx) V⟩
theorem AGq{P:Program}{c:Code}{K:Act->Tw->Prop}{Q:Exit->Act->Tw->Prop}{a:Act}(h:c.wp P (Exit.then K (λ_ _ _=>False)) a w):c.wp P (Exit.then K Q) a w :=
 wp_mono h λe _ _ q=>by
  cases e with
  | normal=>exact q
  | _=>exact q.elim
theorem AKh{b:Nat}{u f a e c d j g:Tv}{t:TypeId}(h:W.1[b]? = some (Zk #[u,f,a,e,c,d,j,g] t (0,0)))(v:Tv):(W.setCell (Zd b 6) v).heap[b]? = some (Zk #[u,f,a,e,c,d,v,g] t (0,0)):=by have i:=As W b 6 _ _ v h;simpa using i
theorem Dv.Bz{base:Nat}{s:Ah}{v:Int}{l:To}{n1 c1:Nat}{y:Int}{o:To}{n2 k:Nat}{t:Tb}{r:Bool}{G:To}{i:Nat}{L:List Gx}{qj:Int}{g m c:Nat}{a:List Gx}(h:Dv base w n s v l n1 c1 y o n2 k t r G i L qj)(V:w.ownsRow base 144 6 (Zs (some (Zd g 0)) m c) m (Ci a))(U:m=a.length)(p:∀q∈a,pC 0 w q)(P:∀q∈a,pM q.1):Dv base (w.setCell (Zd n 6) (Zs (some (Zd g 0)) m c)) n s v l n1 c1 y o n2 k t r (some (Zd g 0)) c a qj:=by
 subst U;have R:=E.Ar w n 6 (Zs (some (Zd g 0)) a.length c);have d:∀{b z m:Nat}{T:TypeId}{u:Tv}{xs:List Tv},w.ownsRow b T z u m xs->T≠112->(w.setCell (Zd n 6) (Zs (some (Zd g 0)) a.length c)).ownsRow b T z u m xs:=λW O=>Mk W h.box (λe=>O e.symm) R
 refine⟨AKh h.box _,?_,d V (by decide),λq f=>⟨d (p q f).1 (by decide),d (p q f).2 (by decide)⟩,P,h.low⟩;obtain⟨I,M,J,N,D,e,j⟩:=h.snap;exact⟨I,M,J,N,D,e,d j.qz (by decide),j.qx,d j.row (by decide),λx X=>d (j.Cl x X) (by decide)⟩
theorem AEx(h:w.cell? (Zd n 3)=some u):(w.setCell (Zd n 6) v).cell? (Zd n 3)=some u:=by rw[YO _ _ _ _ (by simp)];exact h
theorem Ei{n b:Nat}(a:b≠n)(h:w.cell? (Zd b 0)=some u):(w.setCell (Zd n 6) v).cell? (Zd b 0)=some u:=by rw[World.cell?_setCell_far _ _ _ _ (Ne.symm a)];exact h
def ldA:Oper:={ dst:=some 52,op:=Op.load 108 (Operand.tmp 51),type:=108,pos := "rows.go:83",after:=#[{ on:=10,ground:=Ground.data }],guard:=none }
theorem AGS:ldA={ dst:=some 52,op:=Op.load 108 (Operand.tmp 51),type:=108,pos := "rows.go:83",after:=#[{ on:=10,ground:=Ground.data }],guard:=none }:=rfl
theorem rK(w0:Tw)(NF bb n:Nat)(D:Td)(fs:List Int)(mv fv:Tv)(H:List (Dn×Ah))(U:List Tb)(tx:Tb)(xs:List A6)(w:Tw)(h:iK w0 w NF bb n D fs mv fv H U tx)(hT:C7 D (Ae H H.length) xs):
 Zc 43 #[Zp (some (Zd bb 0)),Zt tx] w (Kd w0 w NF bb n D mv H tx (AMN (Ae H H.length) NF) (AEz D (Ae H H.length) xs tx)):=by
 have O:=Aa h;have HT:=Aa hT;obtain⟨es,hX,hY,hZ,bp⟩:=Jl w (Zk #[Zp (some (Zd bb 0))] 25) (Zk #[Zp none] 64) (Zk #[Zn] 32);have h3:=h.up bp;have a6:=Aa (Wo bb n D mv H tx xs .nil (Zp none) _ h3.base.ground (h3.et.below h3.base.low) (h3.Pw.below h3.base.low) h3.inv.Lm h3.inv.past h3.O5 h3.name h3.short hT.Lz rfl);have bh:=aN hT h.Of .nil;have ed:=h.Of.Iz;have a5:=Aa bp;have HX:=Aa (And.intro hX (And.intro hY hZ));have ag:=Aa h3;clear h hT h3 hX hY hZ bp;unfold tK at a6;generalize de:Ae H H.length=l at *;have ao:=Aa de;clear de;refine(callsIn_wide (n:=5)).1 ?_;refine callsIn_of_wp_marks func43 rfl trivial ?_ rfl;simp only[ntmps43,XT,XW,WY,Nat.reduceAdd,Nat.reduceSub,WI,WJ,WT,WM,WZ,WW];refine wpIn_wide.2 ?_;go_wp2_with fail;generalize ((w.alloc (Zk #[Zp (some (Zd bb 0))] 25)).alloc (Zk #[Zp none] 64)).alloc (Zk #[Zn] 32)=W3 at *;apply a6.o.mono;rintro e w1⟨ap,⟨hc,rfl⟩|⟨hc,d5,rfl⟩|⟨hc,hz,g,v1,a1,n1,c1,x2,a2,n2,c2,rfl,hP,hF⟩⟩
 ·have r1:=(ap.block (w.1.size+1) (by omega)).trans HX.o.2.1
  have r2:=(ap.block (w.1.size+2) (by omega)).trans HX.o.2.2;have b9:=Aa (Ap a5.o ap);have hA:Zb w1 (w1.alloc (Zk #[Zp none] 64)):=Zal;have HA:=Aa hA;have dh:=(hA.block _ (Ac r1)).trans r1;have bg:=(hA.block _ (Ac r2)).trans r2;have f1:=one_cell dh;have f2:=one_cell bg;have g1:=Yag _ (w.1.size+1) 0 _ _ dh;have g2:=Yag _ (w.1.size+2) 0 _ _ bg;have dk:=Aa hc;clear hc ap a6 hA r1 r2;go_wp2;refine⟨Zu #[Zp none,Zf 107 (Zi 6)],by simp[results,results43,go_sem,f1,f2],?_⟩;have a0:=((Ap b9.o HA.o).setCell (p:=Zd (w.1.size+1) 0) (W1 _) (Zp none)).setCell (p:=Zd (w.1.size+2) 0) (by show w.1.size<=w.1.size+2;omega) (Zf 107 (Zi 6));exact⟨n,D,fs,mv,fv,O.o.base.up a0,by omega,B.A0.Ba a0,λ_ e=>.inl e,.refl,.inr ⟨_,_,.inl ⟨dk.o,rfl⟩,rfl⟩⟩
 ·exact absurd (dB _) d5
 have b9:=Aa ap;have HC:=Aa hc;have HP:=Aa hP;have HF:=Aa hF
 obtain⟨fa,fc,rfl,_⟩:∃a c,v1=Zs a (Bo l.qz .nil xs).1.length c/\(Bo l.qz .nil xs).1.length<=c:=by obtain⟨zs,_,e2,_⟩:=hF;exact Au e2
 have hA:Zb w1 (w1.alloc (Zk #[Zp (some (Zd g 0))] 64)):=Zal;have HA:=Aa hA;have b0:=Yad w1 (Zk #[Zp (some (Zd g 0))] 64);have N:=Aa b0;have p0:=one_cell b0;have cp:=Aa (hP.up hA);obtain⟨y0,y1,y2,y3,y4,y5,y6,y7,yf⟩:=F2 (hP.up hA).box;have a8:=Aa (nW l (H.length:Int) a1 n1 c1 x2 a2 n2 c2 (Bo l.qz .nil xs).1.length _ (hP.up hA).snap (by omega) (by omega));have ds:Hid (Zb W3 (w1.alloc (Zk #[Zp (some (Zd g 0))] 64))):=Aa (Ap ap hA);clear ap hc hz hP hF a6 hA b0;generalize c9:(Bo l.qz .nil xs).1.length=m at *;have aw:=Aa c9;clear c9;go_wp2_with fail;apply a8.o.mono;rintro e w6⟨q,rfl,hq,bd⟩;have HQ:=Aa hq;have M:=Aa bd;have ax:=Aa (Ap ds.o bd);have p6:=Ag bd p0;clear bd hq a8 y0 y1 y2 y3 y4 y5 y6 y7 yf p0;cases q with
 | true=>have a8:=Aa (HQ.o.1 rfl);clear HQ;have r1:=(ax.o.block (w.1.size+1) (by omega)).trans HX.o.2.1;have r2:=(ax.o.block (w.1.size+2) (by omega)).trans HX.o.2.2;have f1:=one_cell r1;have f2:=one_cell r2;have g1:=Yag w6 (w.1.size+1) 0 _ _ r1;have g2:=Yag w6 (w.1.size+2) 0 _ _ r2;go_wp2;refine⟨Zu #[Zp (some (Zd g 0)),Zn],by simp[results,results43,go_sem,f1,f2],?_⟩;have a0:Zb w ((w6.setCell (Zd (w.1.size+1) 0) (Zp (some (Zd g 0)))).setCell (Zd (w.1.size+2) 0) Zn):=((Ap a5.o ax.o).setCell (p:=Zd (w.1.size+1) 0) (W1 _) _).setCell (p:=Zd (w.1.size+2) 0) (by show w.1.size<=w.1.size+2;omega) _;have q1:=(cp.o.up M.o).far r1 (E.Ar w6 (w.1.size+1) 0 (Zp (some (Zd g 0)))) (by decide) (by decide) (by decide) (by decide) (by decide);have bg:=((E.Ar w6 (w.1.size+1) 0 (Zp (some (Zd g 0)))).block (w.1.size+2) (Ac r2) (by simp)).trans r2;have q2:=q1.far bg (E.Ar _ (w.1.size+2) 0 Zn) (by decide) (by decide) (by decide) (by decide) (by decide);exact⟨n,D,fs,mv,fv,O.o.base.up a0,by omega,B.A0.Ba a0,λ_ e=>.inl e,.refl,.inl ⟨g,[],true,(m:Int),a1,n1,c1,x2,a2,n2,c2,none,0,rfl,by rw[ao.o];exact⟨q2.box,q2.snap,E.Ai q2.row (by omega),q2.own,q2.Vv,by have:=q2.low;omega⟩,HC.o,rfl,(by rw[aw.o]),.inl ⟨(by rw[aw.o];exact a8.o),rfl,rfl⟩⟩⟩
 | false=>
   have ck:Hid (¬Tog l m):=Aa (λh=>by cases HQ.o.2 h);clear HQ;obtain⟨R,hR⟩:∃R,R=Fc l.qz xs:=⟨_,rfl⟩
   have dn:Hid (∀k,k<n60 R.length->De l.qz (Gg R k)=true):=Aa (λk hk=>by have ae:=O.o.Of;have d7:=O.o.inv.next H.length (XF _);have O5:=O.o.O5;rw[ao.o] at ae d7;refine ALD (ALu (ae.qz.resolve_left HC.o) (by show _<=(1099511627777:Int);omega)) (λr hr=>?_) (List.mem_map.2 ⟨k,List.mem_range.2 hk,rfl⟩);rw[hR] at hr;exact HT.o.right (sM ae) r hr)
   have dw:R.length=m:=by rw[hR];unfold Fc;rw[XB];exact aw.o
   have cr:=Aa (X7 W3.1.size W3.1.size (Zs fa m fc) (Bo l.qz .nil xs).1 w6 ((HF.o.up HA.o).up M.o) (by rw[aw.o];omega));have HR:=Aa hR;clear hR;subst dw;go_wp2_with fail;apply cr.o.mono;rintro e w7⟨v7,rfl,hJ,c6⟩;have bw:Sc w6.1.size w7 v7 R:=by rw[HR.o];exact hJ.o
   have c3:=bw.slr;obtain⟨ra,rc,rfl,d8⟩:=c3.slice;have cn:=Aa bw;have av:=Aa c6;have cc:=Aa (qS ra R.length rc w7);clear cr hJ c6 bw c3;go_wp2_with fail;apply cc.o.mono;rintro e w8⟨rfl,rfl⟩;clear cc;obtain⟨ew,c4,cy,bx⟩:=Kt w7 (Zk #[Zs ra R.length rc] 35) (Zk #[Zi 60] 3);have u:=Aa (Ap (Ap ax.o av.o) bx);go_wp2_with fail;generalize (w7.alloc (Zk #[Zs ra R.length rc] 35)).alloc (Zk #[Zi 60] 3)=W9 at *
   have cs:Hid (∀r∈R,∀v∈r,Ks v/\v.2.2.size<=40):=Aa (λr hr v hv=>by rw[HR.o] at hr;obtain⟨z,hz,rfl⟩:=List.mem_map.1 hr;exact No HT.o (by rw[<-ao.o];exact O.o.Of) (by rw[<-ao.o];exact Mq O.o.inv.past (XF _)) z hz v hv)
   obtain⟨k0,d2,el⟩:=AGz O.o (by rw[ao.o];exact HC.o);subst d2;have ev:=av.o.size;have eu:=ax.o.size;have ai:=Aa bx;have d1:W9.cell? (Zd w7.1.size 0)=some (Zs ra R.length rc):=one_cell c4;have dz:W9.cell? (Zd (w7.1.size+1) 0)=some (Zi 60):=one_cell cy
   obtain⟨rb,ro,dd⟩:∃rb ro,0<R.length->ra=some (Zd rb ro):=by
    by_cases h0:0<R.length
    ·obtain⟨vs,ea,ex,ey⟩:=cn.o.slr
     obtain⟨rb,ro,e3,er,_,_,_⟩:=ea.cons (by omega);injection er with du _ _;exact⟨rb,ro,λ_=>du⟩
    exact⟨0,0,λh=>absurd h h0⟩
   have dr:=Aa (((cp.o.up M.o).up av.o).up ai.o);have b:=Aa (ag.o.base.up u.o);clear bx;refine(wpIn_wide (n:=5)).1 ?_
   refine wpIn_rangeFunc_ownG (w0:=W9) rfl (by decide) (gf:=119) (lb:=#[Zp (some (Zd w7.1.size 0)),Zp (some (Zd (w7.1.size+1) 0))]) (by rfl) trivial (enters_of func119 (by kernel_rfl) rfl)
    (jC _ (by decide) w7.1.size (w7.1.size+1) rb ro R.length rc ra dd (by omega) d8 W9 (by omega) (by omega) d1 dz) KpC.t ?hKb (XG _ _) (λ_=>rfl) (CmI w0 NF bb n D k0 W3.1.size g l (H.length:Int) a1 n1 c1 x2 a2 n2 c2 tx (R.length:Int) R W9) (λc _ W=>c=.ret/\NF≠0/\∃T x n' D' ah al,Ey w0 W NF bb n' D' ah (.map (some k0)) al/\n'<=n+50/\Grown tx D D'/\B.A0 (B.Own bb (.map (some k0))) w W/\W.1[w.1.size+1]? = some (Zk #[Zp none] 64)/\W.1[w.1.size+2]? = some (Zk #[Zf T x] 32)) (CmI.own (by omega) (XH ag.o.base.low.size u.o.size) (XF _)) ?ownX ⟨n,fs,fv,none,0,[],b.o,XF _,dr.o,rfl,(λk hk=>by cases hk),Mv.refl⟩ ?a1 ?assign ?body ?done ?stop
   case hKb=>
    intro W q o1 o2 hq ep _ _;constructor
    ·unfold World.cell?;rw[XM (by show w7.1.size≠q;omega)]
    unfold World.cell?;rw[XM (by show w7.1.size+1≠q;omega)]
   case ownX=>
    intro c s A C row hs hg hr;obtain⟨e,bv,T,x,n',D',ah,al,h1,h2,h3,h4,h5,h6⟩:=hs;have dc:∀r,row=some r->∃o:Obj,A.1[r]? = some o/\o.isCells=false:=λr e=>(hr r e).2
    exact⟨e,bv,T,x,n',D',ah,al,bF h1 (by omega) (XH ag.o.base.low.size u.o.size) hg hr,h2,h3,h4.grown hg (λm e hm=>by have:=(hr m e).1;omega),vX h5 hg dc,vX h6 hg dc⟩
   case assign=>intro q x W K hK;gi_wp2;exact hK
   case stop=>rintro D1 c pre W bq _⟨rfl,bv,T,x,n',D',ah,al,h1,h2,h3,h4,h5,h6⟩hK;gi_wp2;have b5:=(XM (w:=W) (r:=D1) (k:=w.1.size+1) (o:=.deferred none) (by omega)).trans h5;have b6:=(XM (w:=W) (r:=D1) (k:=w.1.size+2) (o:=.deferred none) (by omega)).trans h6;have f1:=one_cell b5;have f2:=one_cell b6;refine⟨by simp,.inl ⟨_,_,rfl,run_takeDeferred hK,?_⟩⟩;refine⟨Zu #[Zp none,Zf T x],by simp[results,results43,go_sem,f1,f2],?_⟩;have ae:=grownBy_putObj' W D1 (.deferred none);exact⟨n',D',ah,_,al,bF (B0:=W9.1.size) h1 (by omega) (XH ag.o.base.low.size u.o.size) ae (λr e=>by cases e;exact⟨bq,_,hK,rfl⟩),h2,h4.grown ae (λm e hm=>by cases e;omega),λ_ e=>.inl e,h3,.inr ⟨T,x,.inr bv,rfl⟩⟩
   case body=>
    rintro q pre k W⟨n',ah,al,aa,ac,L,ab,an,G,hL,am,d⟩eo;have em:=k.2;have c8:k.1<n60 R.length:=by unfold n60;omega
    have a3:n60 R.length<=40:=nH bh
    have bt:L.length=pre.length:=by have:=congrArg List.length hL;rw[XB,eQ,XB] at this;exact this
    have bz:=d.zG b.o.bu ((u.o.block w.1.size (by omega)).trans HX.o.1) (by decide) (by decide) (by decide);have X:=d.zG b.o.bu ((ai.o.block w1.1.size (by have:=Ac N.o;have:=M.o.size;omega)).trans ((av.o.block w1.1.size (by have:=Ac N.o;have:=M.o.size;omega)).trans ((M.o.block w1.1.size (Ac N.o)).trans N.o))) (by decide) (by decide) (by decide);have c0:=one_cell bz;have ej:=one_cell X;have b7:=(d.slO b.o.bu (cn.o.up ai.o)).slr;rw[dd (by omega)] at b7;have c7:=qF b7 rfl k;have dx:=d.only.size;have en:=bU c8
    have a7:=Aa (bK w0 NF W3.1.size bb n' _ ah (.map (some k0)) al g l (H.length:Int) a1 n1 c1 x2 a2 n2 c2 tx true aa ac L (R.length:Int) (ACt rb ro R.length k) (Gg R k.1) W ab ag.o.nf ag.o.base.low.size (by have:=O.o.Iz;omega) (uX _ _ _ _ _ O.o.inv.Lm.1) G (by omega) (by rw[<-ao.o];exact O.o.Of) O.o.et c7 (by omega) (λr hr v hv=>by have:=cs.o r (WK (Yk hr)) v hv;unfold maxLen;omega) (λr hr v hv=>(cs.o r (WK (Yk hr)) v hv).1) O.o.short (by omega) (lC tx O.o.plain _ _ _ _ _ (by rw[XB];omega) (by omega) (O.o.free _)))
    have cj:Hid (ah.headD 0=1->NF≠0):=Aa (λh1 e0=>by subst e0;rw[bJ ab] at h1;exact absurd h1 (by decide))
    have ci:=Aa (dn.o k.1 c8);unfold AIr at a7;have HI:=Aa (And.intro ab (And.intro an (And.intro G (And.intro hL (And.intro am d)))));have dj:=Aa (And.intro bz X);clear ab an G hL am d bz X b7 c7;generalize ek:ACt rb ro R.length k=cv at *;gi_wp2_with fail;refine⟨trivial,(CallsIn.inRound q (callsIn_wide.2 a7.o)).mono ?_⟩;rintro e W'⟨ec,eg,ct,ef,cu,bc,da,ad,h⟩;have dt:=ad.stay k0 rfl;subst dt;have HM:=Aa ad;have di:=Aa bc
    rcases h with⟨rfl,db,_,rfl,rfl,eh,ei,cz⟩|⟨T,x,rfl,rfl,bk⟩
    ·have bi:=CmI.step (W8:=W9) (n:=n) HI.o.2.1 HI.o.2.2.2.1 HI.o.2.2.2.2.1 HI.o.2.2.2.2.2 bc da ad db cz
     have cd:=Aa bi;have bm:=Aa (CmI.keeps (B0:=W9.1.size) HI.o.1 (by omega) ad)
     have dl:Hid (KpC w7.1.size (w7.1.size+1) W W'):=Aa (by have e1:=HI.o.2.2.2.2.2.zG b.o.bu c4 (by decide) (by decide) (by decide);have e2:=HI.o.2.2.2.2.2.zG b.o.bu cy (by decide) (by decide) (by decide);exact⟨by rw[one_cell e1,one_cell (ad.zG HI.o.1.bu e1 (by decide) (by decide) (by decide))],by rw[one_cell e2,one_cell (ad.zG HI.o.1.bu e2 (by decide) (by decide) (by decide))]⟩)
     clear bi bc ad cz db a7;gi_wp2;exact⟨bm.o,dl.o,cd.o⟩
    have dq:Hid (NF≠0):=Aa (by
     rcases bk with⟨h1,_⟩|⟨_,h1,_⟩
     ·rw[ci.o] at h1;cases h1
     exact cj.o h1)
    clear bk cj ci;have bf:=HI.o.2.2.2.2.2.trans ad;have r1:=bf.zG b.o.bu ((u.o.block (w.1.size+1) (by omega)).trans HX.o.2.1) (by decide) (by decide) (by decide);have r2:=bf.zG b.o.bu ((u.o.block (w.1.size+2) (by omega)).trans HX.o.2.2) (by decide) (by decide) (by decide);have f1:=one_cell r1;have f2:=one_cell r2;have g1:=Yag W' (w.1.size+1) 0 _ _ r1;have g2:=Yag W' (w.1.size+2) 0 _ _ r2;have dm:=Aa bf;have bm:=Aa (CmI.keeps (B0:=W9.1.size) HI.o.1 (by omega) ad);have Y:=Aa (And.intro r1 r2);clear bc ad a7 bf r1 r2;gi_wp2;have dy:bb<w.1.size:=Ac O.o.base.bu.1;have eb:=O.o.base.low.size;have b1:=Uu di.o Y.o.1 (λi e=>by cases e) (by omega) (by omega) (by omega) (Zp none);have y:=((E.Ar W' (w.1.size+1) 0 (Zp none)).block (w.1.size+2) (Ac Y.o.2) (by simp)).trans Y.o.2;have b2:=Uu b1 y (λi e=>by cases e) (by omega) (by omega) (by omega) (Zf T x);have I:=heap_setCell_same W' (w.1.size+1) 0 _ _ (Zp none) Y.o.1;have b3:=((E.Ar (W'.setCell (Zd (w.1.size+1) 0) (Zp none)) (w.1.size+2) 0 (Zf T x)).block (w.1.size+1) (Ac I) (by simp)).trans I;have b4:=heap_setCell_same _ (w.1.size+2) 0 _ _ (Zf T x) y;have hO:B.A0 (B.Own bb (.map (some k0))) w W':=(B.A0.Ba (Ap a5.o u.o)).trans dm.o.only (λi hi e=>e.elim id λe=>by have:=e.1;omega);refine⟨(bm.o.trans (KeepsFrom.of_grownBy (E.Ar W' (w.1.size+1) 0 (Zp none)) (λj e=>by cases e;omega))).trans (KeepsFrom.of_grownBy (E.Ar _ (w.1.size+2) 0 (Zf T x)) (λj e=>by cases e;omega)),rfl,dq.o,T,x,ec,_,ct,cu,b2,by have:=HI.o.2.1;omega,fM tx O.o.plain _ _ O.o.free _ (by rw[XB];omega),?_,b3,b4⟩;exact(hO.grown (E.Ar W' (w.1.size+1) 0 (Zp none)) (λm e hm=>by cases e;omega)).grown (E.Ar _ (w.1.size+2) 0 (Zf T x)) (λm e hm=>by cases e;omega)
   case done=>
    rintro D1 ys W bq b8⟨n',ah,al,aa,ac,L,ab,an,G,hL,am,d⟩hK;have dx:=d.only.size;have br:=E.Ac hK;have a3:n60 R.length<=40:=nH bh;have df:ys.length=n60 R.length:=by have:=congrArg List.length b8;simpa using this
    have dg:(ys.map λk=>Gg R k.1)=Gd R:=by unfold Gd;rw[<-b8];simp[AG1]
    have bt:L.length=ys.length:=by have:=congrArg List.length hL;rw[XB,eQ,XB] at this;exact this
    have X:=d.zG b.o.bu ((ai.o.block w1.1.size (by have:=Ac N.o;have:=M.o.size;omega)).trans ((av.o.block w1.1.size (by have:=Ac N.o;have:=M.o.size;omega)).trans ((M.o.block w1.1.size (Ac N.o)).trans N.o))) (by decide) (by decide) (by decide);have I:=d.zG b.o.bu ((u.o.block (w.1.size+1) (by omega)).trans HX.o.2.1) (by decide) (by decide) (by decide);have y:=d.zG b.o.bu ((u.o.block (w.1.size+2) (by omega)).trans HX.o.2.2) (by decide) (by decide) (by decide);have p0:=one_cell X;obtain⟨y0,y1,y2,y3,y4,y5,y6,y7,yf⟩:=F2 G.box;have hd:=(XG W.1.size W).drew
    have ce:Hid (∀e∈l.qx,e.1.size<=maxLen):=Aa (λe he=>by have c5:=HT.o;rw[<-c5.Lz.qx] at he;obtain⟨x,hx,rfl⟩:=List.mem_map.1 he;have:=(c5.Lz.each x hx).name;unfold maxLen;omega)
    have ee:1<=l.qx.length:=by
     rcases Yt l.qx.length with h0|h0
     ·refine absurd (show Tog l R.length from⟨λe he=>?_,by omega⟩) ck.o
      rw[Yah.1 h0] at he;cases he
     exact h0
    have cq:=Aa (sL l (H.length:Int) a1 n1 c1 x2 a2 n2 c2 W.drew (G.snap.up hd) (by omega) ce.o);have HI:=Aa (And.intro ab (And.intro an (And.intro G (And.intro hL (And.intro am d)))));have dj:=Aa (And.intro X (And.intro I y));have cf:=Aa hK;have bo:=Aa dg;have ch:=Aa (And.intro bt (And.intro df a3));have bl:=Aa hd
    have dp:Hid (w1.1.size≠g):=Aa (λe=>by have:=G.box;rw[<-e,X] at this;injection this with this;injection this with _ this;exact absurd this (by decide))
    have d0:W.drew.cell? (Zd w1.1.size 0)=some (Zp (some (Zd g 0))):=p0;have d3:W.drew.cell? (Zd g 3)=some (Zs a2 n2 c2):=y3;have d6:W.drew.cell? (Zd g 6)=some (Zs aa L.length ac):=y6;have aj:Hid (∀W',Zb W W'->(W'.cell? (Zd w1.1.size 0)=some (Zp (some (Zd g 0)))/\W'.cell? (Zd g 3)=some (Zs a2 n2 c2))/\W'.cell? (Zd g 6)=some (Zs aa L.length ac)):=Aa λW' hb=>⟨⟨Ag hb p0,Ag hb y3⟩,Ag hb y6⟩
    have cb:Hid (∀(af:Tw)(qa:To)(qc:Nat),Zb W af->af.ownsRow W.1.size 144 6 (Zs qa l.qx.length qc) l.qx.length (Ci (l.qx.map mO))->Zc 75 #[Zs (some (Zd af.1.size 0)) 2 2] (af.alloc (Zk #[Zs qa l.qx.length qc,Zs aa L.length ac] 108)) λe w'=>∃g' c',e=Zr (Zs (some (Zd g' 0)) (l.qx.length+L.length) c')/\Hid (w'.ownsRow W.1.size 144 6 (Zs (some (Zd g' 0)) (l.qx.length+L.length) c') (l.qx.length+L.length) (Ci (l.qx.map mO++L)))/\Zb W w'):=Aa (λaf qa qc J au=>by have bj:=Yad af (Zk #[Zs qa l.qx.length qc,Zs aa L.length ac] 108);have ar:Zb af (af.alloc (Zk #[Zs qa l.qx.length qc,Zs aa L.length ac] 108)):=Zal;have hc:=uO af.1.size qa aa qc ac (l.qx.map mO) L W.1.size w.1.size _ (by rw[XB];exact(Hg bj).1) (Hg bj).2 (by simp) (by rw[XB];exact Bc au ar) (E.Ai (Bc (Bc G.row J) ar) (by omega)) (by rw[XB];omega) (by rw[XB];omega);rw[XB] at hc;apply hc.mono;rintro e w'⟨g',c',rfl,h1,h2⟩;exact⟨g',c',rfl,Aa (E.Ai h1 (Ap J ar).size),Ap (Ap J ar) h2⟩)
    clear ab an G hL am d X I y hK b8 dg y0 y1 y2 y3 y4 y5 y6 y7 yf p0 bt df a3 hd;gi_wp2;go_wp2_with fail;refine AGq ?_;rw[<-AGS];have d4:=AGS
    go_region_held3 (λw'=>w'.cell? (Zd w1.1.size 0)=some (Zp (some (Zd g 0)))/\w'.cell? (Zd g 3)=some (Zs a2 n2 c2))
     (first
       | (go_keep;done)
       | exact(aj.o _ bl.o).1
       | exact(aj.o _ J).1
       | exact(aj.o _ (Ap J (Zal))).1
       | exact(aj.o _ f).1
       | exact⟨Ei dp.o (aj.o _ f).1.1,AEx (aj.o _ f).1.2⟩
       | fail)
     (first
       | (go_at_call 76
          apply cq.o.mono;rintro e af⟨qa,qc,rfl,au,az⟩;have J:=Ap bl.o az;have cl:=Aa au;have e6:=(aj.o _ J).2;clear au az)
       | (go_at_call 75
          refine(cb.o _ _ _ J cl.o).mono ?_;rintro e a4⟨g',c',rfl,cm,f⟩;obtain⟨t0,t1,t2,t3,t4,t5,t6,t7,tf⟩:=F2 (HI.o.2.2.1.up f).box;have t8:=tf 6;clear t0 t1 t2 t3 t4 t5 t7 tf)
       | fail)
    all_goals
     obtain⟨ab,an,G,hL,am,d⟩:=HI.o;have P:=G.up f;have V:=E.Ar a4 g 6 (Zs (some (Zd g' 0)) (l.qx.length+L.length) c');have ay:B.A0 (PA a4 W3.1.size) a4 (a4.setCell (Zd g 6) (Zs (some (Zd g' 0)) (l.qx.length+L.length) c')):=⟨V.os,V.tape,V.output,V.size,λk hk hn=>V.block k hk (λe=>hn (by cases e;exact⟨P.low,_,_,P.box,.inl rfl⟩))⟩;have ca:=Aa (Kv (ab.up f) ag.o.nf ag.o.base.low.size ay);have aq:=Aa ((d.trans (Mv.below f)).trans (Mv.ACV ay))
     have co:=Aa (P.Bz (E.Ai cm.o (by omega)) (by simp) (λq hq=>by
      rcases List.mem_append.1 hq with hq|hq
      ·obtain⟨e,_,rfl⟩:=List.mem_map.1 hq
       exact⟨XU _ _ _ _,XU _ _ _ _⟩
      ·exact P.own q hq) (λq hq=>by
      rcases List.mem_append.1 hq with hq|hq
      ·obtain⟨e,he,rfl⟩:=List.mem_map.1 hq
       exact⟨ce.o e he,XE _,λx hx=>by cases hx⟩
      exact P.Vv q hq))
     have I:=aq.o.zG b.o.bu ((u.o.block (w.1.size+1) (by omega)).trans HX.o.2.1) (by decide) (by decide) (by decide);have y:=aq.o.zG b.o.bu ((u.o.block (w.1.size+2) (by omega)).trans HX.o.2.2) (by decide) (by decide) (by decide);have X:=aq.o.zG b.o.bu ((ai.o.block w1.1.size (by have:=Ac N.o;have:=M.o.size;omega)).trans ((av.o.block w1.1.size (by have:=Ac N.o;have:=M.o.size;omega)).trans ((M.o.block w1.1.size (Ac N.o)).trans N.o))) (by decide) (by decide) (by decide)
     have cx:=(V.block D1 (Ya br f.size) (λe=>by
      cases e;have:=(f.block _ br).trans cf.o;rw[P.box] at this;cases this)).trans ((f.block D1 br).trans cf.o)
     have bn:=Aa (And.intro an (And.intro hL am));have Y:=Aa (And.intro I y);have cg:=Aa cx;clear ab an G hL am d P ay V t6 t8 d4 cq cb aj bl;generalize a4.setCell (Zd g 6) (Zs (some (Zd g' 0)) (l.qx.length+L.length) c')=ak at *;have f1:=one_cell I;have f2:=one_cell y;have ez:=one_cell X;have g1:=Yag ak (w.1.size+1) 0 _ _ I;have g2:=Yag ak (w.1.size+2) 0 _ _ y;clear I y X cx;go_wp2;have dy:bb<w.1.size:=Ac O.o.base.bu.1;have eb:=O.o.base.low.size;have b1:=Uu ca.o Y.o.1 (λi e=>by cases e) (by omega) (by omega) (by omega) (Zp (some (Zd g 0)));have a9:=E.Ar ak (w.1.size+1) 0 (Zp (some (Zd g 0)));have y:=(a9.block (w.1.size+2) (Ac Y.o.2) (by simp)).trans Y.o.2;have b2:=Uu b1 y (λi e=>by cases e) (by omega) (by omega) (by omega) Zn;have I:=heap_setCell_same ak (w.1.size+1) 0 _ _ (Zp (some (Zd g 0))) Y.o.1;have ba:=E.Ar (ak.setCell (Zd (w.1.size+1) 0) (Zp (some (Zd g 0)))) (w.1.size+2) 0 Zn;have b3:=(ba.block (w.1.size+1) (Ac I) (by simp)).trans I;have b4:=heap_setCell_same _ (w.1.size+2) 0 _ _ Zn y;have q1:=co.o.far Y.o.1 a9 (by decide) (by decide) (by decide) (by decide) (by decide);have q2:=q1.far y ba (by decide) (by decide) (by decide) (by decide) (by decide);have cw:=(a9.block D1 (E.Ac cg.o) (λe=>by have:=Yq e;omega)).trans cg.o;have bs:=(ba.block D1 (E.Ac cw) (λe=>by have:=Yq e;omega)).trans cw;have hO:B.A0 (B.Own bb (.map (some k0))) w ak:=(B.A0.Ba (Ap a5.o u.o)).trans aq.o.only (λi hi e=>e.elim id λe=>by have:=e.1;omega);have dv:=(hO.grown a9 (λm e hm=>by cases e;omega)).grown ba (λm e hm=>by cases e;omega);have b5:=(XM (r:=D1) (k:=w.1.size+1) (o:=.deferred none) (by omega)).trans b3;have b6:=(XM (r:=D1) (k:=w.1.size+2) (o:=.deferred none) (by omega)).trans b4;have k1:=one_cell b5;have k2:=one_cell b6;refine⟨by simp,.inl ⟨_,_,rfl,run_takeDeferred bs,?_⟩⟩;refine⟨Zu #[Zp (some (Zd g 0)),Zn],by simp[results,results43,go_sem,k1,k2],?_⟩;have ae:=grownBy_putObj' ((ak.setCell (Zd (w.1.size+1) 0) (Zp (some (Zd g 0)))).setCell (Zd (w.1.size+2) 0) Zn) D1 (.deferred none);have d9:∀r,some D1=some r->∃o:Obj,((ak.setCell (Zd (w.1.size+1) 0) (Zp (some (Zd g 0)))).setCell (Zd (w.1.size+2) 0) Zn).heap[r]? = some o/\o.isCells=false:=λr e=>by cases e;exact⟨_,bs,rfl⟩
     have q3:=q2.no ae d9;refine⟨_,_,_,_,_,bF (B0:=W9.1.size) b2 (by omega) (XH ag.o.base.low.size u.o.size) ae (λr e=>by cases e;exact⟨bq,_,bs,rfl⟩),?_,dv.grown ae (λm e hm=>by cases e;omega),λ_ e=>.inl e,?_,.inl ⟨g,_,true,(R.length:Int),a1,n1,c1,x2,a2,n2,c2,_,_,rfl,by rw[ao.o];exact⟨q3.box,q3.snap,E.Ai q3.row (by omega),q3.own,q3.Vv,by have:=q3.low;omega⟩,HC.o,rfl,by rw[aw.o],.inr ⟨by rw[aw.o];exact ck.o,?_,?_,?_⟩⟩⟩
     ·have:=bn.o.1
      have:=ch.o;omega
     ·exact fM tx O.o.plain _ _ O.o.free _ (by rw[XB];have:=ch.o;omega)
     ·rw[<-HR.o,<-bo.o]
      intro p hp;obtain⟨k,hk,rfl⟩:=List.mem_map.1 hp;exact bn.o.2.2 k hk
     ·rw[<-HR.o,<-bo.o]
     rw[<-HR.o,<-bo.o,XN,bn.o.2.1,W0];rfl
end F
namespace S
theorem AE9(b:Nat)(c f g:Int)(Bl d:Tb)(w:Tw)(p:1<=c/\c<=6)(t:d.size<=100)(s:E.A9 f g d=true)(h:w.1[b]? = some (Zk #[Zi c,Zt Bl,Zi f,Zi g,Zt d] 63)):
 Zc 41 #[Zs (some (Zd b 0)) 1 1] w λe n=>∃v,e=Zr v/\Gy n (.node 0 0 ⟨c,Bl,f,g,d⟩ .nil .nil) v/\Zb w n:=by
 have m:b<w.1.size:=by
  rcases Yc b w.1.size with l|l
  ·exact l
  rw[XP l] at h;cases h
 have k:∀j i:Nat,j<1->w.cell? (Zd b (0+j*5+i))=#[Value.int .i64 c,Zt Bl,Zi f,Zi g,Zt d][i]? := λj i a=>by
  obtain rfl:j=0:=by omega
  have:=cell_of_heap h i;simpa using this
 have q:ALh 1 (λ_=>c) (λ_=>f) (λ_=>g) (λ_=>Bl) (λ_=>d)=.node 0 0 ⟨c,Bl,f,g,d⟩ .nil .nil:=by show AL0 (stp c Bl f g d [])=_;rw[AMz p.1 p.2 (by omega) s];rfl
 refine(AMq b 0 1 1 (λ_=>c) (λ_=>f) (λ_=>g) (λ_=>Bl) (λ_=>d) w (XF _) (by decide) (λ_=>by unfold maxLen;omega) m (λj a=>k j 0 a) (λj a=>k j 1 a) (λj a=>k j 2 a) (λj a=>k j 3 a) λj a=>k j 4 a).mono ?_;rintro e n⟨v,rfl,o,_,r⟩;rw[q] at o;exact⟨v,rfl,o,r⟩
end S
namespace F
variable{W:Tw}{T:TypeId}{g:Nat}
theorem Qf:Mw:=rK
theorem Sy(n:Int)(w:Tw):
 Zc 17 #[Zi n] w λe a=>e=Zr (Zg #[Zi 1,Zi n,Zt ⟨#[]⟩])/\Zb w a:=by
 go_enter func17,ntmps17;go_wp2;exact bodyPost_ret (v:=Zg #[Zi 1,Zi n,Zt ⟨#[]⟩]) (by simp[results,results17,go_sem]) rfl ⟨rfl,Zal⟩
theorem AAo{α:Type}{k:Nat}{en:α->List Tv}{b:Nat}{cs:Array Tv}{x:α}(h:W.1[b]? = some (Zk cs T (0,0)))(a:en x=cs.toList):F7 k en W (Zs (some (Zd b 0)) 1 1) [x]:=by
 refine⟨some (Zd b 0),1,rfl,XF _,λ_=>⟨b,0,rfl,Ac h,λj y hj i u hu=>?_⟩⟩
 have c:j=0:=by
  rcases Yt j with d|d
  ·exact d
  rw[Yb (by simp;omega)] at hj;cases hj
 subst c;have e:x=y:=by simpa using hj
 subst e;rw[show 0+0*k+i=i by omega,S.cell_of_heap h i];rw[a] at hu;simpa using hu
theorem AH9{α:Type}{en:α->List Tv}{b:Nat}{f a:Tv}{x y:α}(h:W.1[b]? = some (Zk #[f,a] T (0,0)))(l:en x=[f])(m:en y=[a]):F7 1 en W (Zs (some (Zd b 0)) 2 2) [x,y]:=by
 refine⟨some (Zd b 0),2,rfl,XF _,λ_=>⟨b,0,rfl,Ac h,λj z hj i u hu=>?_⟩⟩
 have n:j<2:=by
  rcases Yc j 2 with c|c
  ·exact c
  rw[Yb (by simp;omega)] at hj;cases hj
 have d:∀v,en z=[v]->i=0/\v=u:=λv e=>by
  rw[e] at hu
  rcases Yt i with c|c
  ·subst c;exact⟨rfl,by simpa using hu⟩
  rw[Yb (by simp;omega)] at hu;cases hu
 rcases Yt j with g|o
 ·subst g
  have k:x=z:=by simpa using hj
  subst k;obtain⟨rfl,rfl⟩:=d _ l;rw[S.cell_of_heap h];rfl
 obtain rfl:j=1:=by omega
 have k:y=z:=by simpa using hj
 subst k;obtain⟨rfl,rfl⟩:=d _ m;rw[S.cell_of_heap h];rfl
theorem AKC{x y:Nat}(n:W.1[g]? = some (Zk #[Zs (some (Zd x 0)) 1 1,Zs (some (Zd y 0)) 1 1] 61 (0,0)))(q:W.1[x]? = some (Zk #[Zi 1,Zi 1,Zt ⟨#[]⟩] 55 (0,0)))(t:W.1[y]? = some (Zk #[Zi 1,Zi 2,Zt ⟨#[]⟩] 55 (0,0))):K8 W dU none 0 (some (Zd g 0)) 2 none 0 0 none 0:=by
 refine⟨.inl ⟨⟨_,_,rfl⟩,rfl⟩,(λc f=>by cases f),⟨[Zs (some (Zd x 0)) 1 1,Zs (some (Zd y 0)) 1 1],AH9 n rfl rfl,rfl,λj v r hv hr=>?_⟩,λr hr v hv=>?_,⟨_,_,rfl,XE _,λh=>absurd rfl h⟩,XE _,(λs hs=>by cases hs),λV hV=>?_,XE _,⟨(λc f=>by cases f),XE _,AEL,by decide,λs hs=>by cases hs⟩⟩
 ·have o:j<2:=by
   rcases Yc j 2 with k|k
   ·exact k
   rw[Yb (by simp;omega)] at hv;cases hv
  rcases Yt j with i|p
  ·subst i
   have b:Value.slice (some (Zd x 0)) 1 1=v:=by simpa using hv
   have d:[(1,1,⟨#[]⟩)]=r:=by simpa[dU,R2] using hr
   subst b d;exact mW (AAo q rfl)
  obtain rfl:j=1:=by omega
  have b:Value.slice (some (Zd y 0)) 1 1=v:=by simpa using hv
  have d:[(1,2,⟨#[]⟩)]=r:=by simpa[dU,R2] using hr
  subst b d;exact mW (AAo t rfl)
 ·have a:r∈R2:=hr
  simp only[R2,WN,WB,or_false] at a
  rcases a with rfl|rfl <;> (simp at hv;subst hv;decide)
 refine(S.V8 none 0 V).mono ?_;rintro e u⟨v,rfl,l,m⟩;exact⟨v,_,rfl,l,trivial,m⟩
theorem AJp(b:W.1[g]? = some (Zk #[Zi 1,Zt ⟨#[97]⟩,Zi 1,Zi 1,Zt ⟨#[]⟩] 63 (0,0))):K8 W dV none 0 none 0 (some (Zd g 0)) 1 1 none 0:=by refine⟨.inl ⟨⟨_,_,rfl⟩,rfl⟩,(λc a=>by cases a),⟨[],⟨_,_,rfl,XE _,λh=>absurd rfl h⟩,rfl,λj x r hx _=>by simp at hx⟩,(λr hr=>by cases hr),⟨_,_,rfl,XE _,λh=>absurd rfl h⟩,XE _,(λs hs=>by cases hs),λV hV=>?_,XE _,⟨(λc a=>by cases a),XE _,(λr hr=>by cases hr),XE _,λs hs=>by cases hs⟩⟩;refine(S.AE9 g 1 1 1 ⟨#[97]⟩ ⟨#[]⟩ V ⟨by decide,by decide⟩ (by decide) (by kernel_rfl) ((hV.block _ (Ac b)).trans b)).mono ?_;rintro e i⟨v,rfl,d,f⟩;exact⟨v,tV,rfl,d,rfl,f⟩
theorem AJi:Plain iL:=λx a=>by simp[iL] at a;subst a;decide
theorem AJh:Plain Pz:=λx a=>by simp[Pz] at a;subst a;decide
theorem AGr:Plain txV:=λx a=>by simp[txV] at a;subst a;decide
theorem AKG{i k x y:Int}{s t:Tb}{mu:Bool}(h:W.1[g]? = some (Zk #[Zi i,Zt s,Zi k,Zo mu,Zi x,Zi y,Zt t] 59 (0,0))):bH W (Zs (some (Zd g 0)) 1 1) [(i,s,k,mu,x,y,t)]:=by
 refine .inr ⟨g,0,1,rfl,XF _,Ac h,λj c n v d=>?_⟩;have a:j=0:=by have:j<1:=c;omega
 subst a;rw[show 0+0*7+n=n by omega,S.cell_of_heap h n];have b:[Value.int .i64 i,Zt s,Zi k,Zo mu,Zi x,Zi y,Zt t][n]? = some v:=d;simpa using b
theorem AJ7(h:W.1[g]? = some (Zk #[Zi 0,Zt ⟨#[97]⟩,Zi 1,Zo false,Zi 0,Zi 0,Zt ⟨#[]⟩] 59 (0,0))):K8 W dT (some (Zd g 0)) 1 none 0 none 0 0 none 0:=by
 refine⟨AKG h,λc a=>?_,⟨[],⟨_,_,rfl,XE _,λh=>absurd rfl h⟩,rfl,λj x r hx _=>by simp at hx⟩,(λr hr=>by cases hr),⟨_,_,rfl,XE _,λh=>absurd rfl h⟩,XE _,(λs hs=>by cases hs),λV hV=>?_,XE _,⟨λc a=>?_,by decide,(λr hr=>by cases hr),XE _,λs hs=>by cases hs⟩⟩
 ·have:c=(0,⟨#[97]⟩,1,false,0,0,⟨#[]⟩):=by simpa[dT] using a
  subst this;exact⟨by decide,by decide⟩
 ·refine(S.V8 none 0 V).mono ?_
  rintro e f⟨v,rfl,b,d⟩;exact⟨v,_,rfl,b,trivial,d⟩
 have:c=(0,⟨#[97]⟩,1,false,0,0,⟨#[]⟩):=by simpa[dT] using a
 subst this;exact⟨⟨by decide,by decide⟩,⟨by decide,by decide⟩,⟨by decide,by decide⟩⟩
theorem AAS(w:Tw)(he:Ik w)(hw:Lw w)(ht:Jp w)(hg:B.Ob w)(ho:S.Lp w):Zc 5 #[] w λe w'=>e=Zr (Zo true)/\Zb w w':=by
 have z:=Aa ((uF w he hw ht).up ((XG _ _).alloc (XF _) (Zk #[Zi 0,Zt ⟨#[97]⟩,Zi 1,Zo false,Zi 0,Zi 0,Zt ⟨#[]⟩] 59)));have ag:=Yad (w.alloc (Zk #[.map none,Zs none 0 0] 29)) (Zk #[Zi 0,Zt ⟨#[97]⟩,Zi 1,Zo false,Zi 0,Zi 0,Zt ⟨#[]⟩] 59);have D:Hid (Zc 6 #[Zp (some (Zd w.1.size 0)),Zg #[Zi 0,Zs (some (Zd (w.1.size+1) 0)) 1 1,Zs none 0 0,Zs none 0 0,Zs none 0 0,Zi 0,Zt ⟨#[]⟩,Zt ⟨#[]⟩],Zt ⟨#[116]⟩] _ _):=Aa (V1 Qf w 0 w.1.size 0 (.map []) [] _ _ [] [] iL [] dT (some (Zd (w.1.size+1) 0)) 1 none 0 none 0 0 none 0 _ ⟨z.o,Inv.nil,hg,ho,XE _,by decide,by decide,by kernel_rfl,by decide,AJi,λh=>by cases h⟩ (by decide) (vA _) (AJ7 (by simpa using ag)));have u:=Aa (And.intro hg ho);clear he hw ht hg ho ag;go_enter func5,ntmps5;go_wp2_with fail;apply D.o.mono;intro e w2 ah;obtain⟨rfl,n2,D2,M,an,O,R,a1,au,_,U⟩:=AJW ah;have H2:=Aa (And.intro R U);clear ah R au U D z;go_wp2_with fail;refine(Sy 1 w2).mono ?_;rintro e w3⟨rfl,ad⟩;have ak:=Yad w3 (Zk #[Zi 1,Zi 1,Zt ⟨#[]⟩] 55);have x:=Aa (Ap ad ((XG _ w3).alloc (XF _) (Zk #[Zi 1,Zi 1,Zt ⟨#[]⟩] 55)));have o:=Aa ak;clear ad ak;go_wp2_with fail;refine(Sy 2 _).mono ?_;rintro e v⟨rfl,q⟩;obtain⟨ax,Y,X,s⟩:=Kt v (Zk #[Zi 1,Zi 2,Zt ⟨#[]⟩] 55) (Zk #[Zs (some (Zd w3.1.size 0)) 1 1,Zs (some (Zd v.1.size 0)) 1 1] 61);have L:=Aa ((Ap q s).block _ (Ac o.o) |>.trans o.o);have ap:=Aa (Ap x.o (Ap q s));have n:Hid (iK w ((v.alloc (Zk #[Zi 1,Zi 2,Zt ⟨#[]⟩] 55)).alloc (Zk #[Zs (some (Zd w3.1.size 0)) 1 1,Zs (some (Zd v.1.size 0)) 1 1] 61)) 0 w.1.size n2 D2 M an O H1 [iL] Pz):=Aa ⟨H2.o.1.up ap.o,H2.o.2,u.o.1,u.o.2,XE _,by omega,by decide,by kernel_rfl,by decide,AJh,λh=>by simp[Pz,iL] at h⟩;have G:Hid (Zc 6 #[Zp (some (Zd w.1.size 0)),Zg #[Zi 2,Zs none 0 0,Zs (some (Zd (v.1.size+1) 0)) 2 2,Zs none 0 0,Zs none 0 0,Zi 0,Zt ⟨#[]⟩,Zt ⟨#[]⟩],Zt ⟨#[117]⟩] _ _):=Aa (V1 Qf w 0 w.1.size n2 D2 M an O H1 [iL] Pz [] dU none 0 (some (Zd (v.1.size+1) 0)) 2 none 0 0 none 0 _ n.o (by decide) (AKO _) (AKC X L.o Y));clear ax Y X s q o L x;go_wp2_with fail;apply G.o.mono;intro e w6 ai;obtain⟨rfl,n6,D6,N,ao,P,T,a2,av,_,V,ab⟩:=AI4 (bJ H2.o.1) H2.o.2 (n.o.free 0) ai;have t:=Aa (And.intro T (And.intro V ab));clear ai T av V ab G n H2;go_wp2_with fail;refine(Sy 1 w6).mono ?_;rintro e w7⟨rfl,ae⟩;have al:=Yad w7 (Zk #[Zi 1,Zt ⟨#[97]⟩,Zi 1,Zi 1,Zt ⟨#[]⟩] 63);have y:=Aa (Ap ae ((XG _ w7).alloc (XF _) (Zk #[Zi 1,Zt ⟨#[97]⟩,Zi 1,Zi 1,Zt ⟨#[]⟩] 63)));have J:Hid (iK w (w7.alloc (Zk #[Zi 1,Zt ⟨#[97]⟩,Zi 1,Zi 1,Zt ⟨#[]⟩] 63)) 0 w.1.size n6 D6 N ao P H2 [Pz,iL] txV):=Aa ⟨t.o.1.up y.o,t.o.2.1,u.o.1,u.o.2,XE _,by omega,by decide,by kernel_rfl,by decide,AGr,λh=>by simp[Pz,iL,txV] at h⟩;have I:Hid (Zc 6 #[Zp (some (Zd w.1.size 0)),Zg #[Zi 3,Zs none 0 0,Zs none 0 0,Zs (some (Zd w7.1.size 0)) 1 1,Zs none 0 0,Zi 0,Zt ⟨#[]⟩,Zt ⟨#[]⟩],Zt ⟨#[118]⟩] _ _):=Aa (V1 Qf w 0 w.1.size n6 D6 N ao P H2 [Pz,iL] txV xU dV none 0 none 0 (some (Zd w7.1.size 0)) 1 1 none 0 _ J.o (by decide) t.o.2.2 (AJp al));clear al ae;go_wp2_with fail;apply I.o.mono;intro e w8 aj;obtain⟨rfl,n8,D8,az,ay,a0,c,a3,aw,_,p,ac⟩:=AI9 t.o.2.1 t.o.2.2 aj;have m:=Aa (ABH w.1.size n8 D8 ay H3 (-1) 3 xV w8 c.ground (u.o.1.below c.low) (u.o.2.below c.low) p.Lm p.past (by decide) (by decide) (.inl ⟨by decide,rfl⟩) ac.Lz);have H8:=Aa c.low;clear aj c aw p ac I J t y;rw[show (Ae H3 3).qz=[cA] from rfl,AKF] at m;go_wp2_with fail;apply m.o.mono;rintro e w9⟨v9,rfl,aa,af⟩;obtain⟨rb,ro,rc,xv,er,a4,a,ar⟩:=aa.slr.at (k:=0) (r:=[(1,2,⟨#[]⟩)]) rfl;obtain⟨xa,xc,rfl,a6,am⟩:=ar;obtain⟨i,j,rfl,a5,b⟩:=am (by simp);obtain⟨y0,y1,y2⟩:=b 0 _ rfl;simp only[Nat.zero_mul,WG] at a y0 y1 y2;subst er;have f:Hid (∀W,Zb w9 W->W.cell? (Zd rb ro)=some (Zs (some (Zd i j)) 1 xc)/\W.cell? (Zd i j)=some (Zi 1)/\W.cell? (Zd i (j+1))=some (Zi 2)/\W.cell? (Zd i (j+2))=some (Zt ⟨#[]⟩)):=Aa λW hb=>⟨Ag hb a,Ag hb y0,Ag hb y1,Ag hb y2⟩
 have l:=Aa ((XG w9.1.size w9).drew);have aq:=Aa (Ap H8.o af);clear aa am b af m a y0 y1 y2;obtain⟨a,y0,y1,y2⟩:=f.o _ l.o;go_wp2_with fail
 go_region_held3 (λW=>W.cell? (Zd rb ro)=some (Zs (some (Zd i j)) 1 xc)/\W.cell? (Zd i j)=some (Zi 1)/\W.cell? (Zd i (j+1))=some (Zi 2)/\W.cell? (Zd i (j+2))=some (Zt ⟨#[]⟩))
  (first
    | exact f.o _ l.o
    | exact f.o _ g
    | (go_keep;done)
    | fail)
  (first
    | (go_at_call 17
       refine(Sy 2 _).mono ?_;rintro e a7⟨rfl,d⟩;have g:=Ap l.o d;clear d)
    | fail)
 all_goals
  clear a y0 y1 y2 f;go_wp2;go_ret;exact⟨rfl,Ap aq.o g⟩
end F
namespace tableTravels
theorem k10:(Rows.tableTravelsRow.inPlace==prog.inPlace 3)=true:=by kernel_rfl
theorem k11:(Rows.tableTravelsRow.unfollowed==prog.unfollowed 3)=true:=by kernel_rfl
theorem k12:(Rows.tableTravelsRow.recurses==prog.recurses 3)=true:=by kernel_rfl
theorem k13:(Rows.tableTravelsRow.named==prog.varsNamed 3)=true:=by kernel_rfl
