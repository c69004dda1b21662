import Derived.Test.YtbhhpheailbebaaGreatDoorP5
import Derived.RangeFuncNested
import Derived.RangeFuncBound
import Derived.Maps.Ext
set_option maxHeartbeats 40000000
set_option maxRecDepth 100000
open Nat renaming le_refl->Y8,le_trans->XD,le_succ->XN,zero_le->XO,zero_add->WQ
open Bool renaming and_eq_true->Y9,not_eq_true'->WE,and_eq_false_iff->WG
open Go.World renaming putObj_heap_other->Y',ownsRow_nil->XE,size_alloc->XL,putObj_heap_same->XU,alloc_heap_new->XY,news_of_block->XZ
open List renaming length_cons->XA,length_append->XB,length_nil->XF,length_drop->XG,cons_append->XH,length_map->XJ,mem_append->XK,size_toArray->XP,append_toArray->XS,length_take->XT,nil_append->XV,mem_cons->XW,push_toArray->XX,map_append->X4,drop_succ_cons->X',setIfInBounds_toArray->Wb,isSuffixOf_iff_suffix->WA,getElem?_append_right->WB,getElem?_append_left->WC,flatMap_cons->WD,drop_zero->WH,take_succ_cons->WI,set_cons_succ->WJ,set_cons_zero->WK,all_eq_true->WL,append_nil->WM,take_zero->WN,map_cons->WO,map_map->WR
open Option renaming bind_some->XC
open Go.RowKit.Below renaming refl->XI,heap_alloc->XM,heap_setCell->X6
open Array renaming replicate_succ->XQ,replicate_zero->XR,length_toList->X2
namespace Go.Proofs.YtbhhpheailbebaaGreatDoor
open Tryz RowKit Lib Joins Maps ChangeShapes WideShapes ChangeAt Deep
open Go.Sort (grow)
structure Ib(c:Aj):Prop where
 id:Lu c.1
 name:c.2.1.size<=100
 kind:Lu c.2.2.1
 num:Lu c.2.2.2.2.2.1
 text:c.2.2.2.2.2.2.size<=100
theorem Ib.size{c:Aj}(h:Ib c):(B9 c).size<=600:=S6 h.id h.name h.kind h.num h.text
theorem wN(c:Aj)(w:Tw)(h:Ib c)(a:Jp w):Zc 173 #[Zg (Cc c).toArray] w λe b=>e=Zr (Zt (B9 c))/\Zb w b :=
 Rl c.1 c.2.1 c.2.2.1 c.2.2.2.1 c.2.2.2.2.1 c.2.2.2.2.2.1 c.2.2.2.2.2.2 w h.id h.kind h.num h.name h.text a
theorem uM(v:Tv)(l:List Aj)(sep:Tb)(w:Tw)(h:bH w v l)(hl:l.length<=100)(hn:∀x∈l,Ib x)(hs:sep.size<=1)(ht:Jp w):
 Zc 172 #[v,Zt sep,.func (.func 173) #[] #[]] w λe m=>e=Zr (Zt (Fe (l.map B9) sep))/\Zb w m:=by
 have ai:∀args w,(callFunc 173 args).run prog w=.ok (.enter 173 args) w:=enters_of func173 (by kernel_rfl) rfl
 have HJ:Hid (∀(W:Tw)(i:Tv),W.ownsRow w.heap.size 9 1 i l.length ((l.map B9).map (Zt ·))->Zc 216 #[i,Zt sep] W λe m=>e=Zr (Zt (Fe (l.map B9) sep))/\Zb W m):=λW i J=>dJ _ i (l.map B9) sep W (by rw[XJ];exact J) (by simp;omega) (by have:=Jh (b:=600) (xs:=l.map B9) (sep:=sep) (by intro x N;obtain⟨y,hy,rfl⟩:=List.mem_map.1 N;exact(hn y hy).size);rw[XJ] at this;have h2:l.length*(600+sep.size)<=100*601:=YS hl (by omega);omega)
 have D:Hid (∀j,j<l.length->∀W,Zb w W->Zc 173 #[Zg (Cc l[j]!).toArray] W λe m=>e=Zr (Zt (B9 l[j]!))/\Zb W m):=λj s W J=>wN _ W (hn _ (by rw[getElem!_pos l j s];exact Yh s)) (ht.below J)
 have hlen:(∃a c,v=Zs a 0 c)/\l=[]\/∃g o c,v=Zs (some ⟨g,o,none⟩) l.length c/\I1 w g o l:=by
  rcases h with h|⟨g,o,c,h1,_,h4⟩
  ·exact .inl h
  exact .inr ⟨g,o,c,h1,h4⟩
 obtain⟨iT,L,O,n,p⟩:=info_parts Uz;have f:=Zy L O n p
 have I:Hid (∀k,k<l.length->((l.take (k+1)).map B9).map (Value.string ·)=((l.take k).map B9).map (Value.string ·)++[Zt (B9 l[k]!)]):=λk hk=>by rw[YM,List.getElem?_eq_getElem hk,getElem!_pos l k hk,X4,X4];rfl
 have t:Hid (∀(W:Tw)(i:Tv),W.ownsRow w.heap.size 9 1 i l.length (((l.take l.length).map B9).map (Value.string ·))->W.ownsRow w.heap.size 9 1 i l.length ((l.map B9).map (Zt ·))):=λW i J=>by rwa[Ye] at J
 clear h hn ht L O n p;generalize Fe (l.map B9) sep=ag at *
 rcases hlen with⟨⟨_,_,rfl⟩,rfl⟩|⟨g,o,c,rfl,hc⟩
 ·have aa:Hid (Zc 216 #[Zs none 0 0,Zt sep] w λe m=>e=Zr (Zt ag)/\Zb w m):=Aa (HJ.out w (Zs none 0 0) (XE w w.heap.size 9 1))
  clear HJ D I t;go_enter func172,ntmps172;go_wp2
  go_loopw [7,12] (λi P wr=>i=Zs none 0 0/\P=Zi 0/\wr=w) (λ_ _ _=>0)
  case atStart=>exact⟨rfl,rfl,rfl⟩
  case round=>obtain⟨rfl,rfl,rfl⟩:=hrel;go_wp2_with (go_at_call 216;refine aa.out.mono ?_;rintro e w1⟨rfl,d⟩);go_ret;exact⟨rfl,d⟩
 have HC:=Aa hc;clear hc;go_enter func172,ntmps172;go_wp2
 go_loopw [7,12] (λi P wr=>∃k:Nat,k<=l.length/\P=Zi k/\Hid (wr.ownsRow w.heap.size 9 1 i k (((l.take k).map B9).map (Zt ·)))/\Hid (Zb w wr)) (λ_ P _=>l.length-(intOf P).toNat)
 case atStart=>exact⟨0,XO _,rfl,Aa (XE _ _ _ _),Aa (XI _ _)⟩
 case round=>
  obtain⟨k,hk,rfl,RO,R⟩:=hrel;obtain⟨ta,tc,rfl,_⟩:=Au RO.out
  by_cases hlt:k<l.length
  ·have ah:(k:Int)<(l.length:Int):=by omega
   obtain⟨⟨T,U,V,X,Y,x6,x7⟩,N⟩:∃x,l[k]! = x:=⟨_,rfl⟩;obtain⟨q0,q1,q2,q3,q4,q5,q6⟩:=(HC.out.below R.out).cells hlt N;have z:=Aa (D.out k hlt);have r:=Aa (I.out k hlt);rw[N] at z r;generalize B9 (T,U,V,X,Y,x6,x7)=ix at z r;replace z:Hid (∀W,Zb w W->Zc 173 #[Zg #[Zi T,Zt U,Zi V,Zo X,Zi Y,Zi x6,Zt x7]] W λe m=>e=Zr (Zt ix)/\Zb W m):=z;have q:=Aa (R.out.alloc R.out.size (Zk #[Zi T,Zt U,Zi V,Zo X,Zi Y,Zi x6,Zt x7] 72));have G:=Aa (Bc RO.out ((XI wr.heap.size wr).alloc (Y8 _) (Zk #[Zi T,Zt U,Zi V,Zo X,Zi Y,Zi x6,Zt x7] 72)));clear N
   go_wp2_with (first
    | (go_at_fn 173;refine(z.out _ q.out).mono ?_;rintro e w1⟨rfl,d⟩;have aj:=d.size;have af:=q.out.size)
    | (at_builtin;refine wpList_append_own _ rfl _ _ 126 rfl w.heap.size 9 iT (.string ⟨#[]⟩) 1 16 underlying126 f.out.1 f.out.2.1 f.out.2.2.1 f.out.2.2.2 rfl (by decide) _ _ _ rfl ((Bc G.out d).alloc _) ⟨w1.heap.size,0,none⟩ 1 1 [.string ix] rfl rfl (λj u s=>XZ (heap_alloc_new _ _) j u s) (by intro u hu;simp at hu;subst hu;rfl) ?d3 ?d4 ?d5 ?_))
   case d3=>unfold maxLen;omega
   case d4=>omega
   case d5=>simp;omega
   intro v2 w2 M ad _;have ac:Zb w w2:=((q.out.trans (d.mono af)).alloc (by omega) _).grown ad (by simp;omega) (λj s=>(G.out.lt j s).1);obtain⟨va,vc,rfl,_⟩:=Au M;go_wp2;exact⟨⟨k+1,by omega,by go_num,Aa (by rw[r.out];simpa using M),Aa ac⟩,by simp[intOf];omega⟩
  have ae:k=l.length:=by omega
  subst ae;have ab:=Aa (HJ.out _ _ (t.out _ _ RO.out));go_wp2_with (go_at_call 216;refine ab.out.mono ?_;rintro e w1⟨rfl,d⟩);go_ret;exact⟨rfl,Below.Ap R.out d⟩
structure Fh(a:A5):Prop where
 path:a.2.1.size<=100
 rows:Lu a.2.2.1
 mask:∀x∈a.2.2.2.1,Lu x
 Iz:a.2.2.2.1.length<=100
 cols:∀x∈a.2.2.2.2.1,Ib x
 ADp:a.2.2.2.2.1.length<=100
 next:Lu a.2.2.2.2.2
def F3(a:A5):ByteArray :=
 if a.1=1 then ⟨#[97,100,100,32]⟩++a.2.1++⟨#[32]⟩++Bm a.2.2.1
 else if a.1=2 then ⟨#[114,101,109,111,118,101,32]⟩++a.2.1
 else if a.1=3 then ⟨#[109,97,115,107,32]⟩++a.2.1++⟨#[32]⟩++Fe (a.2.2.2.1.map Bm) ⟨#[44]⟩
 else ⟨#[115,99,104,101,109,97,32]⟩++Bm a.2.2.2.2.2++⟨#[32]⟩++Fe (a.2.2.2.2.1.map B9) ⟨#[59]⟩
theorem fV{l:List Int}(c:∀x∈l,Lu x)(a:l.length<=100):(Fe (l.map Bm) ⟨#[44]⟩).size<=2200:=by have:=Jh (b:=21) (xs:=l.map Bm) (sep:=⟨#[44]⟩) (by intro x d;obtain⟨y,hy,rfl⟩:=List.mem_map.1 d;exact Dw (c y hy));rw[XJ] at this;have e:(⟨#[44]⟩:Tb).size=1:=rfl;rw[e] at this;have f:l.length*(21+1)<=100*22:=YS a (by omega);omega
theorem fW{l:List Aj}(c:∀x∈l,Ib x)(a:l.length<=100):(Fe (l.map B9) ⟨#[59]⟩).size<=60100:=by have:=Jh (b:=600) (xs:=l.map B9) (sep:=⟨#[59]⟩) (by intro x d;obtain⟨y,hy,rfl⟩:=List.mem_map.1 d;exact(c y hy).size);rw[XJ] at this;have e:(⟨#[59]⟩:Tb).size=1:=rfl;rw[e] at this;have f:l.length*(600+1)<=100*601:=YS a (by omega);omega
theorem gB{a:A5}(h:Fh a):(F3 a).size<=61000:=by
 have g:=Dw h.rows;have i:=Dw h.next;have j:=fV h.mask h.Iz;have k:=fW h.cols h.ADp;have l:=h.path;have b:(⟨#[97,100,100,32]⟩:Tb).size=4:=rfl;have c:(⟨#[32]⟩:Tb).size=1:=rfl;have d:(⟨#[114,101,109,111,118,101,32]⟩:Tb).size=7:=rfl;have e:(⟨#[109,97,115,107,32]⟩:Tb).size=5:=rfl;have f:(⟨#[115,99,104,101,109,97,32]⟩:Tb).size=7:=rfl;unfold F3;split
 ·simp only[Ea];omega
 split
 ·simp only[Ea];omega
 split
 ·simp only[Ea];omega
 simp only[Ea];omega
theorem cS{c:Array Oper}{C:Tw->Prop}{Q:Act->Prop}{rest:List Oper}{o:Oper}{a:Act}(d:o.guard=none)(f:Nat)(xs:Array Operand)(ts:Array TypeId)(l:o.op=.call { callee:=.value (.func f),args:=xs,argTypes:=ts })(args:Array Tv)(j:xs.map a.eval=args)(i:∀args w,(callFunc f args).run prog w=.ok (.enter f args) w)(v:Tv)(k:∀w,C w->Zc f args w (λe g=>e=Zr v/\C g))(h:wpQuiet prog c C Q rest (a.put o.dst v)):wpQuiet prog c C Q (o :: rest) a:=by
 refine wpQuiet_step (λK hK=>?_);rw[if_pos (by simp[Region.wanted,d])];refine⟨v,λw m=>?_,hK _ h⟩
 have b:(execOp a.eval o).run prog w=.ok (.enter f args) w:=by simp[execOp,l,resolve,invoke,j,i,Act.eval,Deferred.ofValue]
 unfold Oper.quietAt;rw[b];exact⟨rfl,k w m⟩
theorem AEC(k:Int)(p:ByteArray)(r:Int)(m:List Int)(cl:List Aj)(a:Int)(v:Option Addr)(y x:Nat)(o:Option Addr)(t s:Nat)(w:World)(ha:Om w (k,p,r,m,cl,a) v y x o t s)(j:Fh (k,p,r,m,cl,a))(T:Jp w):
 Zc 119 #[.agg #[.int .i64 k,.string p,.int .i64 r,.slice v y x,.slice o t s,.int .i64 a]] w λe D=>e=.returned (.string (F3 (k,p,r,m,cl,a)))/\Zb w D:=by
 have c:Hid (Zb w (w.alloc (.cells #[.int .i64 k,.string p,.int .i64 r,.slice v y x,.slice o t s,.int .i64 a] 144))):=(XI _ _).alloc (Y8 _) _;have hp:p.size<=100:=j.path;have R:(Bm r).size<=21:=Dw j.rows;have I:(Bm a).size<=21:=Dw j.next;have L:(Fe (m.map Bm) ⟨#[44]⟩).size<=2200:=fV j.mask j.Iz;have J:(Fe (cl.map B9) ⟨#[59]⟩).size<=60100:=fW j.cols j.ADp;have H1:Hid (∀W,Zb w W->Zc 81 #[.int .i64 r] W λe D=>e=.returned (.string (Bm r))/\Zb W D):=λW hW=>Mx r W j.rows (T.below hW)
 have H2:Hid (∀W,Zb w W->Zc 81 #[.int .i64 a] W λe D=>e=.returned (.string (Bm a))/\Zb W D):=λW hW=>Mx a W j.next (T.below hW)
 have H3:Hid (∀W,Zb w W->Zc 171 #[.slice v y x,.string ⟨#[44]⟩,.func (.func 81) #[] #[]] W λe D=>e=.returned (.string (Fe (m.map Bm) ⟨#[44]⟩))/\Zb W D):=λW hW=>rF _ m _ W (ha.mask.below hW) j.Iz j.mask (by decide) (T.below hW)
 have X:Hid (∀W,Zb w W->Zc 172 #[.slice o t s,.string ⟨#[59]⟩,.func (.func 173) #[] #[]] W λe D=>e=.returned (.string (Fe (cl.map B9) ⟨#[59]⟩))/\Zb W D):=λW hW=>uM _ cl _ W (ha.cols.below hW) j.ADp j.cols (by decide) (T.below hW)
 have U:(w.alloc (.cells #[.int .i64 k,.string p,.int .i64 r,.slice v y x,.slice o t s,.int .i64 a] 144)).heap[w.heap.size]? = some (.cells #[.int .i64 k,.string p,.int .i64 r,.slice v y x,.slice o t s,.int .i64 a] 144 (0,0)):=heap_alloc_new w _;have G:=Aa U;have N:Hid (∀args w,(callFunc 171 args).run prog w=.ok (.enter 171 args) w):=enters_of func171 (by kernel_rfl) rfl;have O:Hid (∀args w,(callFunc 172 args).run prog w=.ok (.enter 172 args) w):=enters_of func172 (by kernel_rfl) rfl;clear ha T U j
 by_cases k1:k=1
 ·subst k1
  have n:Hid (F3 (1,p,r,m,cl,a)=⟨#[97,100,100,32]⟩++p++⟨#[32]⟩++Bm r):=rfl;generalize F3 (1,p,r,m,cl,a)=M at n ⊢;generalize Bm r=s1 at *;clear H2 H3 X I L J;go_enter func119,ntmps119;go_wp2_with fail;generalize w.alloc (.cells #[.int .i64 1,.string p,.int .i64 r,.slice v y x,.slice o t s,.int .i64 a] 144)=g at *;obtain⟨_,V,y2,_,_,_,_⟩:=Vj G.out;replace V:=cell_regrown V;replace y2:=cell_regrown y2;have l:Hid (∀d h,Zc 81 #[.int .i64 r] (grow (redrawn g d) h) λe i=>e=.returned (.string s1)/\∃b:Regrown,i=grow (redrawn g b.d) b.os):=λd h=>Calls.regrown_of (H1.out _ (Below.Ap c.out (below_regrown g d h)))
  refine wp_region_quiet_below (by kernel_rfl) (by kernel_rfl) ?_
  repeat (go_big_quiet_step (first
   | (go_at_call_of 81 (#[.int .i64 r]:Array Value);exact l.out _ _)))
  refine wpQuiet_nil ?_;intro _ u;obtain⟨⟨P,z⟩,f⟩:=u;subst f;go_wp2;go_ret;exact⟨L7 n.out.symm,Below.Ap c.out (below_regrown g P z)⟩
 by_cases k2:k=2
 ·subst k2
  have n:Hid (F3 (2,p,r,m,cl,a)=⟨#[114,101,109,111,118,101,32]⟩++p):=rfl;generalize F3 (2,p,r,m,cl,a)=M at n ⊢;clear H1 H2 H3 X I L J;go_enter func119,ntmps119;go_wp2;go_ret;exact⟨L7 n.out.symm,c.out⟩
 by_cases k3:k=3
 ·subst k3
  have n:Hid (F3 (3,p,r,m,cl,a)=⟨#[109,97,115,107,32]⟩++p++⟨#[32]⟩++Fe (m.map Bm) ⟨#[44]⟩):=rfl;generalize F3 (3,p,r,m,cl,a)=M at n ⊢;generalize Fe (m.map Bm) ⟨#[44]⟩=s1 at *;clear H1 H2 X I J R;go_enter func119,ntmps119;go_wp2_with fail;generalize w.alloc (.cells #[.int .i64 3,.string p,.int .i64 r,.slice v y x,.slice o t s,.int .i64 a] 144)=g at *;obtain⟨_,V,_,y3,_,_,_⟩:=Vj G.out;replace V:=cell_regrown V;replace y3:=cell_regrown y3;have l:Hid (∀d h,Zc 171 #[.slice v y x,.string ⟨#[44]⟩,.func (.func 81) #[] #[]] (grow (redrawn g d) h) λe i=>e=.returned (.string s1)/\∃b:Regrown,i=grow (redrawn g b.d) b.os):=λd h=>Calls.regrown_of (H3.out _ (Below.Ap c.out (below_regrown g d h)))
  refine wp_region_quiet_below (by kernel_rfl) (by kernel_rfl) ?_
  repeat (go_big_quiet_step (fail))
  refine cS (by rfl) 171 _ _ rfl #[.slice v y x,.string ⟨#[44]⟩,.func (.func 81) #[] #[]] (by simp[Act.eval]) N.out (.string s1) (λw hw=>by obtain⟨q,rfl⟩:=hw;exact l.out _ _) ?_;simp only[Act.put,Wb,WJ,WK]
  repeat (go_big_quiet_step (fail))
  refine wpQuiet_nil ?_;intro _ u;obtain⟨⟨P,z⟩,f⟩:=u;subst f;go_wp2;go_ret;exact⟨L7 n.out.symm,Below.Ap c.out (below_regrown g P z)⟩
 have n:Hid (F3 (k,p,r,m,cl,a)=⟨#[115,99,104,101,109,97,32]⟩++Bm a++⟨#[32]⟩++Fe (cl.map B9) ⟨#[59]⟩):=by simp[Hid,F3,k1,k2,k3]
 generalize F3 (k,p,r,m,cl,a)=M at n ⊢;generalize Fe (cl.map B9) ⟨#[59]⟩=s1 at *;generalize Bm a=s2 at *;clear H1 H3 L R;go_enter func119,ntmps119;go_wp2_with fail;generalize w.alloc (.cells #[.int .i64 k,.string p,.int .i64 r,.slice v y x,.slice o t s,.int .i64 a] 144)=g at *;obtain⟨_,_,_,_,y4,y5,_⟩:=Vj G.out;replace y4:=cell_regrown y4;replace y5:=cell_regrown y5;have l:Hid (∀d h,Zc 172 #[.slice o t s,.string ⟨#[59]⟩,.func (.func 173) #[] #[]] (grow (redrawn g d) h) λe i=>e=.returned (.string s1)/\∃b:Regrown,i=grow (redrawn g b.d) b.os):=λd h=>Calls.regrown_of (X.out _ (Below.Ap c.out (below_regrown g d h)))
 have Y:Hid (∀d h,Zc 81 #[.int .i64 a] (grow (redrawn g d) h) λe i=>e=.returned (.string s2)/\∃b:Regrown,i=grow (redrawn g b.d) b.os):=λd h=>Calls.regrown_of (H2.out _ (Below.Ap c.out (below_regrown g d h)))
 refine wp_region_quiet_below (by kernel_rfl) (by kernel_rfl) ?_
 repeat (go_big_quiet_step (first
  | (go_at_call_of 81 (#[.int .i64 a]:Array Value);exact Y.out _ _)))
 refine cS (by rfl) 172 _ _ rfl #[.slice o t s,.string ⟨#[59]⟩,.func (.func 173) #[] #[]] (by simp[Act.eval]) O.out (.string s1) (λw hw=>by obtain⟨q,rfl⟩:=hw;exact l.out _ _) ?_;simp only[Act.put,Wb,WJ,WK]
 repeat (go_big_quiet_step (fail))
 refine wpQuiet_nil ?_;intro _ u;obtain⟨⟨P,z⟩,f⟩:=u;subst f;go_wp2;go_ret;exact⟨L7 n.out.symm,Below.Ap c.out (below_regrown g P z)⟩
variable{T e:TypeId}{W w:Tw}{s:Tb}{l:List UInt8}{k n z:Nat}{c:UInt8}{v:Tv}
def Ov:ByteArray:=⟨#[114,101,97,100,115]⟩
def Oy:ByteArray:=⟨#[98,108,105,110,100]⟩
def I4(b:ByteArray)(a:Bool):ByteArray:=⟨#[99,111,109,109,105,116,32]⟩++b++⟨#[32]⟩++Fa a Ov Oy++⟨#[10]⟩
def Ed(l:List A5):List UInt8:=l.flatMap λa=>(F3 a).data.toList++[10]
def Nn(c:Dn):List UInt8:=(I4 c.1 c.2.1).data.toList++Ed c.2.2
def C6(c:Dn):ByteArray:=⟨(Nn c).toArray⟩
def Cv(c:Dn):Bool:=Bx c.1 && c.2.2.all Ch
def Hz(c:Dn):Value:=if Cv c then .tuple #[.string (C6 c),.nilIface] else .tuple #[.string ⟨#[]⟩,.iface 90 (Zi 1)]
theorem uU(l:List A5)(a:A5):Ed (l++[a])=Ed l++((F3 a).data.toList++[10]):=by simp[Ed]
theorem iF{B b:Nat}{p:Tv}{bs:List Tv}(h:Lib.BuilderAt T e B b p bs w)(c:Zb w W):Lib.BuilderAt T e B b p bs W:=by obtain⟨d,v,a,f,g⟩:=h;exact⟨d,v,(c.block b (Ac a)).trans a,Bc f c,g⟩
theorem AJe{B b:Nat}{bs:List Tv}(h:Lib.IsBuilder T e B b bs w)(a:Zb w W):Lib.IsBuilder T e B b bs W:=by
 rcases h with h|h
 ·exact .inl (iF h a)
 exact .inr (iF h a)
theorem AFg{B b:Nat}{bs:List Tv}(h:Lib.IsBuilder T e B b bs w):b<w.heap.size:=by rcases h with h|h <;> exact h.lt
theorem Qz(s:Tb):Lib.strCells s=Lib.byteCells s.data.toList:=rfl
theorem Bg(a b:List UInt8):Lib.byteCells (a++b)=Lib.byteCells a++Lib.byteCells b:=by simp[Lib.byteCells]
theorem Ri(a:Bool)(h:s.size<=100):(I4 s a).size<=114:=by
 have b:(⟨#[99,111,109,109,105,116,32]⟩:Tb).size=7:=rfl;have c:(⟨#[32]⟩:Tb).size=1:=rfl;have d:(⟨#[10]⟩:Tb).size=1:=rfl;have e:(Fa a Ov Oy).size=5:=by cases a <;> rfl
 unfold I4;simp only[Ea];omega
theorem fC{l:List A5}(h:∀a∈l,Fh a):(Ed l).length<=l.length*61001:=by
 induction l with
 | nil=>simp[Ed]
 | cons a l ih=>
   have f:=gB (h a (Yf ..));have g:=ih (λb d=>h b (Yg _ d))
   have e:(Ed (a :: l)).length=(F3 a).data.toList.length+1+(Ed l).length:=by simp only[Ed,WD,XB,XA,XF]
   have c:(F3 a).data.toList.length=(F3 a).size:=by simp
   rw[e,c,XA,YZ];omega
theorem pN{Bz:List A5}(m:Bz.length<=600000)(g:k<Bz.length)(d:∀a∈Bz,Ch a=true->Fh a)(h:∀j,j<k->Ch Bz[j]! = true):(Ed (Bz.take k)).length<=36600600000:=by
 have c:=fC (l:=Bz.take k) (λa e=>by
  obtain⟨j,f,rfl⟩:=Yk e;have b:j<k/\j<Bz.length:=by simpa[Nat.lt_min] using f
  rw[List.getElem_take];have c:=h j b.1;rw[getElem!_pos Bz j b.2] at c;exact d _ (Yh b.2) c)
 have i:(Bz.take k).length<=600000:=by rw[XT];omega
 omega
theorem sK{a:Bool}{t:Tb}(b:(I4 s a).size<=114)(c:l.length<=36600600000)(d:t.size<=61000):(Lib.byteCells ((I4 s a).data.toList++l)).length+(t++⟨#[10]⟩).size<=140737488355328:=by
 have e9:(⟨#[10]⟩:Tb).size=1:=rfl;have e10:(I4 s a).data.toList.length=(I4 s a).size:=by simp
 rw[Lib.byteCells_length,XB,Ea,e9,e10];omega
theorem lW(f:Tb)(d:Bool)(Bz:List A5)(aa:To)(an ac:Nat)(w:Tw)(ha:Dt w (Zs aa an ac) Bz)(hn:Bz.length<=600000)(G:f.size<=maxLen)(bb:∀a∈Bz,Ch a=true->Fh a)(hw:Lw w)(ht:Jp w):
 Zc 77 #[Zg #[Zt f,Zo d,Zs aa an ac]] w λe t=>e=Zr (Hz (f,d,Bz))/\Zb w t:=by
 have bn:=ha.len;subst bn;have v:=Aa (λW=>Mn f W G);have HA:=Aa ha;have HW:=Aa hw;have HT:=Aa ht;have aw:=Aa bb;have U:Hid (Zb w (w.alloc (Zk #[Zt f,Zo d,Zs aa Bz.length ac] 86))):=Zal;have ah:=Aa (heap_alloc_new w (Zk #[Zt f,Zo d,Zs aa Bz.length ac] 86));clear ha hw ht bb G;cases hnb:Bx f with
 | false=>
   rw[hnb] at v;have HR:Hid (Hz (f,d,Bz)=Zu #[Zt ⟨#[]⟩,Zf 90 (Zi 1)]):=by simp[Hid,Hz,Cv,hnb]
   generalize Hz (f,d,Bz)=bz at HR ⊢;go_enter func77,ntmps77;go_wp2_with (go_at_call 84;refine(v.out _).mono ?_;rintro e b⟨rfl,n⟩);go_ret2;exact⟨by rw[HR.out];rfl,U.out.trans (n.mono (by simp))⟩
 | true=>
   rw[hnb] at v;have G:=Rk hnb
   have bh:Hid (∀k,k<Bz.length->Ch Bz[k]! = false->Hz (f,d,Bz)=Zu #[Zt ⟨#[]⟩,Zf 90 (Zi 1)]):=λk hk hr=>by
    have:Bz.all Ch=false:=by rw[Y3];exact⟨Bz[k]!,by rw[getElem!_pos Bz k hk];exact Yh hk,by rw[hr];simp⟩
    simp[Hz,Cv,this]
   have a2:Hid ((∀k,k<Bz.length->Ch Bz[k]! = true)->Hz (f,d,Bz)=Zu #[Zt (C6 (f,d,Bz)),Zn]):=λhh=>by
    have:Bz.all Ch=true:=by rw[WL];intro x hx;obtain⟨k,hk,rfl⟩:=Yk hx;have:=hh k hk;rwa[getElem!_pos Bz k hk] at this
    simp[Hz,Cv,this,hnb]
   have ab:Hid (∀W,Zc 117 #[Zo d,Zt ⟨#[114,101,97,100,115]⟩,Zt ⟨#[98,108,105,110,100]⟩] W λe t=>e=Zr (Zt (Fa d Ov Oy))/\t=W):=λW=>fN d Ov Oy W
   have a4:∀args w,(callFunc 117 args).run prog w=.ok (.enter 117 args) w:=enters_of func117 (by kernel_rfl) rfl;have a3:∀args w,(callFunc 116 args).run prog w=.ok (.enter 116 args) w:=enters_of func116 (by kernel_rfl) rfl;have ar:=Aa a4;have aq:=Aa a3;have bp:(Fa d Ov Oy).size=5:=by cases d <;> rfl
   have ad:Hid (I4 f d=⟨#[99,111,109,109,105,116,32]⟩++f++⟨#[32]⟩++Fa d Ov Oy++⟨#[10]⟩):=rfl;have au:=Aa (Ri d (XD G (by decide)));generalize Fa d Ov Oy=ew at ab bp ad;clear a4 a3;go_enter func77,ntmps77;go_wp2_with fail;generalize w.alloc (Zk #[Zt f,Zo d,Zs aa Bz.length ac] 86)=wa at *;refine(v.out _).mono ?_;rintro e b⟨rfl,n⟩;have bf:=Aa (Below.Ap U.out n);have br:w.heap.size<wa.heap.size:=Ac ah.out;have bv:=n.size;have bk:=Aa ((n.block w.heap.size br).trans ah.out);clear n ah U;have V:Hid (Zb b (b.alloc (Zk #[Zp none,Zs none 0 0] 212))):=Zal;have ao:Hid (Lib.IsBuilder 212 5 b.heap.size b.heap.size [] (b.alloc (Zk #[Zp none,Zs none 0 0] 212))):=.inl ⟨Y8 _,_,heap_alloc_new b _,XE _ _ _ _,by simp[Value.ownBlock]⟩;go_wp2_with fail;have bd:b.heap.size<(b.alloc (Zk #[Zp none,Zs none 0 0] 212)).heap.size:=by simp
   have ax:=Aa bd;clear bd;generalize b.alloc (Zk #[Zp none,Zs none 0 0] 212)=w2 at *;have ai:=Aa ((V.out.block w.heap.size (by omega)).trans bk.out);obtain⟨x0,i,m,_⟩:=Db ai.out;have az:Hid (∀s:Tb,s.size<=114->Zc 116 #[Zp (some ⟨b.heap.size,0,none⟩),Zt s] w2.drew λe t=>e=Zr (Zu #[Zi s.size,Zn])/\(Lib.BuilderAt 212 5 b.heap.size b.heap.size (Zp (some ⟨b.heap.size,0,none⟩)) ([]++Lib.strCells s) t/\Below b.heap.size w2.drew t)):=Aa (λs hs=>Od b.heap.size b.heap.size [] s w2.drew ao.out (by simp;omega) (by show b.heap.size<=w2.heap.size;have:=ax.out;omega));have n1:¬9223372036854775807<7+f.size:=by omega
   have n2:¬9223372036854775807<7+f.size+1:=by omega
   have n3:¬9223372036854775807<7+f.size+1+5:=by omega
   have n4:¬9223372036854775807<7+f.size+1+5+1:=by omega
   go_region_law
    (first
      | (refine Nh (by rfl) 117 (.tmp 17) (.const (Zt ⟨#[114,101,97,100,115]⟩)) (.const (Zt ⟨#[98,108,105,110,100]⟩)) 4 9 9 (by rfl) (Zo d) (Zt ⟨#[114,101,97,100,115]⟩) (Zt ⟨#[98,108,105,110,100]⟩) (by rfl) (by rfl) (by rfl) ar.out _ (ab.out _) ?_
         rintro e w4⟨rfl,rfl⟩;refine⟨_,rfl,?_⟩)
      | (refine Gc (by rfl) 116 (.tmp 4) (.tmp 20) 212 9 (by rfl) _ _ rfl rfl aq.out _ (az.out _ (by rw[<-ad.out];exact au.out)) ?_
         rintro e w4⟨rfl,O,a7⟩;have p:=Aa O;have X:Hid (Below b.heap.size w2 w4):=Aa ((XI _ _).drew.trans a7);clear O a7;refine⟨_,rfl,?_⟩)
      | fail)
   all_goals
    have bw:b.heap.size<w4.heap.size:=p.out.lt;have L:Hid (Zb w w4):=Aa (bf.out.trans ((V.out.trans X.out).mono (by omega)));have a0:=Aa ((X.out.block w.heap.size (by omega)).trans ai.out);clear x0 i m;obtain⟨x0,i,m,_⟩:=Db a0.out
    have I:Hid (Lib.IsBuilder 212 5 b.heap.size b.heap.size (Lib.byteCells ((I4 f d).data.toList++Ed (Bz.take 0))) w4):=Aa (.inr (by have:=p.out;rw[<-ad.out,XV,Qz] at this;simpa[Ed] using this))
    clear p az ab n1 n2 n3 n4 X V ao ax ai;go_wp2_with fail
    go_loopw [25] (λvi wr=>∃k:Nat,k<=Bz.length/\vi=Zi k/\Hid (Lib.IsBuilder 212 5 b.heap.size b.heap.size (Lib.byteCells ((I4 f d).data.toList++Ed (Bz.take k))) wr)/\Hid (Zb w wr)/\Hid (∀j,j<k->Ch Bz[j]! = true)) (λvi _=>Bz.length-(intOf vi).toNat)
    case atStart=>exact⟨0,XO _,rfl,I,L,Aa (λj hj=>absurd hj (Ym _))⟩
    case round=>
     clear x0 i m a0 I L;obtain⟨k,hk,rfl,BD,T,RT⟩:=hrel
     by_cases hlt:k<Bz.length
     ·have bt:(k:Int)<(Bz.length:Int):=by omega
      rcases HA.out.below T.out with⟨_,e0⟩|⟨g,o,c,eg,bs,bu,N⟩
      ·rw[e0] at hlt;simp at hlt
      injection eg with bl _ bm;subst bl bm;obtain⟨ma,mn,mc,ca,cn,cc,aj,a5⟩:=N k hlt;have z:Hid (Ch Bz[k]! = true->Fh Bz[k]!):=Aa (aw.out _ (by rw[getElem!_pos Bz k hlt];exact Yh hlt));have D:Hid (Ed (Bz.take (k+1))=Ed (Bz.take k)++((F3 Bz[k]!).data.toList++[10])):=Aa (by rw[Br hlt,uU]);have af:=Aa (bh.out k hlt)
      have ag:Hid (Ch Bz[k]! = true->∀j,j<k+1->Ch Bz[j]! = true):=Aa (λhh j hj=>by
       by_cases e:j=k
       ·rw[e];exact hh
       exact RT.out j (by omega))
      have av:Hid (∀l,Ed (Bz.take k)=l->l.length<=36600600000):=Aa (λl hl=>by rw[<-hl];exact pN hn hlt aw.out RT.out);obtain⟨⟨i,m,q,x4,x5,r⟩,hx⟩:∃x,Bz[k]! = x:=⟨_,rfl⟩;rw[hx] at aj a5 z D af ag;obtain⟨q0,q1,q2,q3,q4,q5⟩:=a5;simp only at q0 q1 q2 q3 q4 q5;have u:Hid (Zb wr (wr.alloc (Zk #[Zi i,Zt m,Zi q,Zs ma mn mc,Zs ca cn cc,Zi r] 144))):=Aa (Zal);have a1:=Aa (heap_alloc_new wr (Zk #[Zi i,Zt m,Zi q,Zs ma mn mc,Zs ca cn cc,Zi r] 144));have al:=Aa aj;have y:Hid (∀W,Zb wr W->Zc 118 #[Zg #[Zi i,Zt m,Zi q,Zs ma mn mc,Zs ca cn cc,Zi r]] W λe t=>e=Zr (Zo (Ch (i,m,q,x4,x5,r)))/\Zb W t):=Aa (λW hW=>wO i m q x4 x5 r ma mn mc ca cn cc W (al.out.below hW) ((HW.out.below T.out).below hW));have ae:Hid (Ch (i,m,q,x4,x5,r)=true->∀W,Zb wr W->Zc 119 #[Zg #[Zi i,Zt m,Zi q,Zs ma mn mc,Zs ca cn cc,Zi r]] W λe t=>e=Zr (Zt (F3 (i,m,q,x4,x5,r)))/\Zb W t):=Aa (λhr W hW=>AEC i m q x4 x5 r ma mn mc ca cn cc W (al.out.below hW) (z.out hr) ((HT.out.below T.out).below hW));clear aj N hx;cases hri:Ch (i,m,q,x4,x5,r) with
      | false=>rw[hri] at y;have HR:=Aa (af.out hri);go_wp2_with (go_at_call 118;refine(y.out _ u.out).mono ?_;rintro e w7⟨rfl,h⟩);go_ret2;exact⟨by rw[HR.out];rfl,Below.Ap T.out (Below.Ap u.out h)⟩
      | true=>
        rw[hri] at y ae;have ba:=gB (z.out hri);have M:=Aa (ae.out rfl);obtain⟨pl,ak⟩:∃pl,Ed (Bz.take k)=pl:=⟨_,rfl⟩;have bc:=av.out pl ak;rw[ak] at BD D;have bi:=Aa (ag.out hri);obtain⟨ls,R⟩:∃ls,F3 (i,m,q,x4,x5,r)=ls:=⟨_,rfl⟩;rw[R] at ba M D;clear R av ak af ag z ae;have bo:=T.out.size;have bj:=Aa (sK au.out bc ba)
        go_wp2_with (first
         | (go_at_call 118;refine(y.out _ u.out).mono ?_;rintro e w7⟨rfl,h⟩
            have am:=Aa (Below.Ap u.out h);have a6:=(h.block wr.heap.size (Ac a1.out)).trans a1.out;obtain⟨y0,y1,y2,y3,y4,y5,_⟩:=Vj a6;clear a6 h)
         | (go_at_call 119;refine(M.out _ am.out).mono ?_;rintro e w8⟨rfl,a8⟩
            have Y:=Aa (Below.Ap am.out a8);have n5:¬9223372036854775807<ls.size+1:=by omega
            have J:=Aa (AJe BD.out Y.out);have bx:=Y.out.size;clear a8)
         | (go_at_call 116;refine(Od b.heap.size b.heap.size _ _ _ J.out bj.out (by have:=AFg J.out;omega)).mono ?_
            rintro e w9⟨rfl,P,a9⟩;have ap:=Aa P;have bg:=Aa a9;clear P a9))
        go_roundw
        case rel=>
         refine⟨k+1,by omega,by go_num,Aa (.inr ?_),Aa ((T.out.trans (Y.out.mono bo)).trans (bg.out.mono (by omega))),bi⟩;have:=ap.out;rw[Qz,<-Bg,List.append_assoc] at this;rw[D.out];have e11:(ls++⟨#[10]⟩).data.toList=ls.data.toList++[10]:=by simp
         rw[e11] at this;exact this
        case measure=>simp[intOf];omega
     have bq:k=Bz.length:=by omega
     subst bq;have HR:=Aa (a2.out RT.out);have ay:=Aa (Builder_String_any b.heap.size b.heap.size _ wr BD.out (by have:=AFg BD.out;omega));rw[Ye] at ay;go_wp2_with (go_at_call 120;refine ay.out.mono ?_;rintro e w7⟨rfl,h⟩);go_ret2;exact⟨by rw[HR.out];rfl,T.out.trans (h.mono (by omega))⟩
theorem AGo(h:indexByte s.data.toList c = -1):bA (Ao c s.data.toList).1=s/\bA (Ao c s.data.toList).2.1=⟨#[]⟩/\(Ao c s.data.toList).2.2=false:=by rw[Np h];exact⟨Ju s,rfl,rfl⟩
theorem AE8{i:Nat}(h:indexByte s.data.toList c=i):bA (Ao c s.data.toList).1=s.extract 0 i/\bA (Ao c s.data.toList).2.1=s.extract (i+1) s.size/\(Ao c s.data.toList).2.2=true/\i<s.size:=by
 obtain⟨e,a⟩:=J0 h;rw[e];refine⟨?_,?_,rfl,by rw[X2] at a;exact a⟩
 ·rw[extract_eq];simp[bA]
 have b:List.take (s.size-(i+1)) (List.drop (i+1) s.data.toList)=List.drop (i+1) s.data.toList :=
  Yd (by rw[XG,<-Lib.size_eq];exact Y8 _)
 rw[extract_eq,b];rfl
theorem AFA(s:Tb)(c:UInt8)(w:Tw)(j:s.size<=maxLen):
 Zc 182 #[Zt s,Zt ⟨#[c]⟩] w λe h=>e=Zr (Zu #[Zt (bA (Ao c s.data.toList).1),Zt (bA (Ao c s.data.toList).2.1),Zo (Ao c s.data.toList).2.2])/\∃n,h=w.drewN n:=by
 unfold maxLen at j
 rcases O3 s.data.toList c with a|⟨i,a⟩
 ·obtain⟨d,f,g⟩:=AGo a
  rw[d,f,g];have b:=Aa (λW=>stringslite_Index_one s c W);rw[a] at b;clear a d f g;go_enter func182,ntmps182;go_wp2_with (go_at_call 224;refine(b.out _).mono ?_;rintro e h⟨rfl,rfl⟩);go_ret3;exact⟨rfl,0,rfl⟩
 obtain⟨d,f,g,o⟩:=AE8 a;rw[d,f,g];have b:=Aa (λW=>stringslite_Index_one s c W);rw[a] at b;clear a d f g;have c1:(0:Int)<=(i:Int):=by omega
 have k:(i:Int)<=(s.size:Int):=by omega
 have l:(0:Int)<=(i:Int)+1:=by omega
 have m:(i:Int)+1<=(s.size:Int):=by omega
 go_enter func182,ntmps182;go_wp2_with (go_at_call 224;refine(b.out _).mono ?_;rintro e h⟨rfl,rfl⟩)
 go_region
 go_wp2;go_ret3;exact⟨rfl,1,rfl⟩
theorem L5(s:Tb)(c:UInt8)(w:Tw)(d:s.size<=maxLen):
 Zc 130 #[Zt s,Zt ⟨#[c]⟩] w λe a=>e=Zr (Zu #[Zt (bA (Ao c s.data.toList).1),Zt (bA (Ao c s.data.toList).2.1),Zo (Ao c s.data.toList).2.2])/\Zb w a:=by
 have b:=Aa (AFA s c w d);generalize bA (Ao c s.data.toList).1=x at *;generalize bA (Ao c s.data.toList).2.1=y at *;generalize (Ao c s.data.toList).2.2=z at *;go_enter func130,ntmps130;go_wp2_with (go_at_call 182;refine b.out.mono ?_;rintro e a⟨rfl,n,rfl⟩);go_ret3;exact⟨rfl,⟨rfl,rfl,rfl,Y8 _,λ_ _=>rfl⟩⟩
def Ik(w:World):Prop:=(∃te a,w.cell? ⟨5,0,none⟩=some (.iface te a))/\∃te a,w.cell? ⟨6,0,none⟩=some (.iface te a)
theorem Fv{b o:Nat}(h:w.cell? ⟨b,o,none⟩=some v):b<w.heap.size:=Lib.lt_of_cell h
theorem Ik.below(h:Ik w)(c:Zb w W):Ik W:=by obtain⟨⟨t1,d,a⟩,t2,e,b⟩:=h;exact⟨⟨t1,d,(c.cell (p:=⟨5,0,none⟩) (Fv a)).trans a⟩,t2,e,(c.cell (p:=⟨6,0,none⟩) (Fv b)).trans b⟩
def Ns(l:List UInt8)(w:World)(e:Ending)(b:World):Prop:=∃(n:Int)(a:Value),e=.returned (.tuple #[Zi n,a])/\Zb w b/\((numOf l=some n/\a=.nilIface)\/(numOf l=none/\∃t x,a=.iface t x))
theorem Ud(s:Tb)(w:Tw)(i:s.size<=100000000)(f:Ik w):Zc 185 #[Zt s] w (Ns s.data.toList w):=by
 obtain⟨⟨t1,j,c⟩,t2,k,d⟩:=f;cases h:atoiAll s.data.toList with
 | ok v=>
   refine(strconv_Atoi_ok s (by omega) v h w).mono ?_;rintro e b⟨rfl,g⟩;refine⟨v,_,rfl,?_,.inl ⟨by simp[numOf,h],rfl⟩⟩
   rcases g with rfl|⟨t,rfl⟩
   ·exact XI _ _
   exact Lib.bytesWorld_below _ _ _
 | «syntax» =>refine(strconv_Atoi_syntax s (by omega) h _ w c (.inr ⟨_,_,rfl⟩)).mono ?_;rintro e b⟨N,rfl,_,_,a⟩;exact⟨_,_,rfl,a,.inr ⟨by simp[numOf,h],_,_,rfl⟩⟩
 | range=>refine(strconv_Atoi_range s (by omega) h _ w d (.inr ⟨_,_,rfl⟩)).mono ?_;rintro e b⟨N,rfl,_,_,a⟩;exact⟨_,_,rfl,a,.inr ⟨by simp[numOf,h],_,_,rfl⟩⟩
theorem Vf(s:Tb)(w:Tw)(i:s.size<=100000000)(f:Ik w):Zc 305 #[Zt s,Zi 10,Zi 64] w (Ns s.data.toList w):=by
 obtain⟨⟨t1,j,c⟩,t2,k,d⟩:=f;cases h:atoiAll s.data.toList with
 | ok v=>
   refine(strconv_ParseInt_10_at64_ok s (by omega) v ((parseIntB_64 _).trans h) w).mono ?_;rintro e b⟨rfl,g⟩;refine⟨v,_,rfl,?_,.inl ⟨by simp[numOf,h],rfl⟩⟩
   rcases g with rfl|⟨t,rfl⟩
   ·exact XI _ _
   exact Lib.bytesWorld_below _ _ _
 | «syntax» =>refine(strconv_ParseInt_10_at64_syntax s (by omega) ((parseIntB_64 _).trans h) _ w c (.inr ⟨_,_,rfl⟩)).mono ?_;rintro e b⟨N,rfl,_,_,a⟩;exact⟨_,_,rfl,a,.inr ⟨by simp[numOf,h],_,_,rfl⟩⟩
 | range=>refine(strconv_ParseInt_10_at64_range s (by omega) ((parseIntB_64 _).trans h) _ w d (.inr ⟨_,_,rfl⟩)).mono ?_;rintro e b⟨N,rfl,_,_,a⟩;exact⟨_,_,rfl,a,.inr ⟨by simp[numOf,h],_,_,rfl⟩⟩
theorem Ky(l:List UInt8):(bA l).toList=l:=by rw[ByteArray.toList_eq];simp[bA]
def ABW(l:List UInt8)(w:World)(e:Ending)(a:World):Prop:=∃(k n:Int)(t b:ByteArray)(ok:Bool),e=.returned (.tuple #[.agg #[Zi k,Zi n,.string t],.string b,.bool ok])/\Zb w a/\((ok=true/\∃r,Ej l=some ((k,n,t),r)/\b=bA r)\/(ok=false/\Ej l=none))
theorem mH{b:Nat}{v u f:Tv}{t:TypeId}(h:W.heap[b]? = some (Zk #[v,u,f] t (0,0))):W.cell? ⟨b,0,none⟩=some v/\W.cell? ⟨b,1,none⟩=some u/\W.cell? ⟨b,2,none⟩=some f:=by obtain⟨a,c,d,_⟩:=Db h;exact⟨a,c,d⟩
theorem Cz:(bA l).size=l.length:=by simp[bA,ByteArray.size]
theorem P1(c:UInt8)(l:List UInt8):(bA (Ao c l).1).size<=l.length:=by rw[Cz];have:=Gv c l;omega
theorem Ve(c:UInt8)(l:List UInt8):(bA (Ao c l).2.1).size<=l.length:=by rw[Cz];have:=Gv c l;omega
theorem Gm(s:Tb):s.data.toList.length=s.size:=by rw[X2];rfl
abbrev aL(W:World)(b:Nat)(a c d:Value):World:=((W.setCell ⟨b,0,none⟩ a).setCell ⟨b,1,none⟩ c).setCell ⟨b,2,none⟩ d
theorem pF(W:Tw)(b:Nat)(c0 c1 e a c d:Tv)(T:TypeId)(h:W.heap[b]? = some (Zk #[c0,c1,e] T (0,0))):
 (aL W b a c d).heap[b]? = some (Zk #[a,c,d] T (0,0)):=As _ b 2 _ T d (As _ b 1 _ T c (As _ b 0 _ T a h))
theorem AKP(W:Tw)(b:Nat)(c0 c1 e a c d:Tv)(T:TypeId)(h:W.heap[b]? = some (Zk #[c0,c1,e] T (0,0))):
 (W.setCell ⟨b,0,none⟩ a).cell? ⟨b,0,none⟩=some a/\((W.setCell ⟨b,0,none⟩ a).setCell ⟨b,1,none⟩ c).cell? ⟨b,1,none⟩=some c/\(((W.setCell ⟨b,0,none⟩ a).setCell ⟨b,1,none⟩ c).setCell ⟨b,2,none⟩ d).cell? ⟨b,2,none⟩=some d :=
 ⟨(Db (As _ b 0 _ T a h)).1,(Db (As _ b 1 _ T c (As _ b 0 _ T a h))).2.1,(Db (pF W b c0 c1 e a c d T h)).2.2.1⟩
theorem Fi(h:Below n w W){b:Nat}(a:n<=b)(c d e:Tv):Below n w (aL W b c d e) :=
 ((h.setCell (p:=⟨b,0,none⟩) a _).setCell (p:=⟨b,1,none⟩) a _).setCell (p:=⟨b,2,none⟩) a _
theorem iR(s:Tb)(w:Tw)(hs:s.size<=1000000)(he:Ik w):Zc 271 #[Zt s] w (ABW s.data.toList w):=by
 have I:=Aa (λW=>strings_CutPrefix s ⟨#[39]⟩ W);cases hp:Lib.hasPrefix s.data.toList [39] with
 | true=>
   have L:Lib.trimPrefix s.data.toList [39]=s.data.toList.drop 1:=by unfold Lib.trimPrefix;rw[hp];rfl
   have b:Hid (Ej s.data.toList=if (Ao 39 (s.data.toList.drop 1)).2.2=true then some ((2,0,bA (Ao 39 (s.data.toList.drop 1)).1),Lib.trimPrefix (Ao 39 (s.data.toList.drop 1)).2.1 [59]) else none):=Aa (by unfold Ej;rw[if_pos hp])
   have g:Hid (∀W,Zc 303 #[Zt s,Zt ⟨#[39]⟩] W λe Y=>e=Zr (Zu #[Zt (bA (s.data.toList.drop 1)),Zo true])/\Y=W):=Aa (λW=>by have:=I.out W;rw[show (⟨#[39]⟩:Tb).data.toList=[39] from rfl,hp,L] at this;exact this)
   have j:=Aa (λW=>L5 (bA (s.data.toList.drop 1)) 39 W (by rw[Cz,XG,Gm];unfold maxLen;omega));rw[B5] at j;have HT:=Aa (λ(x:Tb)W=>strings_TrimPrefix x ⟨#[59]⟩ W);have T:=Aa (λ(l:List UInt8)=>show (⟨(Lib.trimPrefix (bA l).data.toList (⟨#[59]⟩:Tb).data.toList).toArray⟩:Tb)=bA (Lib.trimPrefix l [59]) by rw[B5];rfl);generalize bA (s.data.toList.drop 1)=rs at *;clear I L hp;generalize Ao 39 (s.data.toList.drop 1)=U at *;obtain⟨c1,t,J⟩:=U;simp only at j b;generalize X:bA c1=O at *;generalize f:bA t=x2 at *;have i:=Aa f;clear X f;go_enter func271,ntmps271
   go_wp2_with (first
    | (go_at_call 303;refine(g.out _).mono ?_;rintro e w1⟨rfl,rfl⟩)
    | (go_at_call 130;refine(j.out _).mono ?_;rintro e M⟨rfl,a⟩;have c:=Aa a;have h:=Aa ((a.block w.heap.size (by simp)).trans (heap_alloc_new w _));obtain⟨z0,z1,z2,zf⟩:=Db h.out;have z:=zf 0;have D:=zf 1;have G:=zf 2;clear a zf)
    | (go_at_call 304;refine(HT.out _ _).mono ?_;rintro e N⟨rfl,h3⟩;obtain rfl:=h3.symm))
   obtain⟨p,q,r⟩:=mH (pF M w.heap.size _ _ _ (Zi 2) (Zi 0) (Zt O) _ h.out);refine bodyPost_ret (v:=Zu #[Zg #[Zi 2,Zi 0,Zt O],Zt ⟨(Lib.trimPrefix x2.data.toList [59]).toArray⟩,Zo J]) (by simp[results,results271,go_sem,p,q,r]) rfl ⟨2,0,O,_,J,rfl,Fi (b1c c.out) (Y8 _) _ _ _,?_⟩;rw[b.out];cases J with
   | true=>refine .inl ⟨rfl,_,rfl,?_⟩;rw[<-i.out];exact T.out t
   | false=>exact .inr ⟨rfl,rfl⟩
 | false=>
   have g:Hid (∀W,Zc 303 #[Zt s,Zt ⟨#[39]⟩] W λe Y=>e=Zr (Zu #[Zt s,Zo false])/\Y=W):=Aa (λW=>by
    have:=I.out W;rw[show (⟨#[39]⟩:Tb).data.toList=[39] from rfl,hp] at this;have L:Lib.trimPrefix s.data.toList [39]=s.data.toList:=by unfold Lib.trimPrefix;rw[hp];rfl
    rw[L] at this;exact this)
   have b:Hid (Ej s.data.toList=if (Ao 59 s.data.toList).1=Qm then some ((0,0,bA []),(Ao 59 s.data.toList).2.1) else (numOf (Ao 59 s.data.toList).1).map λn=>((1,n,bA []),(Ao 59 s.data.toList).2.1)):=Aa (by unfold Ej;rw[if_neg (by rw[hp];decide)]);have j:=Aa (λW=>L5 s 59 W (by unfold maxLen;omega));have y:=P1 59 s.data.toList;rw[Gm] at y
   have R:Hid (∀W,Zb w W->Zc 305 #[Zt (bA (Ao 59 s.data.toList).1),Zi 10,Zi 64] W (Ns (Ao 59 s.data.toList).1 W)):=Aa (λW hW=>by have:=Vf (bA (Ao 59 s.data.toList).1) W (by omega) (he.below hW);rw[B5] at this;exact this)
   have d:=Aa (Ky (Ao 59 s.data.toList).1);clear I hp he y;generalize Ao 59 s.data.toList=U at *;obtain⟨c1,t,J⟩:=U;simp only at j b R d;generalize f:bA t=x2 at *;have i:=Aa f;clear f
   by_cases hn:c1=Qm
   ·subst hn
    have ex:bA Qm=⟨#[110,117,108,108]⟩:=rfl;rw[ex] at j;clear ex R d;go_enter func271,ntmps271
    go_wp2_with (first
     | (go_at_call 303;refine(g.out _).mono ?_;rintro e w1⟨rfl,rfl⟩)
     | (go_at_call 130;refine(j.out _).mono ?_;rintro e M⟨rfl,a⟩;have c:=Aa a;have h:=Aa ((a.block w.heap.size (by simp)).trans (heap_alloc_new w _));obtain⟨z0,z1,z2,zf⟩:=Db h.out;have z:=zf 0;have D:=zf 1;have G:=zf 2;clear a zf))
    obtain⟨p,q,r⟩:=mH (pF M w.heap.size _ _ _ (Zi 0) (Zi 0) (Zt ⟨#[]⟩) _ h.out);refine bodyPost_ret (v:=Zu #[Zg #[Zi 0,Zi 0,Zt ⟨#[]⟩],Zt x2,Zo true]) (by simp[results,results271,go_sem,p,q,r]) rfl ⟨0,0,_,_,true,rfl,Fi (b1c c.out) (Y8 _) _ _ _,?_⟩;rw[b.out];exact .inl ⟨rfl,t,by simp[bA],i.out.symm⟩
   have ab:((bA c1).toList==[110,117,108,108])=false:=by rw[d.out];exact beq_eq_false_iff_ne.2 hn
   have aa:¬(bA c1).toList=[110,117,108,108]:=by rw[d.out];exact hn
   have HN:=Aa hn;clear d hn;generalize bA c1=O at *;go_enter func271,ntmps271
   go_wp2_with (first
    | (go_at_call 303;refine(g.out _).mono ?_;rintro e w1⟨rfl,rfl⟩)
    | (go_at_call 130;refine(j.out _).mono ?_;rintro e M⟨rfl,a⟩;have c:=Aa a;have k:=Aa ((a.block w.heap.size (by simp)).trans (heap_alloc_new w _));clear a)
    | (go_at_call 305;refine(R.out _ (b1c c.out)).mono ?_;rintro e N⟨n,er,rfl,m,o⟩;have P:=Aa m;have h:=Aa ((m.block w.heap.size (Ac k.out)).trans k.out);obtain⟨z0,z1,z2,zf⟩:=Db h.out;have z:=zf 0;have D:=zf 1;have G:=zf 2;clear m zf))
   have u:Hid (Zb w N):=Aa (Below.Ap (b1c c.out) P.out)
   rcases o with⟨V,rfl⟩|⟨V,ty,xx,rfl⟩
   ·go_region
    go_wp2;obtain⟨p,q,r⟩:=AKP N w.heap.size _ _ _ (Zi 1) (Zi n) (Zt ⟨#[]⟩) _ h.out;refine bodyPost_ret (v:=Zu #[Zg #[Zi 1,Zi n,Zt ⟨#[]⟩],Zt x2,Zo true]) (by simp[results,results271,go_sem,p,q,r]) rfl ⟨1,n,_,_,true,rfl,(Fi u.out (Y8 _) _ _ _).drew,?_⟩;rw[b.out,if_neg HN.out,V];exact .inl ⟨rfl,t,rfl,i.out.symm⟩
   go_region
   go_wp2;obtain⟨p,q,r⟩:=AKP N w.heap.size _ _ _ (Zi 1) (Zi n) (Zt ⟨#[]⟩) _ h.out;refine bodyPost_ret (v:=Zu #[Zg #[Zi 1,Zi n,Zt ⟨#[]⟩],Zt x2,Zo false]) (by simp[results,results271,go_sem,p,q,r]) rfl ⟨1,n,_,_,false,rfl,(Fi u.out (Y8 _) _ _ _).drew,?_⟩;rw[b.out,if_neg HN.out,V];exact .inr ⟨rfl,rfl⟩
def Fo:Nat->List UInt8->List UInt8
 | 0,l=>l
 | n+1,l=>Aw (Fo n l)
def Cj(n:Nat)(l:List UInt8):ByteArray:=bA (Ao 32 (Fo n l)).1
theorem Ug:∀(n:Nat)(l:List UInt8),(Fo n l).length<=l.length
 | 0,_=>Y8 _
 | n+1,l=>XD (Gi _) (Ug n l)
def ABd(l:List UInt8)(w:World)(e:Ending)(i:World):Prop:=∃(c1:Int)(a:ByteArray)(c:Int)(d:Bool)(f g:Int)(h b:ByteArray)(ok:Bool),e=.returned (.tuple #[.agg #[Zi c1,.string a,Zi c,.bool d,Zi f,Zi g,.string h],.string b,.bool ok])/\Zb w i/\((ok=true/\∃r,D0 l=some ((c1,a,c,d,f,g,h),r)/\b=bA r)\/(ok=false/\D0 l=none))
theorem AG8{r:List UInt8}{i k:Int}{v:AIE}(a:numOf (Ao 32 (Fo 0 l)).1=some i)(b:numOf (Ao 32 (Fo 2 l)).1=some k)(c:Ej (Fo 4 l)=some (v,r)):D0 l=some ((i,Cj 1 l,k,decide ((Ao 32 (Fo 3 l)).1=dS),v),r):=by simp only[Fo] at a b c;unfold D0;rw[a,b,c];rfl
theorem ABA(h:numOf (Ao 32 (Fo 0 l)).1=none):D0 l=none:=by simp only[Fo] at h;unfold D0;rw[h];rfl
theorem ABL(h:numOf (Ao 32 (Fo 2 l)).1=none):D0 l=none:=by simp only[Fo] at h;unfold D0;rw[h];cases numOf (Ao 32 l).1 <;> rfl
theorem ABE(h:Ej (Fo 4 l)=none):D0 l=none:=by
 simp only[Fo] at h;unfold D0;rw[h];cases numOf (Ao 32 l).1 with
 | none=>rfl
 | some a=>cases numOf (Ao 32 (Aw (Aw l))).1 <;> rfl
theorem Jz{b:Nat}{v u f a:Tv}{t:TypeId}(h:W.heap[b]? = some (Zk #[v,u,f,a] t (0,0))):W.cell? ⟨b,0,none⟩=some v/\W.cell? ⟨b,1,none⟩=some u/\W.cell? ⟨b,2,none⟩=some f/\W.cell? ⟨b,3,none⟩=some a/\∀i,W.frozen? ⟨b,i,none⟩=false:=B3 h
theorem F8{b:Nat}{v u f a e c d:Tv}{t:TypeId}(h:W.heap[b]? = some (Zk #[v,u,f,a,e,c,d] t (0,0))):
 W.cell? ⟨b,0,none⟩=some v/\W.cell? ⟨b,1,none⟩=some u/\W.cell? ⟨b,2,none⟩=some f/\W.cell? ⟨b,3,none⟩=some a/\W.cell? ⟨b,4,none⟩=some e/\W.cell? ⟨b,5,none⟩=some c/\W.cell? ⟨b,6,none⟩=some d/\∀i,W.frozen? ⟨b,i,none⟩=false:=by
 refine⟨?_,?_,?_,?_,?_,?_,?_,λi=>?_⟩
 all_goals first|(rw[World.frozen?,h];simp)|(simp[World.cell?,h])
abbrev AKf(W:World)(b:Nat)(a c d e f g h:Value):World:=((((((W.setCell ⟨b,0,none⟩ a).setCell ⟨b,1,none⟩ c).setCell ⟨b,2,none⟩ d).setCell ⟨b,3,none⟩ e).setCell ⟨b,4,none⟩ f).setCell ⟨b,5,none⟩ g).setCell ⟨b,6,none⟩ h
theorem ALC(W:Tw)(b:Nat)(w u n m l j i a c d e f g k:Tv)(T:TypeId)(h:W.heap[b]? = some (Zk #[w,u,n,m,l,j,i] T (0,0))):
 (W.setCell ⟨b,0,none⟩ a).cell? ⟨b,0,none⟩=some a/\((W.setCell ⟨b,0,none⟩ a).setCell ⟨b,1,none⟩ c).cell? ⟨b,1,none⟩=some c/\(((W.setCell ⟨b,0,none⟩ a).setCell ⟨b,1,none⟩ c).setCell ⟨b,2,none⟩ d).cell? ⟨b,2,none⟩=some d/\((((W.setCell ⟨b,0,none⟩ a).setCell ⟨b,1,none⟩ c).setCell ⟨b,2,none⟩ d).setCell ⟨b,3,none⟩ e).cell? ⟨b,3,none⟩=some e/\(((((W.setCell ⟨b,0,none⟩ a).setCell ⟨b,1,none⟩ c).setCell ⟨b,2,none⟩ d).setCell ⟨b,3,none⟩ e).setCell ⟨b,4,none⟩ f).cell? ⟨b,4,none⟩=some f/\((((((W.setCell ⟨b,0,none⟩ a).setCell ⟨b,1,none⟩ c).setCell ⟨b,2,none⟩ d).setCell ⟨b,3,none⟩ e).setCell ⟨b,4,none⟩ f).setCell ⟨b,5,none⟩ g).cell? ⟨b,5,none⟩=some g/\(((((((W.setCell ⟨b,0,none⟩ a).setCell ⟨b,1,none⟩ c).setCell ⟨b,2,none⟩ d).setCell ⟨b,3,none⟩ e).setCell ⟨b,4,none⟩ f).setCell ⟨b,5,none⟩ g).setCell ⟨b,6,none⟩ k).cell? ⟨b,6,none⟩=some k:=by
 have o:(W.setCell ⟨b,0,none⟩ a).heap[b]? = some (Zk #[a,u,n,m,l,j,i] T (0,0)):=by simpa using As W b 0 _ T a h
 have p:((W.setCell ⟨b,0,none⟩ a).setCell ⟨b,1,none⟩ c).heap[b]? = some (Zk #[a,c,n,m,l,j,i] T (0,0)):=by simpa using As (W.setCell ⟨b,0,none⟩ a) b 1 _ T c o
 have q:(((W.setCell ⟨b,0,none⟩ a).setCell ⟨b,1,none⟩ c).setCell ⟨b,2,none⟩ d).heap[b]? = some (Zk #[a,c,d,m,l,j,i] T (0,0)):=by simpa using As ((W.setCell ⟨b,0,none⟩ a).setCell ⟨b,1,none⟩ c) b 2 _ T d p
 have r:((((W.setCell ⟨b,0,none⟩ a).setCell ⟨b,1,none⟩ c).setCell ⟨b,2,none⟩ d).setCell ⟨b,3,none⟩ e).heap[b]? = some (Zk #[a,c,d,e,l,j,i] T (0,0)):=by simpa using As (((W.setCell ⟨b,0,none⟩ a).setCell ⟨b,1,none⟩ c).setCell ⟨b,2,none⟩ d) b 3 _ T e q
 have s:(((((W.setCell ⟨b,0,none⟩ a).setCell ⟨b,1,none⟩ c).setCell ⟨b,2,none⟩ d).setCell ⟨b,3,none⟩ e).setCell ⟨b,4,none⟩ f).heap[b]? = some (Zk #[a,c,d,e,f,j,i] T (0,0)):=by simpa using As ((((W.setCell ⟨b,0,none⟩ a).setCell ⟨b,1,none⟩ c).setCell ⟨b,2,none⟩ d).setCell ⟨b,3,none⟩ e) b 4 _ T f r
 have t:((((((W.setCell ⟨b,0,none⟩ a).setCell ⟨b,1,none⟩ c).setCell ⟨b,2,none⟩ d).setCell ⟨b,3,none⟩ e).setCell ⟨b,4,none⟩ f).setCell ⟨b,5,none⟩ g).heap[b]? = some (Zk #[a,c,d,e,f,g,i] T (0,0)):=by simpa using As (((((W.setCell ⟨b,0,none⟩ a).setCell ⟨b,1,none⟩ c).setCell ⟨b,2,none⟩ d).setCell ⟨b,3,none⟩ e).setCell ⟨b,4,none⟩ f) b 5 _ T g s
 have v:(((((((W.setCell ⟨b,0,none⟩ a).setCell ⟨b,1,none⟩ c).setCell ⟨b,2,none⟩ d).setCell ⟨b,3,none⟩ e).setCell ⟨b,4,none⟩ f).setCell ⟨b,5,none⟩ g).setCell ⟨b,6,none⟩ k).heap[b]? = some (Zk #[a,c,d,e,f,g,k] T (0,0)):=by simpa using As ((((((W.setCell ⟨b,0,none⟩ a).setCell ⟨b,1,none⟩ c).setCell ⟨b,2,none⟩ d).setCell ⟨b,3,none⟩ e).setCell ⟨b,4,none⟩ f).setCell ⟨b,5,none⟩ g) b 6 _ T k t
 exact⟨(F8 o).1,(F8 p).2.1,(F8 q).2.2.1,(F8 r).2.2.2.1,(F8 s).2.2.2.2.1,(F8 t).2.2.2.2.2.1,(F8 v).2.2.2.2.2.2.1⟩
theorem Rs(h:Below n w W){b:Nat}(a:n<=b)(c d e f g i j:Tv):Below n w (AKf W b c d e f g i j) :=
 ((((((h.setCell (p:=⟨b,0,none⟩) a _).setCell (p:=⟨b,1,none⟩) a _).setCell (p:=⟨b,2,none⟩) a _).setCell (p:=⟨b,3,none⟩) a _).setCell (p:=⟨b,4,none⟩) a _).setCell (p:=⟨b,5,none⟩) a _).setCell (p:=⟨b,6,none⟩) a _
theorem ABi(a b:List UInt8):(a==b)=decide (a=b):=by by_cases h:a=b <;> simp[h]
def AIs(k:Nat)(l:List UInt8):Array Value:=match k with
 | 0=>#[.string ⟨#[]⟩,.string ⟨#[]⟩,.string ⟨#[]⟩,.string ⟨#[]⟩]
 | 1=>#[.string (Cj 0 l),.string ⟨#[]⟩,.string ⟨#[]⟩,.string ⟨#[]⟩]
 | 2=>#[.string (Cj 0 l),.string (Cj 1 l),.string ⟨#[]⟩,.string ⟨#[]⟩]
 | 3=>#[.string (Cj 0 l),.string (Cj 1 l),.string (Cj 2 l),.string ⟨#[]⟩]
 | _=>#[.string (Cj 0 l),.string (Cj 1 l),.string (Cj 2 l),.string (Cj 3 l)]
theorem dX(s:ByteArray)(w:World)(hs:s.size<=1000000)(he:Ik w):Zc 229 #[.string s] w (ABd s.data.toList w):=by
 obtain⟨l,hl⟩:∃l,s.data.toList=l:=⟨_,rfl⟩;have ax:l.length<=1000000:=by rw[<-hl,Gm];exact hs
 have es:s=bA (Fo 0 l):=by rw[<-hl];exact(Ju s).symm
 rw[hl]
 have I:Hid (∀n W,Zc 130 #[.string (bA (Fo n l)),.string ⟨#[32]⟩] W λe w'=>∃z,e=.returned (.tuple #[.string (Cj n l),.string (bA (Fo (n+1) l)),.bool z])/\Zb W w'):=Aa (λn W=>by refine(L5 (bA (Fo n l)) 32 W (by rw[Cz];have:=Ug n l;unfold maxLen;omega)).mono ?_;rintro e w'⟨rfl,hb⟩;rw[B5];exact⟨_,rfl,hb⟩)
 have M:Hid (∀n W,Zb w W->Zc 185 #[.string (Cj n l)] W (Ns (Ao 32 (Fo n l)).1 W)):=Aa (λn W O=>by have:=Ud (Cj n l) W (by unfold Cj;have:=P1 32 (Fo n l);have:=Ug n l;omega) (he.below O);unfold Cj at this;rw[B5] at this;exact this)
 have Y:Hid (∀W,Zb w W->Zc 271 #[.string (bA (Fo 4 l))] W (ABW (Fo 4 l) W)):=Aa (λW O=>by have:=iR (bA (Fo 4 l)) W (by rw[Cz];have:=Ug 4 l;omega) (he.below O);rw[B5] at this;exact this)
 have X:Hid ((Cj 3 l).toList=(Ao 32 (Fo 3 l)).1):=Aa (Ky _);subst es;clear he hl hs;obtain⟨z0,z1,z2,z3⟩:=C1 w (.cells #[.int .i64 0,.string ⟨#[]⟩,.int .i64 0,.bool false,.int .i64 0,.int .i64 0,.string ⟨#[]⟩] 72) (.cells #[.string ⟨#[]⟩,.string ⟨#[]⟩,.string ⟨#[]⟩,.string ⟨#[]⟩] 352);have Z0:=Aa z0;have Z1:=Aa z1;have Z2:=Aa z2;have Z3:=Aa z3;clear z0 z1 z2 z3;go_enter func229,ntmps229;go_wp2_with fail
 go_loopw [0,13] (λvs vi wr=>∃k:Nat,k<=4/\vi=.int .i64 k/\vs=.string (bA (Fo k l))/\Hid (wr.heap[w.heap.size+1]? = some (.cells (AIs k l) 352 (0,0)))/\Hid (wr.heap[w.heap.size]? = some (.cells #[.int .i64 0,.string ⟨#[]⟩,.int .i64 0,.bool false,.int .i64 0,.int .i64 0,.string ⟨#[]⟩] 72 (0,0)))/\Hid (Zb w wr)) (λ_ vi _=>4-(intOf vi).toNat)
 case atStart=>exact⟨0,by decide,rfl,rfl,Z2,Z1,Z3⟩
 case round=>
  obtain⟨k,hk,rfl,rfl,a,f,i⟩:=hrel;clear Z0 Z1 Z2 Z3;obtain rfl|rfl|rfl|rfl|rfl:k=0\/k=1\/k=2\/k=3\/k=4:=by omega
  ·obtain⟨p0,y,D,G,h⟩:=Jz a.out
   have q:=h 0;clear h
   go_wp2_with (first
    | (go_at_call 130;refine(I.out 0 _).mono ?_;rintro e r⟨zz,rfl,b⟩;have c:=Aa b;have g:=Aa ((b.block (w.heap.size+1) (Ac a.out)).trans a.out);obtain⟨p0,y,D,G,h⟩:=Jz g.out;have q:=h 0;clear b h))
   have o:=Aa (As r (w.heap.size+1) 0 _ _ (.string (Cj 0 l)) g.out);have d:Hid (Zb w (r.setCell ⟨w.heap.size+1,0,none⟩ (.string (Cj 0 l)))):=Aa ((Below.Ap i.out c.out).setCell (p:=⟨w.heap.size+1,0,none⟩) (XN _) _);have m:Hid ((r.setCell ⟨w.heap.size+1,0,none⟩ (.string (Cj 0 l))).heap[w.heap.size]? = some (.cells #[.int .i64 0,.string ⟨#[]⟩,.int .i64 0,.bool false,.int .i64 0,.int .i64 0,.string ⟨#[]⟩] 72 (0,0))):=Aa ((X6 _ _ _ _ (by simp)).trans ((c.out.block w.heap.size (Ac f.out)).trans f.out))
   go_roundw
   case rel=>exact⟨1,by decide,rfl,rfl,o,m,d⟩
   case measure=>simp[intOf]
  ·obtain⟨p0,y,D,G,h⟩:=Jz a.out
   have q:=h 1;clear h
   go_wp2_with (first
    | (go_at_call 130;refine(I.out 1 _).mono ?_;rintro e r⟨zz,rfl,b⟩;have c:=Aa b;have g:=Aa ((b.block (w.heap.size+1) (Ac a.out)).trans a.out);obtain⟨p0,y,D,G,h⟩:=Jz g.out;have q:=h 1;clear b h))
   have o:=Aa (As r (w.heap.size+1) 1 _ _ (.string (Cj 1 l)) g.out);have d:Hid (Zb w (r.setCell ⟨w.heap.size+1,1,none⟩ (.string (Cj 1 l)))):=Aa ((Below.Ap i.out c.out).setCell (p:=⟨w.heap.size+1,1,none⟩) (XN _) _);have m:Hid ((r.setCell ⟨w.heap.size+1,1,none⟩ (.string (Cj 1 l))).heap[w.heap.size]? = some (.cells #[.int .i64 0,.string ⟨#[]⟩,.int .i64 0,.bool false,.int .i64 0,.int .i64 0,.string ⟨#[]⟩] 72 (0,0))):=Aa ((X6 _ _ _ _ (by simp)).trans ((c.out.block w.heap.size (Ac f.out)).trans f.out))
   go_roundw
   case rel=>exact⟨2,by decide,rfl,rfl,o,m,d⟩
   case measure=>simp[intOf]
  ·obtain⟨p0,y,D,G,h⟩:=Jz a.out
   have q:=h 2;clear h
   go_wp2_with (first
    | (go_at_call 130;refine(I.out 2 _).mono ?_;rintro e r⟨zz,rfl,b⟩;have c:=Aa b;have g:=Aa ((b.block (w.heap.size+1) (Ac a.out)).trans a.out);obtain⟨p0,y,D,G,h⟩:=Jz g.out;have q:=h 2;clear b h))
   have o:=Aa (As r (w.heap.size+1) 2 _ _ (.string (Cj 2 l)) g.out);have d:Hid (Zb w (r.setCell ⟨w.heap.size+1,2,none⟩ (.string (Cj 2 l)))):=Aa ((Below.Ap i.out c.out).setCell (p:=⟨w.heap.size+1,2,none⟩) (XN _) _);have m:Hid ((r.setCell ⟨w.heap.size+1,2,none⟩ (.string (Cj 2 l))).heap[w.heap.size]? = some (.cells #[.int .i64 0,.string ⟨#[]⟩,.int .i64 0,.bool false,.int .i64 0,.int .i64 0,.string ⟨#[]⟩] 72 (0,0))):=Aa ((X6 _ _ _ _ (by simp)).trans ((c.out.block w.heap.size (Ac f.out)).trans f.out))
   go_roundw
   case rel=>exact⟨3,by decide,rfl,rfl,o,m,d⟩
   case measure=>simp[intOf]
  ·obtain⟨p0,y,D,G,h⟩:=Jz a.out
   have q:=h 3;clear h
   go_wp2_with (first
    | (go_at_call 130;refine(I.out 3 _).mono ?_;rintro e r⟨zz,rfl,b⟩;have c:=Aa b;have g:=Aa ((b.block (w.heap.size+1) (Ac a.out)).trans a.out);obtain⟨p0,y,D,G,h⟩:=Jz g.out;have q:=h 3;clear b h))
   have o:=Aa (As r (w.heap.size+1) 3 _ _ (.string (Cj 3 l)) g.out);have d:Hid (Zb w (r.setCell ⟨w.heap.size+1,3,none⟩ (.string (Cj 3 l)))):=Aa ((Below.Ap i.out c.out).setCell (p:=⟨w.heap.size+1,3,none⟩) (XN _) _);have m:Hid ((r.setCell ⟨w.heap.size+1,3,none⟩ (.string (Cj 3 l))).heap[w.heap.size]? = some (.cells #[.int .i64 0,.string ⟨#[]⟩,.int .i64 0,.bool false,.int .i64 0,.int .i64 0,.string ⟨#[]⟩] 72 (0,0))):=Aa ((X6 _ _ _ _ (by simp)).trans ((c.out.block w.heap.size (Ac f.out)).trans f.out))
   go_roundw
   case rel=>exact⟨4,by decide,rfl,rfl,o,m,d⟩
   case measure=>simp[intOf]
  obtain⟨p0,y,D,G,_⟩:=Jz a.out
  have keep:∀W,Zb wr W->W.cell? ⟨w.heap.size+1,0,none⟩=some (.string (Cj 0 l))/\W.cell? ⟨w.heap.size+1,1,none⟩=some (.string (Cj 1 l))/\W.cell? ⟨w.heap.size+1,2,none⟩=some (.string (Cj 2 l))/\W.cell? ⟨w.heap.size+1,3,none⟩=some (.string (Cj 3 l)):=λW O=>by obtain⟨a0,a1,a2,a3,_⟩:=Jz ((O.block (w.heap.size+1) (Ac a.out)).trans a.out);exact⟨a0,a1,a2,a3⟩
  have HK:=Aa keep;have ay:=Ac a.out;clear keep
  go_wp2_with (first
   | (go_at_call_of 185 (#[.string (Cj 0 l)]:Array Value);refine(M.out 0 _ i.out).mono ?_;rintro e w3⟨n1,av,rfl,ac,ag⟩;have d:=Aa ac;have T:=Aa ag;clear ac ag p0 y D G;obtain⟨p0,y,D,G⟩:=HK.out _ d.out)
   | (go_at_call_of 185 (#[.string (Cj 2 l)]:Array Value);refine(M.out 2 _ (Below.Ap i.out d.out)).mono ?_;rintro e w4⟨n2,aw,rfl,ad,ah⟩;have R:=Aa (Below.Ap d.out ad);have U:=Aa ah;clear ad ah)
   | (go_at_call 271;refine(Y.out _ (Below.Ap i.out R.out)).mono ?_;rintro e w5⟨t,u,x,vb,ok,rfl,ae,ai⟩;have j:=Aa (Below.Ap R.out ae);have V:=Aa ai;have a7:=j.out.size;clear ae ai p0 y D G;obtain⟨p0,y,D,G⟩:=HK.out _ (j.out.alloc j.out.size (.cells #[.int .i64 t,.int .i64 u,.string x] 56)))
   | fail)
  have aa:Hid (∀W,Zb wr W->W.heap[w.heap.size]? = some (.cells #[.int .i64 0,.string ⟨#[]⟩,.int .i64 0,.bool false,.int .i64 0,.int .i64 0,.string ⟨#[]⟩] 72 (0,0))):=Aa (λW O=>(O.block w.heap.size (Ac f.out)).trans f.out);have HZ:Hid (Zb wr ((w5.alloc (.cells #[.int .i64 t,.int .i64 u,.string x] 56)).alloc (.cells #[.int .i64 n1,.string (Cj 1 l),.int .i64 n2,.bool ((Cj 3 l).toList==[109,117,115,116]),.int .i64 t,.int .i64 u,.string x] 72))):=Aa ((j.out.alloc j.out.size _).alloc (XD j.out.size (by rw[XL];exact XN _)) _);have J:=Aa (heap_alloc_new (w5.alloc (.cells #[.int .i64 t,.int .i64 u,.string x] 56)) (.cells #[.int .i64 n1,.string (Cj 1 l),.int .i64 n2,.bool ((Cj 3 l).toList==[109,117,115,116]),.int .i64 t,.int .i64 u,.string x] 72));rw[XL] at J;have az:w5.heap.size+1≠w.heap.size:=by have:=j.out.size;omega
  have ak:((Cj 3 l).toList==[109,117,115,116])=decide ((Ao 32 (Fo 3 l)).1=dS):=by rw[X.out];exact ABi _ _
  generalize (w5.alloc (.cells #[.int .i64 t,.int .i64 u,.string x] 56)).alloc (.cells #[.int .i64 n1,.string (Cj 1 l),.int .i64 n2,.bool ((Cj 3 l).toList==[109,117,115,116]),.int .i64 t,.int .i64 u,.string x] 72)=wz at *;rw[ak] at J;have ab:=Aa (aa.out _ HZ.out);obtain⟨a0,a1,a2,a3,a4,a5,a6,L⟩:=F8 ab.out;obtain⟨b0,b1,b2,b3,b4,b5,b6,_⟩:=F8 J.out;have am:=L 0;have an:=L 1;have ao:=L 2;have ap:=L 3;have aq:=L 4;have ar:=L 5;have au:=L 6;have HY:=Aa (ALC wz w.heap.size _ _ _ _ _ _ _ (.int .i64 n1) (.string (Cj 1 l)) (.int .i64 n2) (.bool (decide ((Ao 32 (Fo 3 l)).1=dS))) (.int .i64 t) (.int .i64 u) (.string x) _ ab.out);have N:=Aa (Below.Ap i.out HZ.out);clear L p0 y D G ak J X M I Y HK aa f a
  rcases V.out with⟨rfl,r3,e3,rfl⟩|⟨rfl,e3⟩ <;> rcases T.out with⟨e1,rfl⟩|⟨e1,t1,q1,rfl⟩ <;> rcases U.out with⟨e2,rfl⟩|⟨e2,t2,q2,rfl⟩
  all_goals
   have E1:=Aa e1;have E2:=Aa e2;have E3:=Aa e3;clear e1 e2 e3 T U V;generalize aj:decide ((Ao 32 (Fo 3 l)).1=dS)=P at *;have al:=Aa aj;clear aj
   go_region
  all_goals
   go_wp2;obtain⟨y0,y1,y2,y3,y4,y5,y6⟩:=HY.out
   first
    | (refine bodyPost_ret (v:=.tuple #[.agg #[.int .i64 n1,.string (Cj 1 l),.int .i64 n2,.bool P,.int .i64 t,.int .i64 u,.string x],.string (bA r3),.bool true]) (by simp[results,results229,go_sem,y0,y1,y2,y3,y4,y5,y6];done) rfl ⟨n1,Cj 1 l,n2,P,t,u,x,_,true,rfl,(Rs N.out (Y8 _) _ _ _ _ _ _ _).drew,.inl ⟨rfl,r3,?_,rfl⟩⟩
       rw[AG8 E1.out E2.out E3.out,al.out])
    | (refine bodyPost_ret (v:=.tuple #[.agg #[.int .i64 n1,.string (Cj 1 l),.int .i64 n2,.bool P,.int .i64 t,.int .i64 u,.string x],.string (bA r3),.bool false]) (by simp[results,results229,go_sem,y0,y1,y2,y3,y4,y5,y6];done) rfl ⟨n1,Cj 1 l,n2,P,t,u,x,_,false,rfl,(Rs N.out (Y8 _) _ _ _ _ _ _ _).drew,.inr ⟨rfl,?_⟩⟩
       first|exact ABE E3.out|exact ABA E1.out|exact ABL E2.out)
    | (refine bodyPost_ret (v:=.tuple #[.agg #[.int .i64 n1,.string (Cj 1 l),.int .i64 n2,.bool P,.int .i64 t,.int .i64 u,.string x],.string vb,.bool false]) (by simp[results,results229,go_sem,y0,y1,y2,y3,y4,y5,y6];done) rfl ⟨n1,Cj 1 l,n2,P,t,u,x,_,false,rfl,(Rs N.out (Y8 _) _ _ _ _ _ _ _).drew,.inr ⟨rfl,?_⟩⟩
       first|exact ABE E3.out|exact ABA E1.out|exact ABL E2.out)
    | fail
def nC:Value->Nat
 | .string s=>s.size
 | _=>0
def sE(l:List UInt8)(w:World)(e:Ending)(b:World):Prop:=∃(a:Option Addr)(n c:Nat)(ok:Bool),e=.returned (.tuple #[.slice a n c,.bool ok])/\Zb w b/\((ok=true/\∃L,Dg l=some L/\n=L.length/\b.ownsRow w.heap.size 72 7 (.slice a n c) L.length (Av L))\/(ok=false/\Dg l=none))
theorem qE(L:List Aj)(c:Aj):Av (L++[c])=Av L++Cc c:=by simp[Av]
theorem AAN{base:Nat}{xs:List Tv}(h:w.ownsRow base T z v n xs):∃a c,v=Zs a n c:=by
 rcases Di h with⟨e,e0⟩|⟨g,c,e,_⟩
 ·exact⟨none,0,by rw[e,e0]⟩
 exact⟨_,c,e⟩
theorem Fu{base:Nat}{xs:List Tv}(h:w.ownsRow base T z v n xs)(a:v.ownBlock=some k):base<=k:=by
 rcases Di h with⟨e,_⟩|⟨g,c,e,b,_⟩
 ·rw[e] at a;cases a
 rw[e] at a;cases a;exact b
theorem aE(s:Tb)(w:Tw)(hs:s.size<=1000000)(he:Ik w):Zc 187 #[Zt s] w (sE s.data.toList w):=by
 obtain⟨l,hl⟩:∃l,s.data.toList=l:=⟨_,rfl⟩;have ag:l.length<=1000000:=by rw[<-hl,Gm];exact hs
 have es:s=bA l:=by rw[<-hl];exact(Ju s).symm
 rw[hl];obtain⟨iC,T,U,V,X⟩:=info_parts Kh;have v:=Zy T U V X
 have ac:Hid (∀(r:List UInt8)W,r.length<=1000000->Zb w W->Zc 229 #[Zt (bA r)] W (ABd r W)):=Aa (λr W hr hW=>by have:=dX (bA r) W (by rw[Cz];exact hr) (he.below hW);rw[B5] at this;exact this)
 subst es;clear he hl hs T U V X;go_enter func187,ntmps187;go_wp2_with fail
 go_loopw [0,4] (λvs vl wr=>∃(r:List UInt8)(L:List Aj)(a:To)(c:Nat),vs=Zt (bA r)/\vl=Zs a L.length c/\Hid (Dg l=(Dg r).map (L++·))/\L.length+r.length<=l.length/\Hid (wr.ownsRow w.heap.size 72 7 (Zs a L.length c) L.length (Av L))/\Hid (Zb w wr)) (λvs _ _=>nC vs)
 case atStart=>exact⟨l,[],none,0,rfl,rfl,Aa (by simp),by simp,Aa (XE ..),Aa (XI _ _)⟩
 case round=>
  obtain⟨r,L,a,c,rfl,rfl,I,hlen,G,d⟩:=hrel;cases r with
  | nil=>have e0:bA ([]:List UInt8)=⟨#[]⟩:=rfl;rw[e0];go_wp2_with fail;go_ret2;refine⟨a,L.length,c,true,rfl,d.out,.inl ⟨rfl,L,?_,rfl,G.out⟩⟩;rw[I.out,Kq];simp
  | cons x r=>
    have ah:((bA (x :: r)).toList==[])=false:=by rw[Ky];rfl
    have ae:¬(bA (x :: r)).toList=[]:=by rw[Ky];simp
    have HC:=Aa (ac.out (x :: r) wr (by simp only[XA] at hlen ⊢;omega) d.out);have HZ:Hid (nC (Zt (bA (x :: r)))=(x :: r).length):=Aa (by simp[nC,Cz]);have P:(x :: r).length<=l.length-L.length:=by omega
    have R:(x :: r)≠[]:=by simp
    generalize x :: r=xr at *;have M:=Aa R;have ab:=Aa P;clear R P;cases hrc:D0 xr with
    | none=>
      have HN:=Aa (Qt M.out hrc)
      have D:Hid (Zc 229 #[Zt (bA xr)] wr λe Y=>∃c1 f g i k m n b,e=Zr (Zu #[Zg #[Zi c1,Zt f,Zi g,Zo i,Zi k,Zi m,Zt n],Zt b,Zo false])/\Zb wr Y):=Aa (HC.out.mono (by
       rintro e Y⟨c1,f,g,i,k,m,n,b,ok,rfl,hb,⟨_,q,h,_⟩|⟨rfl,_⟩⟩
       ·rw[hrc] at h;cases h
       exact⟨c1,f,g,i,k,m,n,b,rfl,hb⟩))
      clear HC hrc
      go_wp2_with (first
       | (go_at_call 229;refine D.out.mono ?_;rintro e w2⟨c1,f,g,i,k,m,n,b,rfl,o⟩))
      go_ret2;refine⟨none,0,0,false,rfl,(Below.Ap d.out o).alloc (Below.Ap d.out o).size _,.inr ⟨rfl,?_⟩⟩;rw[I.out,HN.out];rfl
    | some p=>
      obtain⟨⟨c1,f,g,i,k,m,n⟩,r2⟩:=p;have HN:=Aa (Jv M.out hrc);have ad:=Ru hrc
      have D:Hid (Zc 229 #[Zt (bA xr)] wr λe Y=>e=Zr (Zu #[Zg #[Zi c1,Zt f,Zi g,Zo i,Zi k,Zi m,Zt n],Zt (bA r2),Zo true])/\Zb wr Y):=Aa (HC.out.mono (by
       rintro e Y⟨d1,d2,d3,d4,d5,d6,d7,b,ok,rfl,hb,⟨rfl,q,h,rfl⟩|⟨_,h⟩⟩
       ·rw[hrc] at h;cases h;exact⟨rfl,hb⟩
       rw[hrc] at h;cases h))
      clear HC hrc;have af:=ab.out
      go_wp2_with (first
       | (go_at_call 229;refine D.out.mono ?_;rintro e w2⟨rfl,o⟩;have z:=Aa o;have y:Hid (Zb w2 ((w2.alloc (Zk #[Zi c1,Zt f,Zi g,Zo i,Zi k,Zi m,Zt n] 72)).alloc (Zk #[Zi c1,Zt f,Zi g,Zo i,Zi k,Zi m,Zt n] 72))):=Aa ((Zal).alloc (by rw[XL];exact XN _) _);clear o)
       | (at_builtin;refine wpList_append_own _ rfl _ _ 34 rfl w.heap.size 72 iC L6 7 72 underlying34 v.out.1 v.out.2.1 v.out.2.2.1 v.out.2.2.2 rfl (by decide) (.slice a L.length c) L.length (Av L) rfl (Bc (Bc G.out z.out) y.out) ⟨w2.heap.size+1,0,none⟩ 1 1 (Cc (c1,f,g,i,k,m,n)) rfl rfl (λj u hj=>XZ (by rw[<-XL w2 (.cells #[Zi c1,.string f,Zi g,.bool i,Zi k,Zi m,.string n] 72)];exact heap_alloc_new _ _) j u hj) (by intro u hu;simp[Cc] at hu;rcases hu with rfl|rfl|rfl|rfl|rfl|rfl|rfl <;> rfl) (by unfold maxLen;omega) (by omega) (XD d.out.size (XD z.out.size y.out.size)) ?_
          intro v1 w3 t O _;have J:=Aa t;have aa:=Aa O;clear t O))
      obtain⟨a',c',rfl⟩:=AAN J.out;have N:=Below.Ap (Below.Ap d.out z.out) y.out;refine⟨⟨r2,L++[(c1,f,g,i,k,m,n)],a',c',rfl,by simp,Aa ?_,?_,Aa ?_,Aa (N.grown aa.out N.size (λj hj=>Fu G.out hj))⟩,?_⟩
      ·rw[I.out,HN.out]
       cases Dg r2 <;> simp
      ·simp only[XB,XA,XF]
       omega
      ·rw[qE]
       simpa using J.out
      simp only[nC,Cz];exact ad
variable{w:Tw}{r:List UInt8}
attribute [local go_sem] Oper.semAt_some
theorem ADX(s:Tb)(w:Tw):
 Zc 131 #[Zt s] w λe a=>e=Zr (.func (.func 183) #[] #[Zp (some ⟨w.heap.size,0,none⟩)])/\a=w.alloc (Zk #[Zt s] 9):=by
 go_enter func131,ntmps131;go_wp2;go_ret;exact⟨rfl,rfl⟩
def mV(B:Nat)(w:World):Nat:=match w.cell? ⟨B,0,none⟩ with
 | some (.string s)=>s.size
 | _=>0
theorem Mt{B:Nat}(h:w.cell? ⟨B,0,none⟩=some (Zt (bA r))):mV B w=r.length:=by unfold mV;rw[h];exact Cz
def iN(B:Nat)(r:List UInt8)(w:World):Prop:=w.heap[B]? = some (.cells #[.string (bA r)] 9 (0,0))
theorem iN.cell{B:Nat}{r:List UInt8}{w:Tw}(h:iN B r w):w.cell? ⟨B,0,none⟩=some (Zt (bA r)):=by have a:w.heap[B]? = _:=h;simp[World.cell?,a]
theorem iN.frozen{B:Nat}{r:List UInt8}{w:Tw}(h:iN B r w):w.frozen? ⟨B,0,none⟩=false:=by have a:w.heap[B]? = _:=h;simp[World.frozen?,a]
theorem iN.put{B:Nat}(h:iN B r w)(q:List UInt8):iN B q (w.setCell ⟨B,0,none⟩ (Zt (bA q))):=As w B 0 _ _ _ h
theorem AGK(a:List UInt8):Lib.trimSuffix (a++[10]) [10]=a:=by unfold Lib.trimSuffix Lib.hasSuffix;rw[if_pos (by rw[WA];exact⟨a,rfl⟩)];simp
theorem ABn{a:List UInt8}(h:(10:UInt8) ∉ a):Lib.trimSuffix a [10]=a:=by
 unfold Lib.trimSuffix Lib.hasSuffix
 rw[if_neg (by rw[WA];rintro⟨t,rfl⟩;exact h (by simp))]
theorem ADN(n:Nat)(_hn:1<=n)(l B:Nat)(j:List UInt8)(hlen:j.length<=1000000)(I:List (List UInt8)->Tw->Prop)(U:Tw->Prop)(P:∀pre W,I pre W->I pre W.drew)(y:∀pre W v,I pre W->I pre (W.setCell ⟨B,0,none⟩ v))(Y:∀pre a s W v,(∃t,Dp j=pre++a :: t)->Lib.trimSuffix s [10]=a->s.length<=1000000->I pre W->iN B v W->YieldAt Fence.wide (n-1) prog l #[Zt (bA s)] W λe u=>
   (e=Zr (Zo true)/\I (pre++[a]) u/\iN B v u)\/(e=Zr (Zo false)/\U u))(W:Tw)(hB:iN B j W)(h0:I [] W):
 CallsIn Fence.wide n prog 183 #[.func (.yield l) #[] #[],Zp (some ⟨B,0,none⟩)] W λe u=>(∃v,e=Zr v)/\(I (Dp j) u\/U u):=by
 refine callsIn_of_wp func183 rfl trivial ?_ rfl;simp only[ntmps183,XP,XA,XF,Nat.reduceAdd,Nat.reduceSub,XQ,XR,XX,XS,XV,XH];gi_wp2
 gi_loopw [3] (λ_ wr=>∃(pre:List (List UInt8))(r:List UInt8),Hid (Dp j=pre++Dp r)/\r.length<=1000000/\Hid (I pre wr)/\Hid (iN B r wr)) (λ_ wr=>mV B wr)
 case atStart=>exact⟨[],j,Aa rfl,hlen,Aa h0,Aa hB⟩
 case round=>
  obtain⟨pre,r,x,hr,M,J⟩:=hrel;have hc:=J.out.cell;have hf:=J.out.frozen
  by_cases he:r=[]
  ·subst he
   have e0:bA ([]:List UInt8)=⟨#[]⟩:=rfl;rw[e0] at hc;gi_wp2
   go_end0
   refine⟨⟨_,rfl⟩,.inl ?_⟩;rw[x.out,Jf,WM];exact M.out
  have D:0<r.length:=List.length_pos_iff.2 he;have T:(bA r).size=r.length:=Cz;have R:(0:Int)<((bA r).size:Int):=by omega
  have z:=Mt hc;have d:=Aa (λW=>strings_IndexByte (bA r) 10 W);rw[B5,show ((10:Int).toNat.toUInt8)=10 from rfl] at d
  rcases O3 r 10 with o|⟨i,o⟩
  ·have b:=Np o
   rw[o] at d
   have g:(10:UInt8) ∉ r:=by
    rcases Rj 10 r with⟨X,_⟩|⟨_,h⟩
    ·rw[b] at X;cases X
    exact h
   have c:Dp r=r :: Dp []:=by rw[J1 he,b]
   obtain⟨fn,tmps,assign,body,hy,w⟩:=Y pre r r (wr.setCell ⟨B,0,none⟩ (Zt ⟨#[]⟩)) [] ⟨_,by rw[x.out,c]⟩ (ABn g) hr (y _ _ _ M.out) (J.out.put []);have N:=Aa w;have k:Hid (Dp j=(pre++[r])++Dp []):=Aa (by rw[x.out,c];simp);clear o b c w g;gi_wp2_with (refine⟨trivial,?_⟩;gi_at_call 184;refine(callsIn_wide.2 (d.out _)).mono ?_;rintro e w1⟨rfl,rfl⟩);refine N.out.mono ?_;rintro e W3 (⟨rfl,m,f⟩|⟨rfl,q⟩)
   ·gi_wp2
    go_roundw
    case rel=>exact⟨pre++[r],[],k,by simp,Aa m,Aa f⟩
    case measure=>rw[Mt f.cell,z];exact D
   gi_wp2;refine bodyPost_ret (results_none rfl _ _ _) rfl ?_;exact⟨⟨_,rfl⟩,.inr q⟩
  obtain⟨b,p⟩:=J0 o;rw[o] at d;have V:bA (r.take (i+1))=(bA r).extract 0 (i+1):=by rw[extract_eq,B5];simp[bA]
  have L:bA (r.drop (i+1))=(bA r).extract (i+1) (bA r).size:=by rw[extract_eq,B5,Yd (by rw[XG,Cz];exact Y8 _)];rfl
  have G:r.take (i+1)=r.take i++[10]:=by
   rcases Rj 10 r with⟨_,O,_⟩|⟨h,_⟩
   ·rw[b] at O
    simp only at O
    have h3:r[i]? = some 10:=by rw[O,WB (by rw[XT];exact Nat.min_le_left _ _),XT,YW (YD p),Y0];rfl
    rw[YM,h3];rfl
   rw[b] at h;simp at h
  have c:Dp r=r.take i :: Dp (r.drop (i+1)):=by rw[J1 he,b]
  obtain⟨fn,tmps,assign,body,hy,w⟩:=Y pre (r.take i) (r.take (i+1)) (wr.setCell ⟨B,0,none⟩ (Zt (bA (r.drop (i+1))))).drew (r.drop (i+1)) ⟨_,by rw[x.out,c]⟩ (by rw[G];exact AGK _) (by rw[XT];omega) (P _ _ (y _ _ _ M.out)) (J.out.put (r.drop (i+1)));rw[V,L] at hy;rw[L] at w;have N:=Aa w;have k:Hid (Dp j=(pre++[r.take i])++Dp (r.drop (i+1))):=Aa (by rw[x.out,c];simp);have aa:=Aa L;have ab:=Aa p;have c1:(0:Int)<=(i:Int):=by omega
  have c0:(i:Int)<=1000000:=by omega
  have c3:(0:Int)<=(i:Int)+1:=by omega
  have c4:(i:Int)+1<=((bA r).size:Int):=by omega
  clear o b c w G V L p T;gi_wp2_with (refine⟨trivial,?_⟩;gi_at_call 184;refine(callsIn_wide.2 (d.out _)).mono ?_;rintro e w1⟨rfl,rfl⟩);refine wpIn_wide.2 ?_
  go_region
  all_goals gi_wp2
  refine N.out.mono ?_;rintro e W3 (⟨rfl,m,f⟩|⟨rfl,q⟩)
  ·gi_wp2
   go_roundw
   case rel=>exact⟨pre++[r.take i],r.drop (i+1),k,by rw[XG];omega,Aa m,Aa f⟩
   case measure=>rw[Mt f.cell,z,XG];omega
  gi_wp2;refine bodyPost_ret (results_none rfl _ _ _) rfl ?_;exact⟨⟨_,rfl⟩,.inr q⟩
variable{W w:Tw}{n z:Nat}{v:Tv}
def iM{β:Type}(B a:Nat)(J:β->World->Prop):Prop:=∀b X Y row,J b X->X.grownBy Y row->(∀r,row=some r->r=B\/(a<=r/\∃o:Obj,X.heap[r]? = some o/\o.isCells=false))->J b Y
theorem iM.drew{β:Type}{B n:Nat}{J:β->Tw->Prop}(h:iM B n J){b:β}{W:Tw}(a:J b W):J b W.drew :=
 h b W _ none a ⟨rfl,rfl,rfl,Y8 _,λ_ _ _=>rfl⟩ (λr e=>by cases e)
theorem iM.set{β:Type}{B n:Nat}{J:β->Tw->Prop}(h:iM B n J){b:β}(a:J b W)(v:Tv):J b (W.setCell ⟨B,0,none⟩ v) :=
 h b W _ (some B) a (Aq W B 0 v) (λr e=>by injection e with e;exact .inl e.symm)
theorem iM.alloc{β:Type}{B n:Nat}{J:β->Tw->Prop}(h:iM B n J){b:β}{W:Tw}(a:J b W)(o:Obj):J b (W.alloc o) :=
 h b W _ none a (World.grownBy_alloc W o none) (λr e=>by cases e)
theorem iM.put{β:Type}{B n:Nat}{J:β->Tw->Prop}(h:iM B n J){b:β}(d:J b W){r:Nat}{o:Obj}(f:W.heap[r]? = some o)(c:o.isCells=false)(g:n<=r)(a:Obj):J b (W.putObj r a) :=
 h b W _ (some r) d (grownBy_putObj' W r a) (λq e=>by injection e with e;subst e;exact .inr ⟨g,o,f,c⟩)
def aX{β:Type}(m gf:Nat)(lb:Array Value)(B:Nat)(R:β->Array Value->β->Prop)(i:β)(E:β->Prop)(f:List UInt8->World->Prop)(h:World->Prop):Prop :=
 ∀(l:Nat)(J:β->World->Prop)(c:World->Prop)(W:World),iM B W.heap.size J->iM B W.heap.size (λ(_:Unit)=>c) ->
  (∀b args g d v,R b args g->J b d->f v d->YieldAt Fence.wide (m-1) prog l args d λe a=>(e=.returned (.bool true)/\J g a/\f v a)\/(e=.returned (.bool false)/\c a)) ->
  h W->J i W->CallsIn Fence.wide m prog gf (#[.func (.yield l) #[] #[]]++lb) W λe a=>(∃v,e=.returned v)/\((∃b,E b/\J b a)\/c a)
def AA1{β:Type}(w0:Nat)(b:List UInt8->World->Prop)(v:List UInt8)(I:β->World->Prop)(a:Code->World->Prop)(c:β)(W:World):Exit->Act->World->Prop
 | .normal,_,W'=>KeepsFrom w0 W W'/\I c W'/\b v W'
 | .ret,_,W'=>KeepsFrom w0 W W'/\a .ret W'
 | _,_,_=>False
theorem ADO{β:Type}{g:Operand}{ps:Array Tmp}{assign body:Code}{Q:Exit->Act->Tw->Prop}{a:Act}(h1:1<=n){gf:Nat}{lb:Array Tv}(hg:a.eval g=.func (.func gf) #[] lb)(eg:∀args w,(callFunc gf args).run prog w=.ok (.enter gf args) w){B:Nat}{R:β->Array Tv->β->Prop}{b0:β}{E:β->Prop}{Kp:List UInt8->Tw->Prop}{T0:Tw->Prop}(af:aX (n-1) gf lb B R b0 E Kp T0)(ac:∀v X r o o',Kp v X->X.heap[r]? = some o->o.isCells=false->Kp v (X.putObj r o'))(ae:∀b args L,R b args L->args.size=ps.size)(ap:B≠w.heap.size)(aq:B≠w.heap.size+1)(I:β->Tw->Prop)(Ix:Code->Tw->Prop)(hI:iM B w.heap.size I)(M:∀c,iM B w.heap.size (λ(_:Unit)=>Ix c))(h0:I b0 w)(hT:∀r,T0 ((w.alloc (.deferred (some []))).alloc (.loop r)))(a1:Array Tv->Act)(z:∀(l:Nat)(args:Array Tv)(W:Tw)(K:Act->Tw->Prop),args.size=ps.size->K (a1 args) W ->
   assign.wpIn (Fence.wide.inRound l) (n-1-1) prog (Exit.then K (λ_ _ _=>False)) { tmps:=(ps.zip args).foldl (λt(p,v)=>t.setIfInBounds p v) a.tmps,defers:=[] } W)(N:∀(l:Nat)(b:β)(args:Array Tv)(L:β)(W:Tw)(v:List UInt8),w.heap.size<=l->R b args L->I b W->Kp v W->body.wpIn (Fence.wide.inRound l) (n-1-1) prog (AA1 w.heap.size Kp v I Ix L W) (a1 args) W)(O:∀(D:Nat)(b:β)(W:Tw),w.heap.size<=D->E b->I b W->W.heap[D]? = some (.deferred (some []))->Q .normal { a with defers:={ target:=.collected D,args:=#[] } :: a.defers } W)(aa:∀(D:Nat)(c:Code)(W:Tw),w.heap.size<=D->Ix c W->W.heap[D]? = some (.deferred (some []))->c.wpIn Fence.wide n prog Q { a with defers:={ target:=.collected D,args:=#[] } :: a.defers } W):
 (Code.rangeFunc g ps assign body).wpIn Fence.wide n prog Q a w:=by
 refine wpIn_rangeFunc λfn ak=>?_
 obtain⟨d,f⟩:∃d:LoopState->Option Code->Loop,d=λst pe=>{ state:=st,pending:=pe,fn,tmps:=a.tmps,params:=ps,assign,body,defers:=w.heap.size }:=⟨_,rfl⟩
 obtain⟨u,x⟩:∃u,(w.alloc (.deferred (some []))).alloc (.loop (d .ready none))=u:=⟨_,rfl⟩;have ar:u.heap.size=w.heap.size+2:=by rw[<-x];simp
 have ai:u.heap[w.heap.size+1]? = some (.loop (d .ready none)):=by rw[<-x];have:=XY (w.alloc (.deferred (some []))) (.loop (d .ready none));rwa[XL] at this
 have ah:u.heap[w.heap.size]? = some (.deferred (some [])):=by rw[<-x];exact(XM _ _ _ (by simp)).trans (XY w _)
 have ag:I b0 u:=by rw[<-x];exact hI.alloc (hI.alloc h0 _) _
 have aj:T0 u:=by rw[<-x];exact hT _
 have m:∀{X Y:Tw}{row:Option Nat}(k:Nat)(o:Obj),k<w.heap.size+2->w.heap.size<=k->X.heap[k]? = some o->X.grownBy Y row->(∀r,row=some r->r=B\/(u.heap.size<=r/\∃o:Obj,X.heap[r]? = some o/\o.isCells=false))->Y.heap[k]? = some o:=by
  intro X Y row k o hk ad ho i s;refine(i.block k (Ac ho) (λe=>?_)).trans ho
  rcases s k e.symm with h|⟨h,_⟩
  ·omega
  omega
 have lift:∀{X:Tw}{row:Option Nat},(∀r,row=some r->r=B\/(u.heap.size<=r/\∃o:Obj,X.heap[r]? = some o/\o.isCells=false))->∀r,row=some r->r=B\/(w.heap.size<=r/\∃o:Obj,X.heap[r]? = some o/\o.isCells=false) :=
  λs r e=>(s r e).imp id (λ⟨q,o⟩=>⟨by omega,o⟩)
 refine⟨w.heap.size+1,[{ target:=.collected w.heap.size,args:=#[] }],u,{ target:=.fn (.func gf) lb,args:=#[.func (.yield (w.heap.size+1)) #[] #[]] },u,gf,
  #[.func (.yield (w.heap.size+1)) #[] #[]]++lb,u,?_,?_,λ_ _=>trivial,?_,λ_=>h1,?_⟩
 ·rw[<-x,f];exact run_enterLoop_outer _ _ _ _ _
 ·simp only[resolve,hg]
  simp[go_sem]
 ·simp[invoke,go_sem,eg]
 refine(af (w.heap.size+1)
  (λb W=>I b W/\W.heap[w.heap.size+1]? = some (.loop (d .ready none))/\W.heap[w.heap.size]? = some (.deferred (some [])))
  (λW=>∃c,Ix c W/\W.heap[w.heap.size+1]? = some (.loop (d .done (some c)))/\W.heap[w.heap.size]? = some (.deferred (some []))) u
  (λb X Y row hs i s=>⟨hI b X Y row hs.1 i (lift s),m _ _ (by omega) (by omega) hs.2.1 i s,m _ _ (by omega) (by omega) hs.2.2 i s⟩)
  (λb X Y row hs i s=>by obtain⟨c,hc,q1,q2⟩:=hs;exact⟨c,M c () X Y row hc i (lift s),m _ _ (by omega) (by omega) q1 i s,m _ _ (by omega) (by omega) q2 i s⟩)
  ?_ aj ⟨ag,ai,ah⟩).mono ?_
 ·rintro b args L W v hR⟨hi,G,hk⟩hv
  have am:w.heap.size+1<W.heap.size:=Ac G;have hy:=run_yield (P:=prog) (args:=args) G (by rw[f];exact ae b args L hR);rw[f] at hy;refine⟨fn,_,assign,body,hy,roundIn_of_wpIn ak (z _ args W _ (ae b args L hR) ⟨_,run_beginRound G (by rw[f]),?_⟩)⟩;have al:(W.putObj (w.heap.size+1) (.loop { d .ready none with state:=.busy })).heap[w.heap.size+1]? = some (.loop { d .ready none with state:=.busy }):=XU am;have ad:(W.putObj (w.heap.size+1) (.loop { d .ready none with state:=.busy })).heap[w.heap.size]? = some (.deferred (some [])):=(Y' (by omega)).trans hk;have an:Kp v (W.putObj (w.heap.size+1) (.loop { d .ready none with state:=.busy })):=ac _ _ _ _ _ hv G rfl;refine wpIn_mono (N _ b args L _ v (by omega) hR (hI.put hi G rfl (by omega) _) an) ?_
  have ab:∀(jump:Option Code)(J:Tw),KeepsFrom w.heap.size (W.putObj (w.heap.size+1) (.loop { d .ready none with state:=.busy })) J ->
   (Instr.endRound (w.heap.size+1) jump).run prog J=.ok (Zo jump.isNone) (J.putObj (w.heap.size+1) (.loop (d (if jump.isNone then .ready else .done) jump))) /\
   J.heap[w.heap.size+1]? = some (.loop { d .ready none with state:=.busy }) /\
   (J.putObj (w.heap.size+1) (.loop (d (if jump.isNone then .ready else .done) jump))).heap[w.heap.size+1]? = some (.loop (d (if jump.isNone then .ready else .done) jump)) /\
   (J.putObj (w.heap.size+1) (.loop (d (if jump.isNone then .ready else .done) jump))).heap[w.heap.size]? = some (.deferred (some [])):=λjump J y=>by
   have j:=y.same _ _ (by omega) al rfl;have:=run_endRound (P:=prog) jump j;rw[f] at this ⊢;exact⟨this,by rw[f] at j;exact j,XU (Ac j),(Y' (by omega)).trans (y.same _ _ (Y8 _) ad rfl)⟩
  rintro e a3 J hp;cases e with
  | normal=>obtain⟨y,T,ao⟩:=hp;obtain⟨s,j,V,U⟩:=ab none J y;exact⟨_,_,s,.inl ⟨rfl,⟨hI.put T j rfl (by omega) _,V,U⟩,ac _ _ _ _ _ ao j rfl⟩⟩
  | ret=>obtain⟨y,T⟩:=hp;obtain⟨s,j,V,U⟩:=ab (some .ret) J y;exact⟨_,_,s,.inr ⟨rfl,.ret,(M .ret).put (b:=()) T j rfl (by omega) _,V,U⟩⟩
  | exit id=>exact hp.elim
  | goto t=>exact hp.elim
  | panic ch=>exact hp.elim
  | outgrown=>exact hp.elim
 rintro e W2⟨⟨v,rfl⟩,(⟨b,hE,hi,G,hk⟩|⟨c,hi,G,hk⟩)⟩
 ·exact⟨none,_,by have:=run_endLoop (P:=prog) G (by rw[f];simp);rw[f] at this;exact this,O _ b _ (Y8 _) hE (hI.put hi G rfl (by omega) _) ((Y' (by omega)).trans hk)⟩
 exact⟨some c,_,by have:=run_endLoop (P:=prog) G (by rw[f];simp);rw[f] at this;exact this,aa _ c _ (Y8 _) ((M c).put (b:=()) hi G rfl (by omega) _) ((Y' (by omega)).trans hk)⟩
theorem iN.kept{B:Nat}{r:List UInt8}{X:Tw}{q:Nat}{o d:Obj}(h:iN B r X)(a:X.heap[q]? = some o)(c:o.isCells=false):iN B r (X.putObj q d):=by refine(Y' (λe=>?_)).trans h;subst e;have b:X.heap[B]? = _:=h;rw[b] at a;cases a;cases c
theorem AAH(m B:Nat)(p:1<=m)(d:List UInt8)(hlen:d.length<=1000000):
 aX m 183 #[Zp (some ⟨B,0,none⟩)] B (λ(pre:List (List UInt8))args c=>∃a b t,args=#[Zt (bA b)]/\Dp d=pre++a :: t/\Lib.trimSuffix b [10]=a/\b.length<=1000000/\c=pre++[a]) [] (λpre=>pre=Dp d) (iN B) (iN B d):=by
 intro l J i W g k o n j;refine(ADN m p l B d hlen J i (λpre W h=>g.drew h) (λpre W v h=>g.set h v) (λpre a b W1 v ht hr hl hj f=>by obtain⟨t,ht⟩:=ht;exact o pre _ (pre++[a]) W1 v ⟨a,b,t,rfl,ht,hr,hl,rfl⟩ hj f) W n j).mono ?_;rintro e q⟨f,h|h⟩
 ·exact⟨f,.inl ⟨_,rfl,h⟩⟩
 exact⟨f,.inr h⟩
theorem Iu{b:Nat}{v u f a e c:Tv}{t:TypeId}(h:W.heap[b]? = some (Zk #[v,u,f,a,e,c] t (0,0))):
 W.cell? ⟨b,0,none⟩=some v/\W.cell? ⟨b,1,none⟩=some u/\W.cell? ⟨b,2,none⟩=some f/\W.cell? ⟨b,3,none⟩=some a/\W.cell? ⟨b,4,none⟩=some e/\W.cell? ⟨b,5,none⟩=some c/\∀i,W.frozen? ⟨b,i,none⟩=false:=by
 refine⟨?_,?_,?_,?_,?_,?_,λi=>?_⟩
 all_goals first|(rw[World.frozen?,h];simp)|(simp[World.cell?,h])
abbrev AJS(W:World)(b:Nat)(a c d e f g:Value):World:=(((((W.setCell ⟨b,0,none⟩ a).setCell ⟨b,1,none⟩ c).setCell ⟨b,2,none⟩ d).setCell ⟨b,3,none⟩ e).setCell ⟨b,4,none⟩ f).setCell ⟨b,5,none⟩ g
theorem oA(W:Tw)(b:Nat)(t r l k j g a c d e f i:Tv)(T:TypeId)(h:W.heap[b]? = some (Zk #[t,r,l,k,j,g] T (0,0))):
 (W.setCell ⟨b,0,none⟩ a).cell? ⟨b,0,none⟩=some a/\((W.setCell ⟨b,0,none⟩ a).setCell ⟨b,1,none⟩ c).cell? ⟨b,1,none⟩=some c/\(((W.setCell ⟨b,0,none⟩ a).setCell ⟨b,1,none⟩ c).setCell ⟨b,2,none⟩ d).cell? ⟨b,2,none⟩=some d/\((((W.setCell ⟨b,0,none⟩ a).setCell ⟨b,1,none⟩ c).setCell ⟨b,2,none⟩ d).setCell ⟨b,3,none⟩ e).cell? ⟨b,3,none⟩=some e/\(((((W.setCell ⟨b,0,none⟩ a).setCell ⟨b,1,none⟩ c).setCell ⟨b,2,none⟩ d).setCell ⟨b,3,none⟩ e).setCell ⟨b,4,none⟩ f).cell? ⟨b,4,none⟩=some f/\((((((W.setCell ⟨b,0,none⟩ a).setCell ⟨b,1,none⟩ c).setCell ⟨b,2,none⟩ d).setCell ⟨b,3,none⟩ e).setCell ⟨b,4,none⟩ f).setCell ⟨b,5,none⟩ i).cell? ⟨b,5,none⟩=some i:=by
 have m:(W.setCell ⟨b,0,none⟩ a).heap[b]? = some (Zk #[a,r,l,k,j,g] T (0,0)):=by simpa using As W b 0 _ T a h
 have n:((W.setCell ⟨b,0,none⟩ a).setCell ⟨b,1,none⟩ c).heap[b]? = some (Zk #[a,c,l,k,j,g] T (0,0)):=by simpa using As (W.setCell ⟨b,0,none⟩ a) b 1 _ T c m
 have o:(((W.setCell ⟨b,0,none⟩ a).setCell ⟨b,1,none⟩ c).setCell ⟨b,2,none⟩ d).heap[b]? = some (Zk #[a,c,d,k,j,g] T (0,0)):=by simpa using As ((W.setCell ⟨b,0,none⟩ a).setCell ⟨b,1,none⟩ c) b 2 _ T d n
 have p:((((W.setCell ⟨b,0,none⟩ a).setCell ⟨b,1,none⟩ c).setCell ⟨b,2,none⟩ d).setCell ⟨b,3,none⟩ e).heap[b]? = some (Zk #[a,c,d,e,j,g] T (0,0)):=by simpa using As (((W.setCell ⟨b,0,none⟩ a).setCell ⟨b,1,none⟩ c).setCell ⟨b,2,none⟩ d) b 3 _ T e o
 have q:(((((W.setCell ⟨b,0,none⟩ a).setCell ⟨b,1,none⟩ c).setCell ⟨b,2,none⟩ d).setCell ⟨b,3,none⟩ e).setCell ⟨b,4,none⟩ f).heap[b]? = some (Zk #[a,c,d,e,f,g] T (0,0)):=by simpa using As ((((W.setCell ⟨b,0,none⟩ a).setCell ⟨b,1,none⟩ c).setCell ⟨b,2,none⟩ d).setCell ⟨b,3,none⟩ e) b 4 _ T f p
 have s:((((((W.setCell ⟨b,0,none⟩ a).setCell ⟨b,1,none⟩ c).setCell ⟨b,2,none⟩ d).setCell ⟨b,3,none⟩ e).setCell ⟨b,4,none⟩ f).setCell ⟨b,5,none⟩ i).heap[b]? = some (Zk #[a,c,d,e,f,i] T (0,0)):=by simpa using As (((((W.setCell ⟨b,0,none⟩ a).setCell ⟨b,1,none⟩ c).setCell ⟨b,2,none⟩ d).setCell ⟨b,3,none⟩ e).setCell ⟨b,4,none⟩ f) b 5 _ T i q
 exact⟨(Iu m).1,(Iu n).2.1,(Iu o).2.2.1,(Iu p).2.2.2.1,(Iu q).2.2.2.2.1,(Iu s).2.2.2.2.2.1⟩
theorem yX(W:Tw)(b:Nat)(a c d e f g:Tv):W.grownBy (AJS W b a c d e f g) (some b):=(((((Aq W b 0 a).trans (Aq _ b 1 c)).trans (Aq _ b 2 d)).trans (Aq _ b 3 e)).trans (Aq _ b 4 f)).trans (Aq _ b 5 g)
theorem Gf(h:Below n w W){b:Nat}(a:n<=b)(c d e f g i:Tv):Below n w (AJS W b c d e f g i) :=
 (((((h.setCell (p:=⟨b,0,none⟩) a _).setCell (p:=⟨b,1,none⟩) a _).setCell (p:=⟨b,2,none⟩) a _).setCell (p:=⟨b,3,none⟩) a _).setCell (p:=⟨b,4,none⟩) a _).setCell (p:=⟨b,5,none⟩) a _
theorem ABe{base b:Nat}{t u:TypeId}{xs:List Tv}{cs:Array Tv}(h:w.ownsRow base t z v n xs)(l:w.heap[b]? = some (Zk cs u (0,0)))(a:t≠u)(c d f g i j:Tv):(AJS w b c d f g i j).ownsRow base t z v n xs :=
 Az h (yX w b c d f g i j) (λk m e=>Fq h l a (by rw[m];exact e.symm))
theorem qL{k i:Nat}{t:TypeId}{xs:List Tv}(h:w.ownsRow i t z v n xs)(d:k<=i):w.ownsRow k t z v n xs:=by
 refine⟨h.1,?_⟩
 rcases h.2 with h|⟨g,c,a,f,b,e⟩
 ·exact .inl h
 exact .inr ⟨g,c,a,f,XD d b,e⟩
theorem AFB{b:Nat}{t:TypeId}{xs:List Tv}(h:w.ownsRow b t z v n xs):w.drew.ownsRow b t z v n xs:=Bc h (XI _ _).drew
def AGd(l:List UInt8)(w:World)(e:Ending)(b:World):Prop:=∃(a:Option Addr)(n c:Nat)(ok:Bool),e=.returned (.tuple #[.slice a n c,.bool ok])/\Zb w b/\((ok=true/\∃L:List Int,L1 l=some L/\n=L.length/\b.ownsRow w.heap.size 3 1 (.slice a n c) L.length (L.map (.int .i64)))\/(ok=false/\L1 l=none))
def S0:Prop:=∀(s:ByteArray)(w:World),s.size<=1000000->Ik w->Zc 186 #[.string s] w (AGd s.data.toList w)
def AA3(l:List UInt8)(w:World)(e:Ending)(a:World):Prop:=∃(k:Int)(p:ByteArray)(r:Int)(f:Option Addr)(h g:Nat)(b:Option Addr)(d c:Nat)(i:Int)(ok:Bool),e=.returned (.tuple #[.agg #[Zi k,.string p,Zi r,.slice f h g,.slice b d c,Zi i],.bool ok])/\Zb w a/\((ok=true/\∃(M:List Int)(C:List Aj),Co l=some (k,p,r,M,C,i)/\a.ownsRow w.heap.size 3 1 (.slice f h g) M.length (M.map (.int .i64))/\a.ownsRow w.heap.size 72 7 (.slice b d c) C.length (Av C))\/(ok=false/\Co l=none))
theorem eE(hP:S0)(s:ByteArray)(w:World)(hs:s.size<=1000000)(he:Ik w):Zc 132 #[.string s] w (AA3 s.data.toList w):=by
 obtain⟨l,hl⟩:∃l,s.data.toList=l:=⟨_,rfl⟩;have ar:l.length<=1000000:=by rw[<-hl,Gm];exact hs
 rw[hl];have o:=Aa (λW=>L5 s 32 W (by unfold maxLen;omega));rw[hl] at o;have aq:=Ve 32 l;have an:=P1 32 (Aw l);have ao:=Ve 32 (Aw l);have ap:=Gi l
 have U:Hid (∀W,Zc 130 #[.string (bA (Aw l)),.string ⟨#[32]⟩] W λe w'=>e=.returned (.tuple #[.string (bA (Ao 32 (Aw l)).1),.string (bA (Ao 32 (Aw l)).2.1),.bool (Ao 32 (Aw l)).2.2])/\Zb W w'):=Aa (λW=>by have:=L5 (bA (Aw l)) 32 W (by rw[Cz];unfold maxLen;omega);rw[B5] at this;exact this)
 have T:Hid (∀W,Zb w W->Zc 185 #[.string (bA (Ao 32 (Aw l)).2.1)] W (Ns (Ao 32 (Aw l)).2.1 W)):=Aa (λW hW=>by have:=Ud (bA (Ao 32 (Aw l)).2.1) W (by omega) (he.below hW);rw[B5] at this;exact this)
 have R:Hid (∀W,Zb w W->Zc 185 #[.string (bA (Ao 32 (Aw l)).1)] W (Ns (Ao 32 (Aw l)).1 W)):=Aa (λW hW=>by have:=Ud (bA (Ao 32 (Aw l)).1) W (by omega) (he.below hW);rw[B5] at this;exact this)
 have X:Hid (∀W,Zb w W->Zc 186 #[.string (bA (Ao 32 (Aw l)).2.1)] W (AGd (Ao 32 (Aw l)).2.1 W)):=Aa (λW hW=>by have:=hP (bA (Ao 32 (Aw l)).2.1) W (by omega) (he.below hW);rw[B5] at this;exact this)
 have V:Hid (∀W,Zb w W->Zc 187 #[.string (bA (Ao 32 (Aw l)).2.1)] W (sE (Ao 32 (Aw l)).2.1 W)):=Aa (λW hW=>by have:=aE (bA (Ao 32 (Aw l)).2.1) W (by omega) (he.below hW);rw[B5] at this;exact this)
 have q:Hid (Co l=_):=Aa (by unfold Co;exact rfl)
 change Hid (∀W,Calls _ _ _ W λe w'=>e=.returned (.tuple #[.string (bA (Ao 32 l).1),.string (bA (Aw l)),_])/\_) at o
 have k:=Aa (Ky (Ao 32 l).1);clear he hl hs hP aq an ao ap;generalize (Ao 32 l).2.2=z1 at *;generalize (Ao 32 l).1=Y at *;generalize bA (Aw l)=rs at *;generalize Ao 32 (Aw l)=cc at *;obtain⟨f1,f2,z2⟩:=cc;simp only at U T R X V q
 by_cases hadd:Y=ADF
 ·subst hadd
  have ex:bA ADF=⟨#[97,100,100]⟩:=rfl;rw[ex] at o;have g:Hid (Co l=Option.map (λn=>(1,bA f1,n,[],[],0)) (numOf f2)):=Aa (by rw[q.out,if_pos rfl]);clear ex k R X V q;generalize bA f1=x1 at *;go_enter func132,ntmps132
  go_wp2_with (first
   | (go_at_call_of 130 (#[.string s,.string ⟨#[32]⟩]:Array Value);refine(o.out _).mono ?_;rintro e w2⟨rfl,a⟩;have D:=Aa a;have h:=Aa ((a.block w.heap.size (by simp)).trans (heap_alloc_new w _));clear a)
   | (go_at_call_of 130 (#[.string rs,.string ⟨#[32]⟩]:Array Value);refine(U.out _).mono ?_;rintro e w3⟨rfl,b⟩;have i:=Aa (Below.Ap (b1c D.out) b);have d:=Aa ((b.block w.heap.size (Ac h.out)).trans h.out);clear b;obtain⟨y0,y1,y2,y3,y4,y5,yf⟩:=Iu d.out;have r:=yf 0;have t:=yf 1;have u:=yf 2;have x:=yf 3;have y:=yf 4;have z:=yf 5;clear yf)
   | (go_at_call 185;refine(T.out _ i.out).mono ?_;rintro e w4⟨n,er,rfl,m,f⟩;have j:=Aa (Below.Ap i.out m);have c:=Aa ((m.block w.heap.size (Ac d.out)).trans d.out);have p:=Aa f;clear m f y0 y1 y2 y3 y4 y5 r t u x y z;obtain⟨y0,y1,y2,y3,y4,y5,yf⟩:=Iu c.out;have r:=yf 0;have t:=yf 1;have u:=yf 2;have x:=yf 3;have y:=yf 4;have z:=yf 5;clear yf))
  rcases p.out with⟨G,rfl⟩|⟨G,ty,xx,rfl⟩
  ·have H1:=Aa G
   clear p G
   go_region
   go_wp2;obtain⟨I,J,M,N,O,P⟩:=oA w4 w.heap.size _ _ _ _ _ _ (.int .i64 1) (.string x1) (.int .i64 n) (.slice none 0 0) (.slice none 0 0) (.int .i64 0) _ c.out;refine bodyPost_ret (v:=.tuple #[.agg #[.int .i64 1,.string x1,.int .i64 n,.slice none 0 0,.slice none 0 0,.int .i64 0],.bool true]) (by simp[results,results132,go_sem,I,J,M,N,O,P]) rfl ⟨_,_,_,_,_,_,_,_,_,_,_,rfl,(Gf j.out (Y8 _) _ _ _ _ _ _).drew,?_⟩;exact .inl ⟨rfl,[],[],by rw[g.out,H1.out];rfl,XE ..,XE ..⟩
  have H1:=Aa G;clear p G
  go_region
  go_wp2;obtain⟨I,J,M,N,O,P⟩:=oA w4 w.heap.size _ _ _ _ _ _ (.int .i64 1) (.string x1) (.int .i64 n) (.slice none 0 0) (.slice none 0 0) (.int .i64 0) _ c.out;refine bodyPost_ret (v:=.tuple #[.agg #[.int .i64 1,.string x1,.int .i64 n,.slice none 0 0,.slice none 0 0,.int .i64 0],.bool false]) (by simp[results,results132,go_sem,I,J,M,N,O,P]) rfl ⟨_,_,_,_,_,_,_,_,_,_,_,rfl,(Gf j.out (Y8 _) _ _ _ _ _ _).drew,?_⟩;exact .inr ⟨rfl,by rw[g.out,H1.out];rfl⟩
 by_cases hremove:Y=P4
 ·subst hremove
  have ex:bA P4=⟨#[114,101,109,111,118,101]⟩:=rfl;rw[ex] at o;have g:Hid (Co l=some (2,bA f1,0,[],[],0)):=Aa (by rw[q.out,if_neg (by decide),if_pos rfl]);clear ex k R X V q T hadd;generalize bA f1=x1 at *;go_enter func132,ntmps132
  go_wp2_with (first
   | (go_at_call_of 130 (#[.string s,.string ⟨#[32]⟩]:Array Value);refine(o.out _).mono ?_;rintro e w2⟨rfl,a⟩;have D:=Aa a;have h:=Aa ((a.block w.heap.size (by simp)).trans (heap_alloc_new w _));clear a)
   | (go_at_call_of 130 (#[.string rs,.string ⟨#[32]⟩]:Array Value);refine(U.out _).mono ?_;rintro e w3⟨rfl,b⟩;have i:=Aa (Below.Ap (b1c D.out) b);have d:=Aa ((b.block w.heap.size (Ac h.out)).trans h.out);clear b;obtain⟨y0,y1,y2,y3,y4,y5,yf⟩:=Iu d.out;have r:=yf 0;have t:=yf 1;have u:=yf 2;have x:=yf 3;have y:=yf 4;have z:=yf 5;clear yf)
   | fail)
  have c:=Aa d.out;have j:=Aa i.out;obtain⟨I,J,M,N,O,P⟩:=oA w3 w.heap.size _ _ _ _ _ _ (.int .i64 2) (.string x1) (.int .i64 0) (.slice none 0 0) (.slice none 0 0) (.int .i64 0) _ c.out;refine bodyPost_ret (v:=.tuple #[.agg #[.int .i64 2,.string x1,.int .i64 0,.slice none 0 0,.slice none 0 0,.int .i64 0],.bool true]) (by simp[results,results132,go_sem,I,J,M,N,O,P]) rfl ⟨_,_,_,_,_,_,_,_,_,_,_,rfl,(Gf j.out (Y8 _) _ _ _ _ _ _),?_⟩;exact .inl ⟨rfl,[],[],g.out,XE ..,XE ..⟩
 by_cases hmask:Y=lA
 ·subst hmask
  have ex:bA lA=⟨#[109,97,115,107]⟩:=rfl;rw[ex] at o;have g:Hid (Co l=Option.map (λl=>(3,bA f1,0,l,[],0)) (L1 f2)):=Aa (by rw[q.out,if_neg (by decide),if_neg (by decide),if_pos rfl]);clear ex k R V q T hadd hremove;generalize bA f1=x1 at *;go_enter func132,ntmps132
  go_wp2_with (first
   | (go_at_call_of 130 (#[.string s,.string ⟨#[32]⟩]:Array Value);refine(o.out _).mono ?_;rintro e w2⟨rfl,a⟩;have D:=Aa a;have h:=Aa ((a.block w.heap.size (by simp)).trans (heap_alloc_new w _));clear a)
   | (go_at_call_of 130 (#[.string rs,.string ⟨#[32]⟩]:Array Value);refine(U.out _).mono ?_;rintro e w3⟨rfl,b⟩;have i:=Aa (Below.Ap (b1c D.out) b);have d:=Aa ((b.block w.heap.size (Ac h.out)).trans h.out);clear b;obtain⟨y0,y1,y2,y3,y4,y5,yf⟩:=Iu d.out;have r:=yf 0;have t:=yf 1;have u:=yf 2;have x:=yf 3;have y:=yf 4;have z:=yf 5;clear yf)
   | (go_at_call 186;refine(X.out _ i.out).mono ?_;rintro e w4⟨pa,pn,pc,ok,rfl,m,f⟩;have ab:=Aa m;have j:=Aa (Below.Ap i.out m);have c:=Aa ((m.block w.heap.size (Ac d.out)).trans d.out);have p:=Aa f;clear m f;clear y0 y1 y2 y3 y4 y5 r t u x y z;obtain⟨y0,y1,y2,y3,y4,y5,yf⟩:=Iu c.out;have r:=yf 0;have t:=yf 1;have u:=yf 2;have x:=yf 3;have y:=yf 4;have z:=yf 5;clear yf))
  obtain⟨I,J,M,N,O,P⟩:=oA w4 w.heap.size _ _ _ _ _ _ (.int .i64 3) (.string x1) (.int .i64 0) (.slice pa pn pc) (.slice none 0 0) (.int .i64 0) _ c.out;refine bodyPost_ret (v:=.tuple #[.agg #[.int .i64 3,.string x1,.int .i64 0,.slice pa pn pc,.slice none 0 0,.int .i64 0],.bool ok]) (by simp[results,results132,go_sem,I,J,M,N,O,P]) rfl ⟨_,_,_,_,_,_,_,_,_,_,_,rfl,(Gf j.out (Y8 _) _ _ _ _ _ _),?_⟩
  rcases p.out with⟨rfl,L,G,rfl,h2⟩|⟨rfl,G⟩
  ·refine .inl ⟨rfl,L,[],by rw[g.out,G];rfl,?_,XE ..⟩
   exact ABe (qL h2 i.out.size) c.out (by decide) _ _ _ _ _ _
  exact .inr ⟨rfl,by rw[g.out,G];rfl⟩
 by_cases hschema:Y=P3
 ·subst hschema
  have ex:bA P3=⟨#[115,99,104,101,109,97]⟩:=rfl;rw[ex] at o;have g:Hid (Co l=(numOf f1).bind λn=>Option.map (λl=>(4,bA [],0,[],l,n)) (Dg f2)):=Aa (by rw[q.out,if_neg (by decide),if_neg (by decide),if_neg (by decide),if_pos rfl]);clear ex k q T X hadd hremove hmask;generalize bA f1=x1 at *;generalize bA f2=x2 at *;go_enter func132,ntmps132
  go_wp2_with (first
   | (go_at_call_of 130 (#[.string s,.string ⟨#[32]⟩]:Array Value);refine(o.out _).mono ?_;rintro e w2⟨rfl,a⟩;have D:=Aa a;have h:=Aa ((a.block w.heap.size (by simp)).trans (heap_alloc_new w _));clear a)
   | (go_at_call_of 130 (#[.string rs,.string ⟨#[32]⟩]:Array Value);refine(U.out _).mono ?_;rintro e w3⟨rfl,b⟩;have i:=Aa (Below.Ap (b1c D.out) b);have d:=Aa ((b.block w.heap.size (Ac h.out)).trans h.out);clear b;obtain⟨y0,y1,y2,y3,y4,y5,yf⟩:=Iu d.out;have r:=yf 0;have t:=yf 1;have u:=yf 2;have x:=yf 3;have y:=yf 4;have z:=yf 5;clear yf)
   | (go_at_call 185;refine(R.out _ i.out).mono ?_;rintro e w4⟨n,er,rfl,m,f⟩;have ab:=Aa (Below.Ap i.out m);have ai:=Aa ((m.block w.heap.size (Ac d.out)).trans d.out);have p:=Aa f;clear m f)
   | (go_at_call 187;refine(V.out _ ab.out).mono ?_;rintro e w5⟨pa,pn,pc,ok,rfl,ad,ac⟩;have j:=Aa (Below.Ap ab.out ad);have c:=Aa ((ad.block w.heap.size (Ac ai.out)).trans ai.out);have aa:=Aa ac;clear ad ac;clear y0 y1 y2 y3 y4 y5 r t u x y z;obtain⟨y0,y1,y2,y3,y4,y5,yf⟩:=Iu c.out;have r:=yf 0;have t:=yf 1;have u:=yf 2;have x:=yf 3;have y:=yf 4;have z:=yf 5;clear yf))
  rcases aa.out with⟨rfl,L,G,rfl,h2⟩|⟨rfl,G⟩ <;> rcases p.out with⟨h3,rfl⟩|⟨h3,ty,xx,rfl⟩
  ·have H1:=Aa G
   have H2:=Aa h2;have H3:=Aa h3;clear p aa G h2 h3
   go_region
   go_wp2;obtain⟨I,J,M,N,O,P⟩:=oA w5 w.heap.size _ _ _ _ _ _ (.int .i64 4) (.string ⟨#[]⟩) (.int .i64 0) (.slice none 0 0) (.slice pa L.length pc) (.int .i64 n) _ c.out;refine bodyPost_ret (v:=.tuple #[.agg #[.int .i64 4,.string ⟨#[]⟩,.int .i64 0,.slice none 0 0,.slice pa L.length pc,.int .i64 n],.bool true]) (by simp[results,results132,go_sem,I,J,M,N,O,P]) rfl ⟨_,_,_,_,_,_,_,_,_,_,_,rfl,(Gf j.out (Y8 _) _ _ _ _ _ _).drew,?_⟩;refine .inl ⟨rfl,[],L,by rw[g.out,H3.out,H1.out];rfl,XE ..,?_⟩;exact AFB (ABe (qL H2.out ab.out.size) c.out (by decide) _ _ _ _ _ _)
  ·have H3:=Aa h3
   clear p aa G h2 h3
   go_region
   go_wp2;obtain⟨I,J,M,N,O,P⟩:=oA w5 w.heap.size _ _ _ _ _ _ (.int .i64 4) (.string ⟨#[]⟩) (.int .i64 0) (.slice none 0 0) (.slice pa L.length pc) (.int .i64 n) _ c.out;refine bodyPost_ret (v:=.tuple #[.agg #[.int .i64 4,.string ⟨#[]⟩,.int .i64 0,.slice none 0 0,.slice pa L.length pc,.int .i64 n],.bool false]) (by simp[results,results132,go_sem,I,J,M,N,O,P]) rfl ⟨_,_,_,_,_,_,_,_,_,_,_,rfl,(Gf j.out (Y8 _) _ _ _ _ _ _).drew,?_⟩;exact .inr ⟨rfl,by rw[g.out,H3.out];rfl⟩
  ·have H1:=Aa G
   clear p aa G h3
   go_region
   go_wp2;obtain⟨I,J,M,N,O,P⟩:=oA w5 w.heap.size _ _ _ _ _ _ (.int .i64 4) (.string ⟨#[]⟩) (.int .i64 0) (.slice none 0 0) (.slice pa pn pc) (.int .i64 n) _ c.out;refine bodyPost_ret (v:=.tuple #[.agg #[.int .i64 4,.string ⟨#[]⟩,.int .i64 0,.slice none 0 0,.slice pa pn pc,.int .i64 n],.bool false]) (by simp[results,results132,go_sem,I,J,M,N,O,P]) rfl ⟨_,_,_,_,_,_,_,_,_,_,_,rfl,(Gf j.out (Y8 _) _ _ _ _ _ _).drew,?_⟩;refine .inr ⟨rfl,by rw[g.out,H1.out];cases numOf f1 <;> rfl⟩
  have H1:=Aa G;clear p aa G h3
  go_region
  go_wp2;obtain⟨I,J,M,N,O,P⟩:=oA w5 w.heap.size _ _ _ _ _ _ (.int .i64 4) (.string ⟨#[]⟩) (.int .i64 0) (.slice none 0 0) (.slice pa pn pc) (.int .i64 n) _ c.out;refine bodyPost_ret (v:=.tuple #[.agg #[.int .i64 4,.string ⟨#[]⟩,.int .i64 0,.slice none 0 0,.slice pa pn pc,.int .i64 n],.bool false]) (by simp[results,results132,go_sem,I,J,M,N,O,P]) rfl ⟨_,_,_,_,_,_,_,_,_,_,_,rfl,(Gf j.out (Y8 _) _ _ _ _ _ _).drew,?_⟩;refine .inr ⟨rfl,by rw[g.out,H1.out];cases numOf f1 <;> rfl⟩
 have g:Hid (Co l=none):=Aa (by rw[q.out,if_neg hadd,if_neg hremove,if_neg hmask,if_neg hschema]);have al:((bA Y).toList==[97,100,100])=false:=by rw[k.out];exact beq_eq_false_iff_ne.2 hadd
 have am:¬(bA Y).toList=[97,100,100]:=by rw[k.out];exact hadd
 have ae:((bA Y).toList==[114,101,109,111,118,101])=false:=by rw[k.out];exact beq_eq_false_iff_ne.2 hremove
 have ag:¬(bA Y).toList=[114,101,109,111,118,101]:=by rw[k.out];exact hremove
 have aj:((bA Y).toList==[109,97,115,107])=false:=by rw[k.out];exact beq_eq_false_iff_ne.2 hmask
 have ak:¬(bA Y).toList=[109,97,115,107]:=by rw[k.out];exact hmask
 have af:((bA Y).toList==[115,99,104,101,109,97])=false:=by rw[k.out];exact beq_eq_false_iff_ne.2 hschema
 have ah:¬(bA Y).toList=[115,99,104,101,109,97]:=by rw[k.out];exact hschema
 clear k q T X V R hadd hremove hmask hschema;generalize bA Y=wb at *;generalize bA f1=x1 at *;generalize bA f2=x2 at *;go_enter func132,ntmps132
 go_wp2_with (first
  | (go_at_call_of 130 (#[.string s,.string ⟨#[32]⟩]:Array Value);refine(o.out _).mono ?_;rintro e w2⟨rfl,a⟩;have D:=Aa a;have h:=Aa ((a.block w.heap.size (by simp)).trans (heap_alloc_new w _));clear a)
  | (go_at_call_of 130 (#[.string rs,.string ⟨#[32]⟩]:Array Value);refine(U.out _).mono ?_;rintro e w3⟨rfl,b⟩;have i:=Aa (Below.Ap (b1c D.out) b);have d:=Aa ((b.block w.heap.size (Ac h.out)).trans h.out);clear b;obtain⟨y0,y1,y2,y3,y4,y5,yf⟩:=Iu d.out;have r:=yf 0;have t:=yf 1;have u:=yf 2;have x:=yf 3;have y:=yf 4;have z:=yf 5;clear yf)
  | fail)
 have c:=Aa d.out;have j:=Aa i.out;obtain⟨I,J,M,N,O,P⟩:=oA w3 w.heap.size _ _ _ _ _ _ (.int .i64 0) (.string ⟨#[]⟩) (.int .i64 0) (.slice none 0 0) (.slice none 0 0) (.int .i64 0) _ c.out;refine bodyPost_ret (v:=.tuple #[.agg #[.int .i64 0,.string ⟨#[]⟩,.int .i64 0,.slice none 0 0,.slice none 0 0,.int .i64 0],.bool false]) (by simp[results,results132,go_sem,I,J,M,N,O,P]) rfl ⟨_,_,_,_,_,_,_,_,_,_,_,rfl,(Gf j.out (Y8 _) _ _ _ _ _ _),?_⟩;exact .inr ⟨rfl,g.out⟩
def look(l:List Vc)(p:ByteArray):Option (Int×List Int):=(l.find? λe=>decide (e.1=p)).map (·.2)
section
variable {nb : ByteArray → Bool} {cb : ByteArray → Bool} {fb : Int → Int → Int → ByteArray → Bool}
end
def Q7(s:Ah):Prop:=∀e∈s.files,e.1.size<=16
structure AK9(W:World)(a:A5)(ma:Option Addr)(mn mc:Nat)(ca:Option Addr)(cn cc:Nat):Prop where
 mask:Ph W (.slice ma mn mc) a.2.2.2.1
 cols:bH W (.slice ca cn cc) a.2.2.2.2.1
 path:a.2.1.size<=maxLen
 Iz:a.2.2.2.1.length<=maxLen
 ADp:a.2.2.2.2.1.length<=maxLen
 texts:∀x∈a.2.2.2.2.1,x.2.1.size<=maxLen/\x.2.2.2.2.2.2.size<=maxLen
def AKB(W:World)(v:Value)(l:List A5):Prop:=((∃a c,v=.slice a 0 c)/\l=[])\/∃g o c,v=.slice (some ⟨g,o,none⟩) l.length c/\l.length<=c/\g<W.heap.size/\∀j,j<l.length->∃f i h b e d,AK9 W l[j]! f i h b e d/\M6 W g (o+j*6) l[j]! f i h b e d
variable{W w:Tw}{l:List A5}{c:Dn}
def cl(b:ByteArray):ByteArray:=if b.size<=maxLen then b else ⟨#[]⟩
theorem AEi(b:Tb):(cl b).size<=maxLen:=by
 unfold cl;split
 ·assumption
 decide
theorem AGQ{b:Tb}(h:b.size<=maxLen):cl b=b:=by simp[cl,h]
abbrev sG:=A5×Sv×Sv
def tJ(x:sG):List Value:=[Zi x.1.1,.string (cl x.1.2.1),Zi x.1.2.2.1,sv x.2.1,sv x.2.2,Zi x.1.2.2.2.2.2]
theorem rP(x:sG):(tJ x).length=6:=rfl
theorem Dt.list{g o c:Nat}(h:∀j,j<l.length->∃k p m b f d,Om w l[j]! k p m b f d/\M6 w g (o+j*6) l[j]! k p m b f d):
 ∃zs:List sG,zs.map (·.1)=l/\∀j,j<zs.length->∀i v,(tJ zs[j]!)[i]? = some v->w.cell? ⟨g,o+j*6+i,none⟩=some v:=by
 have _:=c
 have t:∀n,n<=l.length->∃zs:List sG,zs.map (·.1)=l.take n/\∀j,j<zs.length->∀i v,(tJ zs[j]!)[i]? = some v->w.cell? ⟨g,o+j*6+i,none⟩=some v:=by
  intro n
  induction n with
  | zero=>intro _;exact⟨[],rfl,λj s=>absurd s (Ym _)⟩
  | succ n ih=>
    intro N;obtain⟨zs,q,r⟩:=ih (by omega);obtain⟨k,p,m,b,f,d,y,z⟩:=h n (by omega);have hlen:zs.length=n:=by have:=congrArg List.length q;simp at this;omega
    refine⟨zs++[(l[n]!,(k,p,m),(b,f,d))],?_,?_⟩
    ·rw[X4,q,Br (by omega)];rfl
    intro j s i v a;simp only[XB,XA,XF] at s
    by_cases e:j<zs.length
    ·rw[show (zs++[(l[n]!,(k,p,m),(b,f,d))])[j]! = zs[j]! by simp[List.getElem!_eq_getElem?_getD,WC e]] at a
     exact r j e i v a
    have x:j=n:=by omega
    subst x;rw[show (zs++[(l[j]!,(k,p,m),(b,f,d))])[j]! = (l[j]!,(k,p,m),(b,f,d)) by simp[List.getElem!_eq_getElem?_getD,hlen]] at a;obtain⟨G,u,I,J,L,M⟩:=z;rw[<-AGQ y.path] at u;have:i=0\/i=1\/i=2\/i=3\/i=4\/i=5\/6<=i:=by omega
    rcases this with rfl|rfl|rfl|rfl|rfl|rfl|D
    ·cases a;exact G
    ·cases a;exact u
    ·cases a;exact I
    ·cases a;exact J
    ·cases a;exact L
    ·cases a;exact M
    rw[Yb (by rw[rP];exact D)] at a;cases a
 obtain⟨zs,q,r⟩:=t l.length (Y8 _);exact⟨zs,by rw[q,Ye],r⟩
theorem AEB(a:To)(c:Nat)(d:Tv)(w:Tw):Zc 174 #[Zs a 0 c,d] w λe b=>e=Zr (Zo false)/\b=w:=by
 have f:Hid (Zc 218 #[Zs a 0 c,d] w λe b=>e=Zr (Zi (-1))/\b=w):=by
  go_enter func218,ntmps218;go_wp2
  go_loopg [5,8] 0 (λ_ _ g wr=>g=Zi 0/\wr=w)
  case atStart=>exact⟨rfl,rfl⟩
  case round=>obtain⟨rfl,rfl⟩:=hrel;go_wp2;go_ret;exact⟨rfl,rfl⟩
 go_enter func174,ntmps174;go_wp2_with (go_at_call 218;refine f.out.mono ?_;rintro e h⟨rfl,rfl⟩);go_ret;exact⟨rfl,rfl⟩
theorem tB(a:To)(n c:Nat)(l:List A5)(p:A5->Bool)(g:Nat)(lb:Array Tv)(w:Tw)(h:Dt w (Zs a n c) l)(z:l.length<=1000)(k:∀args w,(callFunc g args).run prog w=.ok (.enter g args) w)(s:PredBelow prog g lb (λx:sG=>Zg (tJ x).toArray) (λx=>p x.1) w):
 Zc 174 #[Zs a n c,.func (.func g) #[] lb] w λe u=>e=Zr (Zo (l.any p))/\Zb w u:=by
 rcases h with⟨⟨_,_,e⟩,e0⟩|⟨m,o,v,e,y,d,b⟩
 ·cases e;subst e0
  exact(AEB _ _ _ w).mono λ_ _⟨r,t⟩=>⟨r,t ▸ XI _ _⟩
 cases e;obtain⟨zs,f,q⟩:=Dt.list (c:=c) b;have i:zs.length=l.length:=by have:=congrArg List.length f;simpa using this
 have:=AnyQ.slices_ContainsFunc layAnyA 6 isAgg144 sizeOf144 tJ rP (λx=>p x.1) g lb k m o l.length c zs w s (by omega) (by omega) d q;rw[<-i,Ye] at this;have j:zs.any (λx=>p x.1)=l.any p:=by rw[<-f,List.any_map];rfl
 rw[j,i] at this;exact this
theorem nQ(w:Tw):PredBelow prog 175 #[] (λx:sG=>Zg (tJ x).toArray) (λx=>x.1.1==4) w:=λW x hb=>by
 obtain⟨⟨k,p,r,m,h,g⟩,⟨d,f,e⟩,a,c,b⟩:=x;show Zc 175 #[Zg #[Zi k,Zt (cl p),Zi r,Zs d f e,Zs a c b,Zi g]] W _;generalize cl p=i;go_enter func175,ntmps175;go_wp2
 all_goals (go_ret;exact⟨rfl,hb.alloc hb.size _⟩)
def G8(l:List A5):Bool:=l.any (λa=>a.1==4)
theorem Wy(g:Tb)(f:Bool)(a:To)(n c:Nat)(l:List A5)(w:Tw)(h:Dt w (Zs a n c) l)(p:l.length<=1000):
 Zc 123 #[Zg #[Zt g,Zo f,Zs a n c]] w λe q=>e=Zr (Zo (G8 l))/\Zb w q:=by
 have k:∀args w,(callFunc 175 args).run prog w=.ok (.enter 175 args) w:=enters_of func175 (by kernel_rfl) rfl;have b:Zb w (w.alloc (Zk #[Zt g,Zo f,Zs a n c] 86)):=Zal;have i:=Aa (tB a n c l (λa=>a.1==4) 175 #[] _ (h.below b) p k (nQ (w.alloc (Zk #[Zt g,Zo f,Zs a n c] 86))));have o:=Aa b;clear h b k;generalize m:l.any (λa=>a.1==4)=r at i;have j:Hid (G8 l=r):=m;clear m;generalize G8 l=s at j ⊢;go_enter func123,ntmps123;go_wp2_with (go_at_call 174;refine i.out.mono ?_;rintro e t⟨rfl,d⟩);go_ret;exact⟨Af j.out.symm,Below.Ap o.out d⟩
def lit(b:ByteArray):Lit:=.string b.data.toList
theorem Jr{a b:Tb}(h:lit a=lit b):a=b:=by unfold lit at h;injection h with h;cases a;cases b;simp at h;simp[h]
theorem AEF(b:Tb):WideAt.IsKeyLit (lit b):=by unfold lit;simp[WideAt.IsKeyLit]
theorem Wl:Keyed prog 9:=string_keyed underlying9
theorem Mh{b:Tb}(h:b.size<=maxLen):keyOf prog 9 (.string b)=some (lit b):=WideMaps.keyOf_string_mk underlying9 h
def iH(l:List A5)(p:ByteArray):Nat:=(l.filter λa=>decide (a.2.1=p)).length
theorem AFj(l:List A5)(a:A5)(p:Tb):iH (l++[a]) p=if a.2.1=p then iH l p+1 else iH l p:=by
 simp only[iH,List.filter_append,XB]
 by_cases h:a.2.1=p <;> simp[h]
theorem AJf(l:List A5)(p:Tb):iH l p<=l.length:=List.length_filter_le _ _
theorem AEk{c:Int}(a:0<=c)(b:c<=2000):(Lit.int .i64 c).wf=true:=by simp only[Lit.wf,Y9,decide_eq_true_eq];exact⟨Y7 (by decide:IntKind.i64.min<=0) a,Y7 b (by decide)⟩
def Seen(W:World)(b n:Nat)(l:List A5):Prop:=∃D:DataW Unit,W.ownsMap prog 9 (plainElem prog 3) b n D/\∀p,D.atKey (lit p) (.lit (.int .i64 0))=.lit (.int .i64 (iH l p))
def S9(l o:List A5):Bool:=o.any (λa=>decide (0<(iH l a.2.1:Int)))
theorem Seen.below{b n:Nat}(h:Seen w b n l)(f:Zb w W):Seen W b n l:=by obtain⟨D,c,d⟩:=h;obtain⟨es,clock,a,e⟩:=c;exact⟨D,⟨es,clock,(f.block b (Ac a)).trans a,e⟩,d⟩
theorem ADd(b n B:Nat)(l:List A5)(w:Tw)(h:Seen w b n l)(L:B<w.heap.size)(M:w.cell? ⟨B,0,none⟩=some (.map (some b))):
 PredBelow prog 176 #[Zp (some ⟨B,0,none⟩)] (λx:sG=>Zg (tJ x).toArray) (λx=>decide (0<(iH l (cl x.1.2.1):Int))) w:=λW x hb=>by
 obtain⟨⟨k,p,r,m,T,z⟩,⟨u,y,v⟩,o,s,q⟩:=x;show Zc 176 #[Zg #[Zi k,Zt (cl p),Zi r,Zs u y v,Zs o s q,Zi z],Zp (some ⟨B,0,none⟩)] W (λe R=>e=Zr (Zo (decide (0<(iH l (cl p):Int))))/\Zb w R);have P:=AEi p;generalize cl p=g at *;have f:=(hb.cell (p:=⟨B,0,none⟩) L).trans M;have O:B≠W.heap.size:=by have:=hb.size;omega
 have N:(W.alloc (Zk #[Zi k,Zt g,Zi r,Zs u y v,Zs o s q,Zi z] 144)).cell? ⟨B,0,none⟩=some (.map (some b)):=Lib.cell?_alloc_some _ f;obtain⟨D,I,d⟩:=(h.below hb).below ((XI W.heap.size W).alloc (Y8 _) (Zk #[Zi k,Zt g,Zi r,Zs u y v,Zs o s q,Zi z] 144));have i:=Aa (d g);have J:=Aa I;have G:=Aa hb;clear d I h hb f;go_enter func176,ntmps176;go_wp2_with (at_lookup;refine wpList_lookup_own_int _ rfl _ _ 261 rfl 9 3 .i64 Wl underlying261 underlying3 (zeroValue3 _) b n D rfl J.out _ _ rfl (Mh P) ?_;intro c a t;have j:Hid (c=(iH l g:Int)):=Aa (by rw[i.out] at a;injection a with a;injection a with _ a;exact a.symm);clear a t);go_ret;exact⟨Af (by rw[j.out]),G.out.alloc G.out.size _⟩
theorem AF0(a1:To)(n1 c1:Nat)(l:List A5)(V:To)(n2 X:Nat)(o:List A5)(w:Tw)(N:Dt w (Zs a1 n1 c1) l)(r:Dt w (Zs V n2 X) o)(hl:l.length<=1000)(ho:o.length<=1000):
 Zc 124 #[Zs a1 n1 c1,Zs V n2 X] w λe w'=>e=Zr (Zo (S9 l o))/\Below w.heap.size w w':=by
 have Y:∀args w,(callFunc 176 args).run prog w=.ok (.enter 176 args) w:=enters_of func176 (by kernel_rfl) rfl;have al:=N.len;subst al;have H1:=Aa N;have H2:=Aa r
 have I:Hid (∀W,Below w.heap.size w W->Seen W w.heap.size 1000 l->W.cell? ⟨w.heap.size+1,0,none⟩=some (.map (some w.heap.size))->w.heap.size+1<W.heap.size->Zc 174 #[Zs V n2 X,.func (.func 176) #[] #[Zp (some ⟨w.heap.size+1,0,none⟩)]] W λe w'=>e=Zr (Zo (S9 l o))/\Below W.heap.size W w'):=λW hW hS hc hB=>by
  have hp:PredBelow prog 176 #[Zp (some ⟨w.heap.size+1,0,none⟩)] (λx:sG=>Zg (tJ x).toArray) (λx=>(λa:A5=>decide (0<(iH l (cl a.2.1):Int))) x.1) W:=ADd w.heap.size 1000 (w.heap.size+1) l W hS hB hc;have:=tB V n2 X o (λa=>decide (0<(iH l (cl a.2.1):Int))) 176 _ W (r.below hW) ho Y hp
  have e:o.any (λa=>decide (0<(iH l (cl a.2.1):Int)))=S9 l o:=by
   unfold S9;rw[Bool.eq_iff_iff];simp only[List.any_eq_true]
   rcases r with⟨_,e0⟩|⟨gg,oo,c',_,_,_,d⟩
   ·subst e0;simp
   constructor
   ·rintro⟨x,i,u⟩
    obtain⟨j,t,rfl⟩:=Yk i;obtain⟨_,_,_,_,_,_,h5,_⟩:=d j t;have:=h5.path;rw[getElem!_pos o j t] at this;exact⟨_,i,by rw[AGQ this] at u;exact u⟩
   rintro⟨x,i,u⟩;obtain⟨j,t,rfl⟩:=Yk i;obtain⟨_,_,_,_,_,_,h5,_⟩:=d j t;have:=h5.path;rw[getElem!_pos o j t] at this;exact⟨_,i,by rw[AGQ this];exact u⟩
  rw[e] at this;exact this
 clear N r Y;have ak:=@run_makeMap prog;have L:Hid (Seen (w.alloc (.map #[] 0)) w.heap.size 0 []):=⟨.map [],World.ownsMap_made w _ _ _,λp=>rfl⟩;generalize S9 l o=av at I ⊢;go_enter func124,ntmps124;go_wp2_with fail;have z:Hid (Below w.heap.size w ((w.alloc (.map #[] 0)).alloc (Zk #[.map (some w.heap.size)] 261))):=(Zal).alloc (by simp) _;have M:Hid (Seen ((w.alloc (.map #[] 0)).alloc (Zk #[.map (some w.heap.size)] 261)) w.heap.size 0 (l.take 0)):=Aa (L.out.below (Zal));have G:Hid (((w.alloc (.map #[] 0)).alloc (Zk #[.map (some w.heap.size)] 261)).cell? ⟨w.heap.size+1,0,none⟩=some (.map (some w.heap.size))/\w.heap.size+1<((w.alloc (.map #[] 0)).alloc (Zk #[.map (some w.heap.size)] 261)).heap.size):=Aa ⟨by rw[World.cell?_alloc_at _ _ _ _ (by simp)];rfl,by simp⟩;clear ak L;generalize (w.alloc (.map #[] 0)).alloc (Zk #[.map (some w.heap.size)] 261)=wa at *
 go_loopw [11] (λvi wr=>∃k:Nat,k<=l.length/\vi=Zi k/\Hid (Seen wr w.heap.size k (l.take k))/\Hid (wr.cell? ⟨w.heap.size+1,0,none⟩=some (.map (some w.heap.size))/\w.heap.size+1<wr.heap.size)/\Hid (Below w.heap.size w wr)) (λvi _=>l.length-(intOf vi).toNat)
 case atStart=>exact⟨0,XO _,rfl,M,G,z⟩
 case round=>
  clear M G z;obtain⟨k,hk,rfl,SE,v,U⟩:=hrel
  by_cases hlt:k<l.length
  ·have ap:(k:Int)<(l.length:Int):=by omega
   rcases H1.out.below U.out with⟨_,e0⟩|⟨g,o',c,Y,an,aq,d⟩
   ·rw[e0] at hlt;simp at hlt
   injection Y with ad _ ae;subst ad ae;obtain⟨ma,mn,mc,ca,cn,cc,s,O⟩:=d k hlt;have n:Hid (∀p,iH (l.take (k+1)) p=if l[k]!.2.1=p then iH (l.take k) p+1 else iH (l.take k) p):=Aa (λp=>by rw[Br hlt,AFj]);obtain⟨⟨x1,m,x3,x4,x5,x6⟩,i⟩:∃x,l[k]! = x:=⟨_,rfl⟩;rw[i] at s O n;obtain⟨q0,q1,q2,q3,q4,q5⟩:=O;simp only at q0 q1 q2 q3 q4 q5;have hp:m.size<=maxLen:=s.path;obtain⟨D,hD,P⟩:=SE.out.below ((XI wr.heap.size wr).alloc (Y8 _) (Zk #[Zi x1,Zt m,Zi x3,Zs ma mn mc,Zs ca cn cc,Zi x6] 144));have y:=Aa P;have HD:=Aa hD;have ai:=AJf (l.take k) m
   have R:(iH (l.take k) m:Int)<=1000:=by
    have:(l.take k).length<=l.length:=by simp;omega
    omega
   have ag:=Lib.cell?_alloc_some (Zk #[Zi x1,Zt m,Zi x3,Zs ma mn mc,Zs ca cn cc,Zi x6] 144) v.out.1;have aa:Hid (Below wr.heap.size wr (wr.alloc (Zk #[Zi x1,Zt m,Zi x3,Zs ma mn mc,Zs ca cn cc,Zi x6] 144))):=Aa (Zal);have ar:w.heap.size+1≠wr.heap.size:=by have:=v.out.2;omega
   clear P hD s d i ai;generalize T:(iH (l.take k) m:Int)=cv at R;have J:=Aa T;have ao:0<=cv:=by omega
   clear T
   go_wp2_with (first
    | (at_lookup;refine wpList_lookup_own_int _ rfl _ _ 261 rfl 9 3 .i64 Wl underlying261 underlying3 (zeroValue3 _) w.heap.size k D rfl HD.out _ _ rfl (Mh hp) ?_;intro c b am
       have ah:c=cv:=by rw[y.out,J.out] at b;injection b with b;injection b with _ b;exact b.symm
       clear b am;subst ah)
    | (at_mapUpdate;refine wpList_mapUpdate_in _ rfl _ _ _ 261 rfl 9 3 Wl underlying261 _ w.heap.size k D rfl HD.out (by unfold maxLen;omega) _ _ _ rfl rfl (Mh hp) _ [] (plainElem_int underlying3 (AEk (by omega) (by omega))) ?_;intro w8 h f
       have ac:=Aa h;have q:=Aa f.grown;clear h f))
   go_roundw
   case rel=>
    have au:=v.out.2;refine⟨k+1,by omega,by go_num,Aa ⟨_,ac.out,λp=>?_⟩,Aa ⟨(q.out.cell_far ⟨w.heap.size+1,0,none⟩ (by simp;omega) (by simp)).trans ag,by have:=q.out.size;simp at this;omega⟩,Aa ((Below.Ap U.out aa.out).grown q.out (by simp;omega) (λj t=>by cases t;exact Y8 _))⟩
    by_cases e:m=p
    ·subst e
     rw[atKey_put_same HD.out.isMap (AEF _),n.out,if_pos rfl];rw[Int.natCast_add,J.out];rfl
    rw[atKey_put_other (λu=>e (Jr u).symm),n.out,if_neg e];exact y.out p
   case measure=>simp[intOf];omega
  have aj:k=l.length:=by omega
  subst aj
  have ab:=Aa (I.out wr U.out (by obtain⟨D,N,r⟩:=SE.out;rw[Ye] at r;exact⟨D,N.mono hl,r⟩) v.out.1 v.out.2)
  go_wp2_with (go_at_call 174;refine ab.out.mono ?_;rintro e w1⟨rfl,af⟩);go_ret;exact⟨rfl,Below.Ap U.out af⟩
def Nt(c o:Dn):Bool:=G8 o.2.2 || (decide (0<o.2.2.length) && (c.2.1 || G8 c.2.2) || S9 c.2.2 o.2.2)
theorem v8(t1:Tb)(c:Bool)(f:To)(n1 c1:Nat)(l:List A5)(t2:Tb)(j:Bool)(g:To)(n2 h:Nat)(o:List A5)(w:Tw)(M:Dt w (Zs f n1 c1) l)(z:Dt w (Zs g n2 h) o)(N:l.length<=1000)(P:o.length<=1000):
 Zc 79 #[Zg #[Zt t1,Zo c,Zs f n1 c1],Zg #[Zt t2,Zo j,Zs g n2 h]] w λe r=>e=Zr (Zo (Nt (t1,c,l) (t2,j,o)))/\Zb w r:=by
 have O:=z.len;subst O;obtain⟨Y,z1,z2,z3⟩:=C1 w (Zk #[Zt t1,Zo c,Zs f n1 c1] 86) (Zk #[Zt t2,Zo j,Zs g o.length h] 86)
 have I:Hid (∀W,Below (w.heap.size+2) ((w.alloc (Zk #[Zt t1,Zo c,Zs f n1 c1] 86)).alloc (Zk #[Zt t2,Zo j,Zs g o.length h] 86)) W->(W.cell? ⟨w.heap.size,0,none⟩=some (Zt t1)/\W.cell? ⟨w.heap.size,1,none⟩=some (Zo c)/\W.cell? ⟨w.heap.size,2,none⟩=some (Zs f n1 c1))/\W.cell? ⟨w.heap.size+1,2,none⟩=some (Zs g o.length h)/\Zb w W/\w.heap.size+2<=W.heap.size):=λW d=>by have hs:=d.size;rw[Y] at hs;obtain⟨y0,y1,y2,_⟩:=Db ((d.block _ (by omega)).trans z1);obtain⟨_,_,y3,_⟩:=Db ((d.block _ (by omega)).trans z2);exact⟨⟨y0,y1,y2⟩,y3,z3.trans (d.mono (by omega)),hs⟩
 have t:Hid (∀W,Zb w W->Zc 123 #[Zg #[Zt t1,Zo c,Zs f n1 c1]] W λe r=>e=Zr (Zo (G8 l))/\Zb W r):=λW d=>Wy t1 c f n1 c1 l W (M.below d) N
 have m:Hid (∀W,Zb w W->Zc 123 #[Zg #[Zt t2,Zo j,Zs g o.length h]] W λe r=>e=Zr (Zo (G8 o))/\Zb W r):=λW d=>Wy t2 j g _ h o W (z.below d) P
 have n:Hid (∀W,Zb w W->Zc 124 #[Zs f n1 c1,Zs g o.length h] W λe r=>e=Zr (Zo (S9 l o))/\Zb W r):=λW d=>AF0 f n1 c1 l g _ h o W (M.below d) (z.below d) N P
 have i:Hid (Nt (t1,c,l) (t2,j,o)=(G8 o || (decide (0<o.length) && (c || G8 l) || S9 l o))):=rfl;have aa:(o.length:Int)<=1000:=by omega
 clear M z z1 z2 N P;generalize Nt (t1,c,l) (t2,j,o)=x at i ⊢;generalize G8 o=y at m i;generalize G8 l=b2 at t i;generalize S9 l o=b3 at n i;have p:=Aa Y;have u:=Aa z3;clear Y z3
 by_cases h0:0<o.length
 ·have L:(0:Int)<(o.length:Int):=by omega
  have a:Hid (x=(y || ((c || b2) || b3))):=Aa (by rw[i.out];simp[h0]);clear i;cases y <;> cases c <;> cases b2
  all_goals
   go_enter func79,ntmps79;go_wp2_with fail;refine(m.out _ u.out).mono ?_;rintro e R⟨rfl,b⟩;obtain⟨⟨T,U,V⟩,X,k,x5⟩:=I.out R (b.mono (by rw[p.out];omega));have D:=Aa (b.mono (show w.heap.size+2<=_ by rw[p.out];omega));have s:=Aa k;clear b k
   go_wp2_with (first
    | (go_at_call 123;refine(t.out _ s.out).mono ?_;rintro e w2⟨rfl,v⟩
       have G:=Aa (D.out.trans (v.mono x5));clear T U V X;obtain⟨⟨T,U,V⟩,X,k,x6⟩:=I.out w2 G.out;have J:=Aa k;clear v k)
    | (go_at_call 124;refine(n.out _ J.out).mono ?_;rintro e w3⟨rfl,q⟩))
   go_ret
   first
    | exact⟨Af (by rw[a.out];simp),Below.Ap J.out q⟩
    | exact⟨Af (by rw[a.out];simp),J.out⟩
    | exact⟨Af (by rw[a.out];simp),s.out⟩
 have L:¬(0:Int)<(o.length:Int):=by omega
 have a:Hid (x=(y || b3)):=Aa (by rw[i.out];simp[h0]);clear i;cases y
 all_goals
  go_enter func79,ntmps79;go_wp2_with fail;refine(m.out _ u.out).mono ?_;rintro e R⟨rfl,b⟩;obtain⟨⟨T,U,V⟩,X,k,x5⟩:=I.out R (b.mono (by rw[p.out];omega));have s:=Aa k;clear b k;go_wp2_with (go_at_call 124;refine(n.out _ s.out).mono ?_;rintro e w3⟨rfl,q⟩);go_ret
  first
   | exact⟨Af (by rw[a.out];simp),Below.Ap s.out q⟩
   | exact⟨Af (by rw[a.out];simp),s.out⟩
theorem xK{s t:Ah}{a:A5}(h:Xx s a t)(g:Q7 s):Q7 t:=by
 rcases h with⟨_,⟨f,_,_,_,_,_⟩,rfl⟩|⟨_,_,rfl⟩|⟨_,⟨i,_⟩,rfl⟩|⟨_,_,rfl⟩
 ·intro e b
  simp only[oE,XK,List.mem_singleton] at b
  rcases b with b|rfl
  ·exact g e b
  exact Rk f
 ·intro e b
  exact g e (YE b)
 ·intro e b
  simp only[gJ] at b
  rcases Ys b with b|rfl
  ·exact g e b
  rcases J8 s.files a.2.1 with c|⟨k,d,c,_⟩
  ·omega
  rw[c];show (s.files[k]!).1.size<=16;exact g _ (bB d)
 exact g
theorem cP:∀{l:List A5}{s t:Ah},X1 s l t->Q7 s->Q7 t
 | [],_,_,h,g=>by simp only[X1,Il] at h;subst h;exact g
 | a :: l,s,t,⟨u,h1,h2⟩,g=>cP (l:=l) h2 (xK h1 g)
theorem iX{s t:Ah}(h:Bi s c t)(g:Q7 s):Q7 t:=cP h.2 g
theorem qX{s t u:Ah}(h:Bi s c t)(k:Bi s c u):t=u:=K6 h.2 k.2
theorem sF(W:Tw)(b:Nat)(c0 c1 f g a c d e:Tv)(T:TypeId)(h:W.heap[b]? = some (Zk #[c0,c1,f,g] T (0,0))):
 ((((W.setCell ⟨b,0,none⟩ a).setCell ⟨b,1,none⟩ c).setCell ⟨b,2,none⟩ d).setCell ⟨b,3,none⟩ e).heap[b]? = some (Zk #[a,c,d,e] T (0,0))/\W.grownBy ((((W.setCell ⟨b,0,none⟩ a).setCell ⟨b,1,none⟩ c).setCell ⟨b,2,none⟩ d).setCell ⟨b,3,none⟩ e) (some b) :=
 ⟨As _ b 3 _ T e (As _ b 2 _ T d (As _ b 1 _ T c (As _ b 0 _ T a h))),(((Aq W b 0 a).trans (Aq _ b 1 c)).trans (Aq _ b 2 d)).trans (Aq _ b 3 e)⟩
theorem Dl.up{w W:Tw}{s:Ah}{v:Tv}(h:Dl w s v)(f:Zb w W):Dl W s v:=by obtain⟨a,c1,b,c,L,e,d⟩:=h;exact⟨a,c1,b,c,L,e,d.up f⟩
theorem Dl.put{s:Ah}{v:Tv}{b:Nat}{cs:Array Tv}(h:Dl w s v)(d:w.heap[b]? = some (Zk cs 42 (0,0)))(f:w.grownBy W (some b)):Dl W s v:=by
 obtain⟨i,c1,j,l,L,e,a⟩:=h;refine⟨i,c1,j,l,L,e,?_,a.files,?_,λx g=>?_⟩
 ·exact Az a.cols f (λk c e=>Fq a.cols d (by decide) (by rw[c];exact e.symm))
 ·exact Az a.row f (λk c e=>Fq a.row d (by decide) (by rw[c];exact e.symm))
 exact Az (a.Cl x g) f (λk c e=>Fq (a.Cl x g) d (by decide) (by rw[c];exact e.symm))
theorem AAK(W:Tw):Dl W F6 Wi:=⟨none,0,none,0,[],rfl,xI W⟩
def AKH(s:Ah)(c:Dn)(h:Int)(b:Option Addr)(n1 c1:Nat)(i:Int)(d:Option Addr)(n2 e:Nat)(a:Value)(g:World):Prop :=
 (a=.nilIface/\∃t,Bi s c t/\Dl g t (.agg #[Zi h,.slice b n1 c1,Zi i,.slice d n2 e]))\/(∃f x,a=.iface f x/\∀t,¬Bi s c t)
theorem kJ(s:Ah)(a:Tv)(f:Tb)(p:Bool)(Bz:List A5)(g:To)(j i:Nat)(w:Tw)(h:Dl w s a)(J:Good Bv Cm s)(n:0<=s.Eb)(o:s.Eb<=1000)(I:Dt w (Zs g j i) Bz)(k:Bz.length<=1000)(m:f.size<=maxLen)(M:Lw w):
 Zc 47 #[a,Zg #[Zt f,Zo p,Zs g j i]] w λe q=>∃y b n1 c1 z c n2 d r,e=Zr (Zu #[Zg #[Zi y,Zs b n1 c1,Zi z,Zs c n2 d],r])/\Zb w q/\AKH s (f,p,Bz) y b n1 c1 z c n2 d r q:=by
 refine(ADj s a f p Bz g j i w h J n o I k m M).mono ?_;rintro e q⟨u,⟨t,v,D,rfl,l⟩|⟨N,x,rfl,l⟩⟩
 ·obtain⟨b,c1,c,d,L,rfl,G⟩:=l
  exact⟨_,_,_,_,_,_,_,_,_,rfl,u,.inl ⟨rfl,t,D,b,c1,c,d,L,rfl,G⟩⟩
 exact⟨_,_,_,_,_,_,_,_,_,rfl,u,.inr ⟨N,x,rfl,l⟩⟩
abbrev AKw(W:World)(b:Nat)(a c d e:Value):World:=(((W.setCell ⟨b,0,none⟩ a).setCell ⟨b,1,none⟩ c).setCell ⟨b,2,none⟩ d).setCell ⟨b,3,none⟩ e
theorem Hx{n:Nat}(h:Below n w W){b:Nat}(a:n<=b)(c d e f:Tv):Below n w (AKw W b c d e f) :=
 (((h.setCell (p:=⟨b,0,none⟩) a _).setCell (p:=⟨b,1,none⟩) a _).setCell (p:=⟨b,2,none⟩) a _).setCell (p:=⟨b,3,none⟩) a _
def Vp(c:Aj):Prop:=Lu c.1/\Lu c.2.2.1/\Lu c.2.2.2.2.2.1
structure Ints(a:A5):Prop where
 rows:Lu a.2.2.1
 mask:∀x∈a.2.2.2.1,Lu x
 cols:∀x∈a.2.2.2.2.1,Vp x
 next:Lu a.2.2.2.2.2
theorem zD{n:Int}(h:(Lit.int .i64 n).wf=true):Lu n:=by
 have a:IntKind.i64.min = -9223372036854775808:=by decide
 have b:IntKind.i64.max=9223372036854775807:=by decide
 simp only[Lit.wf,Y9,decide_eq_true_eq] at h;rw[a,b] at h;exact h
theorem AIb:prog.cellsOf 3=1:=by kernel_rfl
theorem AKN:prog.cellsOf 2=1:=by kernel_rfl
theorem AJr:prog.cellsOf 4=1:=by kernel_rfl
theorem AEW:prog.cellsOf 9=1:=by kernel_rfl
theorem AJ3:prog.cellsOf 56=3:=by kernel_rfl
theorem AHW:prog.cellsOf 72=7:=by kernel_rfl
theorem Jq{α:Type}{l:List α}{n:Nat}(h:l.length=n+1):∃a t,l=a :: t/\t.length=n:=by
 cases l with
 | nil=>simp at h
 | cons a t=>exact⟨a,t,rfl,by simpa using h⟩
theorem AFh{α:Type}{l:List α}(h:l.length=0):l=[]:=List.length_eq_zero_iff.1 h
section
variable {H : Type} {enc : TypeId × Value → H} {P : Program} {w : World} {base : Nat} {spare : Nat → Bool} {held : Bool} {t : TypeId} {fuel : Nat} {cs : List Value} {x : DataW H × List MemPlace}
theorem nB{a b c d e:Field}(p:P.underlying t=some (.struct #[a,b,c,d,e]))(h:DataW.trod enc P w base spare held fuel t cs=some x):
 ∃(i j k l m:DataW H×List MemPlace)(n:Nat),cs.length=P.cellsOf t/\DataW.trod enc P w base spare held n a.type ((cs.drop a.offset).take (P.cellsOf a.type))=some i/\DataW.trod enc P w base spare held n b.type ((cs.drop b.offset).take (P.cellsOf b.type))=some j/\DataW.trod enc P w base spare held n c.type ((cs.drop c.offset).take (P.cellsOf c.type))=some k/\DataW.trod enc P w base spare held n d.type ((cs.drop d.offset).take (P.cellsOf d.type))=some l/\DataW.trod enc P w base spare held n e.type ((cs.drop e.offset).take (P.cellsOf e.type))=some m:=by
 obtain⟨xs,n,_,_,o,g,f⟩:=DataW.trod_struct p h
 match xs,g with
 | [i,j,k,l,m],_=>exact⟨i,j,k,l,m,n,o,f 0 a rfl,f 1 b rfl,f 2 c rfl,f 3 d rfl,f 4 e rfl⟩
end
section
variable {H : Type} {enc : TypeId × Value → H} {W : World} {sp : Nat → Bool} {held : Bool} {n : Nat} {cs : List Value} {x : DataW H × List MemPlace}
theorem AEc(h:DataW.trod enc prog W 0 sp held n 72 cs=some x):∃c:Aj,cs=Cc c/\(c.2.1.size<=maxLen/\c.2.2.2.2.2.2.size<=maxLen)/\Vp c:=by obtain⟨y0,y1,y2,y3,y4,n1,z,t,u,v,w,y⟩:=nB underlying72 h;rw[AHW] at z;obtain⟨v0,cs1,rfl,a⟩:=Jq (n:=6) z;obtain⟨v1,cs2,rfl,b⟩:=Jq (n:=5) a;obtain⟨v2,cs3,rfl,d⟩:=Jq (n:=4) b;obtain⟨v3,O,rfl,e⟩:=Jq (n:=3) d;obtain⟨v4,P,rfl,f⟩:=Jq (n:=2) e;obtain⟨v5,R,rfl,g⟩:=Jq (n:=1) f;obtain⟨v6,T,rfl,i⟩:=Jq (n:=0) g;obtain rfl:=AFh i;simp only[AIb,AEW,AJr,AJ3,WH,X',WI,WN] at t u v w y;obtain⟨D,e0,_,U⟩:=DataW.trod_int underlying3 t;obtain⟨G,j,_,Y⟩:=DataW.trod_string underlying9 u;obtain⟨I,k,_,V⟩:=DataW.trod_int underlying3 v;obtain⟨J,l,_⟩:=DataW.trod_bool underlying4 w;obtain⟨z0,z1,z2,n2,_,_,q,r,s⟩:=trod_struct3 underlying56 y;simp only[AIb,AEW,AKN,WH,X',WI,WN] at q r s;obtain⟨L,m,_,_⟩:=DataW.trod_int underlying3 q;obtain⟨M,o,_,X⟩:=DataW.trod_int underlying2 r;obtain⟨N,p,_,m7⟩:=DataW.trod_string underlying9 s;simp at e0 j k l m o p;subst e0 j k l m o p;exact⟨(D,G,I,J,L,M,N),rfl,⟨Y,m7⟩,zD U,zD V,zD X⟩
def AKI{α:Type}[Inhabited α](k:Nat)(en:α->List Value)(W:World)(v:Value)(l:List α):Prop :=
 ((∃a c,v=.slice a 0 c)/\l=[])\/∃g o c,v=.slice (some ⟨g,o,none⟩) l.length c/\l.length<=c/\g<W.heap.size/\∀j,j<l.length->∀i u,(en l[j]!)[i]? = some u->W.cell? ⟨g,o+j*k+i,none⟩=some u
theorem p8{v:Tv}{l:List Aj}(h:AKI 7 Cc W v l):bH W v l:=by
 rcases h with h|⟨g,o,c,e,b,d,a⟩
 ·exact .inl h
 exact .inr ⟨g,o,c,e,b,d,a⟩
abbrev Gx:=A5×Sv×Sv
def nU(q:Gx):List Value:=[Zi q.1.1,.string q.1.2.1,Zi q.1.2.2.1,sv q.2.1,sv q.2.2,Zi q.1.2.2.2.2.2]
abbrev AKx:=Dn×Sv
def PK(W:World)(q:AKx):Prop:=AKB W (sv q.2) q.1.2.2/\q.1.2.2.length<=maxLen/\q.1.1.size<=maxLen/\∀a∈q.1.2.2,Ints a
end
variable{W Y w:Tw}{n:Nat}
attribute [local go_sem] Oper.semAt_some
def Mi:Value:=.agg #[Zi 0,.string ⟨#[]⟩,Zi 0,.slice none 0 0,.slice none 0 0,Zi 0]
theorem gO:(prog.info? 144).map (λi=>(i.zero,i.size,i.bytes))=some (some Mi,6,88):=by kernel_rfl
def Ci(L:List Gx):List Value:=L.flatMap nU
theorem Uy:∀{pre:List (List UInt8)}{L:List A5}{a:List UInt8}{x:A5},Cp pre=some L->Co a=some x->Cp (pre++[a])=some (L++[x])
 | [],L,a,x,h,hx=>by simp only[Cp] at h;cases h;simp[Cp,hx]
 | p :: pre,L,a,x,h,hx=>by
   simp only[Cp] at h;cases hp:Co p with
   | none=>rw[hp] at h;cases h
   | some y=>
     rw[hp] at h;simp only[XC] at h;cases hr:Cp pre with
     | none=>rw[hr] at h;cases h
     | some M=>rw[hr] at h;cases h;simp only[XH,Cp,hp,XC,Uy hr hx];rfl
theorem Sz:∀{pre:List (List UInt8)}{a:List UInt8}{t:List (List UInt8)},Co a=none->Cp (pre++a :: t)=none
 | [],a,t,h=>by simp[Cp,h]
 | p :: pre,a,t,h=>by simp only[XH,Cp];rw[Sz h];cases Co p <;> rfl
def pC(base:Nat)(W:World)(q:Gx):Prop:=W.ownsRow base 3 1 (sv q.2.1) q.1.2.2.2.1.length (q.1.2.2.2.1.map (.int .i64))/\W.ownsRow base 72 7 (sv q.2.2) q.1.2.2.2.2.1.length (Av q.1.2.2.2.2.1)
structure RdI(w:World)(bc base:Nat)(tx:ByteArray)(rd:Bool)(pre:List (List UInt8))(W:World)(L:List Gx)(aa:Option Addr)(ac:Nat):Prop where
 box:W.heap[bc]? = some (.cells #[.string tx,.bool rd,.slice aa L.length ac] 86 (0,0))
 Bz:Cp pre=some (L.map (·.1))
 row:W.ownsRow base 144 6 (.slice aa L.length ac) L.length (Ci L)
 own:∀q∈L,pC base W q
 res:W.heap[w.heap.size]? = some (.cells #[.string ⟨#[]⟩,.bool false,.slice none 0 0] 86 (0,0))
 ok:W.heap[w.heap.size+1]? = some (.cells #[.bool false] 4 (0,0))
 low:Zb w W
theorem Le{base:Nat}{t:TypeId}{z:Nat}{v:Tv}{xs:List Tv}{row:Option Nat}{B:Nat}(h:W.ownsRow base t z v n xs)(i:B<base)(f:W.grownBy Y row)(g:∀r,row=some r->r=B\/(∃o:Obj,W.heap[r]? = some o/\o.isCells=false)):Y.ownsRow base t z v n xs :=
 Az h f (λk a e=>by
  rcases g k e with rfl|⟨o,b,d⟩
  ·have:=Fu h a;omega
  obtain⟨cs,c⟩:=Ho h a;rw[c] at b;cases b;cases d)
theorem Ht{b:Nat}{cs:Array Tv}{t:TypeId}{row:Option Nat}{B:Nat}(h:W.heap[b]? = some (Zk cs t (0,0)))(c:b≠B)(f:W.grownBy Y row)(g:∀r,row=some r->r=B\/(∃o:Obj,W.heap[r]? = some o/\o.isCells=false)):Y.heap[b]? = some (Zk cs t (0,0)):=by
 refine(f.block b (Ac h) (λe=>?_)).trans h
 rcases g b e.symm with rfl|⟨o,a,d⟩
 ·exact c rfl
 rw[h] at a;cases a;cases d
theorem RdI.free{n base:Nat}{s:Tb}{l:Bool}{pre:List (List UInt8)}{L:List Gx}{f:To}{k:Nat}{row:Option Nat}{B:Nat}(h:RdI w n base s l pre W L f k)(c:B<base)(d:n≠B)(t:w.heap.size+1<B)(b:W.grownBy Y row)(i:∀r,row=some r->r=B\/(w.heap.size<=r/\∃o:Obj,W.heap[r]? = some o/\o.isCells=false)):RdI w n base s l pre Y L f k:=by
 have a:∀r,row=some r->r=B\/(∃o:Obj,W.heap[r]? = some o/\o.isCells=false):=λr e=>(i r e).imp id And.right
 refine⟨Ht h.box d b a,h.Bz,Le h.row c b a,λq g=>⟨Le (h.own q g).1 c b a,Le (h.own q g).2 c b a⟩,Ht h.res (by omega) b a,Ht h.ok (by omega) b a,h.low.grown b h.low.size (λj p=>?_)⟩
 rcases i j p with rfl|⟨m,_⟩
 ·omega
 exact m
structure RdX(w:World)(t0:List UInt8)(W:World):Prop where
 bad:Cp (Dp t0)=none
 res:W.heap[w.heap.size]? = some (.cells #[.string ⟨#[]⟩,.bool false,.slice none 0 0] 86 (0,0))
 ok:W.heap[w.heap.size+1]? = some (.cells #[.bool false] 4 (0,0))
 low:Zb w W
theorem RdX.free{l:List UInt8}{row:Option Nat}{B:Nat}(h:RdX w l W)(g:w.heap.size+1<B)(b:W.grownBy Y row)(c:∀r,row=some r->r=B\/(w.heap.size<=r/\∃o:Obj,W.heap[r]? = some o/\o.isCells=false)):RdX w l Y:=by
 have a:∀r,row=some r->r=B\/(∃o:Obj,W.heap[r]? = some o/\o.isCells=false):=λr e=>(c r e).imp id And.right
 refine⟨h.bad,Ht h.res (by omega) b a,Ht h.ok (by omega) b a,h.low.grown b h.low.size (λj f=>?_)⟩
 rcases c j f with rfl|⟨d,_⟩
 ·omega
 exact d
theorem Ie(h:Zb W Y):KeepsFrom n W Y:=⟨h.size,λk _ _ a _=>(h.block k (Ac a)).trans a⟩
variable{n z:Nat}{W Y:Tw}{v:Tv}
attribute [local go_sem] Oper.semAt_some
theorem dL{β:Type}{g:Operand}{p:Tmp}{assign body:Code}{Q:Exit->Act->Tw->Prop}{a:Act}{w:Tw}(q:Tmp)(T:1<=n){gf:Nat}{lb:Array Tv}(Y:a.eval g=.func (.func gf) #[] lb)(O:∀args w,(callFunc gf args).run prog w=.ok (.enter gf args) w){B:Nat}{R:β->Array Tv->β->Prop}{M:β}{E:β->Prop}{k:List UInt8->Tw->Prop}{L:Tw->Prop}(s:aX (n-1) gf lb B R M E k L)(J:∀v X r o o',k v X->X.heap[r]? = some o->o.isCells=false->k v (X.putObj r o'))(m:∀b args e,R b args e->args.size=1)(y:B≠w.heap.size)(z:B≠w.heap.size+1)(I:β->Tw->Prop)(x:Code->Tw->Prop)(U:iM B w.heap.size I)(G:∀c,iM B w.heap.size (λ(_:Unit)=>x c))(P:I M w)(V:∀r,L ((w.alloc (.deferred (some []))).alloc (.loop r)))(d:∀(l:Nat)(v:Tv)(W:Tw)(K:Act->Tw->Prop),K { tmps:=(a.tmps.setIfInBounds p v).setIfInBounds q v,defers:=[] } W ->
   assign.wpIn (Fence.wide.inRound l) (n-1-1) prog (Exit.then K (λ_ _ _=>False)) { tmps:=a.tmps.setIfInBounds p v,defers:=[] } W)(f:∀(l:Nat)(b:β)(v:Tv)(e:β)(W:Tw)(t:List UInt8),w.heap.size<=l->R b #[v] e->I b W->k t W->body.wpIn (Fence.wide.inRound l) (n-1-1) prog (AA1 w.heap.size k t I x e W) { tmps:=(a.tmps.setIfInBounds p v).setIfInBounds q v,defers:=[] } W)(i:∀(D:Nat)(b:β)(W:Tw),w.heap.size<=D->E b->I b W->W.heap[D]? = some (.deferred (some []))->Q .normal { a with defers:={ target:=.collected D,args:=#[] } :: a.defers } W)(j:∀(D:Nat)(c:Code)(W:Tw),w.heap.size<=D->x c W->W.heap[D]? = some (.deferred (some []))->c.wpIn Fence.wide n prog Q { a with defers:={ target:=.collected D,args:=#[] } :: a.defers } W):
 (Code.rangeFunc g #[p] assign body).wpIn Fence.wide n prog Q a w:=by
 have one:∀args:Array Tv,args.size=1->∃v,args=#[v]:=λargs h=>by
  rcases args with⟨_|⟨v,_|⟨u,r⟩⟩⟩
  ·cases h
  ·exact⟨v,rfl⟩
  simp at h
 refine ADO T Y O s J m y z I x U G P V (λargs=>{ tmps:=(a.tmps.setIfInBounds p (args.getD 0 undef)).setIfInBounds q (args.getD 0 undef),defers:=[] }) ?_ ?_ i j
 ·intro l args W K hs hK
  obtain⟨v,rfl⟩:=one args hs;have:=d l v W K hK;simpa using this
 intro l b args e W t hl N hi hk;obtain⟨v,rfl⟩:=one args (m b args e N);exact f l b v e W t hl N hi hk
theorem G6{q i:Nat}(h:KeepsFrom n W Y)(d:q<n):KeepsFrom n W (Y.setCell ⟨q,i,none⟩ v) :=
 ⟨XD h.size (Aq Y q i v).size,λk o b c a=>((Aq Y q i v).block k (Ac (h.same k o b c a)) (λe=>by injection e with e;omega)).trans (h.same k o b c a)⟩
theorem Cg{b q i:Nat}{o:Obj}(h:Y.heap[b]? = some o)(a:b≠q):(Y.setCell ⟨q,i,none⟩ v).heap[b]? = some o :=
 ((Aq Y q i v).block b (Ac h) (λe=>by injection e with e;omega)).trans h
theorem Iq{base:Nat}{t:TypeId}{xs:List Tv}{b i:Nat}{u:Tv}(h:W.ownsRow base t z v n xs)(a:b<base):(W.setCell ⟨b,i,none⟩ u).ownsRow base t z v n xs :=
 Le (B:=b) h a (Aq W b i u) (λr e=>by injection e with e;exact .inl e.symm)
theorem Xa:∀{pre:List (List UInt8)}{M:List A5},Cp pre=some M->M.length=pre.length
 | [],M,h=>by simp only[Cp] at h;cases h;rfl
 | p :: pre,M,h=>by
   simp only[Cp] at h;cases hp:Co p with
   | none=>rw[hp] at h;cases h
   | some y=>
     rw[hp] at h;simp only[XC] at h;cases hr:Cp pre with
     | none=>rw[hr] at h;cases h
     | some N=>rw[hr] at h;cases h;simp[Xa hr]
theorem AHN(s p:List UInt8):(Lib.trimSuffix s p).length<=s.length:=by
 unfold Lib.trimSuffix;split
 ·rw[XT];omega
 exact Y8 _
theorem j8{base i:Nat}{t t':TypeId}{j:Nat}{v v':Tv}{n n':Nat}{xs X:List Tv}(h:W.ownsRow base t z v n xs)(d:W.ownsRow i t' j v' n' X)(b:t≠t')(f:W.grownBy Y v'.ownBlock):Y.ownsRow base t z v n xs :=
 Az h f (λk g e=>by obtain⟨c1,c⟩:=Ho h g;obtain⟨l,a⟩:=Ho d e;rw[c] at a;injection a with a;injection a with _ a;exact b a)
theorem j4{X:Tw}{base:Nat}{t:TypeId}{k:Nat}{xs:List Tv}(h:KeepsFrom n W X)(g:X.ownsRow base t z v k xs)(f:X.grownBy Y v.ownBlock):KeepsFrom n W Y :=
 ⟨XD h.size f.size,λj o b c a=>(f.block j (Ac (h.same j o b c a)) (λe=>by obtain⟨i,d⟩:=Ho g e.symm;rw[h.same j o b c a] at d;cases d;cases a)).trans (h.same j o b c a)⟩
theorem I2{b:Nat}{x:Tv}{t:TypeId}(h:W.heap[b]? = some (Zk #[x] t (0,0))):W.cell? ⟨b,0,none⟩=some x/\W.frozen? ⟨b,0,none⟩=false:=by constructor <;> simp[World.cell?,World.frozen?,h]
def dM(l:List UInt8)(w:World)(e:Ending)(b:World):Prop:=∃(g:ByteArray)(f:Bool)(c:Option Addr)(a d:Nat)(ok:Bool),e=.returned (.tuple #[.agg #[.string g,.bool f,.slice c a d],.bool ok])/\Zb w b/\((ok=true/\∃L:List Gx,Js l=some (g,f,L.map (·.1))/\a=L.length/\b.ownsRow 0 144 6 (.slice c a d) L.length (Ci L)/\∀q∈L,pC 0 b q)\/(ok=false/\Js l=none))
theorem Pq(hP:S0)(s:Tb)(w:Tw)(hs:s.size<=1000000)(he:Ik w):Zc 83 #[Zt s] w (dM s.data.toList w):=by
 obtain⟨l,hl⟩:∃l,s.data.toList=l:=⟨_,rfl⟩;have cf:l.length<=1000000:=by rw[<-hl,Gm];exact hs
 rw[hl];have aj:=Aa (λW=>L5 s 10 W (by unfold maxLen;omega));rw[hl] at aj;have bn:=P1 10 l;have bb:=Ve 10 l
 have ap:Hid (∀W,Zc 130 #[Zt (bA (Ao 10 l).1),Zt ⟨#[32]⟩] W λe w'=>e=Zr (Zu #[Zt (bA (Ao 32 (Ao 10 l).1).1),Zt (bA (Aw (Ao 10 l).1)),Zo (Ao 32 (Ao 10 l).1).2.2])/\Below W.heap.size W w'):=Aa (λW=>by have:=L5 (bA (Ao 10 l).1) 32 W (by unfold maxLen;omega);rw[B5] at this;exact this)
 have b3:=Gi (Ao 10 l).1
 have aq:Hid (∀W,Zc 130 #[Zt (bA (Aw (Ao 10 l).1)),Zt ⟨#[32]⟩] W λe w'=>e=Zr (Zu #[Zt (bA (Ao 32 (Aw (Ao 10 l).1)).1),Zt (bA (Ao 32 (Aw (Ao 10 l).1)).2.1),Zo (Ao 32 (Aw (Ao 10 l).1)).2.2])/\Below W.heap.size W w'):=Aa (λW=>by have:=L5 (bA (Aw (Ao 10 l).1)) 32 W (by rw[Cz] at bn ⊢;unfold maxLen;omega);rw[B5] at this;exact this)
 have am:Hid (Js l=(Cp (Dp (Ao 10 l).2.1)).map λx=>(bA (Ao 32 (Aw (Ao 10 l).1)).1,decide ((Ao 32 (Aw (Ao 10 l).1)).2.1=gX),x)):=Aa rfl;have ax:=Aa (Ky (Ao 32 (Aw (Ao 10 l).1)).2.1);rw[Cz] at bb
 have av:Hid (∀(a:List UInt8)W,a.length<=1000000->Below w.heap.size w W->Zc 132 #[Zt (bA a)] W (AA3 a W)):=Aa (λa W ha hW=>by have:=eE hP (bA a) W (by rw[Cz];exact ha) (he.below hW);rw[B5] at this;exact this)
 clear he hl hs hP bn b3;generalize Ao 32 (Aw (Ao 10 l).1)=c3 at *;generalize (Ao 32 (Ao 10 l).1).1=bv at *;generalize (Ao 32 (Ao 10 l).1).2.2=z2 at *;generalize bA (Aw (Ao 10 l).1)=r2 at *;generalize Ao 10 l=c1 at *;obtain⟨hd,t0,z1⟩:=c1;obtain⟨b7,ao,z3⟩:=c3;simp only at aj ap aq am ax bb;generalize bA hd=xh at *;generalize bA bv=cg at *;have b5:t0.length<=1000000:=by omega
 generalize bm:bA t0=rs at *;have aw:=Aa bm;generalize bA b7=tx at *;have bl:((bA ao).toList==[114,101,97,100,115])=decide (ao=gX):=by rw[ax.out];exact ABi _ _
 have ar:=Aa bl;generalize bA ao=xw at *;generalize decide (ao=gX)=rd at *;clear bl ax bm bb;obtain⟨z0,bp,bq,br⟩:=C1 w (Zk #[Zt ⟨#[]⟩,Zo false,Zs none 0 0] 86) (Zk #[Zo false] 4);have Z0:=Aa z0;have Z1:=Aa bp;have Z2:=Aa bq;have Z3:=Aa br;clear z0 bp bq br;refine(callsIn_wide (n:=5)).1 ?_;refine callsIn_of_wp_marks func83 rfl trivial ?_ rfl;simp only[ntmps83,XP,XA,XF,Nat.reduceAdd,Nat.reduceSub,XQ,XR,XX,XS,XV,XH]
 gi_wp2_with (first
  | (refine⟨trivial,?_⟩;gi_at_call_has 130 (Zt s);refine(callsIn_wide.2 (aj.out _)).mono ?_;rintro e w2⟨rfl,ay⟩)
  | (refine⟨trivial,?_⟩;gi_at_call_has 130 (Zt xh);refine(callsIn_wide.2 (ap.out _)).mono ?_;rintro e w3⟨rfl,az⟩)
  | (refine⟨trivial,?_⟩;gi_at_call_has 130 (Zt r2);refine(callsIn_wide.2 (aq.out _)).mono ?_;rintro e g⟨rfl,a0⟩)
  | (refine⟨trivial,?_⟩;gi_at_call 131;refine(callsIn_wide.2 (ADX _ _)).mono ?_;rintro e w5⟨rfl,rfl⟩))
 rename_i K0 hK0;simp only[ar.out];have ah:Below w.heap.size w g:=Below.Ap (Below.Ap (Below.Ap Z3.out ay) az) a0;have ae:=Below.Ap (Below.Ap ay az) a0;have cd:w.heap.size+2<=g.heap.size:=by have:=ae.size;rw[Z0.out] at this;exact this
 have ai:g.heap[w.heap.size]? = some (Zk #[Zt ⟨#[]⟩,Zo false,Zs none 0 0] 86 (0,0)):=(ae.block _ (by rw[Z0.out];omega)).trans Z1.out;have a6:g.heap[w.heap.size+1]? = some (Zk #[Zo false] 4 (0,0)):=(ae.block _ (by rw[Z0.out];omega)).trans Z2.out;clear ae ay az a0 Z0 Z1 Z2 Z3 aj ap aq;obtain⟨y0,y1,y2,y3⟩:=C1 g (Zk #[Zt tx,Zo rd,Zs none 0 0] 86) (Zk #[Zt rs] 9);refine dL 14 (by decide) rfl (λ_ _=>rfl) (AAH 4 (g.heap.size+1) (by decide) t0 b5) (λv X r o o' h ho hc=>iN.kept h ho hc) (λb args b'⟨_,_,_,h,_⟩=>by rw[h];rfl) (by simp) (by simp) (λpre W=>∃L V ac,RdI w g.heap.size (g.heap.size+2) tx rd pre W L V ac) (λc W=>c=.ret/\RdX w t0 W) ?ab ?abx ?h0 ?hT ?hassign ?hbody ?hdone ?hstop
 case ab=>rintro pre X Y row⟨L,V,ac,hI⟩hg hr;exact⟨L,V,ac,hI.free (Nat.lt_succ_self _) (by omega) (by omega) hg (λr e=>(hr r e).imp id (λh=>⟨by have:=h.1;rw[y0] at this;omega,h.2⟩))⟩
 case abx=>rintro c b X Y row⟨hc,hX⟩hg hr;exact⟨hc,hX.free (by omega) hg (λr e=>(hr r e).imp id (λh=>⟨by have:=h.1;rw[y0] at this;omega,h.2⟩))⟩
 case h0=>refine⟨[],none,0,y1,rfl,?_,(λq hq=>by cases hq),(y3.block _ (by omega)).trans ai,(y3.block _ (by omega)).trans a6,Below.Ap ah y3⟩;exact⟨rfl,.inl ⟨rfl,rfl⟩⟩
 case hT=>intro r;unfold iN;rw[XM _ _ _ (by simp),XM _ _ _ (by simp),y2,<-aw.out]
 case hassign=>intro l v W K hK;gi_wp2;exact hK
 case hbody=>
  rintro l pre v ce W t hl⟨a,bo,t',hv,bj,a8,b4,rfl⟩⟨L,V,ac,hI⟩hk;cases hv;clear ai a6 y1 y2 y3 ah
  have HT:Hid (∀W,Zc 133 #[Zt (bA bo),Zt ⟨#[10]⟩] W λe w'=>e=Zr (Zt (bA a))/\w'=W):=Aa (λW=>by have:=strings_TrimSuffix (bA bo) ⟨#[10]⟩ W (by rw[Cz];omega);rw[B5] at this;refine this.mono ?_;rintro e w'⟨rfl,rfl⟩;refine⟨?_,rfl⟩;rw[<-a8];rfl)
  have b2:a.length<=1000000:=by rw[<-a8];exact XD (AHN _ _) b4
  have HR:=Aa (av.out a W b2 hI.low);have d:=Aa hI;have HK:=Aa hk;have HL:=Aa bj;clear hI hk bj a8 av am ar aw;cases hra:Co a with
  | none=>
    have au:Hid (Zc 132 #[Zt (bA a)] W λe w'=>∃(k:Int)(p:Tb)(r:Int)(N:To)(P O:Nat)(G:To)(J I:Nat)(T:Int),e=Zr (Zu #[Zg #[Zi k,Zt p,Zi r,Zs N P O,Zs G J I,Zi T],Zo false])/\Below W.heap.size W w'):=Aa (HR.out.mono (by
     rintro e w'⟨k,p,r,N,P,O,G,J,I,T,ok,rfl,hb,⟨_,M,C,h,_⟩|⟨rfl,_⟩⟩
     ·rw[hra] at h;cases h
     exact⟨k,p,r,N,P,O,G,J,I,T,rfl,hb⟩))
    have HN:Hid (Cp (Dp t0)=none):=Aa (by rw[HL.out];exact Sz hra);clear HR hra HL
    gi_wp2_with (first
     | (refine⟨trivial,?_⟩;gi_at_call 133;refine(callsIn_wide.2 (HT.out _)).mono ?_;rintro e w6⟨rfl,rfl⟩)
     | (refine⟨trivial,?_⟩;gi_at_call 132;refine(callsIn_wide.2 au.out).mono ?_;rintro e w7⟨k,p,r,N,P,O,G,J,I,T,rfl,R⟩
        have ag:Hid (Below w6.heap.size w6 (w7.alloc (Zk #[Zi k,Zt p,Zi r,Zs N P O,Zs G J I,Zi T] 144))):=Aa (R.alloc R.size _);have an:=Aa ((ag.out.block _ (Ac d.out.res)).trans d.out.res);have bc:=Aa ((ag.out.block _ (Ac d.out.ok)).trans d.out.ok);obtain⟨x0,x1,x2,xf⟩:=Db an.out;have xb:=I2 bc.out;clear R))
    rw[y0];refine⟨G6 (G6 (G6 (G6 (Ie ag.out) (by omega)) (by omega)) (by omega)) (by omega),rfl,HN.out,?_,?_,?_⟩
    ·exact Cg (pF _ _ _ _ _ _ _ _ _ an.out) (by omega)
    ·exact As _ _ 0 _ _ _ (Cg (Cg (Cg bc.out (by omega)) (by omega)) (by omega))
    exact(Fi (Below.Ap d.out.low ag.out) (Y8 _) _ _ _).setCell (p:=⟨w.heap.size+1,0,none⟩) (XN _) _
  | some x=>
    obtain⟨k,p,r,M,C,T⟩:=x
    have au:Hid (Zc 132 #[Zt (bA a)] W λe w'=>∃(N:To)(P O:Nat)(G:To)(J I:Nat),e=Zr (Zu #[Zg #[Zi k,Zt p,Zi r,Zs N P O,Zs G J I,Zi T],Zo true])/\Below W.heap.size W w'/\w'.ownsRow W.heap.size 3 1 (Zs N P O) M.length (M.map (.int .i64))/\w'.ownsRow W.heap.size 72 7 (Zs G J I) C.length (Av C)):=Aa (HR.out.mono (by
     rintro e w'⟨k,p,r,N,P,O,G,J,I,T,ok,rfl,hb,⟨rfl,M,C,h,h1,h2⟩|⟨_,h⟩⟩
     ·rw[hra] at h;cases h;exact⟨N,P,O,G,J,I,rfl,hb,h1,h2⟩
     rw[hra] at h;cases h))
    have HN:=Aa (Uy d.out.Bz hra)
    have hlen:L.length<=1000000:=by have h1:=Xa d.out.Bz;have h2:=eX _ t0 (Y8 _);rw[HL.out] at h2;simp only[XJ,XB,XA] at h1 h2;omega
    obtain⟨iA,bi,a2⟩:=Option.map_eq_some_iff.1 gO;simp only[Prod.mk.injEq] at a2;have al:=Aa (And.intro bi a2);clear HR hra HL bi a2
    gi_wp2_with (first
     | (refine⟨trivial,?_⟩;gi_at_call 133;refine(callsIn_wide.2 (HT.out _)).mono ?_;rintro e w6⟨rfl,rfl⟩)
     | (refine⟨trivial,?_⟩;gi_at_call 132;refine(callsIn_wide.2 au.out).mono ?_;rintro e w7⟨N,P,O,G,J,I,rfl,R,bk,bh⟩
        have bt:=Aa bk;have bs:=Aa bh;have f:=Aa R;have ag:Hid (Below w6.heap.size w6 (w7.alloc (Zk #[Zi k,Zt p,Zi r,Zs N P O,Zs G J I,Zi T] 144))):=Aa (R.alloc R.size _);have an:=Aa ((ag.out.block _ (Ac d.out.box)).trans d.out.box);obtain⟨x0,x1,x2,xf⟩:=Db an.out;have y:Hid (Below w7.heap.size w7 ((w7.alloc (Zk #[Zi k,Zt p,Zi r,Zs N P O,Zs G J I,Zi T] 144)).alloc (Zk #[Zi k,Zt p,Zi r,Zs N P O,Zs G J I,Zi T] 144))):=Aa ((Zal).alloc (by rw[XL];exact XN _) _);have m:=Aa (Bc (Bc d.out.row f.out) y.out);have U:Hid (g.heap.size+2<=w6.heap.size):=Aa (Ac HK.out);clear R bk bh)
     | (gi_at_builtin;refine wpListIn_append_own _ rfl _ _ 84 rfl (g.heap.size+2) 144 iA Mi 6 88 underlying84 al.out.1 al.out.2.1 al.out.2.2.1 al.out.2.2.2 rfl (by decide) (.slice V L.length ac) L.length (Ci L) rfl m.out ⟨w7.heap.size+1,0,none⟩ 1 1 (nU ((k,p,r,M,C,T),(N,P,O),(G,J,I))) rfl rfl (λj u hj=>XZ (by rw[<-XL w7 (.cells #[Zi k,.string p,Zi r,.slice N P O,.slice G J I,Zi T] 144)];exact heap_alloc_new _ _) j u hj) (by intro u hu;simp[nU] at hu;rcases hu with rfl|rfl|rfl|rfl|rfl|rfl <;> rfl) (by unfold maxLen;omega) (by omega) (XD U.out (XD f.out.size y.out.size)) ?_
        intro v1 w9 ad a1 _;obtain⟨a',c',rfl⟩:=AAN ad;have bu:=Aa ad;have ak:=Aa a1;have bd:=Aa ((a1.block g.heap.size (Ya (Ac d.out.box) (XD f.out.size y.out.size)) (λe=>by have:=Fu m.out e.symm;omega)).trans ((y.out.block _ (Ya (Ac d.out.box) f.out.size)).trans ((f.out.block _ (Ac d.out.box)).trans d.out.box)));obtain⟨b8,b9,cb,yf⟩:=Db bd.out;clear ad a1))
    clear b8 b9 cb yf x0 x1 x2 xf
    have a9:∀{b:Nat}{cs:Array Tv}{t:TypeId},w6.heap[b]? = some (Zk cs t (0,0))->b<g.heap.size+2->b≠g.heap.size->(w9.setCell ⟨g.heap.size,2,none⟩ (Zs a' (L.length+1) c')).heap[b]? = some (Zk cs t (0,0)):=λh hb a4=>Cg ((ak.out.block _ (Ya (Ac h) (XD f.out.size y.out.size)) (λe=>by have:=Fu m.out e.symm;omega)).trans ((y.out.block _ (Ya (Ac h) f.out.size)).trans ((f.out.block _ (Ac h)).trans h))) a4
    have af:∀{t:TypeId}{z:Nat}{v:Tv}{n:Nat}{xs:List Tv},w7.ownsRow (g.heap.size+2) t z v n xs->t≠144->(w9.setCell ⟨g.heap.size,2,none⟩ (Zs a' (L.length+1) c')).ownsRow (g.heap.size+2) t z v n xs:=λh a4=>Iq (j8 (Bc h y.out) m.out a4 ak.out) (by omega)
    rw[y0];refine⟨G6 (j4 (Ie (Below.Ap f.out y.out)) m.out ak.out) (by omega),⟨L++[((k,p,r,M,C,T),(N,P,O),(G,J,I))],a',c',?_,?_,?_,?_,?_,?_,?_⟩,?_⟩
    ·rw[XB]
     exact As w9 g.heap.size 2 _ _ _ bd.out
    ·rw[HN.out,X4];rfl
    ·rw[XB]
     have:=Iq (b:=g.heap.size) (i:=2) (u:=Zs a' (L.length+1) c') bu.out (by omega);have e:Ci (L++[((k,p,r,M,C,T),(N,P,O),(G,J,I))])=Ci L++nU ((k,p,r,M,C,T),(N,P,O),(G,J,I)):=by simp[Ci]
     rw[e];exact this
    ·intro q hq
     rcases List.mem_append.1 hq with hq|hq
     ·exact⟨af (Bc (d.out.own q hq).1 f.out) (by decide),af (Bc (d.out.own q hq).2 f.out) (by decide)⟩
     obtain rfl:=List.mem_singleton.1 hq;exact⟨af (G1 bt.out U.out) (by decide),af (G1 bs.out U.out) (by decide)⟩
    ·exact a9 d.out.res (by omega) (by omega)
    ·exact a9 d.out.ok (by omega) (by omega)
    ·have h1:=Below.Ap d.out.low (Below.Ap f.out y.out)
     exact(h1.grown ak.out h1.size (λj hj=>by have:=Fu m.out hj;omega)).setCell (p:=⟨g.heap.size,2,none⟩) (by show w.heap.size<=g.heap.size;omega) _
    exact a9 HK.out (by omega) (by omega)
 case hdone=>
  rintro D pre W hD rfl⟨L,V,ac,hI⟩hd;rw[y0] at hD;clear y0 y1 y2 y3 ai a6 av aw ar ah;refine hK0 _ _ ?_;clear hK0;obtain⟨x0,x1,x2,xf⟩:=Db hI.box;obtain⟨r0,r1,b6,rf⟩:=Db hI.res;obtain⟨o0,of⟩:=I2 hI.ok;have d:=Aa hI;have HD:=Aa hd;clear hI hd;gi_wp2;clear x0 x1 x2 xf r0 r1 b6 rf o0 of;have bw:=pF W w.heap.size _ _ _ (Zt tx) (Zo rd) (Zs V L.length ac) _ d.out.res;have bx:(aL W w.heap.size (Zt tx) (Zo rd) (Zs V L.length ac)).heap[w.heap.size+1]? = _:=Cg (Cg (Cg d.out.ok (by omega)) (by omega)) (by omega);have bz:=Cg (q:=w.heap.size+1) (i:=0) (v:=Zo true) bw (by omega);have b0:=As _ (w.heap.size+1) 0 _ _ (Zo true) bx;have bf:((aL W w.heap.size (Zt tx) (Zo rd) (Zs V L.length ac)).setCell ⟨w.heap.size+1,0,none⟩ (Zo true)).heap[D]? = _:=Cg (Cg (Cg (Cg HD.out (by omega)) (by omega)) (by omega)) (by omega);have bg:Below w.heap.size w ((aL W w.heap.size (Zt tx) (Zo rd) (Zs V L.length ac)).setCell ⟨w.heap.size+1,0,none⟩ (Zo true)):=(Fi d.out.low (Y8 _) _ _ _).setCell (p:=⟨w.heap.size+1,0,none⟩) (XN _) _;have b1:∀{t:TypeId}{z:Nat}{v:Tv}{n:Nat}{xs:List Tv},W.ownsRow (g.heap.size+2) t z v n xs->((aL W w.heap.size (Zt tx) (Zo rd) (Zs V L.length ac)).setCell ⟨w.heap.size+1,0,none⟩ (Zo true)).ownsRow (g.heap.size+2) t z v n xs:=λh=>Iq (Iq (Iq (Iq h (by omega)) (by omega)) (by omega)) (by omega)
  change LeavesInM _ _ _ _ _ _ _ _ ((aL W w.heap.size (Zt tx) (Zo rd) (Zs V L.length ac)).setCell ⟨w.heap.size+1,0,none⟩ (Zo true))
  generalize (aL W w.heap.size (Zt tx) (Zo rd) (Zs V L.length ac)).setCell ⟨w.heap.size+1,0,none⟩ (Zo true)=X at *;refine⟨by simp,.inl ⟨_,_,rfl,run_takeDeferred bf,?_⟩⟩;have a7:(X.putObj D (.deferred none)).heap[w.heap.size]? = _:=(Y' (by omega)).trans bz;have a5:(X.putObj D (.deferred none)).heap[w.heap.size+1]? = _:=(Y' (by omega)).trans b0;have a3:Below w.heap.size w (X.putObj D (.deferred none)):=bg.grown (grownBy_putObj' X D _) bg.size (λj hj=>by injection hj with hj;omega);have ba:∀{t:TypeId}{z:Nat}{v:Tv}{n:Nat}{xs:List Tv},W.ownsRow (g.heap.size+2) t z v n xs->(X.putObj D (.deferred none)).ownsRow 0 t z v n xs:=λh=>G1 (Le (B:=w.heap.size) (b1 h) (by omega) (grownBy_putObj' X D _) (λr e=>by injection e with e;subst e;exact .inr ⟨_,bf,rfl⟩)) (XO _)
  generalize X.putObj D (.deferred none)=W9 at *;obtain⟨x0,x1,x2,_⟩:=Db a7;obtain⟨xb,_⟩:=I2 a5;refine⟨Zu #[Zg #[Zt tx,Zo rd,Zs V L.length ac],Zo true],?_,tx,rd,V,L.length,ac,true,rfl,a3,.inl ⟨rfl,L,by rw[am.out,d.out.Bz];rfl,rfl,ba d.out.row,λq hq=>⟨ba (d.out.own q hq).1,ba (d.out.own q hq).2⟩⟩⟩;simp[results,f83,go_sem,x0,x1,x2,xb]
 case hstop=>rintro D c W hD⟨rfl,hX⟩hd;gi_wp2;rw[y0] at hD;refine⟨by simp,.inl ⟨_,_,rfl,run_takeDeferred hd,?_⟩⟩;have a7:(W.putObj D (.deferred none)).heap[w.heap.size]? = _:=(Y' (by omega)).trans hX.res;have a5:(W.putObj D (.deferred none)).heap[w.heap.size+1]? = _:=(Y' (by omega)).trans hX.ok;have a3:Below w.heap.size w (W.putObj D (.deferred none)):=hX.low.grown (grownBy_putObj' W D _) hX.low.size (λj hj=>by injection hj with hj;omega);generalize W.putObj D (.deferred none)=W9 at *;obtain⟨x0,x1,x2,_⟩:=Db a7;obtain⟨xb,_⟩:=I2 a5;refine⟨Zu #[Zg #[Zt ⟨#[]⟩,Zo false,Zs none 0 0],Zo false],?_,⟨#[]⟩,false,none,0,0,false,rfl,a3,.inr ⟨rfl,by rw[am.out,hX.bad];rfl⟩⟩;clear hK0;simp[results,f83,go_sem,x0,x1,x2,xb]
attribute [local go_sem] Oper.semAt_some
theorem AB5(s sep:Tb)(w:Tw):
 Zc 302 #[Zt s,Zt sep,Zi 0] w λe a=>e=Zr (.func (.func 320) #[] #[Zp (some ⟨w.heap.size+1,0,none⟩),Zp (some ⟨w.heap.size,0,none⟩),Zp (some ⟨w.heap.size+2,0,none⟩)])/\a=((w.alloc (Zk #[Zt s] 9)).alloc (Zk #[Zt sep] 9)).alloc (Zk #[Zi 0] 3):=by
 go_enter func302,ntmps302;go_wp2;go_ret;exact⟨rfl,rfl⟩
theorem ACE(s sep:Tb)(w:Tw):
 Zc 270 #[Zt s,Zt sep] w λe a=>e=Zr (.func (.func 320) #[] #[Zp (some ⟨w.heap.size+1,0,none⟩),Zp (some ⟨w.heap.size,0,none⟩),Zp (some ⟨w.heap.size+2,0,none⟩)])/\a=((w.alloc (Zk #[Zt s] 9)).alloc (Zk #[Zt sep] 9)).alloc (Zk #[Zi 0] 3):=by
 go_enter func270,ntmps270;go_wp2_with (go_at_call 302;refine(AB5 _ _ _).mono ?_;rintro e b⟨rfl,rfl⟩);go_ret;exact⟨rfl,rfl⟩
structure pI(B:Nat)(r:List UInt8)(w:World):Prop where
 Gw:iN B r w
 sep:iN (B+1) [44] w
 save:w.heap[B+2]? = some (.cells #[Zi 0] 3 (0,0))
theorem pI.put{B:Nat}{r:List UInt8}{w:Tw}(h:pI B r w)(q:List UInt8):pI B q (w.setCell ⟨B,0,none⟩ (Zt (bA q))) :=
 ⟨h.Gw.put q,Cg h.sep (by omega),Cg h.save (by omega)⟩
theorem ABy(n:Nat)(_hn:1<=n)(l B:Nat)(h:List UInt8)(hlen:h.length<=1000000)(I:List (List UInt8)->Tw->Prop)(O:Tw->Prop)(G:∀pre W v,I pre W->I pre (W.setCell ⟨B,0,none⟩ v))(V:∀pre a W v,(∃t,Dd 44 h=pre++a :: t)->a.length<=1000000->I pre W->pI B v W->YieldAt Fence.wide (n-1) prog l #[Zt (bA a)] W λe p=>
   (e=Zr (Zo true)/\I (pre++[a]) p/\pI B v p)\/(e=Zr (Zo false)/\O p))(W:Tw)(U:pI B h W)(h0:I [] W):
 CallsIn Fence.wide n prog 320 #[.func (.yield l) #[] #[],Zp (some ⟨B+1,0,none⟩),Zp (some ⟨B,0,none⟩),Zp (some ⟨B+2,0,none⟩)] W λe p=>(∃v,e=Zr v)/\(I (Dd 44 h) p\/O p):=by
 refine callsIn_of_wp func320 rfl trivial ?_ rfl;simp only[ntmps320,XP,XA,XF,Nat.reduceAdd,Nat.reduceSub,XQ,XR,XX,XS,XV,XH];have L:W.cell? ⟨B+1,0,none⟩=some (Zt ⟨#[44]⟩):=U.sep.cell;gi_wp2;clear L
 gi_loopw [7,8] (λ_ _ wr=>∃(pre:List (List UInt8))(r:List UInt8),Hid (Dd 44 h=pre++Dd 44 r)/\r.length<=1000000/\Hid (I pre wr)/\Hid (pI B r wr)) (λ_ _ wr=>mV B wr)
 case atStart=>exact⟨[],h,Aa rfl,hlen,Aa h0,Aa U⟩
 case round=>
  obtain⟨pre,r,x,hr,N,o⟩:=hrel;have hc:=o.out.Gw.cell;have hf:=o.out.Gw.frozen;have aa:wr.cell? ⟨B+1,0,none⟩=some (Zt ⟨#[44]⟩):=o.out.sep.cell;have ab:=(I2 o.out.save).1;have M:(bA r).size=r.length:=Cz;have J:=Mt hc;have f:=Aa (λW=>strings_Index_one (bA r) 44 W);rw[B5] at f
  rcases O3 r 44 with k|⟨i,k⟩
  ·have b:=Np k
   rw[k] at f;have c:Dd 44 r=[r]:=by rw[Dd,dif_neg (by rw[b];simp)]
   obtain⟨Y,tmps,assign,body,X,u⟩:=V pre r wr r ⟨[],by rw[x.out,c]⟩ hr N.out o.out;have D:=Aa u;have j:Hid (Dd 44 h=pre++[r]):=Aa (by rw[x.out,c]);clear k b c u;gi_wp2_with (refine⟨trivial,?_⟩;gi_at_call 322;refine(callsIn_wide.2 (f.out _)).mono ?_;rintro e w1⟨rfl,rfl⟩);refine D.out.mono ?_;rintro e P (⟨rfl,g,d⟩|⟨rfl,m⟩)
   ·gi_wp2
    go_end0
    refine⟨⟨_,rfl⟩,.inl ?_⟩;rw[j.out];exact g
   gi_wp2
   go_end0
   exact⟨⟨_,rfl⟩,.inr m⟩
  obtain⟨b,w⟩:=J0 k;rw[k] at f;have R:bA (r.take i)=(bA r).extract 0 i:=by rw[extract_eq,B5];simp[bA]
  have T:bA (r.drop (i+1))=(bA r).extract (i+1) (bA r).size:=by rw[extract_eq,B5,Yd (by rw[XG,Cz];exact Y8 _)];rfl
  have c:Dd 44 r=r.take i :: Dd 44 (r.drop (i+1)):=by rw[Dd,dif_pos (by rw[b]),b]
  obtain⟨Y,tmps,assign,body,X,u⟩:=V pre (r.take i) wr r ⟨_,by rw[x.out,c]⟩ (by rw[XT];omega) N.out o.out;rw[R] at X;have D:=Aa u;have j:Hid (Dd 44 h=(pre++[r.take i])++Dd 44 (r.drop (i+1))):=Aa (by rw[x.out,c];simp);have q:=Aa T;have z:=Aa w;have c1:(0:Int)<=(i:Int):=by omega
  have c0:(i:Int)<=1000000:=by omega
  have c3:(0:Int)<=(i:Int)+1:=by omega
  have c4:(i:Int)+1<=((bA r).size:Int):=by omega
  have c5:(i:Int)<=((bA r).size:Int):=by omega
  clear k b c u R T w M;gi_wp2_with (refine⟨trivial,?_⟩;gi_at_call 322;refine(callsIn_wide.2 (f.out _)).mono ?_;rintro e w1⟨rfl,rfl⟩);refine D.out.mono ?_;rintro e P (⟨rfl,g,d⟩|⟨rfl,m⟩)
  ·have y:=Aa g
   have s:=Aa d;have d1:=d.Gw.cell;have d2:P.cell? ⟨B+1,0,none⟩=some (Zt ⟨#[44]⟩):=d.sep.cell;have d3:=d.Gw.frozen;clear g d;gi_wp2
   go_roundw
   case rel=>
    refine⟨pre++[r.take i],r.drop (i+1),j,by rw[XG];omega,Aa ?_,Aa ?_⟩
    ·exact G _ _ _ y.out
    rw[<-q.out];exact s.out.put _
   case measure=>rw[<-q.out,Mt (s.out.put _).Gw.cell,J,XG];have:=z.out;omega
  gi_wp2;refine bodyPost_ret (results_none rfl _ _ _) rfl ?_;exact⟨⟨_,rfl⟩,.inr m⟩
theorem pI.kept{B:Nat}{r:List UInt8}{X:Tw}{q:Nat}{o c:Obj}(h:pI B r X)(a:X.heap[q]? = some o)(b:o.isCells=false):pI B r (X.putObj q c):=by refine⟨h.Gw.kept a b,h.sep.kept a b,(Y' (λe=>?_)).trans h.save⟩;subst e;rw[h.save] at a;cases a;cases b
theorem yO(m B:Nat)(o:1<=m)(c:List UInt8)(hlen:c.length<=1000000):
 aX m 320 #[Zp (some ⟨B+1,0,none⟩),Zp (some ⟨B,0,none⟩),Zp (some ⟨B+2,0,none⟩)] B (λ(pre:List (List UInt8))args b=>∃a t,args=#[Zt (bA a)]/\Dd 44 c=pre++a :: t/\a.length<=1000000/\b=pre++[a]) [] (λpre=>pre=Dd 44 c) (pI B) (pI B c):=by
 intro l J f W i j n k g;refine(ABy m o l B c hlen J f (λpre W v h=>i.set h v) (λpre a W1 v ht hl hj d=>by obtain⟨t,ht⟩:=ht;exact n pre _ (pre++[a]) W1 v ⟨a,t,rfl,ht,hl,rfl⟩ hj d) W k g).mono ?_;rintro e p⟨d,h|h⟩
 ·exact⟨d,.inl ⟨_,rfl,h⟩⟩
 exact⟨d,.inr h⟩
def dN{β γ:Type}(m gf:Nat)(lb:Array Value)(B:Nat)(R:β->Array Value->β->Prop)(i:β)(E:β->Prop)(d:γ->World->Prop)(h:World->Prop):Prop :=
 ∀(l:Nat)(J:β->World->Prop)(c:World->Prop)(W:World),iM B W.heap.size J->iM B W.heap.size (λ(_:Unit)=>c) ->
  (∀b args g f v,R b args g->J b f->d v f->YieldAt Fence.wide (m-1) prog l args f λe a=>(e=.returned (.bool true)/\J g a/\d v a)\/(e=.returned (.bool false)/\c a/\d v a)) ->
  h W->J i W->CallsIn Fence.wide m prog gf (#[.func (.yield l) #[] #[]]++lb) W λe a=>(∃v,e=.returned v)/\((∃b,E b/\J b a)\/c a)
def uD{β γ:Type}(w0:Nat)(a:γ->World->Prop)(v:γ)(I:β->World->Prop)(b:Code->World->Prop)(c:β)(W:World):Exit->Act->World->Prop
 | .normal,_,W'=>KeepsFrom w0 W W'/\I c W'/\a v W'
 | .ret,_,W'=>KeepsFrom w0 W W'/\b .ret W'/\a v W'
 | _,_,_=>False
theorem zQ{β γ:Type}{g:Operand}{ps:Array Tmp}{assign body:Code}{Q:Exit->Act->Tw->Prop}{a:Act}{w:Tw}{n:Nat}(h1:1<=n){gf:Nat}{lb:Array Tv}(hg:a.eval g=.func (.func gf) #[] lb)(eg:∀args w,(callFunc gf args).run prog w=.ok (.enter gf args) w){B:Nat}{R:β->Array Tv->β->Prop}{b0:β}{E:β->Prop}{Kp:γ->Tw->Prop}{T0:Tw->Prop}(ag:dN (n-1) gf lb B R b0 E Kp T0)(N:∀v X o o',Kp v X->X.heap[w.heap.size+1]? = some o->o.isCells=false->Kp v (X.putObj (w.heap.size+1) o'))(af:∀b args L,R b args L->args.size=ps.size)(ap:B≠w.heap.size)(aq:B≠w.heap.size+1)(I:β->Tw->Prop)(Ix:Code->Tw->Prop)(hI:iM B w.heap.size I)(M:∀c,iM B w.heap.size (λ(_:Unit)=>Ix c))(h0:I b0 w)(hT:∀r,T0 ((w.alloc (.deferred (some []))).alloc (.loop r)))(a1:Array Tv->Act)(z:∀(l:Nat)(args:Array Tv)(W:Tw)(K:Act->Tw->Prop),args.size=ps.size->K (a1 args) W ->
   assign.wpIn (Fence.wide.inRound l) (n-1-1) prog (Exit.then K (λ_ _ _=>False)) { tmps:=(ps.zip args).foldl (λt(p,v)=>t.setIfInBounds p v) a.tmps,defers:=[] } W)(O:∀(l:Nat)(b:β)(args:Array Tv)(L:β)(W:Tw)(v:γ),w.heap.size<=l->R b args L->I b W->Kp v W->body.wpIn (Fence.wide.inRound l) (n-1-1) prog (uD w.heap.size Kp v I Ix L W) (a1 args) W)(T:∀(D:Nat)(b:β)(W:Tw),w.heap.size<=D->E b->I b W->W.heap[D]? = some (.deferred (some []))->Q .normal { a with defers:={ target:=.collected D,args:=#[] } :: a.defers } W)(ab:∀(D:Nat)(c:Code)(W:Tw),w.heap.size<=D->Ix c W->W.heap[D]? = some (.deferred (some []))->c.wpIn Fence.wide n prog Q { a with defers:={ target:=.collected D,args:=#[] } :: a.defers } W):
 (Code.rangeFunc g ps assign body).wpIn Fence.wide n prog Q a w:=by
 refine wpIn_rangeFunc λfn al=>?_
 obtain⟨d,f⟩:∃d:LoopState->Option Code->Loop,d=λst pe=>{ state:=st,pending:=pe,fn,tmps:=a.tmps,params:=ps,assign,body,defers:=w.heap.size }:=⟨_,rfl⟩
 obtain⟨u,x⟩:∃u,(w.alloc (.deferred (some []))).alloc (.loop (d .ready none))=u:=⟨_,rfl⟩;have ar:u.heap.size=w.heap.size+2:=by rw[<-x];simp
 have aj:u.heap[w.heap.size+1]? = some (.loop (d .ready none)):=by rw[<-x];have:=XY (w.alloc (.deferred (some []))) (.loop (d .ready none));rwa[XL] at this
 have ai:u.heap[w.heap.size]? = some (.deferred (some [])):=by rw[<-x];exact(XM _ _ _ (by simp)).trans (XY w _)
 have ah:I b0 u:=by rw[<-x];exact hI.alloc (hI.alloc h0 _) _
 have ak:T0 u:=by rw[<-x];exact hT _
 have m:∀{X Y:Tw}{row:Option Nat}(k:Nat)(o:Obj),k<w.heap.size+2->w.heap.size<=k->X.heap[k]? = some o->X.grownBy Y row->(∀r,row=some r->r=B\/(u.heap.size<=r/\∃o:Obj,X.heap[r]? = some o/\o.isCells=false))->Y.heap[k]? = some o:=by
  intro X Y row k o hk ae ho j s;refine(j.block k (Ac ho) (λe=>?_)).trans ho
  rcases s k e.symm with h|⟨h,_⟩
  ·omega
  omega
 have lift:∀{X:Tw}{row:Option Nat},(∀r,row=some r->r=B\/(u.heap.size<=r/\∃o:Obj,X.heap[r]? = some o/\o.isCells=false))->∀r,row=some r->r=B\/(w.heap.size<=r/\∃o:Obj,X.heap[r]? = some o/\o.isCells=false) :=
  λs r e=>(s r e).imp id (λ⟨q,o⟩=>⟨by omega,o⟩)
 refine⟨w.heap.size+1,[{ target:=.collected w.heap.size,args:=#[] }],u,{ target:=.fn (.func gf) lb,args:=#[.func (.yield (w.heap.size+1)) #[] #[]] },u,gf,
  #[.func (.yield (w.heap.size+1)) #[] #[]]++lb,u,?_,?_,λ_ _=>trivial,?_,λ_=>h1,?_⟩
 ·rw[<-x,f];exact run_enterLoop_outer _ _ _ _ _
 ·simp only[resolve,hg]
  simp[go_sem]
 ·simp[invoke,go_sem,eg]
 refine(ag (w.heap.size+1)
  (λb W=>I b W/\W.heap[w.heap.size+1]? = some (.loop (d .ready none))/\W.heap[w.heap.size]? = some (.deferred (some [])))
  (λW=>∃c,Ix c W/\W.heap[w.heap.size+1]? = some (.loop (d .done (some c)))/\W.heap[w.heap.size]? = some (.deferred (some []))) u
  (λb X Y row hs j s=>⟨hI b X Y row hs.1 j (lift s),m _ _ (by omega) (by omega) hs.2.1 j s,m _ _ (by omega) (by omega) hs.2.2 j s⟩)
  (λb X Y row hs j s=>by obtain⟨c,hc,q1,q2⟩:=hs;exact⟨c,M c () X Y row hc j (lift s),m _ _ (by omega) (by omega) q1 j s,m _ _ (by omega) (by omega) q2 j s⟩)
  ?_ ak ⟨ah,aj,ai⟩).mono ?_
 ·rintro b args L W v hR⟨hi,G,hk⟩hv
  have an:w.heap.size+1<W.heap.size:=Ac G;have hy:=run_yield (P:=prog) (args:=args) G (by rw[f];exact af b args L hR);rw[f] at hy;refine⟨fn,_,assign,body,hy,roundIn_of_wpIn al (z _ args W _ (af b args L hR) ⟨_,run_beginRound G (by rw[f]),?_⟩)⟩;have am:(W.putObj (w.heap.size+1) (.loop { d .ready none with state:=.busy })).heap[w.heap.size+1]? = some (.loop { d .ready none with state:=.busy }):=XU an;have ae:(W.putObj (w.heap.size+1) (.loop { d .ready none with state:=.busy })).heap[w.heap.size]? = some (.deferred (some [])):=(Y' (by omega)).trans hk;have ao:Kp v (W.putObj (w.heap.size+1) (.loop { d .ready none with state:=.busy })):=N _ _ _ _ hv G rfl;refine wpIn_mono (O _ b args L _ v (by omega) hR (hI.put hi G rfl (by omega) _) ao) ?_
  have ad:∀(jump:Option Code)(J:Tw),KeepsFrom w.heap.size (W.putObj (w.heap.size+1) (.loop { d .ready none with state:=.busy })) J ->
   (Instr.endRound (w.heap.size+1) jump).run prog J=.ok (Zo jump.isNone) (J.putObj (w.heap.size+1) (.loop (d (if jump.isNone then .ready else .done) jump))) /\
   J.heap[w.heap.size+1]? = some (.loop { d .ready none with state:=.busy }) /\
   (J.putObj (w.heap.size+1) (.loop (d (if jump.isNone then .ready else .done) jump))).heap[w.heap.size+1]? = some (.loop (d (if jump.isNone then .ready else .done) jump)) /\
   (J.putObj (w.heap.size+1) (.loop (d (if jump.isNone then .ready else .done) jump))).heap[w.heap.size]? = some (.deferred (some [])):=λjump J y=>by
   have i:=y.same _ _ (by omega) am rfl;have:=run_endRound (P:=prog) jump i;rw[f] at this ⊢;exact⟨this,by rw[f] at i;exact i,XU (Ac i),(Y' (by omega)).trans (y.same _ _ (Y8 _) ae rfl)⟩
  rintro e a3 J hp;cases e with
  | normal=>obtain⟨y,U,ac⟩:=hp;obtain⟨s,i,aa,V⟩:=ad none J y;exact⟨_,_,s,.inl ⟨rfl,⟨hI.put U i rfl (by omega) _,aa,V⟩,N _ _ _ _ ac i rfl⟩⟩
  | ret=>obtain⟨y,U,ac⟩:=hp;obtain⟨s,i,aa,V⟩:=ad (some .ret) J y;exact⟨_,_,s,.inr ⟨rfl,⟨.ret,(M .ret).put (b:=()) U i rfl (by omega) _,aa,V⟩,N _ _ _ _ ac i rfl⟩⟩
  | exit id=>exact hp.elim
  | goto t=>exact hp.elim
  | panic ch=>exact hp.elim
  | outgrown=>exact hp.elim
 rintro e W2⟨⟨v,rfl⟩,(⟨b,hE,hi,G,hk⟩|⟨c,hi,G,hk⟩)⟩
 ·exact⟨none,_,by have:=run_endLoop (P:=prog) G (by rw[f];simp);rw[f] at this;exact this,T _ b _ (Y8 _) hE (hI.put hi G rfl (by omega) _) ((Y' (by omega)).trans hk)⟩
 exact⟨some c,_,by have:=run_endLoop (P:=prog) G (by rw[f];simp);rw[f] at this;exact this,ab _ c _ (Y8 _) ((M c).put (b:=()) hi G rfl (by omega) _) ((Y' (by omega)).trans hk)⟩
theorem ACK{l l' n n':Nat}{f:FuncId}{tmps:Array Tv}{assign body:Code}{w:Tw}{R:Ending->Tw->Prop}(h:RoundIn Fence.wide n prog l f tmps assign body w R):RoundIn (Fence.wide.inRound l') n' prog l f tmps assign body w R :=
 ⟨h.1,λc cs _=>h.2 c cs (room_wide _)⟩
variable{W Y:Tw}
attribute [local go_sem] Oper.semAt_some
theorem rX(s:Tb)(w:Tw):
 Zc 228 #[Zt s] w λe a=>e=Zr (.func (.func 269) #[] #[Zp (some ⟨w.heap.size,0,none⟩)])/\a=w.alloc (Zk #[Zt s] 9):=by
 go_enter func228,ntmps228;go_wp2;go_ret;exact⟨rfl,rfl⟩
structure KpN(Y:Nat)(v:List UInt8×World)(W:World):Prop where
 sp:pI (Y+1) v.1 W
 keep:KeepsFrom (Y+4) v.2 W
 err:Ik W
 yb:W.heap[Y]? = v.2.heap[Y]?
def AK8(d:List UInt8)(pre:List (List UInt8))(args:Array Value)(b:List (List UInt8)):Prop:=∃a t n c,args=#[Zi n,c]/\Dd 44 d=pre++a :: t/\b=pre++[a]/\((numOf a=some n/\c=.nilIface)\/(numOf a=none/\∃t x,c=.iface t x))
theorem lN{B:Nat}{row:Option Nat}(h:Ik W)(j:B≠5)(d:B≠6)(m:W.grownBy Y row)(p:∀r,row=some r->r=B\/(∃o:Obj,W.heap[r]? = some o/\o.isCells=false)):Ik Y:=by
 obtain⟨⟨t1,q,g⟩,t2,s,i⟩:=h
 have a:∀(b:Nat)(v:Tv),b≠B->W.cell? ⟨b,0,none⟩=some v->Y.cell? ⟨b,0,none⟩=some v:=λb v k c=>by
  have f:=Fv c
  have e:=m.block b f (λe=>by
   rcases p b e.symm with rfl|⟨o,n,l⟩
   ·exact k rfl
   simp only[World.cell?,n] at c;cases o <;> simp_all [Obj.isCells])
  simp only[World.cell?,e] at c ⊢;exact c
 exact⟨⟨t1,q,a _ _ (Ne.symm j) g⟩,t2,s,a _ _ (Ne.symm d) i⟩
theorem ABt(h:Zb W Y):W.grownBy Y none:=⟨h.os,h.tape,h.output,h.size,λk a _=>h.block k a⟩
theorem iM.up{β:Type}{B n:Nat}{J:β->Tw->Prop}(h:iM B n J){b:β}(c:J b W)(a:Zb W Y):J b Y:=h b W Y none c (ABt a) (λr e=>by cases e)
theorem cF(w:Tw)(a b c d:Obj):((((w.alloc a).alloc b).alloc c).alloc d).heap.size=w.heap.size+4/\((((w.alloc a).alloc b).alloc c).alloc d).heap[w.heap.size]? = some a/\((((w.alloc a).alloc b).alloc c).alloc d).heap[w.heap.size+1]? = some b/\((((w.alloc a).alloc b).alloc c).alloc d).heap[w.heap.size+2]? = some c/\((((w.alloc a).alloc b).alloc c).alloc d).heap[w.heap.size+3]? = some d/\Zb w ((((w.alloc a).alloc b).alloc c).alloc d):=by
 obtain⟨e,i,j,k⟩:=C1 w a b;obtain⟨f,g,h,b3⟩:=C1 ((w.alloc a).alloc b) c d
 change Below _ _ _ at b3
 rw[e] at f g h b3;exact⟨f,(b3.block _ (by omega)).trans i,(b3.block _ (by omega)).trans j,g,h,Below.Ap k (by change Below _ _ _;rw[e];exact b3)⟩
theorem pI.AFy{B:Nat}{r:List UInt8}{X:Tw}(h:pI B r X)(a:Zb X Y):pI B r Y:=⟨(a.block _ (Ac h.Gw)).trans h.Gw,(a.block _ (Ac h.sep)).trans h.sep,(a.block _ (Ac h.save)).trans h.save⟩
def AKA(b:List (List UInt8))(J:List (List UInt8)->World->Prop)(a:World->Prop)(c:World->Prop)(e:Ending)(W:World):Prop:=∃ok:Bool,e=.returned (.bool ok)/\c W/\((ok=true/\J b W)\/(ok=false/\a W))
theorem oQ(m Y Bs:Nat)(hm:3<=m)(j:List UInt8)(hlen:j.length<=1000000):
 dN m 269 #[Zp (some ⟨Bs,0,none⟩)] (Y+1) (AK8 j) [] (λpre=>pre=Dd 44 j) (KpN Y) (λW=>W.heap.size=Y/\iN Bs j W/\Ik W):=by
 rintro l J Jx W z N hY⟨rfl,ad,i⟩h0;have w:iN Bs j (W.alloc (Zk #[.func (.yield l) #[] #[]] 350)):=(XM W _ Bs (Ac ad)).trans ad;have O:=w.cell;refine callsIn_of_wp_marks func269 rfl trivial ?_ rfl;simp only[ntmps269,XP,XA,XF,Nat.reduceAdd,Nat.reduceSub,XQ,XR,XX,XS,XV,XH];gi_wp2_with (refine⟨trivial,λ_=>by omega,?_⟩;gi_at_call 270;refine(callsIn_wide.2 (ACE _ _ _)).mono ?_;rintro e w5⟨rfl,rfl⟩);obtain⟨y0,y1,y2,y3,y4,y5⟩:=cF W (Zk #[.func (.yield l) #[] #[]] 350) (Zk #[Zt (bA j)] 9) (Zk #[Zt ⟨#[44]⟩] 9) (Zk #[Zi 0] 3);have ag:J [] ((((W.alloc (Zk #[.func (.yield l) #[] #[]] 350)).alloc (Zk #[Zt (bA j)] 9)).alloc (Zk #[Zt ⟨#[44]⟩] 9)).alloc (Zk #[Zi 0] 3)):=z.alloc (z.alloc (z.alloc (z.alloc h0 _) _) _) _;have ai:=i.below y5;have ah:pI (W.heap.size+1) j ((((W.alloc (Zk #[.func (.yield l) #[] #[]] 350)).alloc (Zk #[Zt (bA j)] 9)).alloc (Zk #[Zt ⟨#[44]⟩] 9)).alloc (Zk #[Zi 0] 3)):=⟨y2,y3,y4⟩;have ak:W.heap.size+1≠5:=by obtain⟨⟨_,_,h⟩,_⟩:=i;have:=Fv h;omega
 have al:W.heap.size+1≠6:=by obtain⟨_,_,_,h⟩:=i;have:=Fv h;omega
 clear O w y2 y3 y4;generalize (((W.alloc (Zk #[.func (.yield l) #[] #[]] 350)).alloc (Zk #[Zt (bA j)] 9)).alloc (Zk #[Zt ⟨#[44]⟩] 9)).alloc (Zk #[Zi 0] 3)=w4 at *;refine dL 3 (by omega) rfl (λ_ _=>rfl) (yO (m-1) (W.heap.size+1) (by omega) j hlen) (λv X r o o' h ho O=>pI.kept h ho O) (λb args b'⟨_,_,h,_⟩=>by rw[h];rfl) (by omega) (by omega) (λpre X=>J pre X/\Ik X/\X.heap[W.heap.size]? = some (Zk #[.func (.yield l) #[] #[]] 350 (0,0))) (λc X=>c=.ret/\Jx X) ?ab ?abx ?h0 ?hT ?hassign ?hbody ?hdone ?hstop
 case ab=>
  rintro pre X Z row⟨I,U,f⟩V hr;refine⟨z pre X Z row I V (λr e=>(hr r e).imp id (λh=>⟨by omega,h.2⟩)),lN U ak al V (λr e=>(hr r e).imp id And.right),(V.block _ (Ac f) (λe=>?_)).trans f⟩
  rcases hr _ e.symm with h|h
  ·omega
  have:=h.1;omega
 case abx=>rintro c b X Z row⟨O,hX⟩V hr;exact⟨O,N () X Z row hX V (λr e=>(hr r e).imp id (λh=>⟨by omega,h.2⟩))⟩
 case h0=>exact⟨ag,ai,y1⟩
 case hT=>intro r;exact ah.AFy ((Zal).alloc (by simp) _)
 case hassign=>intro l v W K hK;gi_wp2;exact hK
 case hbody=>
  rintro l' pre v an X t hl⟨a,t',hv,ac,ao,rfl⟩⟨I,U,f⟩hk;cases hv;have P:=(I2 f).1
  have ae:Hid (∀Z,Ik Z->Zc 185 #[Zt (bA a)] Z (Ns a Z)):=Aa (λZ h=>by have:=Ud (bA a) Z (by rw[Cz];omega) h;rw[B5] at this;exact this)
  have aj:Ik X.drew:=U.below (XI _ _).drew
  have L:Hid (∀n y g,Below X.drew.heap.size X.drew g->((numOf a=some n/\y=Zn)\/(numOf a=none/\∃t x,y=Zf t x))->∃M tmps assign body,(Instr.yield l #[Zi n,y]).run prog g=.ok (.round l M tmps assign body) g/\∀l' k,RoundIn (Fence.wide.inRound l') k prog l M tmps assign body g (AKA (pre++[a]) J Jx (KpN W.heap.size (t,g)))):=Aa (λn y g hb u=>by
   have G:Zb X g:=Below.Ap (XI _ _).drew hb;obtain⟨M,tmps,assign,body,hy,hR⟩:=hY pre _ (pre++[a]) g (t,g) ⟨a,t',n,y,rfl,ac,rfl,u⟩ (z.up I G) ⟨hk.AFy G,KeepsFrom.refl _ _,U.below G,rfl⟩;refine⟨M,tmps,assign,body,hy,λl' k=>ACK (hR.mono ?_)⟩;rintro e W3 (⟨rfl,h1,h2⟩|⟨rfl,h1,h2⟩)
   ·exact⟨true,rfl,h2,.inl ⟨rfl,h1⟩⟩
   exact⟨false,rfl,h2,.inr ⟨rfl,h1⟩⟩)
  have HX:=Aa f;clear hY I hk ac;gi_wp2_with fail
  gi_region_with (first
   | (refine⟨trivial,λ_=>by omega,?_⟩;gi_at_call 185;refine(CallsIn.inRound l' (callsIn_wide.2 (ae.out _ aj))).mono ?_;rintro e g⟨n,y,rfl,d,u⟩
      obtain⟨M,tmps,assign,body,hy,hR⟩:=L.out n y g d u;have HR:=Aa hR;have af:=Aa d;have R:=(d.cell (p:=⟨W.heap.size,0,none⟩) (Ac HX.out)).trans P;clear hR d u)
   | (refine(HR.out _ _).mono ?_;rintro e W3⟨b,rfl,q⟩)
   | (refine⟨λ_=>by omega,(HR.out _ _).mono ?_⟩;rintro e W3⟨b,rfl,q⟩)
   | (refine⟨trivial,λ_=>by omega,(HR.out _ _).mono ?_⟩;rintro e W3⟨b,rfl,q⟩))
  all_goals
   rename_i K0 hK0;obtain⟨s,q⟩:=q;refine hK0 _ _ ?_;have d:Zb X g:=Below.Ap (XI _ _).drew af.out;have aa:KeepsFrom w4.heap.size X W3:=by rw[y0];exact(Ie d).trans s.keep
   have am:=s.yb.trans ((d.block _ (Ac HX.out)).trans HX.out);clear hK0 hy R P HR L
   rcases q with⟨rfl,q⟩|⟨rfl,q⟩
   ·gi_wp2
    exact⟨aa,⟨q,s.err,am⟩,s.sp⟩
   gi_wp2;exact⟨aa,rfl,q⟩
 case hdone=>rintro D pre X hD rfl⟨I,U,f⟩T;show LeavesInM Fence.wide m prog f269 _ _ _ .returning X;refine⟨by simp,.inl ⟨_,_,rfl,run_takeDeferred T,?_⟩⟩;exact⟨Zu #[],results_none rfl _ _ _,⟨_,rfl⟩,.inl ⟨_,rfl,z.put I T rfl (by omega) _⟩⟩
 case hstop=>rintro D c X hD⟨rfl,hX⟩T;gi_wp2;refine⟨by simp,.inl ⟨_,_,rfl,run_takeDeferred T,?_⟩⟩;exact⟨Zu #[],results_none rfl _ _ _,⟨_,rfl⟩,.inr (N.put (b:=()) hX T rfl (by omega) _)⟩
variable{W Y w:Tw}{n:Nat}
attribute [local go_sem] Oper.semAt_some
theorem vJ{β γ:Type}{g:Operand}{p y:Tmp}{assign body:Code}{Q:Exit->Act->Tw->Prop}{a:Act}(q O:Tmp)(h1:1<=n){gf:Nat}{lb:Array Tv}(hg:a.eval g=.func (.func gf) #[] lb)(V:∀args w,(callFunc gf args).run prog w=.ok (.enter gf args) w){B:Nat}{R:β->Array Tv->β->Prop}{T:β}{E:β->Prop}{k:γ->Tw->Prop}{P:Tw->Prop}(s:dN (n-1) gf lb B R T E k P)(N:∀v X o o',k v X->X.heap[w.heap.size+1]? = some o->o.isCells=false->k v (X.putObj (w.heap.size+1) o'))(m:∀b args e,R b args e->args.size=2)(J:B≠w.heap.size)(L:B≠w.heap.size+1)(I:β->Tw->Prop)(G:Code->Tw->Prop)(hI:iM B w.heap.size I)(M:∀c,iM B w.heap.size (λ(_:Unit)=>G c))(Y:I T w)(hT:∀r,P ((w.alloc (.deferred (some []))).alloc (.loop r)))(d:∀(l:Nat)(v u:Tv)(W:Tw)(K:Act->Tw->Prop),K { tmps:=(((a.tmps.setIfInBounds p v).setIfInBounds y u).setIfInBounds q v).setIfInBounds O u,defers:=[] } W ->
   assign.wpIn (Fence.wide.inRound l) (n-1-1) prog (Exit.then K (λ_ _ _=>False)) { tmps:=(a.tmps.setIfInBounds p v).setIfInBounds y u,defers:=[] } W)(f:∀(l:Nat)(b:β)(v u:Tv)(e:β)(W:Tw)(t:γ),w.heap.size<=l->R b #[v,u] e->I b W->k t W->body.wpIn (Fence.wide.inRound l) (n-1-1) prog (uD w.heap.size k t I G e W) { tmps:=(((a.tmps.setIfInBounds p v).setIfInBounds y u).setIfInBounds q v).setIfInBounds O u,defers:=[] } W)(i:∀(D:Nat)(b:β)(W:Tw),w.heap.size<=D->E b->I b W->W.heap[D]? = some (.deferred (some []))->Q .normal { a with defers:={ target:=.collected D,args:=#[] } :: a.defers } W)(j:∀(D:Nat)(c:Code)(W:Tw),w.heap.size<=D->G c W->W.heap[D]? = some (.deferred (some []))->c.wpIn Fence.wide n prog Q { a with defers:={ target:=.collected D,args:=#[] } :: a.defers } W):
 (Code.rangeFunc g #[p,y] assign body).wpIn Fence.wide n prog Q a w:=by
 have z:∀args:Array Tv,args.size=2->∃v u,args=#[v,u]:=λargs h=>by
  rcases args with⟨_|⟨v,_|⟨u,_|⟨x,r⟩⟩⟩⟩
  ·cases h
  ·cases h
  ·exact⟨v,u,rfl⟩
  simp at h
 refine zQ h1 hg V s N m J L I G hI M Y hT (λargs=>{ tmps:=(((a.tmps.setIfInBounds p (args.getD 0 undef)).setIfInBounds y (args.getD 1 undef)).setIfInBounds q (args.getD 0 undef)).setIfInBounds O (args.getD 1 undef),defers:=[] }) ?_ ?_ i j
 ·intro l args W K hs hK
  obtain⟨v,u,rfl⟩:=z args hs;have:=d l v u W K hK;simpa using this
 intro l b args e W t hl U hi hk;obtain⟨v,u,rfl⟩:=z args (m b args e U);exact f l b v u e W t hl U hi hk
theorem Xd:∀{pre:List (List UInt8)}{L:List Int}{a:List UInt8}{x:Int},Dr pre=some L->numOf a=some x->Dr (pre++[a])=some (L++[x])
 | [],L,a,x,h,hx=>by simp only[Dr] at h;cases h;simp[Dr,hx]
 | p :: pre,L,a,x,h,hx=>by
   simp only[Dr] at h;cases hp:numOf p with
   | none=>rw[hp] at h;cases h
   | some y=>
     rw[hp] at h;simp only[XC] at h;cases hr:Dr pre with
     | none=>rw[hr] at h;cases h
     | some M=>rw[hr] at h;cases h;simp only[XH,Dr,hp,XC,Xd hr hx];rfl
theorem aA:∀{pre:List (List UInt8)}{a:List UInt8}{t:List (List UInt8)},numOf a=none->Dr (pre++a :: t)=none
 | [],a,t,h=>by simp[Dr,h]
 | p :: pre,a,t,h=>by simp only[XH,Dr];rw[aA h];cases numOf p <;> rfl
theorem cJ:∀{pre:List (List UInt8)}{M:List Int},Dr pre=some M->M.length=pre.length
 | [],M,h=>by simp only[Dr] at h;cases h;rfl
 | p :: pre,M,h=>by
   simp only[Dr] at h;cases hp:numOf p with
   | none=>rw[hp] at h;cases h
   | some y=>
     rw[hp] at h;simp only[XC] at h;cases hr:Dr pre with
     | none=>rw[hr] at h;cases h
     | some N=>rw[hr] at h;cases h;simp[cJ hr]
theorem gS(c:UInt8):∀(n:Nat)(s:List UInt8),s.length<=n->(Dd c s).length<=s.length+1
 | n,s,hn=>by
   rw[Dd];split
   ·rename_i h
    have a:s≠[]:=by rintro rfl;simp[Ao] at h
    have b:=Un c a;cases n with
    | zero=>exact absurd (List.length_eq_zero_iff.1 (by omega)) a
    | succ n=>have:=gS c n (Ao c s).2.1 (by omega);simp only[XA];omega
   simp
structure PlI(w:World)(pre:List (List UInt8))(W:World)(L:List Int)(aa:Option Addr)(ac:Nat):Prop where
 box:W.heap[w.heap.size+2]? = some (.cells #[.slice aa L.length ac] 28 (0,0))
 AHU:Dr pre=some L
 row:W.ownsRow (w.heap.size+10) 3 1 (.slice aa L.length ac) L.length (L.map (.int .i64))
 res:W.heap[w.heap.size]? = some (.cells #[.slice none 0 0] 28 (0,0))
 ok:W.heap[w.heap.size+1]? = some (.cells #[.bool false] 4 (0,0))
 low:Zb w W
theorem PlI.free{pre:List (List UInt8)}{L:List Int}{c:To}{row:Option Nat}(h:PlI w pre W L c n)(b:W.grownBy Y row)(d:∀r,row=some r->r=w.heap.size+7\/(w.heap.size+4<=r/\∃o:Obj,W.heap[r]? = some o/\o.isCells=false)):PlI w pre Y L c n:=by
 have a:∀r,row=some r->r=w.heap.size+7\/(∃o:Obj,W.heap[r]? = some o/\o.isCells=false):=λr e=>(d r e).imp id And.right
 refine⟨Ht h.box (by omega) b a,h.AHU,Le h.row (by omega) b a,Ht h.res (by omega) b a,Ht h.ok (by omega) b a,h.low.grown b h.low.size (λj f=>?_)⟩
 rcases d j f with rfl|⟨g,_⟩ <;> omega
structure PlX(w:World)(t0:List UInt8)(W:World):Prop where
 bad:Dr (Dd 44 t0)=none
 res:W.heap[w.heap.size]? = some (.cells #[.slice none 0 0] 28 (0,0))
 ok:W.heap[w.heap.size+1]? = some (.cells #[.bool false] 4 (0,0))
 low:Zb w W
theorem PlX.free{l:List UInt8}{row:Option Nat}(h:PlX w l W)(b:W.grownBy Y row)(c:∀r,row=some r->r=w.heap.size+7\/(w.heap.size+4<=r/\∃o:Obj,W.heap[r]? = some o/\o.isCells=false)):PlX w l Y:=by
 have a:∀r,row=some r->r=w.heap.size+7\/(∃o:Obj,W.heap[r]? = some o/\o.isCells=false):=λr e=>(c r e).imp id And.right
 refine⟨h.bad,Ht h.res (by omega) b a,Ht h.ok (by omega) b a,h.low.grown b h.low.size (λj d=>?_)⟩
 rcases c j d with rfl|⟨f,_⟩ <;> omega
theorem ACP:S0:=by
 intro s w hs he;obtain⟨U,hl⟩:∃l,s.data.toList=l:=⟨_,rfl⟩;have az:s=bA U:=by rw[<-hl,Ju]
 have ax:U.length<=1000000:=by rw[<-hl,Gm];exact hs
 rw[hl];subst az;clear hs hl;refine(callsIn_wide (n:=9)).1 ?_;refine callsIn_of_wp_marks func186 rfl trivial ?_ rfl;simp only[ntmps186,XP,XA,XF,Nat.reduceAdd,Nat.reduceSub,XQ,XR,XX,XS,XV,XH];gi_wp2_with (refine⟨trivial,?_⟩;gi_at_call 228;refine(callsIn_wide.2 (rX _ _)).mono ?_;rintro e w5⟨rfl,rfl⟩);rename_i K0 hK0;obtain⟨y0,y1,y2,y3,y4,y5⟩:=cF w (Zk #[Zs none 0 0] 28) (Zk #[Zo false] 4) (Zk #[Zs none 0 0] 28) (Zk #[Zt (bA U)] 9);have T:=y5;have al:=he.below y5;have a2:5<w.heap.size:=by obtain⟨⟨_,_,h⟩,_⟩:=he;exact Fv h
 have a3:6<w.heap.size:=by obtain⟨_,_,_,h⟩:=he;exact Fv h
 have HE:=Aa he;clear he;generalize (((w.alloc (Zk #[Zs none 0 0] 28)).alloc (Zk #[Zo false] 4)).alloc (Zk #[Zs none 0 0] 28)).alloc (Zk #[Zt (bA U)] 9)=w4 at *;have e2:w.heap.size+1+1=w.heap.size+2:=rfl;have e3:w.heap.size+2+1=w.heap.size+3:=rfl;rw[e2,e3];refine vJ 5 6 (by decide) rfl (λ_ _=>rfl) (oQ 8 (w.heap.size+6) (w.heap.size+3) (by decide) U ax) (λv X o o' h ho hc=>?kp) (λb args b'⟨_,_,_,_,h,_⟩=>by rw[h];rfl) (by omega) (by omega) (λpre W=>∃L m x,PlI w pre W L m x) (λc W=>c=.ret/\PlX w U W) ?ab ?abx ?h0 ?hT ?hassign ?hbody ?hdone ?hstop
 case kp=>rw[y0] at ho ⊢;refine⟨h.sp.kept ho hc,?_,lN h.err (B:=w.heap.size+5) (by omega) (by omega) (grownBy_putObj' X _ _) (λr e=>by injection e with e;exact .inl e.symm),(Y' (by omega)).trans h.yb⟩;exact h.keep.trans (KeepsFrom.of_grownBy (grownBy_putObj' X _ _) (λj G=>by injection G with G;omega))
 case ab=>rintro pre X Y row⟨L,m,x,k⟩hg hr;exact⟨L,m,x,k.free hg (λr e=>(hr r e).imp id (λh=>⟨by have:=h.1;omega,h.2⟩))⟩
 case abx=>rintro c b X Y row⟨hc,V⟩hg hr;exact⟨hc,V.free hg (λr e=>(hr r e).imp id (λh=>⟨by have:=h.1;omega,h.2⟩))⟩
 case h0=>exact⟨[],none,0,y3,rfl,⟨rfl,.inl ⟨rfl,rfl⟩⟩,y1,y2,T⟩
 case hT=>intro r;obtain⟨N,_,_,x3⟩:=C1 w4 (.deferred (some [])) (.loop r);exact⟨by rw[N,y0],(x3.block _ (Ac y4)).trans y4,al.below x3⟩
 case hassign=>intro l v u W K hK;gi_wp2;exact hK
 case hbody=>
  rintro l pre v u a1 W t hl⟨a,t',n,er,hv,R,rfl,aw⟩⟨L,m,x,k⟩hk;cases hv;have y:=Aa k;have M:=Aa hk;have av:w.heap.size+10<=W.heap.size:=Ac hk.sp.save
  rcases aw with⟨hn,rfl⟩|⟨hn,t1,x1,rfl⟩
  ·have HN:=Aa (Xd k.AHU hn)
   have hlen:L.length<=1000001:=by have h1:=cJ k.AHU;have h2:=gS 44 _ U (Y8 _);rw[R] at h2;simp only[XB,XA] at h2;omega
   have f:Hid (Below W.heap.size W (W.alloc (Zk #[Zi n] 3))):=Aa (Zal);have g:=Aa (Bc k.row f.out);obtain⟨N,xf⟩:=I2 k.box;obtain⟨iI,am,ae⟩:=Option.map_eq_some_iff.1 AFX;simp only[Prod.mk.injEq] at ae;have P:=Aa (And.intro am ae);clear am ae k hk R hn y1 y2 y3 y4
   gi_wp2_with (first
    | (gi_at_builtin;refine wpListIn_append_own _ rfl _ _ 28 rfl (w.heap.size+10) 3 iI U5 1 8 underlying28 P.out.1 P.out.2.1 P.out.2.2.1 P.out.2.2.2 rfl (by decide) (.slice m L.length x) L.length (L.map (.int .i64)) rfl g.out ⟨W.heap.size,0,none⟩ 1 1 [Zi n] rfl rfl (λj u G=>XZ (heap_alloc_new _ _) j u G) (by intro u hu;simp at hu;subst hu;rfl) (by unfold maxLen;omega) (by omega) (XD av f.out.size) ?_
       intro v1 w9 z ad _;obtain⟨a',c',rfl⟩:=AAN z;have an:=Aa z;have O:=Aa ad;have ai:=Aa ((ad.block (w.heap.size+2) (Ya (Ac y.out.box) f.out.size) (λe=>by have:=Fu g.out e.symm;omega)).trans ((f.out.block _ (Ac y.out.box)).trans y.out.box));obtain⟨z0,zf⟩:=I2 ai.out;clear z ad))
   clear z0 zf N xf
   have d:∀b,b<w.heap.size+10->b≠w.heap.size+2->(w9.setCell ⟨w.heap.size+2,0,none⟩ (Zs a' (L.length+1) c')).heap[b]? = W.heap[b]? := λb hb ay=>((Aq w9 (w.heap.size+2) 0 _).block b (Ya (by omega) (XD f.out.size O.out.size)) (λe=>by injection e with e;omega)).trans ((O.out.block b (Ya (by omega) f.out.size) (λe=>by have:=Fu g.out e.symm;omega)).trans (f.out.block b (by omega)))
   have I:∀q,w.heap.size+3<=q->KeepsFrom q W (w9.setCell ⟨w.heap.size+2,0,none⟩ (Zs a' (L.length+1) c')):=λq hq=>G6 (j4 (Ie f.out) g.out O.out) (by omega)
   have J:Below w.heap.size w (w9.setCell ⟨w.heap.size+2,0,none⟩ (Zs a' (L.length+1) c')):=by have h1:=Below.Ap y.out.low f.out;exact(h1.grown O.out h1.size (λj G=>by have:=Fu g.out G;omega)).setCell (p:=⟨w.heap.size+2,0,none⟩) (by show w.heap.size<=w.heap.size+2;omega) _
   refine⟨I _ (by omega),⟨L++[n],a',c',?_,HN.out,?_,(d _ (by omega) (by omega)).trans y.out.res,(d _ (by omega) (by omega)).trans y.out.ok,J⟩,⟨⟨(d _ (by omega) (by omega)).trans M.out.sp.Gw,(d _ (by omega) (by omega)).trans M.out.sp.sep,(d _ (by omega) (by omega)).trans M.out.sp.save⟩,M.out.keep.trans (I _ (by omega)),HE.out.below J,(d _ (by omega) (by omega)).trans M.out.yb⟩⟩
   ·rw[XB]
    exact As w9 (w.heap.size+2) 0 _ _ _ ai.out
   rw[XB,X4];exact Iq an.out (by omega)
  have HN:Hid (Dr (Dd 44 U)=none):=Aa (by rw[R];exact aA hn);obtain⟨N,xf⟩:=I2 k.res;obtain⟨x1,xg⟩:=I2 k.ok;clear k hk R hn y1 y2 y3 y4;gi_wp2;have J:Below w.heap.size w ((W.setCell ⟨w.heap.size,0,none⟩ (Zs none 0 0)).setCell ⟨w.heap.size+1,0,none⟩ (Zo false)):=(y.out.low.setCell (p:=⟨w.heap.size,0,none⟩) (Y8 _) _).setCell (p:=⟨w.heap.size+1,0,none⟩) (XN _) _;have I:∀q,w.heap.size+2<=q->KeepsFrom q W ((W.setCell ⟨w.heap.size,0,none⟩ (Zs none 0 0)).setCell ⟨w.heap.size+1,0,none⟩ (Zo false)):=λq hq=>G6 (G6 (KeepsFrom.refl _ _) (by omega)) (by omega)
  have d:∀b,b<W.heap.size->w.heap.size+1<b->((W.setCell ⟨w.heap.size,0,none⟩ (Zs none 0 0)).setCell ⟨w.heap.size+1,0,none⟩ (Zo false)).heap[b]? = W.heap[b]? := λb hb ay=>((Aq _ (w.heap.size+1) 0 _).block b (Ya hb (Aq W w.heap.size 0 _).size) (λe=>by injection e with e;omega)).trans ((Aq W w.heap.size 0 _).block b hb (λe=>by injection e with e;omega))
  refine⟨I _ (by omega),⟨rfl,HN.out,?_,?_,J⟩,⟨⟨(d _ (by omega) (by omega)).trans M.out.sp.Gw,(d _ (by omega) (by omega)).trans M.out.sp.sep,(d _ (by omega) (by omega)).trans M.out.sp.save⟩,M.out.keep.trans (I _ (by omega)),HE.out.below J,(d _ (by omega) (by omega)).trans M.out.yb⟩⟩
  ·exact Cg (As W _ 0 _ _ _ y.out.res) (by omega)
  exact As _ _ 0 _ _ _ (Cg y.out.ok (by omega))
 case hdone=>
  rintro D pre W hD rfl⟨L,m,x,k⟩hd;rw[y0] at hD;clear y0 y1 y2 y3 y4 y5 T al;refine hK0 _ _ ?_;clear hK0;obtain⟨N,xf⟩:=I2 k.box;obtain⟨r0,rf⟩:=I2 k.res;obtain⟨o0,of⟩:=I2 k.ok;have y:=Aa k;have HD:=Aa hd;clear k hd;gi_wp2;clear N xf r0 rf o0 of;have ao:=As W w.heap.size 0 _ _ (Zs m L.length x) y.out.res;have ap:(W.setCell ⟨w.heap.size,0,none⟩ (Zs m L.length x)).heap[w.heap.size+1]? = _:=Cg y.out.ok (by omega);have aq:=Cg (q:=w.heap.size+1) (i:=0) (v:=Zo true) ao (by omega);have ar:=As _ (w.heap.size+1) 0 _ _ (Zo true) ap;have aj:((W.setCell ⟨w.heap.size,0,none⟩ (Zs m L.length x)).setCell ⟨w.heap.size+1,0,none⟩ (Zo true)).heap[D]? = _:=Cg (Cg HD.out (by omega)) (by omega);have ak:Below w.heap.size w ((W.setCell ⟨w.heap.size,0,none⟩ (Zs m L.length x)).setCell ⟨w.heap.size+1,0,none⟩ (Zo true)):=(y.out.low.setCell (p:=⟨w.heap.size,0,none⟩) (Y8 _) _).setCell (p:=⟨w.heap.size+1,0,none⟩) (XN _) _;have au:=Iq (b:=w.heap.size+1) (i:=0) (u:=Zo true) (Iq (b:=w.heap.size) (i:=0) (u:=Zs m L.length x) y.out.row (by omega)) (by omega)
  change LeavesInM _ _ _ _ _ _ _ _ ((W.setCell ⟨w.heap.size,0,none⟩ (Zs m L.length x)).setCell ⟨w.heap.size+1,0,none⟩ (Zo true))
  generalize (W.setCell ⟨w.heap.size,0,none⟩ (Zs m L.length x)).setCell ⟨w.heap.size+1,0,none⟩ (Zo true)=X at *;refine⟨by simp,.inl ⟨_,_,rfl,run_takeDeferred aj,?_⟩⟩;have ah:(X.putObj D (.deferred none)).heap[w.heap.size]? = _:=(Y' (by omega)).trans aq;have ag:(X.putObj D (.deferred none)).heap[w.heap.size+1]? = _:=(Y' (by omega)).trans ar;have af:Below w.heap.size w (X.putObj D (.deferred none)):=ak.grown (grownBy_putObj' X D _) ak.size (λj G=>by injection G with G;omega);have a0:(X.putObj D (.deferred none)).ownsRow w.heap.size 3 1 (Zs m L.length x) L.length (L.map (.int .i64)):=G1 (Le (B:=w.heap.size) au (by omega) (grownBy_putObj' X D _) (λr e=>by injection e with e;subst e;exact .inr ⟨_,aj,rfl⟩)) (by omega);generalize X.putObj D (.deferred none)=W9 at *;obtain⟨N,_⟩:=I2 ah;obtain⟨xb,_⟩:=I2 ag;refine⟨Zu #[Zs m L.length x,Zo true],?_,m,L.length,x,true,rfl,af,.inl ⟨rfl,L,y.out.AHU,rfl,a0⟩⟩;simp[results,f186,go_sem,N,xb]
 case hstop=>rintro D c W hD⟨rfl,V⟩hd;gi_wp2;rw[y0] at hD;refine⟨by simp,.inl ⟨_,_,rfl,run_takeDeferred hd,?_⟩⟩;have ah:(W.putObj D (.deferred none)).heap[w.heap.size]? = _:=(Y' (by omega)).trans V.res;have ag:(W.putObj D (.deferred none)).heap[w.heap.size+1]? = _:=(Y' (by omega)).trans V.ok;have af:Below w.heap.size w (W.putObj D (.deferred none)):=V.low.grown (grownBy_putObj' W D _) V.low.size (λj G=>by injection G with G;omega);generalize W.putObj D (.deferred none)=W9 at *;obtain⟨N,_⟩:=I2 ah;obtain⟨xb,_⟩:=I2 ag;refine⟨Zu #[Zs none 0 0,Zo false],?_,none,0,0,false,rfl,af,.inr ⟨rfl,V.bad⟩⟩;clear hK0;simp[results,f186,go_sem,N,xb]
variable{W w:Tw}{u v:Tv}{L:List Gx}
theorem Hi{α:Type}[Inhabited α]{k:Nat}{en:α->List Tv}(hlen:∀x,(en x).length=k):∀(l:List α)(j:Nat),j<l.length->∀(i:Nat),i<k->(l.flatMap en)[j*k+i]? = (en l[j]!)[i]?
 | [],j,hj,_,_=>by cases hj
 | x :: l,0,_,i,hi=>by rw[WD,Nat.zero_mul,WQ,WC (by rw[hlen];exact hi)];rfl
 | x :: l,j+1,hj,i,hi=>by
   have e:(j+1)*k+i=k+(j*k+i):=by rw[YZ];omega
   rw[WD,e,WB (by rw[hlen];omega),hlen,Nat.add_sub_cancel_left];simp only[XA] at hj;rw[Hi hlen l j (by omega) i hi];rfl
theorem gL{α:Type}[Inhabited α]{k:Nat}{en:α->List Tv}(hlen:∀x,(en x).length=k){base:Nat}{T:TypeId}{l:List α}(h:w.ownsRow base T k v l.length (l.flatMap en)):AKI k en w v l:=by
 rcases Di h with⟨e,e0⟩|⟨g,c,e,_,n,m,_⟩
 ·exact .inl ⟨⟨_,_,e⟩,List.length_eq_zero_iff.1 e0⟩
 subst e;refine .inr ⟨g,0,c,rfl,m,n,λj d i u b=>?_⟩
 have o:i<k:=by
  rcases Yc i k with a|a
  ·exact a
  rw[Yb (by rw[hlen];exact a)] at b;cases b
 have f:j*k+i<l.length*k:=by have:(j+1)*k<=l.length*k:=Yn k d;rw[YZ] at this;omega
 rw[WQ,h.cellAt (j*k+i) f,Hi hlen l j d i o,b]
structure pM(a:A5):Prop where
 path:a.2.1.size<=maxLen
 Iz:a.2.2.2.1.length<=600000
 texts:∀x∈a.2.2.2.2.1,x.2.1.size<=maxLen/\x.2.2.2.2.2.2.size<=maxLen
theorem sP{base:Nat}(h:w.ownsRow base 144 6 v L.length (Ci L))(d:∀q∈L,pC base w q)(l:∀q∈L,pM q.1):Dt w v (L.map (·.1)):=by
 rcases gL (k:=6) (en:=nU) (λ_=>rfl) h with⟨h1,h2⟩|⟨g,o,c,e,hc,hg,hcell⟩
 ·exact .inl ⟨h1,by rw[h2];rfl⟩
 refine .inr ⟨g,o,c,by rw[XJ];exact e,by rw[XJ];exact hc,hg,λj a=>?_⟩;rw[XJ] at a;have b:L[j]! ∈L:=by rw[getElem!_pos L j a];exact Yh a
 have i:(L.map (·.1))[j]! = L[j]!.1:=by rw[getElem!_pos _ j (by rw[XJ];exact a),List.getElem_map,getElem!_pos L j a]
 rw[i];have f:=l _ b;refine⟨_,_,_,_,_,_,⟨Ph.Fz (d _ b).1,?_,f.path,f.Iz,f.texts⟩,hcell j a 0 _ rfl,hcell j a 1 _ rfl,hcell j a 2 _ rfl,hcell j a 3 _ rfl,hcell j a 4 _ rfl,hcell j a 5 _ rfl⟩;exact p8 (gL (k:=7) (en:=Cc) (λ_=>rfl) (d _ b).2)
def uK(l:List UInt8)(s:ByteArray)(c:Dn):Prop:=Js l=some c/\Cv c=true/\C6 c=s
def Kx(l:List UInt8)(s:ByteArray)(w:World)(e:Ending)(h:World):Prop :=
 Zb w h/\((∃(g:ByteArray)(f:Bool)(A:List A5)(a:Option Addr)(d b:Nat),uK l s (g,f,A)/\e=.returned (.tuple #[.agg #[.string g,.bool f,.slice a d b],.nilIface])/\Dt h (.slice a d b) A) \/
  ((∀c,¬uK l s c)/\e=.returned (.tuple #[.agg #[.string ⟨#[]⟩,.bool false,.slice none 0 0],.iface 90 (Zi 3)])))
theorem Sa{base:Nat}{t T:TypeId}{z:Nat}{n:Nat}{xs:List Tv}{b i:Nat}{cs:Array Tv}(h:W.ownsRow base t z v n xs)(a:W.heap[b]? = some (Zk cs T (0,0)))(c:t≠T):(W.setCell ⟨b,i,none⟩ u).ownsRow base t z v n xs :=
 Az h (Aq W b i u) (λk f e=>by obtain⟨c1,d⟩:=Ho h f;injection e with e;subst e;rw[d] at a;injection a with a;injection a with _ a;exact c a)
theorem zF{a b:Tb}(h:a.toList=b.toList):a=b:=by rw[ByteArray.toList_eq,ByteArray.toList_eq] at h;obtain⟨x⟩:=a;obtain⟨y⟩:=b;have c:x=y:=Array.toList_inj.1 h;rw[c]
def oW(W:World)(v:Value)(L:List Gx):Prop:=W.ownsRow 0 144 6 v L.length (Ci L)/\∀q∈L,pC 0 W q
theorem oW.up{Y:Tw}(h:oW W v L)(a:Zb W Y):oW Y v L:=⟨Bc h.1 a,λq b=>⟨Bc (h.2 q b).1 a,Bc (h.2 q b).2 a⟩⟩
theorem oW.set{b i:Nat}{cs:Array Tv}(h:oW W v L)(a:W.heap[b]? = some (Zk cs 86 (0,0))):oW (W.setCell ⟨b,i,none⟩ u) v L :=
 ⟨Sa h.1 a (by decide),λq c=>⟨Sa (h.2 q c).1 a (by decide),Sa (h.2 q c).2 a (by decide)⟩⟩
theorem jF(hP:S0)(s:Tb)(w:Tw)(hs:s.size<=1000000)(he:Ik w)(hw:Lw w)(ht:Jp w)(hF:∀b d A,Js s.data.toList=some (b,d,A)->A.length<=600000/\b.size<=maxLen/\∀a∈A,pM a/\(Ch a=true->Fh a)):
 Zc 46 #[Zt s] w (Kx s.data.toList s w):=by
 have t:Hid (Zb w (w.alloc (Zk #[Zt ⟨#[]⟩,Zo false,Zs none 0 0] 86))):=Aa (Zal);have r:=Aa (heap_alloc_new w (Zk #[Zt ⟨#[]⟩,Zo false,Zs none 0 0] 86));have HR:=Aa (Pq hP s (w.alloc (Zk #[Zt ⟨#[]⟩,Zo false,Zs none 0 0] 86)) hs (he.below t.out));generalize hl:s.data.toList=l at *;cases hc:Js l with
 | none=>
   have z:Hid (Zc 83 #[Zt s] (w.alloc (Zk #[Zt ⟨#[]⟩,Zo false,Zs none 0 0] 86)) λe u=>∃(b:Tb)(d:Bool)(f:To)(i g:Nat),e=Zr (Zu #[Zg #[Zt b,Zo d,Zs f i g],Zo false])/\Zb w u/\u.heap[w.heap.size]? = some (Zk #[Zt ⟨#[]⟩,Zo false,Zs none 0 0] 86)):=Aa (HR.out.mono (by
    rintro e u⟨b,d,f,i,g,ok,rfl,D,⟨_,L,h,_⟩|⟨rfl,_⟩⟩
    ·rw[hc] at h;cases h
    exact⟨b,d,f,i,g,rfl,Below.Ap t.out D,(D.block _ (Ac r.out)).trans r.out⟩))
   have R:Hid (∀c,¬uK l s c):=Aa (λc h=>by have:=h.1;rw[hc] at this;cases this);clear HR hc hF he hw ht hl r t;go_enter func46,ntmps46
   go_wp2_with (first
    | (go_at_call 83;refine z.out.mono ?_;rintro e x⟨b,d,f,i,g,rfl,k,j⟩
       have p:Hid (Zb w (x.alloc (Zk #[Zt b,Zo d,Zs f i g] 86))):=Aa (k.alloc k.size _);have o:=Aa ((XM x (Zk #[Zt b,Zo d,Zs f i g] 86) _ (Ac j)).trans j);obtain⟨U,V,X,Y⟩:=Db o.out;clear k j))
   clear U V X Y;obtain⟨N,O,P⟩:=mH (pF _ _ _ _ _ (Zt ⟨#[]⟩) (Zo false) (Zs none 0 0) _ o.out);refine bodyPost_ret (v:=Zu #[Zg #[Zt ⟨#[]⟩,Zo false,Zs none 0 0],Zf 90 (Zi 3)]) (by simp[results,results46,go_sem,N,O,P]) rfl ⟨Fi p.out (Y8 _) _ _ _,.inr ⟨R.out,rfl⟩⟩
 | some c=>
   obtain⟨b,d,A⟩:=c;obtain⟨hA,ak,M⟩:=hF b d A hc
   have z:Hid (Zc 83 #[Zt s] (w.alloc (Zk #[Zt ⟨#[]⟩,Zo false,Zs none 0 0] 86)) λe u=>∃(f:To)(i g:Nat)(L:List Gx),e=Zr (Zu #[Zg #[Zt b,Zo d,Zs f i g],Zo true])/\Zb w u/\u.heap[w.heap.size]? = some (Zk #[Zt ⟨#[]⟩,Zo false,Zs none 0 0] 86)/\L.map (·.1)=A/\oW u (Zs f i g) L):=Aa (HR.out.mono (by
    rintro e u⟨ap,ao,f,i,g,ok,rfl,D,⟨rfl,L,h,al,h1,h2⟩|⟨rfl,h⟩⟩
    ·rw[hc] at h
     simp only[Option.some.injEq,Prod.mk.injEq] at h;obtain⟨rfl,rfl,rfl⟩:=h;exact⟨f,i,g,L,rfl,Below.Ap t.out D,(D.block _ (Ac r.out)).trans r.out,rfl,h1,h2⟩
    rw[hc] at h;cases h))
   have ab:Hid (∀W v L,L.map (·.1)=A->oW W v L->Dt W v A):=Aa (λW v L e h=>by subst e;exact sP h.1 h.2 (λq hq=>(M q.1 (YY hq)).1))
   have af:Hid (∀W f i g L,L.map (·.1)=A->oW W (Zs f i g) L->Zb w W->Zc 77 #[Zg #[Zt b,Zo d,Zs f i g]] W λe u=>e=Zr (Hz (b,d,A))/\Zb W u):=Aa (λW f i g L e h D=>lW b d A f i g W (ab.out W _ L e h) hA ak (λa ha=>(M a ha).2) (hw.below D) (ht.below D));have HC:=Aa hc;clear HR hF he hw ht hl hc M r t
   have R:Hid (Cv (b,d,A)=false\/C6 (b,d,A)≠s->∀c,¬uK l s c):=Aa (λh c hk=>by
    have h1:=hk.1;rw[HC.out] at h1;cases h1
    rcases h with h|h
    ·rw[hk.2.1] at h;cases h
    exact h hk.2.2)
   cases hp:Cv (b,d,A) with
   | false=>
     have J:Hid (Hz (b,d,A)=Zu #[Zt ⟨#[]⟩,Zf 90 (Zi 1)]):=Aa (by unfold Hz;rw[hp];rfl);have G:=Aa (R.out (.inl hp));clear R hp;go_enter func46,ntmps46
     go_wp2_with (first
      | (go_at_call 83;refine z.out.mono ?_;rintro e x⟨f,i,g,L,rfl,k,j,T,hO⟩
         have p:Hid (Zb w (x.alloc (Zk #[Zt b,Zo d,Zs f i g] 86))):=Aa (k.alloc k.size _);have o:=Aa ((XM x (Zk #[Zt b,Zo d,Zs f i g] 86) _ (Ac j)).trans j);have I:=Aa (af.out _ _ _ _ L T (hO.up (Zal)) p.out);clear k j hO T)
      | (go_at_call 77;refine I.out.mono ?_;rintro e w5⟨rfl,n⟩;rw[J.out]
         have y:=Aa (Below.Ap p.out n);have m:=Aa ((n.block _ (Ac o.out)).trans o.out);obtain⟨U,V,X,Y⟩:=Db m.out;clear n))
     clear U V X Y;obtain⟨N,O,P⟩:=mH (pF _ _ _ _ _ (Zt ⟨#[]⟩) (Zo false) (Zs none 0 0) _ m.out);refine bodyPost_ret (v:=Zu #[Zg #[Zt ⟨#[]⟩,Zo false,Zs none 0 0],Zf 90 (Zi 3)]) (by simp[results,results46,go_sem,N,O,P]) rfl ⟨Fi y.out (Y8 _) _ _ _,.inr ⟨G.out,rfl⟩⟩
   | true=>
     have J:Hid (Hz (b,d,A)=Zu #[Zt (C6 (b,d,A)),Zn]):=Aa (by unfold Hz;rw[hp];rfl);generalize ag:C6 (b,d,A)=pb at *;have G:=Aa (λh=>R.out (.inr h));have aj:Hid (pb=s->uK l s (b,d,A)):=Aa (λh=>⟨HC.out,hp,ag.trans h⟩);clear R hp ag;go_enter func46,ntmps46
     go_wp2_with (first
      | (go_at_call 83;refine z.out.mono ?_;rintro e x⟨f,i,g,L,rfl,k,j,T,hO⟩
         have p:Hid (Zb w (x.alloc (Zk #[Zt b,Zo d,Zs f i g] 86))):=Aa (k.alloc k.size _);have o:=Aa ((XM x (Zk #[Zt b,Zo d,Zs f i g] 86) _ (Ac j)).trans j);have ad:=Aa (heap_alloc_new x (Zk #[Zt b,Zo d,Zs f i g] 86));have ae:=Aa (hO.up ((XI _ _).alloc (Y8 _) (Zk #[Zt b,Zo d,Zs f i g] 86)));have I:=Aa (af.out _ _ _ _ L T ae.out p.out);have HL:=Aa T;have am:w.heap.size<x.heap.size:=Ac j;clear k j hO T)
      | (go_at_call 77;refine I.out.mono ?_;rintro e w5⟨rfl,n⟩;rw[J.out]
         have y:=Aa (Below.Ap p.out n);have m:=Aa ((n.block _ (Ac o.out)).trans o.out);have ah:=Aa ((n.block _ (Ac ad.out)).trans ad.out);have ai:=Aa (ae.out.up n);obtain⟨U,V,X,Y⟩:=Db m.out;obtain⟨c0,c1,c2,cf⟩:=Db ah.out;clear n))
     ·rename_i hcmp
      clear U V X Y c0 c1 c2 cf;obtain⟨N,O,P⟩:=mH (pF _ _ _ _ _ (Zt ⟨#[]⟩) (Zo false) (Zs none 0 0) _ m.out);refine bodyPost_ret (v:=Zu #[Zg #[Zt ⟨#[]⟩,Zo false,Zs none 0 0],Zf 90 (Zi 3)]) (by simp[results,results46,go_sem,N,O,P]) rfl ⟨Fi y.out (Y8 _) _ _ _,.inr ⟨G.out (λe=>?_),rfl⟩⟩;subst e;simp at hcmp
     rename_i hcmp;clear U V X Y c0 c1 c2 cf;obtain⟨N,O,P⟩:=mH (pF _ _ _ _ _ (Zt b) (Zo d) (Zs f i g) _ m.out);refine bodyPost_ret (v:=Zu #[Zg #[Zt b,Zo d,Zs f i g],Zn]) (by simp[results,results46,go_sem,N,O,P]) rfl ⟨Fi y.out (Y8 _) _ _ _,.inl ⟨b,d,A,f,i,g,aj.out ?_,rfl,ab.out _ _ L HL.out ?_⟩⟩
     ·exact zF (by simpa using hcmp)
     exact((ai.out.set m.out).set (As _ _ 0 _ _ _ m.out)).set (As _ _ 1 _ _ _ (As _ _ 0 _ _ _ m.out))
variable{l:List UInt8}{p s:Tb}{c:Aj}{k n r y:Int}{a x:A5}
def O8(l:List UInt8):Prop:=∀b∈l,b≠10/\b≠32/\b≠39/\b≠44/\b≠59
theorem O8.n10(h:O8 l):(10:UInt8) ∉ l:=λe=>(h _ e).1 rfl
theorem O8.n32(h:O8 l):(32:UInt8) ∉ l:=λe=>(h _ e).2.1 rfl
theorem O8.n39(h:O8 l):(39:UInt8) ∉ l:=λe=>(h _ e).2.2.1 rfl
theorem O8.n44(h:O8 l):(44:UInt8) ∉ l:=λe=>(h _ e).2.2.2.1 rfl
theorem O8.n59(h:O8 l):(59:UInt8) ∉ l:=λe=>(h _ e).2.2.2.2 rfl
theorem AAy(h:∀b∈l,b.toNat=45\/(48<=b.toNat/\b.toNat<=57)\/b.toNat=95\/(97<=b.toNat/\b.toNat<=122)):O8 l:=by intro b a;have:=h b a;refine⟨?_,?_,?_,?_,?_⟩ <;> (rintro rfl;revert this;decide)
theorem Fw(n:Int):O8 (itoa n):=AAy λb a=>by
 rcases lO b a with h|h
 ·exact .inl h
 exact .inr (.inl h)
theorem uJ(r:Nat)(h:126<r):Is r=true:=by simp only[Is,Ki,Pe,Y9,WE,WG,decide_eq_false_iff_not,beq_eq_false_iff_ne];refine⟨.inr (by omega),.inr (by omega),by omega⟩
theorem Qp(r:Nat)(h:126<r):Cu r=true:=by simp[Cu,h]
theorem Ge(h:Bx s=true):O8 s.data.toList/\s.data.toList≠[]:=by
 simp only[Bx,Y9,decide_eq_true_eq,WE,decide_eq_false_iff_not] at h;obtain⟨a,_,_,c⟩:=h;refine⟨AAy λb g=>?_,λe=>?_⟩
 ·obtain⟨d,_⟩:=o4 uJ c b g
  have f:(!Ki b.toNat && (!Pe b.toNat && !((b.toNat:Int)==95)))=false:=d;simp only[Ki,Pe,WG,Bool.not_eq_false',Y9,decide_eq_true_eq,beq_iff_eq] at f;omega
 have:s.data.toList.length=0:=by rw[e];rfl
 simp only[X2] at this;simp only[ByteArray.size] at a;omega
theorem bS{t:Tb}(h:Vb t=true):(39:UInt8) ∉ t.data.toList/\(10:UInt8) ∉ t.data.toList:=by
 simp only[Vb,Y9,decide_eq_true_eq,WE,decide_eq_false_iff_not] at h;refine⟨λe=>?_,λe=>?_⟩
 ·have:=(o4 Qp h.2 _ e).1
  revert this;decide
 have:=(o4 Qp h.2 _ e).1
 revert this;decide
def yA(t:List UInt8):Prop:=t=[]\/∃r,t=59 :: r
theorem qD{c:UInt8}{x t:List UInt8}(a:c ∉ x)(b:t=[]\/∃r,t=c :: r):(Ao c (x++t)).1=x/\(Ao c (x++t)).2.1=t.tail:=by
 rcases b with rfl|⟨r,rfl⟩
 ·rw[WM,Qa a];simp
 rw[Dh a];simp
theorem AER(a b:Tb):(a++b).data.toList=a.data.toList++b.data.toList:=by simp
theorem lD{x t:List UInt8}(c:(39:UInt8) ∉ x)(a:yA t):Lib.hasPrefix (x++t) [39]=false:=by
 unfold Lib.hasPrefix;cases x with
 | nil=>
   rcases a with rfl|⟨r,rfl⟩
   ·rfl
   simp[List.isPrefixOf]
 | cons b x=>
   have:b≠39:=λe=>c (by simp[e])
   simp[List.isPrefixOf,this.symm]
theorem nA{t:Tb}(h:A9 k n t=true)(j:Lu n)(a:yA l):Ej ((E7 k n t).data.toList++l)=some ((k,n,t),l.tail):=by
 unfold A9 at h;unfold E7
 by_cases h0:k=0
 ·subst h0
  simp only[if_true,Y9,beq_iff_eq] at h ⊢;obtain⟨rfl,b⟩:=h;have e:t=bA []:=toList_inj (by simpa[bA,ByteArray.toList_eq] using b);subst e;have q:=qD (c:=59) (x:=Qm) (t:=l) (by decide) a;unfold Ej;show (if Lib.hasPrefix (Qm++l) [39]=true then _ else _)=_;rw[lD (by decide) a,if_neg (by decide)];show (if (Ao 59 (Qm++l)).1=Qm then _ else _)=_;rw[if_pos q.1];show some ((0,0,bA []),(Ao 59 (Qm++l)).2.1)=_;rw[q.2]
 rw[if_neg h0] at h ⊢
 by_cases h1:k=1
 ·subst h1
  simp only[if_true] at h ⊢;have e:t=bA []:=toList_inj (by simpa[bA,ByteArray.toList_eq] using h);subst e;have g:=Fw n;have q:=qD (c:=59) (x:=itoa n) (t:=l) g.n59 a;have d:(Bm n).data.toList=itoa n:=by simp[Bm]
  have f:itoa n≠Qm:=λe=>by
   have:=lO (n:=n) 110 (by rw[e];decide)
   revert this;decide
  rw[d];unfold Ej;rw[lD g.n39 a,if_neg (by decide),q.1,q.2,if_neg f,I7 j];rfl
 rw[if_neg h1] at h ⊢
 by_cases b:k=2
 ·subst b
  simp only[if_true,Y9,beq_iff_eq] at h ⊢;obtain⟨rfl,i⟩:=h;have d:(⟨#[39]⟩++t++⟨#[39]⟩:Tb).data.toList++l=39 :: (t.data.toList++39 :: l):=by simp
  rw[d];unfold Ej;rw[if_pos (by simp[Lib.hasPrefix,List.isPrefixOf])];simp only[X',WH];rw[Dh (bS i).1];simp only[if_true,Ju];congr 2
  rcases a with rfl|⟨r,rfl⟩
  ·rfl
  simp[Lib.trimPrefix,Lib.hasPrefix,List.isPrefixOf]
 rw[if_neg b] at h;cases h
def mmL(b:Bool):List UInt8:=(Fa b Qn jI).data.toList
theorem tH(b:Bool):O8 (mmL b):=by cases b <;> (unfold O8 mmL;decide)
theorem AEI(b:Bool):decide (mmL b=dS)=b:=by cases b <;> decide
def Ft(c:Aj):List UInt8:=itoa c.1++32 :: (c.2.1.data.toList++32 :: (itoa c.2.2.1++32 :: (mmL c.2.2.2.1++32 :: (E7 c.2.2.2.2.1 c.2.2.2.2.2.1 c.2.2.2.2.2.2).data.toList)))
theorem oJ(c:Aj):(B9 c).data.toList=Ft c:=by simp[B9,Fe,Lib.join,List.intercalate,Ft,mmL,Bm]
structure ADD(c:Aj):Prop where
 ok:Ib c
 may:Ko c=true
theorem ADD.parts(h:ADD c):Bx c.2.1=true/\A9 c.2.2.2.2.1 c.2.2.2.2.2.1 c.2.2.2.2.2.2=true:=by have:=h.may;simp only[Ko,Bv,Cm,Y9] at this;exact⟨this.2.2.1.2,this.2.2.2.1⟩
theorem Hb{x y:List UInt8}(h:(32:UInt8) ∉ x):Aw (x++32 :: y)=y:=by unfold Aw;rw[Dh h]
theorem Sq(h:ADD c)(q:yA l):D0 (Ft c++l)=some (c,l.tail):=by
 obtain⟨f,g⟩:=h.parts;have m:=(Ge f).1;obtain⟨c1,i,a,b,j,d,k⟩:=c
 have e:Ft (c1,i,a,b,j,d,k)++l=itoa c1++32 :: (i.data.toList++32 :: (itoa a++32 :: (mmL b++32 :: ((E7 j d k).data.toList++l)))):=by simp[Ft]
 have n:=(Fw c1).n32;have o:=(Fw a).n32;have p:=(tH b).n32;have r:Lu c1:=h.ok.id;have s:Lu a:=h.ok.kind;have t:Lu d:=h.ok.num;unfold D0;rw[e,Hb n,Hb m.n32,Hb o,Hb p,Dh n,Dh o,Dh m.n32,Dh p];simp only;rw[I7 r,I7 s,nA g t q];simp only[XC,Option.map_some,Ju,AEI]
theorem zH(c:Aj):Ft c≠[]:=by unfold Ft;intro e;have:=congrArg List.length e;simp at this
theorem Q5:∀{l:List Aj},l≠[]->(∀c∈l,ADD c)->Dg (Lib.join (l.map Ft) [59])=some l
 | [],h,_=>absurd rfl h
 | [c],_,h=>by
   have e:Lib.join ([c].map Ft) [59]=Ft c++[]:=by simp[Lib.join]
   rw[e,Jv (by simpa using zH c) (Sq (h c (by simp)) (.inl rfl))];rw[show ([]:List UInt8).tail=[] from rfl,Kq];rfl
 | c :: d :: l,_,h=>by
   have e:Lib.join ((c :: d :: l).map Ft) [59]=Ft c++59 :: Lib.join ((d :: l).map Ft) [59]:=by simp[Lib.join]
   rw[e,Jv (by simp) (Sq (h c (by simp)) (.inr ⟨_,rfl⟩))];rw[List.tail_cons,Q5 (by simp) (λx a=>h x (by simp[a]))];rfl
theorem Xw:∀{l:List Int},(∀x∈l,Lu x)->Dr (l.map itoa)=some l
 | [],_=>rfl
 | n :: l,h=>by rw[WO,Dr,I7 (h n (by simp)),Xw (λx a=>h x (by simp[a]))];rfl
theorem oO{l:List Int}(a:l≠[])(h:∀x∈l,Lu x):L1 (Lib.join (l.map itoa) [44])=some l:=by
 unfold L1
 rw[X3 (by simpa using a) (λx b=>by obtain⟨n,_,rfl⟩:=List.mem_map.1 b;exact(Fw n).n44),Xw h]
theorem gE(xs:List Tb)(sep:Tb):(Fe xs sep).data.toList=Lib.join (xs.map (·.data.toList)) sep.data.toList:=by simp[Fe]
theorem Na(n:Int):(Bm n).data.toList=itoa n:=by simp[Bm]
def Xf(a:A5):List UInt8 :=
 if a.1=1 then ADF++32 :: (a.2.1.data.toList++32 :: itoa a.2.2.1)
 else if a.1=2 then P4++32 :: a.2.1.data.toList
 else if a.1=3 then lA++32 :: (a.2.1.data.toList++32 :: Lib.join (a.2.2.2.1.map itoa) [44])
 else P3++32 :: (itoa a.2.2.2.2.2++32 :: Lib.join (a.2.2.2.2.1.map Ft) [59])
theorem AAd(a:A5):(F3 a).data.toList=Xf a:=by
 unfold F3 Xf;split
 ·simp[Na,ADF]
 split
 ·simp[P4]
 split
 ·simp[gE,lA,WR,Function.comp_def,Na]
 simp[gE,P3,WR,Function.comp_def,Na,oJ]
theorem G4{n k:Nat}{x:Int}(h:Mm p r n k x=true):p=bA []/\r=0/\n=0/\k=0/\x=0:=by simp only[Mm,Y9,beq_iff_eq] at h;obtain⟨a,b,d,e,c⟩:=h;exact⟨toList_inj (by simpa[bA,ByteArray.toList_eq] using a),b,by omega,by omega,c⟩
theorem fJ{l:List Aj}(h:Be l y=true)(b:∀x∈l,Ib x):l≠[]/\∀c∈l,ADD c:=by have a:=(I9 l y).1 h;refine⟨λe=>?_,λc hc'=>⟨b c hc',(Ou c).2 (a.2.2.1 c hc').1⟩⟩;have:=a.1;rw[e] at this;simp at this
theorem AFt:(32:UInt8) ∉ ADF:=by decide
theorem kQ:(32:UInt8) ∉ P4:=by decide
theorem AAn:(32:UInt8) ∉ lA:=by decide
theorem l6:(32:UInt8) ∉ P3:=by decide
theorem oN(h:Ch a=true)(l:Fh a):Co (Xf a)=some a:=by
 obtain⟨k,p,r,m,cl,n⟩:=a;unfold Ch at h;unfold Xf;simp only at h ⊢
 by_cases h1:k=1
 ·subst h1
  simp only[if_true,Y9] at h ⊢;obtain⟨g,d⟩:=h;obtain⟨_,_,e,f,rfl⟩:=G4 d;have b:m=[]:=List.length_eq_zero_iff.1 e;have c:cl=[]:=List.length_eq_zero_iff.1 f;subst b c;have i:Bx p=true:=by simp only[rfB,Y9] at g;exact g.1
  unfold Co;rw[Dh AFt,Hb AFt,Dh (Ge i).1.n32];simp only[if_true];have j:Lu r:=l.rows;rw[I7 j];simp[Ju]
 rw[if_neg h1] at h ⊢
 by_cases g:k=2
 ·subst g
  simp only[if_true,Y9] at h ⊢;obtain⟨i,d⟩:=h;obtain⟨_,rfl,e,f,rfl⟩:=G4 d;have b:m=[]:=List.length_eq_zero_iff.1 e;have c:cl=[]:=List.length_eq_zero_iff.1 f;subst b c;unfold Co;rw[Dh kQ,Hb kQ,Qa (Ge i).1.n32];simp only;rw[if_neg (by decide),if_pos trivial,Ju]
 rw[if_neg g] at h ⊢
 by_cases d:k=3
 ·subst d
  simp only[if_true,Y9] at h ⊢;obtain⟨⟨i,j⟩,d⟩:=h;obtain⟨_,rfl,_,f,rfl⟩:=G4 d;have c:cl=[]:=List.length_eq_zero_iff.1 f;subst c
  have s:m≠[]:=by rintro rfl;simp[Dj] at j
  unfold Co;rw[Dh AAn,Hb AAn,Dh (Ge i).1.n32];simp only;rw[if_neg (by decide),if_neg (by decide),if_pos trivial,oO s l.mask,Ju];rfl
 rw[if_neg d] at h ⊢
 by_cases h4:k=4
 ·subst h4
  simp only[if_true,Y9] at h ⊢;obtain⟨j,d⟩:=h;obtain⟨rfl,rfl,e,_,_⟩:=G4 d;have b:m=[]:=List.length_eq_zero_iff.1 e;subst b;obtain⟨q,o⟩:=fJ j l.cols;have t:Lu n:=l.next;unfold Co;rw[Dh l6,Hb l6,Dh (Fw n).n32];simp only;rw[if_neg (by decide),if_neg (by decide),if_neg (by decide),if_pos trivial,I7 t,Q5 q o];rfl
 rw[if_neg h4] at h;cases h
theorem oF{c s:UInt8}(a:c≠s):∀{l:List (List UInt8)},(∀x∈l,c ∉ x)->c ∉ Lib.join l [s]
 | [],_=>by simp[Lib.join,List.intercalate]
 | [x],h=>by simpa[Lib.join] using h x (by simp)
 | x :: y :: l,h=>by
   have e:Lib.join (x :: y :: l) [s]=x++s :: Lib.join (y :: l) [s]:=by simp[Lib.join]
   rw[e];simp only[XK,XW,not_or];exact⟨h x (by simp),a,oF a (λz b=>h z (by simp[b]))⟩
theorem AGx{t:Tb}(h:A9 k n t=true):(10:UInt8) ∉ (E7 k n t).data.toList:=by
 unfold A9 at h;unfold E7;split
 ·decide
 rename_i h0;rw[if_neg h0] at h;split
 ·rw[Na];exact(Fw n).n10
 rename_i h1;rw[if_neg h1] at h;split
 ·rename_i h2
  rw[if_pos h2,Y9] at h;simp only[AER,XK,not_or];exact⟨⟨by decide,(bS h.2).2⟩,by decide⟩
 decide
theorem AHs(h:ADD c):(10:UInt8) ∉ Ft c:=by obtain⟨a,b⟩:=h.parts;unfold Ft;simp only[XK,XW,not_or];exact⟨(Fw _).n10,by decide,(Ge a).1.n10,by decide,(Fw _).n10,by decide,(tH _).n10,by decide,AGx b⟩
theorem AFo(h:Ch a=true)(f:Fh a):(10:UInt8) ∉ Xf a:=by
 obtain⟨k,p,r,m,cl,g⟩:=a;unfold Ch at h;unfold Xf;simp only at h ⊢
 by_cases h1:k=1
 ·rw[if_pos h1] at h ⊢
  simp only[Y9,rfB] at h;simp only[XK,XW,not_or];exact⟨by decide,by decide,(Ge h.1.1).1.n10,by decide,(Fw _).n10⟩
 rw[if_neg h1] at h ⊢
 by_cases h2:k=2
 ·rw[if_pos h2] at h ⊢
  simp only[Y9] at h;simp only[XK,XW,not_or];exact⟨by decide,by decide,(Ge h.1).1.n10⟩
 rw[if_neg h2] at h ⊢
 by_cases h3:k=3
 ·rw[if_pos h3] at h ⊢
  simp only[Y9] at h;simp only[XK,XW,not_or]
  exact⟨by decide,by decide,(Ge h.1.1).1.n10,by decide,oF (by decide) (λx d=>by obtain⟨n,_,rfl⟩:=List.mem_map.1 d;exact(Fw n).n10)⟩
 rw[if_neg h3] at h ⊢
 by_cases h4:k=4
 ·rw[if_pos h4] at h
  simp only[Y9] at h;obtain⟨_,e⟩:=fJ h.1 f.cols;simp only[XK,XW,not_or]
  exact⟨by decide,by decide,(Fw _).n10,by decide,oF (by decide) (λx d=>by obtain⟨c,b,rfl⟩:=List.mem_map.1 d;exact AHs (e c b))⟩
 rw[if_neg h4] at h;cases h
theorem Uv:∀{l:List A5},(∀a∈l,Ch a=true/\Fh a)->Cp (l.map Xf)=some l
 | [],_=>rfl
 | a :: l,h=>by rw[WO,Cp,oN (h a (by simp)).1 (h a (by simp)).2,Uv (λx b=>h x (by simp[b]))];rfl
def bE:List UInt8:=[99,111,109,109,105,116]
def rbL(b:Bool):List UInt8:=(Fa b Ov Oy).data.toList
theorem AEf(b:Bool):O8 (rbL b):=by cases b <;> (unfold O8 rbL;decide)
theorem ACF(b:Bool):decide (rbL b=gX)=b:=by cases b <;> decide
theorem vU(b:Tb)(a:Bool):(I4 b a).data.toList=bE++32 :: (b.data.toList++32 :: rbL a)++[10]:=by simp[I4,bE,rbL]
theorem n9{c:Dn}(h:Cv c=true)(i:∀a∈c.2.2,Fh a):Js (Nn c)=some c:=by
 obtain⟨f,e,l⟩:=c;simp only[Cv,Y9,WL] at h;obtain⟨m,g⟩:=h;have d:=(Ge m).1
 have j:Nn (f,e,l)=(bE++32 :: (f.data.toList++32 :: rbL e))++10 :: (l.map Xf).flatMap (λx=>x++[10]):=by simp[Nn,vU,Ed,AAd,List.flatMap_map]
 have k:(10:UInt8) ∉ bE++32 :: (f.data.toList++32 :: rbL e):=by simp only[XK,XW,not_or];exact⟨by decide,by decide,d.n10,by decide,(AEf e).n10⟩
 unfold Js;rw[j,Dh k];simp only
 rw[Sx (λx n=>by obtain⟨a,b,rfl⟩:=List.mem_map.1 n;exact AFo (g a b) (i a b)),Uv (λa b=>⟨g a b,i a b⟩),Hb (by decide),Dh d.n32]
 simp[Ju,ACF]
theorem Hh(h:Bx s=true):s.size<=16:=by simp only[Bx,Y9,decide_eq_true_eq] at h;exact h.2.1
theorem eJ{t:Tb}(h:t.toList.isEmpty=true):t.size<=0:=by rw[List.isEmpty_iff,ByteArray.toList_eq] at h;show t.data.size<=0;rw[<-X2,h];exact Y8 _
theorem gA{t:Tb}(h:A9 k n t=true):t.size<=40:=by
 unfold A9 at h;split at h
 ·simp only[Y9] at h;have:=eJ h.2;omega
 split at h
 ·have:=eJ h;omega
 split at h
 ·simp only[Y9,Vb,decide_eq_true_eq] at h;exact h.2.1
 cases h
theorem AIu(h:Ko c=true)(a:Vp c):Ib c:=by simp only[Ko,Bv,Cm,Y9] at h;have b:=Hh h.2.2.1.2;have d:=gA h.2.2.2.1;exact⟨a.1,by omega,a.2.1,a.2.2,by omega⟩
theorem Qb(h:Ch a=true)(b:Ints a):Fh a:=by
 unfold Ch at h;split at h
 ·simp only[Y9,rfB] at h
  obtain⟨_,_,e,d,_⟩:=G4 h.2;have:=Hh h.1.1;exact⟨by omega,b.rows,b.mask,by omega,(λx c=>by rw[List.length_eq_zero_iff.1 d] at c;cases c),by omega,b.next⟩
 split at h
 ·simp only[Y9] at h
  obtain⟨_,_,e,d,_⟩:=G4 h.2;have:=Hh h.1;exact⟨by omega,b.rows,b.mask,by omega,(λx c=>by rw[List.length_eq_zero_iff.1 d] at c;cases c),by omega,b.next⟩
 split at h
 ·simp only[Y9,Dj] at h
  obtain⟨_,_,_,d,_⟩:=G4 h.2;have:=Hh h.1.1;have:=fO 60 h.1.2.2;exact⟨by omega,b.rows,b.mask,by omega,(λx c=>by rw[List.length_eq_zero_iff.1 d] at c;cases c),by omega,b.next⟩
 split at h
 ·simp only[Y9] at h
  obtain⟨g,_,e,_,_⟩:=G4 h.2;have f:=(I9 _ _).1 h.1;refine⟨by rw[g];simp[bA,ByteArray.size],b.rows,b.mask,by omega,λx c=>AIu ((Ou x).2 (f.2.2.1 x c).1) (b.cols x c),by have:=f.2.1;omega,b.next⟩
 cases h
theorem Im:Lu 0:=⟨by decide,by decide⟩
theorem zB{s:List UInt8}{v:AIE}{b:List UInt8}(h:Ej s=some (v,b)):Lu v.2.1/\v.2.2.size<=s.length:=by
 unfold Ej at h;split at h
 ·split at h
  ·cases h
   refine⟨Im,?_⟩;have a:=Gv 39 (s.drop 1);rw[XG] at a;show (bA _).size<=_;rw[Cz];omega
  cases h
 split at h
 ·cases h;exact⟨Im,by show (bA []).size<=_;rw[Cz];exact XO _⟩
 cases hn:numOf (Ao 59 s).1 with
 | none=>rw[hn] at h;cases h
 | some n=>rw[hn] at h;cases h;exact⟨Hd hn,by show (bA []).size<=_;rw[Cz];exact XO _⟩
theorem AAj{s:List UInt8}{b:List UInt8}(h:D0 s=some (c,b)):Vp c/\c.2.1.size<=s.length/\c.2.2.2.2.2.2.size<=s.length:=by
 obtain⟨i,k,v,a,d,e,rfl⟩:=Va h;have q:=zB e;have f:=Gi s;have g:=Gi (Aw s);have j:=Gi (Aw (Aw s));have l:=Gi (Aw (Aw (Aw s)));have m:=Gv 32 (Aw s);refine⟨⟨Hd a,Hd d,q.1⟩,?_,?_⟩
 ·show (bA _).size<=_
  rw[Cz];omega
 have:=q.2;show v.2.2.size<=_;omega
theorem Oq:∀(n:Nat){s:List UInt8}{l:List Aj},s.length<=n->Dg s=some l->∀x∈l,Vp x/\x.2.1.size<=n/\x.2.2.2.2.2.2.size<=n
 | 0,s,l,hn,h=>by have:s=[]:=List.length_eq_zero_iff.1 (by omega);subst this;rw[Kq] at h;cases h;intro x a;cases a
 | n+1,s,l,hn,h=>by
   by_cases e:s=[]
   ·subst e
    rw[Kq] at h;cases h;intro x a;cases a
   cases hc:D0 s with
   | none=>rw[Qt e hc] at h;cases h
   | some p=>
     obtain⟨c,b⟩:=p;rw[Jv e hc] at h;have d:=Ru hc;cases hb:Dg b with
     | none=>rw[hb] at h;cases h
     | some m=>
       rw[hb] at h;cases h;intro x a
       rcases List.mem_cons.1 a with rfl|a
       ·have:=AAj hc
        exact⟨this.1,by omega,by omega⟩
       have:=Oq n (by omega) hb x a;exact⟨this.1,by omega,by omega⟩
theorem kH:∀{l:List (List UInt8)}{m:List Int},Dr l=some m->m.length=l.length/\∀x∈m,Lu x
 | [],m,h=>by simp only[Dr] at h;cases h;exact⟨rfl,λx a=>by cases a⟩
 | y :: l,m,h=>by
   simp only[Dr] at h;cases hy:numOf y with
   | none=>rw[hy] at h;cases h
   | some n=>
     rw[hy] at h;simp only[XC] at h;cases hr:Dr l with
     | none=>rw[hr] at h;cases h
     | some k=>
       rw[hr] at h;cases h;have:=kH hr;refine⟨by simp[this.1],λx a=>?_⟩
       rcases List.mem_cons.1 a with rfl|a
       ·exact Hd hy
       exact this.2 x a
theorem nF{a:List UInt8}(h:Co a=some x):Ints x:=by
 unfold Co at h;split at h
 ·cases hn:numOf (Ao 32 (Aw a)).2.1 with
  | none=>rw[hn] at h;cases h
  | some n=>rw[hn] at h;cases h;exact⟨Hd hn,(λ_ q=>by cases q),(λ_ q=>by cases q),Im⟩
 split at h
 ·cases h;exact⟨Im,(λ_ q=>by cases q),(λ_ q=>by cases q),Im⟩
 split at h
 ·cases hn:L1 (Ao 32 (Aw a)).2.1 with
  | none=>rw[hn] at h;cases h
  | some n=>rw[hn] at h;cases h;exact⟨Im,(kH hn).2,(λ_ q=>by cases q),Im⟩
 split at h
 ·cases hn:numOf (Ao 32 (Aw a)).1 with
  | none=>rw[hn] at h;cases h
  | some n=>
    rw[hn] at h;simp only[XC] at h;cases hc:Dg (Ao 32 (Aw a)).2.1 with
    | none=>rw[hc] at h;cases h
    | some l=>rw[hc] at h;cases h;exact⟨Im,(λ_ q=>by cases q),(λy hy=>(Oq _ (Y8 _) hc y hy).1),Hd hn⟩
 cases h
theorem dI(c:UInt8):∀s:List UInt8,((Ao c s).2.2=true/\(Ao c s).1.length+1+(Ao c s).2.1.length=s.length)\/((Ao c s).2.2=false/\(Ao c s).2.1=[])
 | []=>.inr ⟨rfl,rfl⟩
 | b :: l=>by
   have e:=dI c l;unfold Ao;split
   ·left;exact⟨rfl,by simp;omega⟩
   rcases e with⟨a,d⟩|⟨a,d⟩
   ·left;exact⟨a,by simp only[XA];omega⟩
   right;exact⟨a,d⟩
theorem uN:Co []=none:=by decide
theorem jR:∀(n:Nat){t:List UInt8}{A:List A5},t.length<=n->Cp (Dp t)=some A->2*A.length<=t.length+1/\∀a∈A,∃x:List UInt8,x.length<=t.length/\Co x=some a
 | 0,t,A,hn,h=>by have:t=[]:=List.length_eq_zero_iff.1 (by omega);subst this;rw[Jf] at h;simp only[Cp] at h;cases h;exact⟨by simp,λa b=>by cases b⟩
 | n+1,t,A,hn,h=>by
   by_cases e:t=[]
   ·subst e
    rw[Jf] at h;simp only[Cp] at h;cases h;exact⟨by simp,λa b=>by cases b⟩
   rw[J1 e] at h;simp only[Cp] at h;have k:=Un 10 e;have j:=Gv 10 t;cases hy:Co (Ao 10 t).1 with
   | none=>rw[hy] at h;cases h
   | some y=>
     rw[hy] at h;simp only[XC] at h;cases hr:Cp (Dp (Ao 10 t).2.1) with
     | none=>rw[hr] at h;cases h
     | some M=>
       rw[hr] at h;cases h;have i:=jR n (by omega) hr;have c:(Ao 10 t).1≠[]:=λe0=>by rw[e0,uN] at hy;cases hy
       have g:0<(Ao 10 t).1.length:=List.length_pos_iff.2 c;refine⟨?_,λa b=>?_⟩
       ·have:=i.1
        simp only[XA]
        rcases dI 10 t with⟨_,f⟩|⟨_,f⟩
        ·omega
        rw[f] at this;simp only[XF] at this;have:0<t.length:=List.length_pos_iff.2 e;omega
       rcases List.mem_cons.1 b with rfl|b
       ·exact⟨_,by omega,hy⟩
       obtain⟨x,l,d⟩:=i.2 a b;exact⟨x,by omega,d⟩
theorem AAp:∀(n:Nat){s:List UInt8}{m:List Int},s.length<=n->Dr (Dd 44 s)=some m->2*m.length<=s.length+1
 | n,s,m,hn,h=>by
   rw[Dd] at h
   rcases dI 44 s with⟨b,c⟩|⟨b,c⟩
   ·rw[dif_pos b] at h
    simp only[Dr] at h;cases hy:numOf (Ao 44 s).1 with
    | none=>rw[hy] at h;cases h
    | some y=>
      rw[hy] at h;simp only[XC] at h;have a:0<(Ao 44 s).1.length:=List.length_pos_iff.2 (gC hy);cases hr:Dr (Dd 44 (Ao 44 s).2.1) with
      | none=>rw[hr] at h;cases h
      | some k=>
        rw[hr] at h;cases h;cases n with
        | zero=>omega
        | succ n=>have:=AAp n (by omega) hr;simp only[XA];omega
   rw[dif_neg (by rw[b];simp)] at h;simp only[Dr] at h;cases hy:numOf s with
   | none=>rw[hy] at h;cases h
   | some y=>rw[hy] at h;cases h;have a:0<s.length:=List.length_pos_iff.2 (gC hy);simp only[XA,XF];omega
theorem Ng{M:List Int}{C:List Aj}(d:p.size<=1000000)(c:M.length<=600000)(a:∀x∈C,x.2.1.size<=1000000/\x.2.2.2.2.2.2.size<=1000000):pM (k,p,r,M,C,y) :=
 ⟨by show p.size<=_;unfold maxLen;omega,c,λx b=>⟨by have:=(a x b).1;unfold maxLen;omega,by have:=(a x b).2;unfold maxLen;omega⟩⟩
theorem nV{a:List UInt8}(d:a.length<=1000000)(h:Co a=some x):pM x:=by
 have e:=Gi a;have f:=Gv 32 (Aw a);have b:(bA (Ao 32 (Aw a)).1).size<=1000000:=by rw[Cz];omega
 unfold Co at h;split at h
 ·cases hn:numOf (Ao 32 (Aw a)).2.1 with
  | none=>rw[hn] at h;cases h
  | some n=>rw[hn] at h;cases h;exact Ng b (XO _) (λ_ q=>by cases q)
 split at h
 ·cases h;exact Ng b (XO _) (λ_ q=>by cases q)
 split at h
 ·cases hn:L1 (Ao 32 (Aw a)).2.1 with
  | none=>rw[hn] at h;cases h
  | some n=>rw[hn] at h;cases h;have:=AAp _ (Y8 _) hn;exact Ng b (by omega) (λ_ q=>by cases q)
 split at h
 ·cases hn:numOf (Ao 32 (Aw a)).1 with
  | none=>rw[hn] at h;cases h
  | some n=>
    rw[hn] at h;simp only[XC] at h;cases hc:Dg (Ao 32 (Aw a)).2.1 with
    | none=>rw[hc] at h;cases h
    | some l=>rw[hc] at h;cases h;exact Ng (by rw[Cz];exact XO _) (XO _) (λy c=>(Oq 1000000 (by omega) hc y c).2)
 cases h
theorem uG(j:l.length<=1000000):∀d e A,Js l=some (d,e,A)->A.length<=600000/\d.size<=maxLen/\∀a∈A,pM a/\(Ch a=true->Fh a):=by
 intro d e A h;unfold Js at h;have m:=Gv 10 l;have n:=Gi (Ao 10 l).1;have o:=Gv 32 (Aw (Ao 10 l).1);cases hr:Cp (Dp (Ao 10 l).2.1) with
 | none=>rw[hr] at h;cases h
 | some M=>rw[hr] at h;cases h;obtain⟨i,f⟩:=jR _ (Y8 _) hr;refine⟨by omega,by rw[Cz];unfold maxLen;omega,λa g=>?_⟩;obtain⟨x,k,b⟩:=f a g;exact⟨nV (by omega) b,λc=>Qb c (nF b)⟩
theorem ADU(s:Tb)(w:Tw)(a:s.size<=1000000)(b:Ik w)(d:Lw w)(c:Jp w):Zc 46 #[Zt s] w (Kx s.data.toList s w) :=
 jF ACP s w a b d c (uG (by rw[Gm];exact a))
theorem ACx{s:Tb}{b:Bool}{A:List A5}(h:Cv (s,b,A)=true)(c:∀a∈A,Fh a)(i:A.length<=12):0<(C6 (s,b,A)).size/\(C6 (s,b,A)).size<=1000000:=by
 have e:(C6 (s,b,A)).size=(I4 s b).size+(Ed A).length:=by show (Nn (s,b,A)).toArray.size=_;rw[XP,Nn,XB,Gm]
 simp only[Cv,Y9] at h;have d:=Ri b (XD (Hh h.1) (by decide));have f:=fC c
 have g:0<(I4 s b).size:=by unfold I4;have e9:(⟨#[10]⟩:Tb).size=1:=rfl;rw[Ea,e9];omega
 omega
