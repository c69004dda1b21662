import Derived.Test.YtbhhpheailbebaaGreatDoorRLs
import Derived.Stop.Asserts
set_option maxHeartbeats 40000000
set_option maxRecDepth 100000
open Bool renaming and_eq_true->Y9,and_eq_false_iff->XI,not_eq_true'->XW
open Go.World renaming putObj_heap_other->Y',block_lt_of_cell?->XN,putObj_heap_same->XX,alloc_heap_new->X2
open Nat renaming le_refl->XA,le_trans->XG,zero_le->XR,zero_add->WA,le_succ->WC
open List renaming length_cons->XB,mem_append->XE,mem_cons->XH,size_toArray->XJ,cons_append->XK,length_nil->XL,length_append->XM,length_drop->XO,length_map->XS,append_toArray->XT,getElem?_append_left->XU,push_toArray->XV,nil_append->XY,flatMap_cons->X',map_cons->Wb,map_map->WB
open Go.RowKit.Below renaming heap_alloc->XC,refl->XF,heap_setCell->X6
open Option renaming bind_some->XD
open Array renaming replicate_succ->XP,replicate_zero->XQ,getElem?_modify->XZ,length_toList->X4
namespace Go.Proofs.YtbhhpheailbebaaGreatDoor
open Tryz RowKit Lib Joins Maps Extern.Stop Stop Extern Go.Sort Shelf
attribute [local go_sem] Oper.semAt_some
theorem AB5(s sep:Tb)(w:Tw):
 Zc 302 #[Zt s,Zt sep,Zi 0] w λe a=>e=Zr (.func (.func 320) #[] #[Zp (some ⟨w.heap.size+1,0,none⟩),Zp (some ⟨w.heap.size,0,none⟩),Zp (some ⟨w.heap.size+2,0,none⟩)])/\a=((w.alloc (Zk #[Zt s] 9)).alloc (Zk #[Zt sep] 9)).alloc (Zk #[Zi 0] 3):=by
 go_enter func302,ntmps302;go_wp2;go_ret;exact⟨rfl,rfl⟩
theorem ACE(s sep:Tb)(w:Tw):
 Zc 270 #[Zt s,Zt sep] w λe a=>e=Zr (.func (.func 320) #[] #[Zp (some ⟨w.heap.size+1,0,none⟩),Zp (some ⟨w.heap.size,0,none⟩),Zp (some ⟨w.heap.size+2,0,none⟩)])/\a=((w.alloc (Zk #[Zt s] 9)).alloc (Zk #[Zt sep] 9)).alloc (Zk #[Zi 0] 3):=by
 go_enter func270,ntmps270;go_wp2_with (go_at_call 302;refine(AB5 _ _ _).mono ?_;rintro e b⟨rfl,rfl⟩);go_ret;exact⟨rfl,rfl⟩
structure pI(B:Nat)(r:List UInt8)(w:World):Prop where
 Gw:iN B r w
 sep:iN (B+1) [44] w
 save:w.heap[B+2]? = some (.cells #[Zi 0] 3 (0,0))
theorem pI.put{B:Nat}{r:List UInt8}{w:Tw}(h:pI B r w)(q:List UInt8):pI B q (w.setCell ⟨B,0,none⟩ (Zt (bA q))) :=
 ⟨h.Gw.put q,Cg h.sep (by omega),Cg h.save (by omega)⟩
theorem ABy(n:Nat)(_hn:1<=n)(l B:Nat)(h:List UInt8)(hlen:h.length<=1000000)(I:List (List UInt8)->Tw->Prop)(O:Tw->Prop)(G:∀pre W v,I pre W->I pre (W.setCell ⟨B,0,none⟩ v))(V:∀pre a W v,(∃t,Dd 44 h=pre++a :: t)->a.length<=1000000->I pre W->pI B v W->YieldAt Fence.wide (n-1) prog l #[Zt (bA a)] W λe p=>
   (e=Zr (Zo true)/\I (pre++[a]) p/\pI B v p)\/(e=Zr (Zo false)/\O p))(W:Tw)(U:pI B h W)(h0:I [] W):
 CallsIn Fence.wide n prog 320 #[.func (.yield l) #[] #[],Zp (some ⟨B+1,0,none⟩),Zp (some ⟨B,0,none⟩),Zp (some ⟨B+2,0,none⟩)] W λe p=>(∃v,e=Zr v)/\(I (Dd 44 h) p\/O p):=by
 refine callsIn_of_wp func320 rfl trivial ?_ rfl;simp only[ntmps320,XJ,XB,XL,Nat.reduceAdd,Nat.reduceSub,XP,XQ,XV,XT,XY,XK];have L:W.cell? ⟨B+1,0,none⟩=some (Zt ⟨#[44]⟩):=U.sep.cell;gi_wp2;clear L
 gi_loopw [7,8] (λ_ _ wr=>∃(pre:List (List UInt8))(r:List UInt8),Hid (Dd 44 h=pre++Dd 44 r)/\r.length<=1000000/\Hid (I pre wr)/\Hid (pI B r wr)) (λ_ _ wr=>mV B wr)
 case atStart=>exact⟨[],h,Aa rfl,hlen,Aa h0,Aa U⟩
 case round=>
  obtain⟨pre,r,x,hr,N,o⟩:=hrel;have hc:=o.o.Gw.cell;have hf:=o.o.Gw.frozen;have aa:wr.cell? ⟨B+1,0,none⟩=some (Zt ⟨#[44]⟩):=o.o.sep.cell;have ab:=(I2 o.o.save).1;have M:(bA r).size=r.length:=Cz;have J:=Mt hc;have f:=Aa (λW=>strings_Index_one (bA r) 44 W);rw[B5] at f
  rcases O3 r 44 with k|⟨i,k⟩
  ·have b:=Np k
   rw[k] at f;have c:Dd 44 r=[r]:=by rw[Dd,dif_neg (by rw[b];simp)]
   obtain⟨Y,tmps,assign,body,X,u⟩:=V pre r wr r ⟨[],by rw[x.o,c]⟩ hr N.o o.o;have D:=Aa u;have j:Hid (Dd 44 h=pre++[r]):=Aa (by rw[x.o,c]);clear k b c u;gi_wp2_with (refine⟨trivial,?_⟩;gi_at_call 322;refine(callsIn_wide.2 (f.o _)).mono ?_;rintro e w1⟨rfl,rfl⟩);refine D.o.mono ?_;rintro e P (⟨rfl,g,d⟩|⟨rfl,m⟩)
   ·gi_wp2
    go_end0
    refine⟨⟨_,rfl⟩,.inl ?_⟩;rw[j.o];exact g
   gi_wp2
   go_end0
   exact⟨⟨_,rfl⟩,.inr m⟩
  obtain⟨b,w⟩:=J0 k;rw[k] at f;have R:bA (r.take i)=(bA r).extract 0 i:=by rw[extract_eq,B5];simp[bA]
  have T:bA (r.drop (i+1))=(bA r).extract (i+1) (bA r).size:=by rw[extract_eq,B5,Yd (by rw[XO,Cz];exact XA _)];rfl
  have c:Dd 44 r=r.take i :: Dd 44 (r.drop (i+1)):=by rw[Dd,dif_pos (by rw[b]),b]
  obtain⟨Y,tmps,assign,body,X,u⟩:=V pre (r.take i) wr r ⟨_,by rw[x.o,c]⟩ (by rw[List.length_take];omega) N.o o.o;rw[R] at X;have D:=Aa u;have j:Hid (Dd 44 h=(pre++[r.take i])++Dd 44 (r.drop (i+1))):=Aa (by rw[x.o,c];simp);have q:=Aa T;have z:=Aa w;have c1:(0:Int)<=(i:Int):=by omega
  have c0:(i:Int)<=1000000:=by omega
  have c3:(0:Int)<=(i:Int)+1:=by omega
  have c4:(i:Int)+1<=((bA r).size:Int):=by omega
  have c5:(i:Int)<=((bA r).size:Int):=by omega
  clear k b c u R T w M;gi_wp2_with (refine⟨trivial,?_⟩;gi_at_call 322;refine(callsIn_wide.2 (f.o _)).mono ?_;rintro e w1⟨rfl,rfl⟩);refine D.o.mono ?_;rintro e P (⟨rfl,g,d⟩|⟨rfl,m⟩)
  ·have y:=Aa g
   have s:=Aa d;have d1:=d.Gw.cell;have d2:P.cell? ⟨B+1,0,none⟩=some (Zt ⟨#[44]⟩):=d.sep.cell;have d3:=d.Gw.frozen;clear g d;gi_wp2
   go_roundw
   case rel=>
    refine⟨pre++[r.take i],r.drop (i+1),j,by rw[XO];omega,Aa ?_,Aa ?_⟩
    ·exact G _ _ _ y.o
    rw[<-q.o];exact s.o.put _
   case measure=>rw[<-q.o,Mt (s.o.put _).Gw.cell,J,XO];have:=z.o;omega
  gi_wp2;refine bodyPost_ret (results_none rfl _ _ _) rfl ?_;exact⟨⟨_,rfl⟩,.inr m⟩
theorem pI.kept{B:Nat}{r:List UInt8}{X:Tw}{q:Nat}{o c:Obj}(h:pI B r X)(a:X.heap[q]? = some o)(b:o.isCells=false):pI B r (X.putObj q c):=by refine⟨h.Gw.kept a b,h.sep.kept a b,(Y' (λe=>?_)).trans h.save⟩;subst e;rw[h.save] at a;cases a;cases b
theorem yO(m B:Nat)(o:1<=m)(c:List UInt8)(hlen:c.length<=1000000):
 aX m 320 #[Zp (some ⟨B+1,0,none⟩),Zp (some ⟨B,0,none⟩),Zp (some ⟨B+2,0,none⟩)] B (λ(pre:List (List UInt8))args b=>∃a t,args=#[Zt (bA a)]/\Dd 44 c=pre++a :: t/\a.length<=1000000/\b=pre++[a]) [] (λpre=>pre=Dd 44 c) (pI B) (pI B c):=by
 intro l J f W i j n k g;refine(ABy m o l B c hlen J f (λpre W v h=>i.set h v) (λpre a W1 v ht hl hj d=>by obtain⟨t,ht⟩:=ht;exact n pre _ (pre++[a]) W1 v ⟨a,t,rfl,ht,hl,rfl⟩ hj d) W k g).mono ?_;rintro e p⟨d,h|h⟩
 ·exact⟨d,.inl ⟨_,rfl,h⟩⟩
 exact⟨d,.inr h⟩
def dN{β γ:Type}(m gf:Nat)(lb:Array Value)(B:Nat)(R:β->Array Value->β->Prop)(i:β)(E:β->Prop)(d:γ->World->Prop)(h:World->Prop):Prop :=
 ∀(l:Nat)(J:β->World->Prop)(c:World->Prop)(W:World),iM B W.heap.size J->iM B W.heap.size (λ(_:Unit)=>c) ->
  (∀b args g f v,R b args g->J b f->d v f->YieldAt Fence.wide (m-1) prog l args f λe a=>(e=.returned (.bool true)/\J g a/\d v a)\/(e=.returned (.bool false)/\c a/\d v a)) ->
  h W->J i W->CallsIn Fence.wide m prog gf (#[.func (.yield l) #[] #[]]++lb) W λe a=>(∃v,e=.returned v)/\((∃b,E b/\J b a)\/c a)
def uD{β γ:Type}(w0:Nat)(a:γ->World->Prop)(v:γ)(I:β->World->Prop)(b:Code->World->Prop)(c:β)(W:World):Exit->Act->World->Prop
 | .normal,_,W'=>KeepsFrom w0 W W'/\I c W'/\a v W'
 | .ret,_,W'=>KeepsFrom w0 W W'/\b .ret W'/\a v W'
 | _,_,_=>False
theorem zQ{β γ:Type}{g:Operand}{ps:Array Tmp}{assign body:Code}{Q:Exit->Act->Tw->Prop}{a:Act}{w:Tw}{n:Nat}(h1:1<=n){gf:Nat}{lb:Array Tv}(hg:a.eval g=.func (.func gf) #[] lb)(eg:∀args w,(callFunc gf args).run prog w=.ok (.enter gf args) w){B:Nat}{R:β->Array Tv->β->Prop}{b0:β}{E:β->Prop}{Kp:γ->Tw->Prop}{T0:Tw->Prop}(ag:dN (n-1) gf lb B R b0 E Kp T0)(N:∀v X o o',Kp v X->X.heap[w.heap.size+1]? = some o->o.isCells=false->Kp v (X.putObj (w.heap.size+1) o'))(af:∀b args L,R b args L->args.size=ps.size)(ap:B≠w.heap.size)(aq:B≠w.heap.size+1)(I:β->Tw->Prop)(Ix:Code->Tw->Prop)(hI:iM B w.heap.size I)(M:∀c,iM B w.heap.size (λ(_:Unit)=>Ix c))(h0:I b0 w)(hT:∀r,T0 ((w.alloc (.deferred (some []))).alloc (.loop r)))(a1:Array Tv->Act)(z:∀(l:Nat)(args:Array Tv)(W:Tw)(K:Act->Tw->Prop),args.size=ps.size->K (a1 args) W ->
   assign.wpIn (Fence.wide.inRound l) (n-1-1) prog (Exit.then K (λ_ _ _=>False)) { tmps:=(ps.zip args).foldl (λt(p,v)=>t.setIfInBounds p v) a.tmps,defers:=[] } W)(O:∀(l:Nat)(b:β)(args:Array Tv)(L:β)(W:Tw)(v:γ),w.heap.size<=l->R b args L->I b W->Kp v W->body.wpIn (Fence.wide.inRound l) (n-1-1) prog (uD w.heap.size Kp v I Ix L W) (a1 args) W)(T:∀(D:Nat)(b:β)(W:Tw),w.heap.size<=D->E b->I b W->W.heap[D]? = some (.deferred (some []))->Q .normal { a with defers:={ target:=.collected D,args:=#[] } :: a.defers } W)(ab:∀(D:Nat)(c:Code)(W:Tw),w.heap.size<=D->Ix c W->W.heap[D]? = some (.deferred (some []))->c.wpIn Fence.wide n prog Q { a with defers:={ target:=.collected D,args:=#[] } :: a.defers } W):
 (Code.rangeFunc g ps assign body).wpIn Fence.wide n prog Q a w:=by
 refine wpIn_rangeFunc λfn al=>?_
 obtain⟨d,f⟩:∃d:LoopState->Option Code->Loop,d=λst pe=>{ state:=st,pending:=pe,fn,tmps:=a.tmps,params:=ps,assign,body,defers:=w.heap.size }:=⟨_,rfl⟩
 obtain⟨u,x⟩:∃u,(w.alloc (.deferred (some []))).alloc (.loop (d .ready none))=u:=⟨_,rfl⟩;have ar:u.heap.size=w.heap.size+2:=by rw[<-x];simp
 have aj:u.heap[w.heap.size+1]? = some (.loop (d .ready none)):=by rw[<-x];have:=X2 (w.alloc (.deferred (some []))) (.loop (d .ready none));rwa[World.size_alloc] at this
 have ai:u.heap[w.heap.size]? = some (.deferred (some [])):=by rw[<-x];exact(XC _ _ _ (by simp)).trans (X2 w _)
 have ah:I b0 u:=by rw[<-x];exact hI.alloc (hI.alloc h0 _) _
 have ak:T0 u:=by rw[<-x];exact hT _
 have m:∀{X Y:Tw}{row:Option Nat}(k:Nat)(o:Obj),k<w.heap.size+2->w.heap.size<=k->X.heap[k]? = some o->X.grownBy Y row->(∀r,row=some r->r=B\/(u.heap.size<=r/\∃o:Obj,X.heap[r]? = some o/\o.isCells=false))->Y.heap[k]? = some o:=by
  intro X Y row k o hk ae ho j s;refine(j.block k (Ac ho) (λe=>?_)).trans ho
  rcases s k e.symm with h|⟨h,_⟩
  ·omega
  omega
 have lift:∀{X:Tw}{row:Option Nat},(∀r,row=some r->r=B\/(u.heap.size<=r/\∃o:Obj,X.heap[r]? = some o/\o.isCells=false))->∀r,row=some r->r=B\/(w.heap.size<=r/\∃o:Obj,X.heap[r]? = some o/\o.isCells=false) :=
  λs r e=>(s r e).imp id (λ⟨q,o⟩=>⟨by omega,o⟩)
 refine⟨w.heap.size+1,[{ target:=.collected w.heap.size,args:=#[] }],u,{ target:=.fn (.func gf) lb,args:=#[.func (.yield (w.heap.size+1)) #[] #[]] },u,gf,
  #[.func (.yield (w.heap.size+1)) #[] #[]]++lb,u,?_,?_,λ_ _=>trivial,?_,λ_=>h1,?_⟩
 ·rw[<-x,f];exact run_enterLoop_outer _ _ _ _ _
 ·simp only[resolve,hg]
  simp[go_sem]
 ·simp[invoke,go_sem,eg]
 refine(ag (w.heap.size+1)
  (λb W=>I b W/\W.heap[w.heap.size+1]? = some (.loop (d .ready none))/\W.heap[w.heap.size]? = some (.deferred (some [])))
  (λW=>∃c,Ix c W/\W.heap[w.heap.size+1]? = some (.loop (d .done (some c)))/\W.heap[w.heap.size]? = some (.deferred (some []))) u
  (λb X Y row hs j s=>⟨hI b X Y row hs.1 j (lift s),m _ _ (by omega) (by omega) hs.2.1 j s,m _ _ (by omega) (by omega) hs.2.2 j s⟩)
  (λb X Y row hs j s=>by obtain⟨c,hc,q1,q2⟩:=hs;exact⟨c,M c () X Y row hc j (lift s),m _ _ (by omega) (by omega) q1 j s,m _ _ (by omega) (by omega) q2 j s⟩)
  ?_ ak ⟨ah,aj,ai⟩).mono ?_
 ·rintro b args L W v hR⟨hi,G,hk⟩hv
  have an:w.heap.size+1<W.heap.size:=Ac G;have hy:=run_yield (P:=prog) (args:=args) G (by rw[f];exact af b args L hR);rw[f] at hy;refine⟨fn,_,assign,body,hy,roundIn_of_wpIn al (z _ args W _ (af b args L hR) ⟨_,run_beginRound G (by rw[f]),?_⟩)⟩;have am:(W.putObj (w.heap.size+1) (.loop { d .ready none with state:=.busy })).heap[w.heap.size+1]? = some (.loop { d .ready none with state:=.busy }):=XX an;have ae:(W.putObj (w.heap.size+1) (.loop { d .ready none with state:=.busy })).heap[w.heap.size]? = some (.deferred (some [])):=(Y' (by omega)).trans hk;have ao:Kp v (W.putObj (w.heap.size+1) (.loop { d .ready none with state:=.busy })):=N _ _ _ _ hv G rfl;refine wpIn_mono (O _ b args L _ v (by omega) hR (hI.put hi G rfl (by omega) _) ao) ?_
  have ad:∀(jump:Option Code)(J:Tw),KeepsFrom w.heap.size (W.putObj (w.heap.size+1) (.loop { d .ready none with state:=.busy })) J ->
   (Instr.endRound (w.heap.size+1) jump).run prog J=.ok (Zo jump.isNone) (J.putObj (w.heap.size+1) (.loop (d (if jump.isNone then .ready else .done) jump))) /\
   J.heap[w.heap.size+1]? = some (.loop { d .ready none with state:=.busy }) /\
   (J.putObj (w.heap.size+1) (.loop (d (if jump.isNone then .ready else .done) jump))).heap[w.heap.size+1]? = some (.loop (d (if jump.isNone then .ready else .done) jump)) /\
   (J.putObj (w.heap.size+1) (.loop (d (if jump.isNone then .ready else .done) jump))).heap[w.heap.size]? = some (.deferred (some [])):=λjump J y=>by
   have i:=y.same _ _ (by omega) am rfl;have:=run_endRound (P:=prog) jump i;rw[f] at this ⊢;exact⟨this,by rw[f] at i;exact i,XX (Ac i),(Y' (by omega)).trans (y.same _ _ (XA _) ae rfl)⟩
  rintro e a3 J hp;cases e with
  | normal=>obtain⟨y,U,ac⟩:=hp;obtain⟨s,i,aa,V⟩:=ad none J y;exact⟨_,_,s,.inl ⟨rfl,⟨hI.put U i rfl (by omega) _,aa,V⟩,N _ _ _ _ ac i rfl⟩⟩
  | ret=>obtain⟨y,U,ac⟩:=hp;obtain⟨s,i,aa,V⟩:=ad (some .ret) J y;exact⟨_,_,s,.inr ⟨rfl,⟨.ret,(M .ret).put (b:=()) U i rfl (by omega) _,aa,V⟩,N _ _ _ _ ac i rfl⟩⟩
  | exit id=>exact hp.elim
  | goto t=>exact hp.elim
  | panic ch=>exact hp.elim
  | outgrown=>exact hp.elim
 rintro e W2⟨⟨v,rfl⟩,(⟨b,hE,hi,G,hk⟩|⟨c,hi,G,hk⟩)⟩
 ·exact⟨none,_,by have:=run_endLoop (P:=prog) G (by rw[f];simp);rw[f] at this;exact this,T _ b _ (XA _) hE (hI.put hi G rfl (by omega) _) ((Y' (by omega)).trans hk)⟩
 exact⟨some c,_,by have:=run_endLoop (P:=prog) G (by rw[f];simp);rw[f] at this;exact this,ab _ c _ (XA _) ((M c).put (b:=()) hi G rfl (by omega) _) ((Y' (by omega)).trans hk)⟩
theorem ACK{l l' n n':Nat}{f:FuncId}{tmps:Array Tv}{assign body:Code}{w:Tw}{R:Ending->Tw->Prop}(h:RoundIn Fence.wide n prog l f tmps assign body w R):RoundIn (Fence.wide.inRound l') n' prog l f tmps assign body w R :=
 ⟨h.1,λc cs _=>h.2 c cs (room_wide _)⟩
variable{W Y:Tw}
attribute [local go_sem] Oper.semAt_some
theorem rX(s:Tb)(w:Tw):
 Zc 228 #[Zt s] w λe a=>e=Zr (.func (.func 269) #[] #[Zp (some ⟨w.heap.size,0,none⟩)])/\a=w.alloc (Zk #[Zt s] 9):=by
 go_enter func228,ntmps228;go_wp2;go_ret;exact⟨rfl,rfl⟩
structure KpN(Y:Nat)(v:List UInt8×World)(W:World):Prop where
 sp:pI (Y+1) v.1 W
 keep:KeepsFrom (Y+4) v.2 W
 err:Ik W
 yb:W.heap[Y]? = v.2.heap[Y]?
def AK8(d:List UInt8)(pre:List (List UInt8))(args:Array Value)(b:List (List UInt8)):Prop:=∃a t n c,args=#[Zi n,c]/\Dd 44 d=pre++a :: t/\b=pre++[a]/\((numOf a=some n/\c=.nilIface)\/(numOf a=none/\∃t x,c=.iface t x))
theorem lN{B:Nat}{row:Option Nat}(h:Ik W)(j:B≠5)(d:B≠6)(m:W.grownBy Y row)(p:∀r,row=some r->r=B\/(∃o:Obj,W.heap[r]? = some o/\o.isCells=false)):Ik Y:=by
 obtain⟨⟨t1,q,g⟩,t2,s,i⟩:=h
 have a:∀(b:Nat)(v:Tv),b≠B->W.cell? ⟨b,0,none⟩=some v->Y.cell? ⟨b,0,none⟩=some v:=λb v k c=>by
  have f:=Fv c
  have e:=m.block b f (λe=>by
   rcases p b e.symm with rfl|⟨o,n,l⟩
   ·exact k rfl
   simp only[World.cell?,n] at c;cases o <;> simp_all [Obj.isCells])
  simp only[World.cell?,e] at c ⊢;exact c
 exact⟨⟨t1,q,a _ _ (Ne.symm j) g⟩,t2,s,a _ _ (Ne.symm d) i⟩
theorem ABt(h:Zb W Y):W.grownBy Y none:=⟨h.os,h.tape,h.output,h.size,λk a _=>h.block k a⟩
theorem iM.up{β:Type}{B n:Nat}{J:β->Tw->Prop}(h:iM B n J){b:β}(c:J b W)(a:Zb W Y):J b Y:=h b W Y none c (ABt a) (λr e=>by cases e)
theorem cF(w:Tw)(a b c d:Obj):((((w.alloc a).alloc b).alloc c).alloc d).heap.size=w.heap.size+4/\((((w.alloc a).alloc b).alloc c).alloc d).heap[w.heap.size]? = some a/\((((w.alloc a).alloc b).alloc c).alloc d).heap[w.heap.size+1]? = some b/\((((w.alloc a).alloc b).alloc c).alloc d).heap[w.heap.size+2]? = some c/\((((w.alloc a).alloc b).alloc c).alloc d).heap[w.heap.size+3]? = some d/\Zb w ((((w.alloc a).alloc b).alloc c).alloc d):=by
 obtain⟨e,i,j,k⟩:=C1 w a b;obtain⟨f,g,h,b3⟩:=C1 ((w.alloc a).alloc b) c d
 change Below _ _ _ at b3
 rw[e] at f g h b3;exact⟨f,(b3.block _ (by omega)).trans i,(b3.block _ (by omega)).trans j,g,h,Below.Ap k (by change Below _ _ _;rw[e];exact b3)⟩
theorem pI.AFy{B:Nat}{r:List UInt8}{X:Tw}(h:pI B r X)(a:Zb X Y):pI B r Y:=⟨(a.block _ (Ac h.Gw)).trans h.Gw,(a.block _ (Ac h.sep)).trans h.sep,(a.block _ (Ac h.save)).trans h.save⟩
def AKA(b:List (List UInt8))(J:List (List UInt8)->World->Prop)(a:World->Prop)(c:World->Prop)(e:Ending)(W:World):Prop:=∃ok:Bool,e=.returned (.bool ok)/\c W/\((ok=true/\J b W)\/(ok=false/\a W))
theorem oQ(m Y Bs:Nat)(hm:3<=m)(j:List UInt8)(hlen:j.length<=1000000):
 dN m 269 #[Zp (some ⟨Bs,0,none⟩)] (Y+1) (AK8 j) [] (λpre=>pre=Dd 44 j) (KpN Y) (λW=>W.heap.size=Y/\iN Bs j W/\Ik W):=by
 rintro l J Jx W z N hY⟨rfl,ad,i⟩h0;have w:iN Bs j (W.alloc (Zk #[.func (.yield l) #[] #[]] 350)):=(XC W _ Bs (Ac ad)).trans ad;have O:=w.cell;refine callsIn_of_wp_marks func269 rfl trivial ?_ rfl;simp only[ntmps269,XJ,XB,XL,Nat.reduceAdd,Nat.reduceSub,XP,XQ,XV,XT,XY,XK];gi_wp2_with (refine⟨trivial,λ_=>by omega,?_⟩;gi_at_call 270;refine(callsIn_wide.2 (ACE _ _ _)).mono ?_;rintro e w5⟨rfl,rfl⟩);obtain⟨y0,y1,y2,y3,y4,y5⟩:=cF W (Zk #[.func (.yield l) #[] #[]] 350) (Zk #[Zt (bA j)] 9) (Zk #[Zt ⟨#[44]⟩] 9) (Zk #[Zi 0] 3);have ag:J [] ((((W.alloc (Zk #[.func (.yield l) #[] #[]] 350)).alloc (Zk #[Zt (bA j)] 9)).alloc (Zk #[Zt ⟨#[44]⟩] 9)).alloc (Zk #[Zi 0] 3)):=z.alloc (z.alloc (z.alloc (z.alloc h0 _) _) _) _;have ai:=i.below y5;have ah:pI (W.heap.size+1) j ((((W.alloc (Zk #[.func (.yield l) #[] #[]] 350)).alloc (Zk #[Zt (bA j)] 9)).alloc (Zk #[Zt ⟨#[44]⟩] 9)).alloc (Zk #[Zi 0] 3)):=⟨y2,y3,y4⟩;have ak:W.heap.size+1≠5:=by obtain⟨⟨_,_,h⟩,_⟩:=i;have:=Fv h;omega
 have al:W.heap.size+1≠6:=by obtain⟨_,_,_,h⟩:=i;have:=Fv h;omega
 clear O w y2 y3 y4;generalize (((W.alloc (Zk #[.func (.yield l) #[] #[]] 350)).alloc (Zk #[Zt (bA j)] 9)).alloc (Zk #[Zt ⟨#[44]⟩] 9)).alloc (Zk #[Zi 0] 3)=w4 at *;refine dL 3 (by omega) rfl (λ_ _=>rfl) (yO (m-1) (W.heap.size+1) (by omega) j hlen) (λv X r o o' h ho O=>pI.kept h ho O) (λb args b'⟨_,_,h,_⟩=>by rw[h];rfl) (by omega) (by omega) (λpre X=>J pre X/\Ik X/\X.heap[W.heap.size]? = some (Zk #[.func (.yield l) #[] #[]] 350 (0,0))) (λc X=>c=.ret/\Jx X) ?ab ?abx ?h0 ?hT ?hassign ?hbody ?hdone ?hstop
 case ab=>
  rintro pre X Z row⟨I,U,f⟩V hr;refine⟨z pre X Z row I V (λr e=>(hr r e).imp id (λh=>⟨by omega,h.2⟩)),lN U ak al V (λr e=>(hr r e).imp id And.right),(V.block _ (Ac f) (λe=>?_)).trans f⟩
  rcases hr _ e.symm with h|h
  ·omega
  have:=h.1;omega
 case abx=>rintro c b X Z row⟨O,hX⟩V hr;exact⟨O,N () X Z row hX V (λr e=>(hr r e).imp id (λh=>⟨by omega,h.2⟩))⟩
 case h0=>exact⟨ag,ai,y1⟩
 case hT=>intro r;exact ah.AFy ((Zal).alloc (by simp) _)
 case hassign=>intro l v W K hK;gi_wp2;exact hK
 case hbody=>
  rintro l' pre v an X t hl⟨a,t',hv,ac,ao,rfl⟩⟨I,U,f⟩hk;cases hv;have P:=(I2 f).1
  have ae:Hid (∀Z,Ik Z->Zc 185 #[Zt (bA a)] Z (Ns a Z)):=Aa (λZ h=>by have:=Ud (bA a) Z (by rw[Cz];omega) h;rw[B5] at this;exact this)
  have aj:Ik X.drew:=U.below (XF _ _).drew
  have L:Hid (∀n y g,Below X.drew.heap.size X.drew g->((numOf a=some n/\y=Zn)\/(numOf a=none/\∃t x,y=Zf t x))->∃M tmps assign body,(Instr.yield l #[Zi n,y]).run prog g=.ok (.round l M tmps assign body) g/\∀l' k,RoundIn (Fence.wide.inRound l') k prog l M tmps assign body g (AKA (pre++[a]) J Jx (KpN W.heap.size (t,g)))):=Aa (λn y g hb u=>by
   have G:Zb X g:=Below.Ap (XF _ _).drew hb;obtain⟨M,tmps,assign,body,hy,hR⟩:=hY pre _ (pre++[a]) g (t,g) ⟨a,t',n,y,rfl,ac,rfl,u⟩ (z.up I G) ⟨hk.AFy G,KeepsFrom.refl _ _,U.below G,rfl⟩;refine⟨M,tmps,assign,body,hy,λl' k=>ACK (hR.mono ?_)⟩;rintro e W3 (⟨rfl,h1,h2⟩|⟨rfl,h1,h2⟩)
   ·exact⟨true,rfl,h2,.inl ⟨rfl,h1⟩⟩
   exact⟨false,rfl,h2,.inr ⟨rfl,h1⟩⟩)
  have HX:=Aa f;clear hY I hk ac;gi_wp2_with fail
  gi_region_with (first
   | (refine⟨trivial,λ_=>by omega,?_⟩;gi_at_call 185;refine(CallsIn.inRound l' (callsIn_wide.2 (ae.o _ aj))).mono ?_;rintro e g⟨n,y,rfl,d,u⟩
      obtain⟨M,tmps,assign,body,hy,hR⟩:=L.o n y g d u;have HR:=Aa hR;have af:=Aa d;have R:=(d.cell (p:=⟨W.heap.size,0,none⟩) (Ac HX.o)).trans P;clear hR d u)
   | (refine(HR.o _ _).mono ?_;rintro e W3⟨b,rfl,q⟩)
   | (refine⟨λ_=>by omega,(HR.o _ _).mono ?_⟩;rintro e W3⟨b,rfl,q⟩)
   | (refine⟨trivial,λ_=>by omega,(HR.o _ _).mono ?_⟩;rintro e W3⟨b,rfl,q⟩))
  all_goals
   rename_i K0 hK0;obtain⟨s,q⟩:=q;refine hK0 _ _ ?_;have d:Zb X g:=Below.Ap (XF _ _).drew af.o;have aa:KeepsFrom w4.heap.size X W3:=by rw[y0];exact(Ie d).trans s.keep
   have am:=s.yb.trans ((d.block _ (Ac HX.o)).trans HX.o);clear hK0 hy R P HR L
   rcases q with⟨rfl,q⟩|⟨rfl,q⟩
   ·gi_wp2
    exact⟨aa,⟨q,s.err,am⟩,s.sp⟩
   gi_wp2;exact⟨aa,rfl,q⟩
 case hdone=>rintro D pre X hD rfl⟨I,U,f⟩T;show LeavesInM Fence.wide m prog f269 _ _ _ .returning X;refine⟨by simp,.inl ⟨_,_,rfl,run_takeDeferred T,?_⟩⟩;exact⟨Zu #[],results_none rfl _ _ _,⟨_,rfl⟩,.inl ⟨_,rfl,z.put I T rfl (by omega) _⟩⟩
 case hstop=>rintro D c X hD⟨rfl,hX⟩T;gi_wp2;refine⟨by simp,.inl ⟨_,_,rfl,run_takeDeferred T,?_⟩⟩;exact⟨Zu #[],results_none rfl _ _ _,⟨_,rfl⟩,.inr (N.put (b:=()) hX T rfl (by omega) _)⟩
variable{W Y w:Tw}{n:Nat}
attribute [local go_sem] Oper.semAt_some
theorem vJ{β γ:Type}{g:Operand}{p y:Tmp}{assign body:Code}{Q:Exit->Act->Tw->Prop}{a:Act}(q O:Tmp)(h1:1<=n){gf:Nat}{lb:Array Tv}(hg:a.eval g=.func (.func gf) #[] lb)(V:∀args w,(callFunc gf args).run prog w=.ok (.enter gf args) w){B:Nat}{R:β->Array Tv->β->Prop}{T:β}{E:β->Prop}{k:γ->Tw->Prop}{P:Tw->Prop}(s:dN (n-1) gf lb B R T E k P)(N:∀v X o o',k v X->X.heap[w.heap.size+1]? = some o->o.isCells=false->k v (X.putObj (w.heap.size+1) o'))(m:∀b args e,R b args e->args.size=2)(J:B≠w.heap.size)(L:B≠w.heap.size+1)(I:β->Tw->Prop)(G:Code->Tw->Prop)(hI:iM B w.heap.size I)(M:∀c,iM B w.heap.size (λ(_:Unit)=>G c))(Y:I T w)(hT:∀r,P ((w.alloc (.deferred (some []))).alloc (.loop r)))(d:∀(l:Nat)(v u:Tv)(W:Tw)(K:Act->Tw->Prop),K { tmps:=(((a.tmps.setIfInBounds p v).setIfInBounds y u).setIfInBounds q v).setIfInBounds O u,defers:=[] } W ->
   assign.wpIn (Fence.wide.inRound l) (n-1-1) prog (Exit.then K (λ_ _ _=>False)) { tmps:=(a.tmps.setIfInBounds p v).setIfInBounds y u,defers:=[] } W)(f:∀(l:Nat)(b:β)(v u:Tv)(e:β)(W:Tw)(t:γ),w.heap.size<=l->R b #[v,u] e->I b W->k t W->body.wpIn (Fence.wide.inRound l) (n-1-1) prog (uD w.heap.size k t I G e W) { tmps:=(((a.tmps.setIfInBounds p v).setIfInBounds y u).setIfInBounds q v).setIfInBounds O u,defers:=[] } W)(i:∀(D:Nat)(b:β)(W:Tw),w.heap.size<=D->E b->I b W->W.heap[D]? = some (.deferred (some []))->Q .normal { a with defers:={ target:=.collected D,args:=#[] } :: a.defers } W)(j:∀(D:Nat)(c:Code)(W:Tw),w.heap.size<=D->G c W->W.heap[D]? = some (.deferred (some []))->c.wpIn Fence.wide n prog Q { a with defers:={ target:=.collected D,args:=#[] } :: a.defers } W):
 (Code.rangeFunc g #[p,y] assign body).wpIn Fence.wide n prog Q a w:=by
 have z:∀args:Array Tv,args.size=2->∃v u,args=#[v,u]:=λargs h=>by
  rcases args with⟨_|⟨v,_|⟨u,_|⟨x,r⟩⟩⟩⟩
  ·cases h
  ·cases h
  ·exact⟨v,u,rfl⟩
  simp at h
 refine zQ h1 hg V s N m J L I G hI M Y hT (λargs=>{ tmps:=(((a.tmps.setIfInBounds p (args.getD 0 undef)).setIfInBounds y (args.getD 1 undef)).setIfInBounds q (args.getD 0 undef)).setIfInBounds O (args.getD 1 undef),defers:=[] }) ?_ ?_ i j
 ·intro l args W K hs hK
  obtain⟨v,u,rfl⟩:=z args hs;have:=d l v u W K hK;simpa using this
 intro l b args e W t hl U hi hk;obtain⟨v,u,rfl⟩:=z args (m b args e U);exact f l b v u e W t hl U hi hk
theorem Xd:∀{pre:List (List UInt8)}{L:List Int}{a:List UInt8}{x:Int},Dr pre=some L->numOf a=some x->Dr (pre++[a])=some (L++[x])
 | [],L,a,x,h,hx=>by simp only[Dr] at h;cases h;simp[Dr,hx]
 | p :: pre,L,a,x,h,hx=>by
   simp only[Dr] at h;cases hp:numOf p with
   | none=>rw[hp] at h;cases h
   | some y=>
     rw[hp] at h;simp only[XD] at h;cases hr:Dr pre with
     | none=>rw[hr] at h;cases h
     | some M=>rw[hr] at h;cases h;simp only[XK,Dr,hp,XD,Xd hr hx];rfl
theorem aA:∀{pre:List (List UInt8)}{a:List UInt8}{t:List (List UInt8)},numOf a=none->Dr (pre++a :: t)=none
 | [],a,t,h=>by simp[Dr,h]
 | p :: pre,a,t,h=>by simp only[XK,Dr];rw[aA h];cases numOf p <;> rfl
theorem cJ:∀{pre:List (List UInt8)}{M:List Int},Dr pre=some M->M.length=pre.length
 | [],M,h=>by simp only[Dr] at h;cases h;rfl
 | p :: pre,M,h=>by
   simp only[Dr] at h;cases hp:numOf p with
   | none=>rw[hp] at h;cases h
   | some y=>
     rw[hp] at h;simp only[XD] at h;cases hr:Dr pre with
     | none=>rw[hr] at h;cases h
     | some N=>rw[hr] at h;cases h;simp[cJ hr]
theorem gS(c:UInt8):∀(n:Nat)(s:List UInt8),s.length<=n->(Dd c s).length<=s.length+1
 | n,s,hn=>by
   rw[Dd];split
   ·rename_i h
    have a:s≠[]:=by rintro rfl;simp[Ao] at h
    have b:=Un c a;cases n with
    | zero=>exact absurd (List.length_eq_zero_iff.1 (by omega)) a
    | succ n=>have:=gS c n (Ao c s).2.1 (by omega);simp only[XB];omega
   simp
structure PlI(w:World)(pre:List (List UInt8))(W:World)(L:List Int)(aa:Option Addr)(ac:Nat):Prop where
 box:W.heap[w.heap.size+2]? = some (.cells #[.slice aa L.length ac] 28 (0,0))
 AHU:Dr pre=some L
 row:W.ownsRow (w.heap.size+10) 3 1 (.slice aa L.length ac) L.length (L.map (.int .i64))
 res:W.heap[w.heap.size]? = some (.cells #[.slice none 0 0] 28 (0,0))
 ok:W.heap[w.heap.size+1]? = some (.cells #[.bool false] 4 (0,0))
 low:Zb w W
theorem PlI.free{pre:List (List UInt8)}{L:List Int}{c:To}{row:Option Nat}(h:PlI w pre W L c n)(b:W.grownBy Y row)(d:∀r,row=some r->r=w.heap.size+7\/(w.heap.size+4<=r/\∃o:Obj,W.heap[r]? = some o/\o.isCells=false)):PlI w pre Y L c n:=by
 have a:∀r,row=some r->r=w.heap.size+7\/(∃o:Obj,W.heap[r]? = some o/\o.isCells=false):=λr e=>(d r e).imp id And.right
 refine⟨Ht h.box (by omega) b a,h.AHU,Le h.row (by omega) b a,Ht h.res (by omega) b a,Ht h.ok (by omega) b a,h.low.grown b h.low.size (λj f=>?_)⟩
 rcases d j f with rfl|⟨g,_⟩ <;> omega
structure PlX(w:World)(t0:List UInt8)(W:World):Prop where
 bad:Dr (Dd 44 t0)=none
 res:W.heap[w.heap.size]? = some (.cells #[.slice none 0 0] 28 (0,0))
 ok:W.heap[w.heap.size+1]? = some (.cells #[.bool false] 4 (0,0))
 low:Zb w W
theorem PlX.free{l:List UInt8}{row:Option Nat}(h:PlX w l W)(b:W.grownBy Y row)(c:∀r,row=some r->r=w.heap.size+7\/(w.heap.size+4<=r/\∃o:Obj,W.heap[r]? = some o/\o.isCells=false)):PlX w l Y:=by
 have a:∀r,row=some r->r=w.heap.size+7\/(∃o:Obj,W.heap[r]? = some o/\o.isCells=false):=λr e=>(c r e).imp id And.right
 refine⟨h.bad,Ht h.res (by omega) b a,Ht h.ok (by omega) b a,h.low.grown b h.low.size (λj d=>?_)⟩
 rcases c j d with rfl|⟨f,_⟩ <;> omega
theorem ACP:S0:=by
 intro s w hs he;obtain⟨U,hl⟩:∃l,s.data.toList=l:=⟨_,rfl⟩;have az:s=bA U:=by rw[<-hl,Ju]
 have ax:U.length<=1000000:=by rw[<-hl,Gm];exact hs
 rw[hl];subst az;clear hs hl;refine(callsIn_wide (n:=9)).1 ?_;refine callsIn_of_wp_marks func186 rfl trivial ?_ rfl;simp only[ntmps186,XJ,XB,XL,Nat.reduceAdd,Nat.reduceSub,XP,XQ,XV,XT,XY,XK];gi_wp2_with (refine⟨trivial,?_⟩;gi_at_call 228;refine(callsIn_wide.2 (rX _ _)).mono ?_;rintro e w5⟨rfl,rfl⟩);rename_i K0 hK0;obtain⟨y0,y1,y2,y3,y4,y5⟩:=cF w (Zk #[Zs none 0 0] 28) (Zk #[Zo false] 4) (Zk #[Zs none 0 0] 28) (Zk #[Zt (bA U)] 9);have T:=y5;have al:=he.below y5;have a2:5<w.heap.size:=by obtain⟨⟨_,_,h⟩,_⟩:=he;exact Fv h
 have a3:6<w.heap.size:=by obtain⟨_,_,_,h⟩:=he;exact Fv h
 have HE:=Aa he;clear he;generalize (((w.alloc (Zk #[Zs none 0 0] 28)).alloc (Zk #[Zo false] 4)).alloc (Zk #[Zs none 0 0] 28)).alloc (Zk #[Zt (bA U)] 9)=w4 at *;have e2:w.heap.size+1+1=w.heap.size+2:=rfl;have e3:w.heap.size+2+1=w.heap.size+3:=rfl;rw[e2,e3];refine vJ 5 6 (by decide) rfl (λ_ _=>rfl) (oQ 8 (w.heap.size+6) (w.heap.size+3) (by decide) U ax) (λv X o o' h ho hc=>?kp) (λb args b'⟨_,_,_,_,h,_⟩=>by rw[h];rfl) (by omega) (by omega) (λpre W=>∃L m x,PlI w pre W L m x) (λc W=>c=.ret/\PlX w U W) ?ab ?abx ?h0 ?hT ?hassign ?hbody ?hdone ?hstop
 case kp=>rw[y0] at ho ⊢;refine⟨h.sp.kept ho hc,?_,lN h.err (B:=w.heap.size+5) (by omega) (by omega) (grownBy_putObj' X _ _) (λr e=>by injection e with e;exact .inl e.symm),(Y' (by omega)).trans h.yb⟩;exact h.keep.trans (KeepsFrom.of_grownBy (grownBy_putObj' X _ _) (λj G=>by injection G with G;omega))
 case ab=>rintro pre X Y row⟨L,m,x,k⟩hg hr;exact⟨L,m,x,k.free hg (λr e=>(hr r e).imp id (λh=>⟨by have:=h.1;omega,h.2⟩))⟩
 case abx=>rintro c b X Y row⟨hc,V⟩hg hr;exact⟨hc,V.free hg (λr e=>(hr r e).imp id (λh=>⟨by have:=h.1;omega,h.2⟩))⟩
 case h0=>exact⟨[],none,0,y3,rfl,⟨rfl,.inl ⟨rfl,rfl⟩⟩,y1,y2,T⟩
 case hT=>intro r;obtain⟨N,_,_,x3⟩:=C1 w4 (.deferred (some [])) (.loop r);exact⟨by rw[N,y0],(x3.block _ (Ac y4)).trans y4,al.below x3⟩
 case hassign=>intro l v u W K hK;gi_wp2;exact hK
 case hbody=>
  rintro l pre v u a1 W t hl⟨a,t',n,er,hv,R,rfl,aw⟩⟨L,m,x,k⟩hk;cases hv;have y:=Aa k;have M:=Aa hk;have av:w.heap.size+10<=W.heap.size:=Ac hk.sp.save
  rcases aw with⟨hn,rfl⟩|⟨hn,t1,x1,rfl⟩
  ·have HN:=Aa (Xd k.AHU hn)
   have hlen:L.length<=1000001:=by have h1:=cJ k.AHU;have h2:=gS 44 _ U (XA _);rw[R] at h2;simp only[XM,XB] at h2;omega
   have f:Hid (Below W.heap.size W (W.alloc (Zk #[Zi n] 3))):=Aa (Zal);have g:=Aa (Bc k.row f.o);obtain⟨N,xf⟩:=I2 k.box;obtain⟨iI,am,ae⟩:=Option.map_eq_some_iff.1 AFX;simp only[Prod.mk.injEq] at ae;have P:=Aa (And.intro am ae);clear am ae k hk R hn y1 y2 y3 y4
   gi_wp2_with (first
    | (gi_at_builtin;refine wpListIn_append_own _ rfl _ _ 28 rfl (w.heap.size+10) 3 iI U5 1 8 underlying28 P.o.1 P.o.2.1 P.o.2.2.1 P.o.2.2.2 rfl (by decide) (.slice m L.length x) L.length (L.map (.int .i64)) rfl g.o ⟨W.heap.size,0,none⟩ 1 1 [Zi n] rfl rfl (λj u G=>World.news_of_block (heap_alloc_new _ _) j u G) (by intro u hu;simp at hu;subst hu;rfl) (by unfold maxLen;omega) (by omega) (XG av f.o.size) ?_
       intro v1 w9 z ad _;obtain⟨a',c',rfl⟩:=AAN z;have an:=Aa z;have O:=Aa ad;have ai:=Aa ((ad.block (w.heap.size+2) (Ya (Ac y.o.box) f.o.size) (λe=>by have:=Fu g.o e.symm;omega)).trans ((f.o.block _ (Ac y.o.box)).trans y.o.box));obtain⟨z0,zf⟩:=I2 ai.o;clear z ad))
   clear z0 zf N xf
   have d:∀b,b<w.heap.size+10->b≠w.heap.size+2->(w9.setCell ⟨w.heap.size+2,0,none⟩ (Zs a' (L.length+1) c')).heap[b]? = W.heap[b]? := λb hb ay=>((Aq w9 (w.heap.size+2) 0 _).block b (Ya (by omega) (XG f.o.size O.o.size)) (λe=>by injection e with e;omega)).trans ((O.o.block b (Ya (by omega) f.o.size) (λe=>by have:=Fu g.o e.symm;omega)).trans (f.o.block b (by omega)))
   have I:∀q,w.heap.size+3<=q->KeepsFrom q W (w9.setCell ⟨w.heap.size+2,0,none⟩ (Zs a' (L.length+1) c')):=λq hq=>G6 (j4 (Ie f.o) g.o O.o) (by omega)
   have J:Below w.heap.size w (w9.setCell ⟨w.heap.size+2,0,none⟩ (Zs a' (L.length+1) c')):=by have h1:=Below.Ap y.o.low f.o;exact(h1.grown O.o h1.size (λj G=>by have:=Fu g.o G;omega)).setCell (p:=⟨w.heap.size+2,0,none⟩) (by show w.heap.size<=w.heap.size+2;omega) _
   refine⟨I _ (by omega),⟨L++[n],a',c',?_,HN.o,?_,(d _ (by omega) (by omega)).trans y.o.res,(d _ (by omega) (by omega)).trans y.o.ok,J⟩,⟨⟨(d _ (by omega) (by omega)).trans M.o.sp.Gw,(d _ (by omega) (by omega)).trans M.o.sp.sep,(d _ (by omega) (by omega)).trans M.o.sp.save⟩,M.o.keep.trans (I _ (by omega)),HE.o.below J,(d _ (by omega) (by omega)).trans M.o.yb⟩⟩
   ·rw[XM]
    exact As w9 (w.heap.size+2) 0 _ _ _ ai.o
   rw[XM,List.map_append];exact Iq an.o (by omega)
  have HN:Hid (Dr (Dd 44 U)=none):=Aa (by rw[R];exact aA hn);obtain⟨N,xf⟩:=I2 k.res;obtain⟨x1,xg⟩:=I2 k.ok;clear k hk R hn y1 y2 y3 y4;gi_wp2;have J:Below w.heap.size w ((W.setCell ⟨w.heap.size,0,none⟩ (Zs none 0 0)).setCell ⟨w.heap.size+1,0,none⟩ (Zo false)):=(y.o.low.setCell (p:=⟨w.heap.size,0,none⟩) (XA _) _).setCell (p:=⟨w.heap.size+1,0,none⟩) (WC _) _;have I:∀q,w.heap.size+2<=q->KeepsFrom q W ((W.setCell ⟨w.heap.size,0,none⟩ (Zs none 0 0)).setCell ⟨w.heap.size+1,0,none⟩ (Zo false)):=λq hq=>G6 (G6 (KeepsFrom.refl _ _) (by omega)) (by omega)
  have d:∀b,b<W.heap.size->w.heap.size+1<b->((W.setCell ⟨w.heap.size,0,none⟩ (Zs none 0 0)).setCell ⟨w.heap.size+1,0,none⟩ (Zo false)).heap[b]? = W.heap[b]? := λb hb ay=>((Aq _ (w.heap.size+1) 0 _).block b (Ya hb (Aq W w.heap.size 0 _).size) (λe=>by injection e with e;omega)).trans ((Aq W w.heap.size 0 _).block b hb (λe=>by injection e with e;omega))
  refine⟨I _ (by omega),⟨rfl,HN.o,?_,?_,J⟩,⟨⟨(d _ (by omega) (by omega)).trans M.o.sp.Gw,(d _ (by omega) (by omega)).trans M.o.sp.sep,(d _ (by omega) (by omega)).trans M.o.sp.save⟩,M.o.keep.trans (I _ (by omega)),HE.o.below J,(d _ (by omega) (by omega)).trans M.o.yb⟩⟩
  ·exact Cg (As W _ 0 _ _ _ y.o.res) (by omega)
  exact As _ _ 0 _ _ _ (Cg y.o.ok (by omega))
 case hdone=>
  rintro D pre W hD rfl⟨L,m,x,k⟩hd;rw[y0] at hD;clear y0 y1 y2 y3 y4 y5 T al;refine hK0 _ _ ?_;clear hK0;obtain⟨N,xf⟩:=I2 k.box;obtain⟨r0,rf⟩:=I2 k.res;obtain⟨o0,of⟩:=I2 k.ok;have y:=Aa k;have HD:=Aa hd;clear k hd;gi_wp2;clear N xf r0 rf o0 of;have ao:=As W w.heap.size 0 _ _ (Zs m L.length x) y.o.res;have ap:(W.setCell ⟨w.heap.size,0,none⟩ (Zs m L.length x)).heap[w.heap.size+1]? = _:=Cg y.o.ok (by omega);have aq:=Cg (q:=w.heap.size+1) (i:=0) (v:=Zo true) ao (by omega);have ar:=As _ (w.heap.size+1) 0 _ _ (Zo true) ap;have aj:((W.setCell ⟨w.heap.size,0,none⟩ (Zs m L.length x)).setCell ⟨w.heap.size+1,0,none⟩ (Zo true)).heap[D]? = _:=Cg (Cg HD.o (by omega)) (by omega);have ak:Below w.heap.size w ((W.setCell ⟨w.heap.size,0,none⟩ (Zs m L.length x)).setCell ⟨w.heap.size+1,0,none⟩ (Zo true)):=(y.o.low.setCell (p:=⟨w.heap.size,0,none⟩) (XA _) _).setCell (p:=⟨w.heap.size+1,0,none⟩) (WC _) _;have au:=Iq (b:=w.heap.size+1) (i:=0) (u:=Zo true) (Iq (b:=w.heap.size) (i:=0) (u:=Zs m L.length x) y.o.row (by omega)) (by omega)
  change LeavesInM _ _ _ _ _ _ _ _ ((W.setCell ⟨w.heap.size,0,none⟩ (Zs m L.length x)).setCell ⟨w.heap.size+1,0,none⟩ (Zo true))
  generalize (W.setCell ⟨w.heap.size,0,none⟩ (Zs m L.length x)).setCell ⟨w.heap.size+1,0,none⟩ (Zo true)=X at *;refine⟨by simp,.inl ⟨_,_,rfl,run_takeDeferred aj,?_⟩⟩;have ah:(X.putObj D (.deferred none)).heap[w.heap.size]? = _:=(Y' (by omega)).trans aq;have ag:(X.putObj D (.deferred none)).heap[w.heap.size+1]? = _:=(Y' (by omega)).trans ar;have af:Below w.heap.size w (X.putObj D (.deferred none)):=ak.grown (grownBy_putObj' X D _) ak.size (λj G=>by injection G with G;omega);have a0:(X.putObj D (.deferred none)).ownsRow w.heap.size 3 1 (Zs m L.length x) L.length (L.map (.int .i64)):=G1 (Le (B:=w.heap.size) au (by omega) (grownBy_putObj' X D _) (λr e=>by injection e with e;subst e;exact .inr ⟨_,aj,rfl⟩)) (by omega);generalize X.putObj D (.deferred none)=W9 at *;obtain⟨N,_⟩:=I2 ah;obtain⟨xb,_⟩:=I2 ag;refine⟨Zu #[Zs m L.length x,Zo true],?_,m,L.length,x,true,rfl,af,.inl ⟨rfl,L,y.o.AHU,rfl,a0⟩⟩;simp[results,f186,go_sem,N,xb]
 case hstop=>rintro D c W hD⟨rfl,V⟩hd;gi_wp2;rw[y0] at hD;refine⟨by simp,.inl ⟨_,_,rfl,run_takeDeferred hd,?_⟩⟩;have ah:(W.putObj D (.deferred none)).heap[w.heap.size]? = _:=(Y' (by omega)).trans V.res;have ag:(W.putObj D (.deferred none)).heap[w.heap.size+1]? = _:=(Y' (by omega)).trans V.ok;have af:Below w.heap.size w (W.putObj D (.deferred none)):=V.low.grown (grownBy_putObj' W D _) V.low.size (λj G=>by injection G with G;omega);generalize W.putObj D (.deferred none)=W9 at *;obtain⟨N,_⟩:=I2 ah;obtain⟨xb,_⟩:=I2 ag;refine⟨Zu #[Zs none 0 0,Zo false],?_,none,0,0,false,rfl,af,.inr ⟨rfl,V.bad⟩⟩;clear hK0;simp[results,f186,go_sem,N,xb]
variable{W w:Tw}{u v:Tv}{L:List Gx}
theorem Hi{α:Type}[Inhabited α]{k:Nat}{en:α->List Tv}(hlen:∀x,(en x).length=k):∀(l:List α)(j:Nat),j<l.length->∀(i:Nat),i<k->(l.flatMap en)[j*k+i]? = (en l[j]!)[i]?
 | [],j,hj,_,_=>by cases hj
 | x :: l,0,_,i,hi=>by rw[X',Nat.zero_mul,WA,XU (by rw[hlen];exact hi)];rfl
 | x :: l,j+1,hj,i,hi=>by
   have e:(j+1)*k+i=k+(j*k+i):=by rw[Y1];omega
   rw[X',e,List.getElem?_append_right (by rw[hlen];omega),hlen,Nat.add_sub_cancel_left];simp only[XB] at hj;rw[Hi hlen l j (by omega) i hi];rfl
theorem gL{α:Type}[Inhabited α]{k:Nat}{en:α->List Tv}(hlen:∀x,(en x).length=k){base:Nat}{T:TypeId}{l:List α}(h:w.ownsRow base T k v l.length (l.flatMap en)):AKI k en w v l:=by
 rcases Di h with⟨e,e0⟩|⟨g,c,e,_,n,m,_⟩
 ·exact .inl ⟨⟨_,_,e⟩,List.length_eq_zero_iff.1 e0⟩
 subst e;refine .inr ⟨g,0,c,rfl,m,n,λj d i u b=>?_⟩
 have o:i<k:=by
  rcases Yc i k with a|a
  ·exact a
  rw[Yb (by rw[hlen];exact a)] at b;cases b
 have f:j*k+i<l.length*k:=by have:(j+1)*k<=l.length*k:=Yn k d;rw[Y1] at this;omega
 rw[WA,h.cellAt (j*k+i) f,Hi hlen l j d i o,b]
structure pM(a:A5):Prop where
 path:a.2.1.size<=maxLen
 Iz:a.2.2.2.1.length<=600000
 texts:∀x∈a.2.2.2.2.1,x.2.1.size<=maxLen/\x.2.2.2.2.2.2.size<=maxLen
theorem sP{base:Nat}(h:w.ownsRow base 144 6 v L.length (Ci L))(d:∀q∈L,pC base w q)(l:∀q∈L,pM q.1):Dt w v (L.map (·.1)):=by
 rcases gL (k:=6) (en:=nU) (λ_=>rfl) h with⟨h1,h2⟩|⟨g,o,c,e,hc,hg,hcell⟩
 ·exact .inl ⟨h1,by rw[h2];rfl⟩
 refine .inr ⟨g,o,c,by rw[XS];exact e,by rw[XS];exact hc,hg,λj a=>?_⟩;rw[XS] at a;have b:L[j]! ∈L:=by rw[getElem!_pos L j a];exact Yh a
 have i:(L.map (·.1))[j]! = L[j]!.1:=by rw[getElem!_pos _ j (by rw[XS];exact a),List.getElem_map,getElem!_pos L j a]
 rw[i];have f:=l _ b;refine⟨_,_,_,_,_,_,⟨Ph.Fz (d _ b).1,?_,f.path,f.Iz,f.texts⟩,hcell j a 0 _ rfl,hcell j a 1 _ rfl,hcell j a 2 _ rfl,hcell j a 3 _ rfl,hcell j a 4 _ rfl,hcell j a 5 _ rfl⟩;exact p8 (gL (k:=7) (en:=Cc) (λ_=>rfl) (d _ b).2)
def uK(l:List UInt8)(s:ByteArray)(c:Dn):Prop:=Js l=some c/\Cv c=true/\C6 c=s
def Kx(l:List UInt8)(s:ByteArray)(w:World)(e:Ending)(h:World):Prop :=
 Zb w h/\((∃(g:ByteArray)(f:Bool)(A:List A5)(a:Option Addr)(d b:Nat),uK l s (g,f,A)/\e=.returned (.tuple #[.agg #[.string g,.bool f,.slice a d b],.nilIface])/\Dt h (.slice a d b) A) \/
  ((∀c,¬uK l s c)/\e=.returned (.tuple #[.agg #[.string ⟨#[]⟩,.bool false,.slice none 0 0],.iface 90 (Zi 3)])))
theorem Sa{base:Nat}{t T:TypeId}{z:Nat}{n:Nat}{xs:List Tv}{b i:Nat}{cs:Array Tv}(h:W.ownsRow base t z v n xs)(a:W.heap[b]? = some (Zk cs T (0,0)))(c:t≠T):(W.setCell ⟨b,i,none⟩ u).ownsRow base t z v n xs :=
 Az h (Aq W b i u) (λk f e=>by obtain⟨c1,d⟩:=Ho h f;injection e with e;subst e;rw[d] at a;injection a with a;injection a with _ a;exact c a)
theorem zF{a b:Tb}(h:a.toList=b.toList):a=b:=by rw[ByteArray.toList_eq,ByteArray.toList_eq] at h;obtain⟨x⟩:=a;obtain⟨y⟩:=b;have c:x=y:=Array.toList_inj.1 h;rw[c]
def oW(W:World)(v:Value)(L:List Gx):Prop:=W.ownsRow 0 144 6 v L.length (Ci L)/\∀q∈L,pC 0 W q
theorem oW.up{Y:Tw}(h:oW W v L)(a:Zb W Y):oW Y v L:=⟨Bc h.1 a,λq b=>⟨Bc (h.2 q b).1 a,Bc (h.2 q b).2 a⟩⟩
theorem oW.set{b i:Nat}{cs:Array Tv}(h:oW W v L)(a:W.heap[b]? = some (Zk cs 86 (0,0))):oW (W.setCell ⟨b,i,none⟩ u) v L :=
 ⟨Sa h.1 a (by decide),λq c=>⟨Sa (h.2 q c).1 a (by decide),Sa (h.2 q c).2 a (by decide)⟩⟩
theorem jF(hP:S0)(s:Tb)(w:Tw)(hs:s.size<=1000000)(he:Ik w)(hw:Lw w)(ht:Jp w)(hF:∀b d A,Js s.data.toList=some (b,d,A)->A.length<=600000/\b.size<=maxLen/\∀a∈A,pM a/\(Ch a=true->Fh a)):
 Zc 46 #[Zt s] w (Kx s.data.toList s w):=by
 have t:Hid (Zb w (w.alloc (Zk #[Zt ⟨#[]⟩,Zo false,Zs none 0 0] 86))):=Aa (Zal);have r:=Aa (heap_alloc_new w (Zk #[Zt ⟨#[]⟩,Zo false,Zs none 0 0] 86));have HR:=Aa (Pq hP s (w.alloc (Zk #[Zt ⟨#[]⟩,Zo false,Zs none 0 0] 86)) hs (he.below t.o));generalize hl:s.data.toList=l at *;cases hc:Js l with
 | none=>
   have z:Hid (Zc 83 #[Zt s] (w.alloc (Zk #[Zt ⟨#[]⟩,Zo false,Zs none 0 0] 86)) λe u=>∃(b:Tb)(d:Bool)(f:To)(i g:Nat),e=Zr (Zu #[Zg #[Zt b,Zo d,Zs f i g],Zo false])/\Zb w u/\u.heap[w.heap.size]? = some (Zk #[Zt ⟨#[]⟩,Zo false,Zs none 0 0] 86)):=Aa (HR.o.mono (by
    rintro e u⟨b,d,f,i,g,ok,rfl,D,⟨_,L,h,_⟩|⟨rfl,_⟩⟩
    ·rw[hc] at h;cases h
    exact⟨b,d,f,i,g,rfl,Below.Ap t.o D,(D.block _ (Ac r.o)).trans r.o⟩))
   have R:Hid (∀c,¬uK l s c):=Aa (λc h=>by have:=h.1;rw[hc] at this;cases this);clear HR hc hF he hw ht hl r t;go_enter func46,ntmps46
   go_wp2_with (first
    | (go_at_call 83;refine z.o.mono ?_;rintro e x⟨b,d,f,i,g,rfl,k,j⟩
       have p:Hid (Zb w (x.alloc (Zk #[Zt b,Zo d,Zs f i g] 86))):=Aa (k.alloc k.size _);have o:=Aa ((XC x (Zk #[Zt b,Zo d,Zs f i g] 86) _ (Ac j)).trans j);obtain⟨U,V,X,Y⟩:=Db o.o;clear k j))
   clear U V X Y;obtain⟨N,O,P⟩:=mH (pF _ _ _ _ _ (Zt ⟨#[]⟩) (Zo false) (Zs none 0 0) _ o.o);refine bodyPost_ret (v:=Zu #[Zg #[Zt ⟨#[]⟩,Zo false,Zs none 0 0],Zf 90 (Zi 3)]) (by simp[results,results46,go_sem,N,O,P]) rfl ⟨Fi p.o (XA _) _ _ _,.inr ⟨R.o,rfl⟩⟩
 | some c=>
   obtain⟨b,d,A⟩:=c;obtain⟨hA,ak,M⟩:=hF b d A hc
   have z:Hid (Zc 83 #[Zt s] (w.alloc (Zk #[Zt ⟨#[]⟩,Zo false,Zs none 0 0] 86)) λe u=>∃(f:To)(i g:Nat)(L:List Gx),e=Zr (Zu #[Zg #[Zt b,Zo d,Zs f i g],Zo true])/\Zb w u/\u.heap[w.heap.size]? = some (Zk #[Zt ⟨#[]⟩,Zo false,Zs none 0 0] 86)/\L.map (·.1)=A/\oW u (Zs f i g) L):=Aa (HR.o.mono (by
    rintro e u⟨ap,ao,f,i,g,ok,rfl,D,⟨rfl,L,h,al,h1,h2⟩|⟨rfl,h⟩⟩
    ·rw[hc] at h
     simp only[Option.some.injEq,Prod.mk.injEq] at h;obtain⟨rfl,rfl,rfl⟩:=h;exact⟨f,i,g,L,rfl,Below.Ap t.o D,(D.block _ (Ac r.o)).trans r.o,rfl,h1,h2⟩
    rw[hc] at h;cases h))
   have ab:Hid (∀W v L,L.map (·.1)=A->oW W v L->Dt W v A):=Aa (λW v L e h=>by subst e;exact sP h.1 h.2 (λq hq=>(M q.1 (Y0 hq)).1))
   have af:Hid (∀W f i g L,L.map (·.1)=A->oW W (Zs f i g) L->Zb w W->Zc 77 #[Zg #[Zt b,Zo d,Zs f i g]] W λe u=>e=Zr (Hz (b,d,A))/\Zb W u):=Aa (λW f i g L e h D=>lW b d A f i g W (ab.o W _ L e h) hA ak (λa ha=>(M a ha).2) (hw.below D) (ht.below D));have HC:=Aa hc;clear HR hF he hw ht hl hc M r t
   have R:Hid (Cv (b,d,A)=false\/C6 (b,d,A)≠s->∀c,¬uK l s c):=Aa (λh c hk=>by
    have h1:=hk.1;rw[HC.o] at h1;cases h1
    rcases h with h|h
    ·rw[hk.2.1] at h;cases h
    exact h hk.2.2)
   cases hp:Cv (b,d,A) with
   | false=>
     have J:Hid (Hz (b,d,A)=Zu #[Zt ⟨#[]⟩,Zf 90 (Zi 1)]):=Aa (by unfold Hz;rw[hp];rfl);have G:=Aa (R.o (.inl hp));clear R hp;go_enter func46,ntmps46
     go_wp2_with (first
      | (go_at_call 83;refine z.o.mono ?_;rintro e x⟨f,i,g,L,rfl,k,j,T,hO⟩
         have p:Hid (Zb w (x.alloc (Zk #[Zt b,Zo d,Zs f i g] 86))):=Aa (k.alloc k.size _);have o:=Aa ((XC x (Zk #[Zt b,Zo d,Zs f i g] 86) _ (Ac j)).trans j);have I:=Aa (af.o _ _ _ _ L T (hO.up (Zal)) p.o);clear k j hO T)
      | (go_at_call 77;refine I.o.mono ?_;rintro e w5⟨rfl,n⟩;rw[J.o]
         have y:=Aa (Below.Ap p.o n);have m:=Aa ((n.block _ (Ac o.o)).trans o.o);obtain⟨U,V,X,Y⟩:=Db m.o;clear n))
     clear U V X Y;obtain⟨N,O,P⟩:=mH (pF _ _ _ _ _ (Zt ⟨#[]⟩) (Zo false) (Zs none 0 0) _ m.o);refine bodyPost_ret (v:=Zu #[Zg #[Zt ⟨#[]⟩,Zo false,Zs none 0 0],Zf 90 (Zi 3)]) (by simp[results,results46,go_sem,N,O,P]) rfl ⟨Fi y.o (XA _) _ _ _,.inr ⟨G.o,rfl⟩⟩
   | true=>
     have J:Hid (Hz (b,d,A)=Zu #[Zt (C6 (b,d,A)),Zn]):=Aa (by unfold Hz;rw[hp];rfl);generalize ag:C6 (b,d,A)=pb at *;have G:=Aa (λh=>R.o (.inr h));have aj:Hid (pb=s->uK l s (b,d,A)):=Aa (λh=>⟨HC.o,hp,ag.trans h⟩);clear R hp ag;go_enter func46,ntmps46
     go_wp2_with (first
      | (go_at_call 83;refine z.o.mono ?_;rintro e x⟨f,i,g,L,rfl,k,j,T,hO⟩
         have p:Hid (Zb w (x.alloc (Zk #[Zt b,Zo d,Zs f i g] 86))):=Aa (k.alloc k.size _);have o:=Aa ((XC x (Zk #[Zt b,Zo d,Zs f i g] 86) _ (Ac j)).trans j);have ad:=Aa (heap_alloc_new x (Zk #[Zt b,Zo d,Zs f i g] 86));have ae:=Aa (hO.up ((XF _ _).alloc (XA _) (Zk #[Zt b,Zo d,Zs f i g] 86)));have I:=Aa (af.o _ _ _ _ L T ae.o p.o);have HL:=Aa T;have am:w.heap.size<x.heap.size:=Ac j;clear k j hO T)
      | (go_at_call 77;refine I.o.mono ?_;rintro e w5⟨rfl,n⟩;rw[J.o]
         have y:=Aa (Below.Ap p.o n);have m:=Aa ((n.block _ (Ac o.o)).trans o.o);have ah:=Aa ((n.block _ (Ac ad.o)).trans ad.o);have ai:=Aa (ae.o.up n);obtain⟨U,V,X,Y⟩:=Db m.o;obtain⟨c0,c1,c2,cf⟩:=Db ah.o;clear n))
     ·rename_i hcmp
      clear U V X Y c0 c1 c2 cf;obtain⟨N,O,P⟩:=mH (pF _ _ _ _ _ (Zt ⟨#[]⟩) (Zo false) (Zs none 0 0) _ m.o);refine bodyPost_ret (v:=Zu #[Zg #[Zt ⟨#[]⟩,Zo false,Zs none 0 0],Zf 90 (Zi 3)]) (by simp[results,results46,go_sem,N,O,P]) rfl ⟨Fi y.o (XA _) _ _ _,.inr ⟨G.o (λe=>?_),rfl⟩⟩;subst e;simp at hcmp
     rename_i hcmp;clear U V X Y c0 c1 c2 cf;obtain⟨N,O,P⟩:=mH (pF _ _ _ _ _ (Zt b) (Zo d) (Zs f i g) _ m.o);refine bodyPost_ret (v:=Zu #[Zg #[Zt b,Zo d,Zs f i g],Zn]) (by simp[results,results46,go_sem,N,O,P]) rfl ⟨Fi y.o (XA _) _ _ _,.inl ⟨b,d,A,f,i,g,aj.o ?_,rfl,ab.o _ _ L HL.o ?_⟩⟩
     ·exact zF (by simpa using hcmp)
     exact((ai.o.set m.o).set (As _ _ 0 _ _ _ m.o)).set (As _ _ 1 _ _ _ (As _ _ 0 _ _ _ m.o))
variable{l:List UInt8}{p s:Tb}{c:Aj}{k n r y:Int}{a x:A5}
def O8(l:List UInt8):Prop:=∀b∈l,b≠10/\b≠32/\b≠39/\b≠44/\b≠59
theorem O8.n10(h:O8 l):(10:UInt8) ∉ l:=λe=>(h _ e).1 rfl
theorem O8.n32(h:O8 l):(32:UInt8) ∉ l:=λe=>(h _ e).2.1 rfl
theorem O8.n39(h:O8 l):(39:UInt8) ∉ l:=λe=>(h _ e).2.2.1 rfl
theorem O8.n44(h:O8 l):(44:UInt8) ∉ l:=λe=>(h _ e).2.2.2.1 rfl
theorem O8.n59(h:O8 l):(59:UInt8) ∉ l:=λe=>(h _ e).2.2.2.2 rfl
theorem AAy(h:∀b∈l,b.toNat=45\/(48<=b.toNat/\b.toNat<=57)\/b.toNat=95\/(97<=b.toNat/\b.toNat<=122)):O8 l:=by intro b a;have:=h b a;refine⟨?_,?_,?_,?_,?_⟩ <;> (rintro rfl;revert this;decide)
theorem Fw(n:Int):O8 (itoa n):=AAy λb a=>by
 rcases lO b a with h|h
 ·exact .inl h
 exact .inr (.inl h)
theorem uJ(r:Nat)(h:126<r):Is r=true:=by simp only[Is,Ki,Pe,Y9,XW,XI,decide_eq_false_iff_not,beq_eq_false_iff_ne];refine⟨.inr (by omega),.inr (by omega),by omega⟩
theorem Qp(r:Nat)(h:126<r):Cu r=true:=by simp[Cu,h]
theorem Ge(h:Bx s=true):O8 s.data.toList/\s.data.toList≠[]:=by
 simp only[Bx,Y9,decide_eq_true_eq,XW,decide_eq_false_iff_not] at h;obtain⟨a,_,_,c⟩:=h;refine⟨AAy λb g=>?_,λe=>?_⟩
 ·obtain⟨d,_⟩:=o4 uJ c b g
  have f:(!Ki b.toNat && (!Pe b.toNat && !((b.toNat:Int)==95)))=false:=d;simp only[Ki,Pe,XI,Bool.not_eq_false',Y9,decide_eq_true_eq,beq_iff_eq] at f;omega
 have:s.data.toList.length=0:=by rw[e];rfl
 simp only[X4] at this;simp only[ByteArray.size] at a;omega
theorem bS{t:Tb}(h:Vb t=true):(39:UInt8) ∉ t.data.toList/\(10:UInt8) ∉ t.data.toList:=by
 simp only[Vb,Y9,decide_eq_true_eq,XW,decide_eq_false_iff_not] at h;refine⟨λe=>?_,λe=>?_⟩
 ·have:=(o4 Qp h.2 _ e).1
  revert this;decide
 have:=(o4 Qp h.2 _ e).1
 revert this;decide
def yA(t:List UInt8):Prop:=t=[]\/∃r,t=59 :: r
theorem qD{c:UInt8}{x t:List UInt8}(a:c ∉ x)(b:t=[]\/∃r,t=c :: r):(Ao c (x++t)).1=x/\(Ao c (x++t)).2.1=t.tail:=by
 rcases b with rfl|⟨r,rfl⟩
 ·rw[List.append_nil,Qa a];simp
 rw[Dh a];simp
theorem AER(a b:Tb):(a++b).data.toList=a.data.toList++b.data.toList:=by simp
theorem lD{x t:List UInt8}(c:(39:UInt8) ∉ x)(a:yA t):Lib.hasPrefix (x++t) [39]=false:=by
 unfold Lib.hasPrefix;cases x with
 | nil=>
   rcases a with rfl|⟨r,rfl⟩
   ·rfl
   simp[List.isPrefixOf]
 | cons b x=>
   have:b≠39:=λe=>c (by simp[e])
   simp[List.isPrefixOf,this.symm]
theorem nA{t:Tb}(h:A9 k n t=true)(j:Lu n)(a:yA l):Ej ((E7 k n t).data.toList++l)=some ((k,n,t),l.tail):=by
 unfold A9 at h;unfold E7
 by_cases h0:k=0
 ·subst h0
  simp only[if_true,Y9,beq_iff_eq] at h ⊢;obtain⟨rfl,b⟩:=h;have e:t=bA []:=toList_inj (by simpa[bA,ByteArray.toList_eq] using b);subst e;have q:=qD (c:=59) (x:=Qm) (t:=l) (by decide) a;unfold Ej;show (if Lib.hasPrefix (Qm++l) [39]=true then _ else _)=_;rw[lD (by decide) a,if_neg (by decide)];show (if (Ao 59 (Qm++l)).1=Qm then _ else _)=_;rw[if_pos q.1];show some ((0,0,bA []),(Ao 59 (Qm++l)).2.1)=_;rw[q.2]
 rw[if_neg h0] at h ⊢
 by_cases h1:k=1
 ·subst h1
  simp only[if_true] at h ⊢;have e:t=bA []:=toList_inj (by simpa[bA,ByteArray.toList_eq] using h);subst e;have g:=Fw n;have q:=qD (c:=59) (x:=itoa n) (t:=l) g.n59 a;have d:(Bm n).data.toList=itoa n:=by simp[Bm]
  have f:itoa n≠Qm:=λe=>by
   have:=lO (n:=n) 110 (by rw[e];decide)
   revert this;decide
  rw[d];unfold Ej;rw[lD g.n39 a,if_neg (by decide),q.1,q.2,if_neg f,I7 j];rfl
 rw[if_neg h1] at h ⊢
 by_cases b:k=2
 ·subst b
  simp only[if_true,Y9,beq_iff_eq] at h ⊢;obtain⟨rfl,i⟩:=h;have d:(⟨#[39]⟩++t++⟨#[39]⟩:Tb).data.toList++l=39 :: (t.data.toList++39 :: l):=by simp
  rw[d];unfold Ej;rw[if_pos (by simp[Lib.hasPrefix,List.isPrefixOf])];simp only[List.drop_succ_cons,List.drop_zero];rw[Dh (bS i).1];simp only[if_true,Ju];congr 2
  rcases a with rfl|⟨r,rfl⟩
  ·rfl
  simp[Lib.trimPrefix,Lib.hasPrefix,List.isPrefixOf]
 rw[if_neg b] at h;cases h
def mmL(b:Bool):List UInt8:=(Fa b Qn jI).data.toList
theorem tH(b:Bool):O8 (mmL b):=by cases b <;> (unfold O8 mmL;decide)
theorem AEI(b:Bool):decide (mmL b=dS)=b:=by cases b <;> decide
def Ft(c:Aj):List UInt8:=itoa c.1++32 :: (c.2.1.data.toList++32 :: (itoa c.2.2.1++32 :: (mmL c.2.2.2.1++32 :: (E7 c.2.2.2.2.1 c.2.2.2.2.2.1 c.2.2.2.2.2.2).data.toList)))
theorem oJ(c:Aj):(B9 c).data.toList=Ft c:=by simp[B9,Fe,Lib.join,List.intercalate,Ft,mmL,Bm]
structure ADD(c:Aj):Prop where
 ok:Ib c
 may:Ko c=true
theorem ADD.parts(h:ADD c):Bx c.2.1=true/\A9 c.2.2.2.2.1 c.2.2.2.2.2.1 c.2.2.2.2.2.2=true:=by have:=h.may;simp only[Ko,Bv,Cm,Y9] at this;exact⟨this.2.2.1.2,this.2.2.2.1⟩
theorem Hb{x y:List UInt8}(h:(32:UInt8) ∉ x):Aw (x++32 :: y)=y:=by unfold Aw;rw[Dh h]
theorem Sq(h:ADD c)(q:yA l):D0 (Ft c++l)=some (c,l.tail):=by
 obtain⟨f,g⟩:=h.parts;have m:=(Ge f).1;obtain⟨c1,i,a,b,j,d,k⟩:=c
 have e:Ft (c1,i,a,b,j,d,k)++l=itoa c1++32 :: (i.data.toList++32 :: (itoa a++32 :: (mmL b++32 :: ((E7 j d k).data.toList++l)))):=by simp[Ft]
 have n:=(Fw c1).n32;have o:=(Fw a).n32;have p:=(tH b).n32;have r:Lu c1:=h.ok.id;have s:Lu a:=h.ok.kind;have t:Lu d:=h.ok.num;unfold D0;rw[e,Hb n,Hb m.n32,Hb o,Hb p,Dh n,Dh o,Dh m.n32,Dh p];simp only;rw[I7 r,I7 s,nA g t q];simp only[XD,Option.map_some,Ju,AEI]
theorem zH(c:Aj):Ft c≠[]:=by unfold Ft;intro e;have:=congrArg List.length e;simp at this
theorem Q5:∀{l:List Aj},l≠[]->(∀c∈l,ADD c)->Dg (Lib.join (l.map Ft) [59])=some l
 | [],h,_=>absurd rfl h
 | [c],_,h=>by
   have e:Lib.join ([c].map Ft) [59]=Ft c++[]:=by simp[Lib.join]
   rw[e,Jv (by simpa using zH c) (Sq (h c (by simp)) (.inl rfl))];rw[show ([]:List UInt8).tail=[] from rfl,Kq];rfl
 | c :: d :: l,_,h=>by
   have e:Lib.join ((c :: d :: l).map Ft) [59]=Ft c++59 :: Lib.join ((d :: l).map Ft) [59]:=by simp[Lib.join]
   rw[e,Jv (by simp) (Sq (h c (by simp)) (.inr ⟨_,rfl⟩))];rw[List.tail_cons,Q5 (by simp) (λx a=>h x (by simp[a]))];rfl
theorem Xw:∀{l:List Int},(∀x∈l,Lu x)->Dr (l.map itoa)=some l
 | [],_=>rfl
 | n :: l,h=>by rw[Wb,Dr,I7 (h n (by simp)),Xw (λx a=>h x (by simp[a]))];rfl
theorem oO{l:List Int}(a:l≠[])(h:∀x∈l,Lu x):L1 (Lib.join (l.map itoa) [44])=some l:=by
 unfold L1
 rw[X3 (by simpa using a) (λx b=>by obtain⟨n,_,rfl⟩:=List.mem_map.1 b;exact(Fw n).n44),Xw h]
theorem gE(xs:List Tb)(sep:Tb):(Fe xs sep).data.toList=Lib.join (xs.map (·.data.toList)) sep.data.toList:=by simp[Fe]
theorem Na(n:Int):(Bm n).data.toList=itoa n:=by simp[Bm]
def Xf(a:A5):List UInt8 :=
 if a.1=1 then ADF++32 :: (a.2.1.data.toList++32 :: itoa a.2.2.1)
 else if a.1=2 then P4++32 :: a.2.1.data.toList
 else if a.1=3 then lA++32 :: (a.2.1.data.toList++32 :: Lib.join (a.2.2.2.1.map itoa) [44])
 else P3++32 :: (itoa a.2.2.2.2.2++32 :: Lib.join (a.2.2.2.2.1.map Ft) [59])
theorem AAd(a:A5):(F3 a).data.toList=Xf a:=by
 unfold F3 Xf;split
 ·simp[Na,ADF]
 split
 ·simp[P4]
 split
 ·simp[gE,lA,WB,Function.comp_def,Na]
 simp[gE,P3,WB,Function.comp_def,Na,oJ]
theorem G4{n k:Nat}{x:Int}(h:Mm p r n k x=true):p=bA []/\r=0/\n=0/\k=0/\x=0:=by simp only[Mm,Y9,beq_iff_eq] at h;obtain⟨a,b,d,e,c⟩:=h;exact⟨toList_inj (by simpa[bA,ByteArray.toList_eq] using a),b,by omega,by omega,c⟩
theorem fJ{l:List Aj}(h:Be l y=true)(b:∀x∈l,Ib x):l≠[]/\∀c∈l,ADD c:=by have a:=(I9 l y).1 h;refine⟨λe=>?_,λc hc'=>⟨b c hc',(Ou c).2 (a.2.2.1 c hc').1⟩⟩;have:=a.1;rw[e] at this;simp at this
theorem AFt:(32:UInt8) ∉ ADF:=by decide
theorem kQ:(32:UInt8) ∉ P4:=by decide
theorem AAn:(32:UInt8) ∉ lA:=by decide
theorem l6:(32:UInt8) ∉ P3:=by decide
theorem oN(h:Ch a=true)(l:Fh a):Co (Xf a)=some a:=by
 obtain⟨k,p,r,m,cl,n⟩:=a;unfold Ch at h;unfold Xf;simp only at h ⊢
 by_cases h1:k=1
 ·subst h1
  simp only[if_true,Y9] at h ⊢;obtain⟨g,d⟩:=h;obtain⟨_,_,e,f,rfl⟩:=G4 d;have b:m=[]:=List.length_eq_zero_iff.1 e;have c:cl=[]:=List.length_eq_zero_iff.1 f;subst b c;have i:Bx p=true:=by simp only[rfB,Y9] at g;exact g.1
  unfold Co;rw[Dh AFt,Hb AFt,Dh (Ge i).1.n32];simp only[if_true];have j:Lu r:=l.rows;rw[I7 j];simp[Ju]
 rw[if_neg h1] at h ⊢
 by_cases g:k=2
 ·subst g
  simp only[if_true,Y9] at h ⊢;obtain⟨i,d⟩:=h;obtain⟨_,rfl,e,f,rfl⟩:=G4 d;have b:m=[]:=List.length_eq_zero_iff.1 e;have c:cl=[]:=List.length_eq_zero_iff.1 f;subst b c;unfold Co;rw[Dh kQ,Hb kQ,Qa (Ge i).1.n32];simp only;rw[if_neg (by decide),if_pos trivial,Ju]
 rw[if_neg g] at h ⊢
 by_cases d:k=3
 ·subst d
  simp only[if_true,Y9] at h ⊢;obtain⟨⟨i,j⟩,d⟩:=h;obtain⟨_,rfl,_,f,rfl⟩:=G4 d;have c:cl=[]:=List.length_eq_zero_iff.1 f;subst c
  have s:m≠[]:=by rintro rfl;simp[Dj] at j
  unfold Co;rw[Dh AAn,Hb AAn,Dh (Ge i).1.n32];simp only;rw[if_neg (by decide),if_neg (by decide),if_pos trivial,oO s l.mask,Ju];rfl
 rw[if_neg d] at h ⊢
 by_cases h4:k=4
 ·subst h4
  simp only[if_true,Y9] at h ⊢;obtain⟨j,d⟩:=h;obtain⟨rfl,rfl,e,_,_⟩:=G4 d;have b:m=[]:=List.length_eq_zero_iff.1 e;subst b;obtain⟨q,o⟩:=fJ j l.cols;have t:Lu n:=l.next;unfold Co;rw[Dh l6,Hb l6,Dh (Fw n).n32];simp only;rw[if_neg (by decide),if_neg (by decide),if_neg (by decide),if_pos trivial,I7 t,Q5 q o];rfl
 rw[if_neg h4] at h;cases h
theorem oF{c s:UInt8}(a:c≠s):∀{l:List (List UInt8)},(∀x∈l,c ∉ x)->c ∉ Lib.join l [s]
 | [],_=>by simp[Lib.join,List.intercalate]
 | [x],h=>by simpa[Lib.join] using h x (by simp)
 | x :: y :: l,h=>by
   have e:Lib.join (x :: y :: l) [s]=x++s :: Lib.join (y :: l) [s]:=by simp[Lib.join]
   rw[e];simp only[XE,XH,not_or];exact⟨h x (by simp),a,oF a (λz b=>h z (by simp[b]))⟩
theorem AGx{t:Tb}(h:A9 k n t=true):(10:UInt8) ∉ (E7 k n t).data.toList:=by
 unfold A9 at h;unfold E7;split
 ·decide
 rename_i h0;rw[if_neg h0] at h;split
 ·rw[Na];exact(Fw n).n10
 rename_i h1;rw[if_neg h1] at h;split
 ·rename_i h2
  rw[if_pos h2,Y9] at h;simp only[AER,XE,not_or];exact⟨⟨by decide,(bS h.2).2⟩,by decide⟩
 decide
theorem AHs(h:ADD c):(10:UInt8) ∉ Ft c:=by obtain⟨a,b⟩:=h.parts;unfold Ft;simp only[XE,XH,not_or];exact⟨(Fw _).n10,by decide,(Ge a).1.n10,by decide,(Fw _).n10,by decide,(tH _).n10,by decide,AGx b⟩
theorem AFo(h:Ch a=true)(f:Fh a):(10:UInt8) ∉ Xf a:=by
 obtain⟨k,p,r,m,cl,g⟩:=a;unfold Ch at h;unfold Xf;simp only at h ⊢
 by_cases h1:k=1
 ·rw[if_pos h1] at h ⊢
  simp only[Y9,rfB] at h;simp only[XE,XH,not_or];exact⟨by decide,by decide,(Ge h.1.1).1.n10,by decide,(Fw _).n10⟩
 rw[if_neg h1] at h ⊢
 by_cases h2:k=2
 ·rw[if_pos h2] at h ⊢
  simp only[Y9] at h;simp only[XE,XH,not_or];exact⟨by decide,by decide,(Ge h.1).1.n10⟩
 rw[if_neg h2] at h ⊢
 by_cases h3:k=3
 ·rw[if_pos h3] at h ⊢
  simp only[Y9] at h;simp only[XE,XH,not_or]
  exact⟨by decide,by decide,(Ge h.1.1).1.n10,by decide,oF (by decide) (λx d=>by obtain⟨n,_,rfl⟩:=List.mem_map.1 d;exact(Fw n).n10)⟩
 rw[if_neg h3] at h ⊢
 by_cases h4:k=4
 ·rw[if_pos h4] at h
  simp only[Y9] at h;obtain⟨_,e⟩:=fJ h.1 f.cols;simp only[XE,XH,not_or]
  exact⟨by decide,by decide,(Fw _).n10,by decide,oF (by decide) (λx d=>by obtain⟨c,b,rfl⟩:=List.mem_map.1 d;exact AHs (e c b))⟩
 rw[if_neg h4] at h;cases h
theorem Uv:∀{l:List A5},(∀a∈l,Ch a=true/\Fh a)->Cp (l.map Xf)=some l
 | [],_=>rfl
 | a :: l,h=>by rw[Wb,Cp,oN (h a (by simp)).1 (h a (by simp)).2,Uv (λx b=>h x (by simp[b]))];rfl
def bE:List UInt8:=[99,111,109,109,105,116]
def rbL(b:Bool):List UInt8:=(Fa b Ov Oy).data.toList
theorem AEf(b:Bool):O8 (rbL b):=by cases b <;> (unfold O8 rbL;decide)
theorem ACF(b:Bool):decide (rbL b=gX)=b:=by cases b <;> decide
theorem vU(b:Tb)(a:Bool):(I4 b a).data.toList=bE++32 :: (b.data.toList++32 :: rbL a)++[10]:=by simp[I4,bE,rbL]
theorem n9{c:Dn}(h:Cv c=true)(i:∀a∈c.2.2,Fh a):Js (Nn c)=some c:=by
 obtain⟨f,e,l⟩:=c;simp only[Cv,Y9,List.all_eq_true] at h;obtain⟨m,g⟩:=h;have d:=(Ge m).1
 have j:Nn (f,e,l)=(bE++32 :: (f.data.toList++32 :: rbL e))++10 :: (l.map Xf).flatMap (λx=>x++[10]):=by simp[Nn,vU,Ed,AAd,List.flatMap_map]
 have k:(10:UInt8) ∉ bE++32 :: (f.data.toList++32 :: rbL e):=by simp only[XE,XH,not_or];exact⟨by decide,by decide,d.n10,by decide,(AEf e).n10⟩
 unfold Js;rw[j,Dh k];simp only
 rw[Sx (λx n=>by obtain⟨a,b,rfl⟩:=List.mem_map.1 n;exact AFo (g a b) (i a b)),Uv (λa b=>⟨g a b,i a b⟩),Hb (by decide),Dh d.n32]
 simp[Ju,ACF]
theorem Hh(h:Bx s=true):s.size<=16:=by simp only[Bx,Y9,decide_eq_true_eq] at h;exact h.2.1
theorem eJ{t:Tb}(h:t.toList.isEmpty=true):t.size<=0:=by rw[List.isEmpty_iff,ByteArray.toList_eq] at h;show t.data.size<=0;rw[<-X4,h];exact XA _
theorem gA{t:Tb}(h:A9 k n t=true):t.size<=40:=by
 unfold A9 at h;split at h
 ·simp only[Y9] at h;have:=eJ h.2;omega
 split at h
 ·have:=eJ h;omega
 split at h
 ·simp only[Y9,Vb,decide_eq_true_eq] at h;exact h.2.1
 cases h
theorem AIu(h:Ko c=true)(a:Vp c):Ib c:=by simp only[Ko,Bv,Cm,Y9] at h;have b:=Hh h.2.2.1.2;have d:=gA h.2.2.2.1;exact⟨a.1,by omega,a.2.1,a.2.2,by omega⟩
theorem Qb(h:Ch a=true)(b:Ints a):Fh a:=by
 unfold Ch at h;split at h
 ·simp only[Y9,rfB] at h
  obtain⟨_,_,e,d,_⟩:=G4 h.2;have:=Hh h.1.1;exact⟨by omega,b.rows,b.mask,by omega,(λx c=>by rw[List.length_eq_zero_iff.1 d] at c;cases c),by omega,b.next⟩
 split at h
 ·simp only[Y9] at h
  obtain⟨_,_,e,d,_⟩:=G4 h.2;have:=Hh h.1;exact⟨by omega,b.rows,b.mask,by omega,(λx c=>by rw[List.length_eq_zero_iff.1 d] at c;cases c),by omega,b.next⟩
 split at h
 ·simp only[Y9,Dj] at h
  obtain⟨_,_,_,d,_⟩:=G4 h.2;have:=Hh h.1.1;have:=fO 60 h.1.2.2;exact⟨by omega,b.rows,b.mask,by omega,(λx c=>by rw[List.length_eq_zero_iff.1 d] at c;cases c),by omega,b.next⟩
 split at h
 ·simp only[Y9] at h
  obtain⟨g,_,e,_,_⟩:=G4 h.2;have f:=(I9 _ _).1 h.1;refine⟨by rw[g];simp[bA,ByteArray.size],b.rows,b.mask,by omega,λx c=>AIu ((Ou x).2 (f.2.2.1 x c).1) (b.cols x c),by have:=f.2.1;omega,b.next⟩
 cases h
theorem Im:Lu 0:=⟨by decide,by decide⟩
theorem zB{s:List UInt8}{v:AIE}{b:List UInt8}(h:Ej s=some (v,b)):Lu v.2.1/\v.2.2.size<=s.length:=by
 unfold Ej at h;split at h
 ·split at h
  ·cases h
   refine⟨Im,?_⟩;have a:=Gv 39 (s.drop 1);rw[XO] at a;show (bA _).size<=_;rw[Cz];omega
  cases h
 split at h
 ·cases h;exact⟨Im,by show (bA []).size<=_;rw[Cz];exact XR _⟩
 cases hn:numOf (Ao 59 s).1 with
 | none=>rw[hn] at h;cases h
 | some n=>rw[hn] at h;cases h;exact⟨Hd hn,by show (bA []).size<=_;rw[Cz];exact XR _⟩
theorem AAj{s:List UInt8}{b:List UInt8}(h:D0 s=some (c,b)):Vp c/\c.2.1.size<=s.length/\c.2.2.2.2.2.2.size<=s.length:=by
 obtain⟨i,k,v,a,d,e,rfl⟩:=Va h;have q:=zB e;have f:=Gi s;have g:=Gi (Aw s);have j:=Gi (Aw (Aw s));have l:=Gi (Aw (Aw (Aw s)));have m:=Gv 32 (Aw s);refine⟨⟨Hd a,Hd d,q.1⟩,?_,?_⟩
 ·show (bA _).size<=_
  rw[Cz];omega
 have:=q.2;show v.2.2.size<=_;omega
theorem Oq:∀(n:Nat){s:List UInt8}{l:List Aj},s.length<=n->Dg s=some l->∀x∈l,Vp x/\x.2.1.size<=n/\x.2.2.2.2.2.2.size<=n
 | 0,s,l,hn,h=>by have:s=[]:=List.length_eq_zero_iff.1 (by omega);subst this;rw[Kq] at h;cases h;intro x a;cases a
 | n+1,s,l,hn,h=>by
   by_cases e:s=[]
   ·subst e
    rw[Kq] at h;cases h;intro x a;cases a
   cases hc:D0 s with
   | none=>rw[Qt e hc] at h;cases h
   | some p=>
     obtain⟨c,b⟩:=p;rw[Jv e hc] at h;have d:=Ru hc;cases hb:Dg b with
     | none=>rw[hb] at h;cases h
     | some m=>
       rw[hb] at h;cases h;intro x a
       rcases List.mem_cons.1 a with rfl|a
       ·have:=AAj hc
        exact⟨this.1,by omega,by omega⟩
       have:=Oq n (by omega) hb x a;exact⟨this.1,by omega,by omega⟩
theorem kH:∀{l:List (List UInt8)}{m:List Int},Dr l=some m->m.length=l.length/\∀x∈m,Lu x
 | [],m,h=>by simp only[Dr] at h;cases h;exact⟨rfl,λx a=>by cases a⟩
 | y :: l,m,h=>by
   simp only[Dr] at h;cases hy:numOf y with
   | none=>rw[hy] at h;cases h
   | some n=>
     rw[hy] at h;simp only[XD] at h;cases hr:Dr l with
     | none=>rw[hr] at h;cases h
     | some k=>
       rw[hr] at h;cases h;have:=kH hr;refine⟨by simp[this.1],λx a=>?_⟩
       rcases List.mem_cons.1 a with rfl|a
       ·exact Hd hy
       exact this.2 x a
theorem nF{a:List UInt8}(h:Co a=some x):Ints x:=by
 unfold Co at h;split at h
 ·cases hn:numOf (Ao 32 (Aw a)).2.1 with
  | none=>rw[hn] at h;cases h
  | some n=>rw[hn] at h;cases h;exact⟨Hd hn,(λ_ q=>by cases q),(λ_ q=>by cases q),Im⟩
 split at h
 ·cases h;exact⟨Im,(λ_ q=>by cases q),(λ_ q=>by cases q),Im⟩
 split at h
 ·cases hn:L1 (Ao 32 (Aw a)).2.1 with
  | none=>rw[hn] at h;cases h
  | some n=>rw[hn] at h;cases h;exact⟨Im,(kH hn).2,(λ_ q=>by cases q),Im⟩
 split at h
 ·cases hn:numOf (Ao 32 (Aw a)).1 with
  | none=>rw[hn] at h;cases h
  | some n=>
    rw[hn] at h;simp only[XD] at h;cases hc:Dg (Ao 32 (Aw a)).2.1 with
    | none=>rw[hc] at h;cases h
    | some l=>rw[hc] at h;cases h;exact⟨Im,(λ_ q=>by cases q),(λy hy=>(Oq _ (XA _) hc y hy).1),Hd hn⟩
 cases h
theorem dI(c:UInt8):∀s:List UInt8,((Ao c s).2.2=true/\(Ao c s).1.length+1+(Ao c s).2.1.length=s.length)\/((Ao c s).2.2=false/\(Ao c s).2.1=[])
 | []=>.inr ⟨rfl,rfl⟩
 | b :: l=>by
   have e:=dI c l;unfold Ao;split
   ·left;exact⟨rfl,by simp;omega⟩
   rcases e with⟨a,d⟩|⟨a,d⟩
   ·left;exact⟨a,by simp only[XB];omega⟩
   right;exact⟨a,d⟩
theorem uN:Co []=none:=by decide
theorem jR:∀(n:Nat){t:List UInt8}{A:List A5},t.length<=n->Cp (Dp t)=some A->2*A.length<=t.length+1/\∀a∈A,∃x:List UInt8,x.length<=t.length/\Co x=some a
 | 0,t,A,hn,h=>by have:t=[]:=List.length_eq_zero_iff.1 (by omega);subst this;rw[Jf] at h;simp only[Cp] at h;cases h;exact⟨by simp,λa b=>by cases b⟩
 | n+1,t,A,hn,h=>by
   by_cases e:t=[]
   ·subst e
    rw[Jf] at h;simp only[Cp] at h;cases h;exact⟨by simp,λa b=>by cases b⟩
   rw[J1 e] at h;simp only[Cp] at h;have k:=Un 10 e;have j:=Gv 10 t;cases hy:Co (Ao 10 t).1 with
   | none=>rw[hy] at h;cases h
   | some y=>
     rw[hy] at h;simp only[XD] at h;cases hr:Cp (Dp (Ao 10 t).2.1) with
     | none=>rw[hr] at h;cases h
     | some M=>
       rw[hr] at h;cases h;have i:=jR n (by omega) hr;have c:(Ao 10 t).1≠[]:=λe0=>by rw[e0,uN] at hy;cases hy
       have g:0<(Ao 10 t).1.length:=List.length_pos_iff.2 c;refine⟨?_,λa b=>?_⟩
       ·have:=i.1
        simp only[XB]
        rcases dI 10 t with⟨_,f⟩|⟨_,f⟩
        ·omega
        rw[f] at this;simp only[XL] at this;have:0<t.length:=List.length_pos_iff.2 e;omega
       rcases List.mem_cons.1 b with rfl|b
       ·exact⟨_,by omega,hy⟩
       obtain⟨x,l,d⟩:=i.2 a b;exact⟨x,by omega,d⟩
theorem AAp:∀(n:Nat){s:List UInt8}{m:List Int},s.length<=n->Dr (Dd 44 s)=some m->2*m.length<=s.length+1
 | n,s,m,hn,h=>by
   rw[Dd] at h
   rcases dI 44 s with⟨b,c⟩|⟨b,c⟩
   ·rw[dif_pos b] at h
    simp only[Dr] at h;cases hy:numOf (Ao 44 s).1 with
    | none=>rw[hy] at h;cases h
    | some y=>
      rw[hy] at h;simp only[XD] at h;have a:0<(Ao 44 s).1.length:=List.length_pos_iff.2 (gC hy);cases hr:Dr (Dd 44 (Ao 44 s).2.1) with
      | none=>rw[hr] at h;cases h
      | some k=>
        rw[hr] at h;cases h;cases n with
        | zero=>omega
        | succ n=>have:=AAp n (by omega) hr;simp only[XB];omega
   rw[dif_neg (by rw[b];simp)] at h;simp only[Dr] at h;cases hy:numOf s with
   | none=>rw[hy] at h;cases h
   | some y=>rw[hy] at h;cases h;have a:0<s.length:=List.length_pos_iff.2 (gC hy);simp only[XB,XL];omega
theorem Ng{M:List Int}{C:List Aj}(d:p.size<=1000000)(c:M.length<=600000)(a:∀x∈C,x.2.1.size<=1000000/\x.2.2.2.2.2.2.size<=1000000):pM (k,p,r,M,C,y) :=
 ⟨by show p.size<=_;unfold maxLen;omega,c,λx b=>⟨by have:=(a x b).1;unfold maxLen;omega,by have:=(a x b).2;unfold maxLen;omega⟩⟩
theorem nV{a:List UInt8}(d:a.length<=1000000)(h:Co a=some x):pM x:=by
 have e:=Gi a;have f:=Gv 32 (Aw a);have b:(bA (Ao 32 (Aw a)).1).size<=1000000:=by rw[Cz];omega
 unfold Co at h;split at h
 ·cases hn:numOf (Ao 32 (Aw a)).2.1 with
  | none=>rw[hn] at h;cases h
  | some n=>rw[hn] at h;cases h;exact Ng b (XR _) (λ_ q=>by cases q)
 split at h
 ·cases h;exact Ng b (XR _) (λ_ q=>by cases q)
 split at h
 ·cases hn:L1 (Ao 32 (Aw a)).2.1 with
  | none=>rw[hn] at h;cases h
  | some n=>rw[hn] at h;cases h;have:=AAp _ (XA _) hn;exact Ng b (by omega) (λ_ q=>by cases q)
 split at h
 ·cases hn:numOf (Ao 32 (Aw a)).1 with
  | none=>rw[hn] at h;cases h
  | some n=>
    rw[hn] at h;simp only[XD] at h;cases hc:Dg (Ao 32 (Aw a)).2.1 with
    | none=>rw[hc] at h;cases h
    | some l=>rw[hc] at h;cases h;exact Ng (by rw[Cz];exact XR _) (XR _) (λy c=>(Oq 1000000 (by omega) hc y c).2)
 cases h
theorem uG(j:l.length<=1000000):∀d e A,Js l=some (d,e,A)->A.length<=600000/\d.size<=maxLen/\∀a∈A,pM a/\(Ch a=true->Fh a):=by
 intro d e A h;unfold Js at h;have m:=Gv 10 l;have n:=Gi (Ao 10 l).1;have o:=Gv 32 (Aw (Ao 10 l).1);cases hr:Cp (Dp (Ao 10 l).2.1) with
 | none=>rw[hr] at h;cases h
 | some M=>rw[hr] at h;cases h;obtain⟨i,f⟩:=jR _ (XA _) hr;refine⟨by omega,by rw[Cz];unfold maxLen;omega,λa g=>?_⟩;obtain⟨x,k,b⟩:=f a g;exact⟨nV (by omega) b,λc=>Qb c (nF b)⟩
theorem ADU(s:Tb)(w:Tw)(a:s.size<=1000000)(b:Ik w)(d:Lw w)(c:Jp w):Zc 46 #[Zt s] w (Kx s.data.toList s w) :=
 jF ACP s w a b d c (uG (by rw[Gm];exact a))
theorem ACx{s:Tb}{b:Bool}{A:List A5}(h:Cv (s,b,A)=true)(c:∀a∈A,Fh a)(i:A.length<=12):0<(C6 (s,b,A)).size/\(C6 (s,b,A)).size<=1000000:=by
 have e:(C6 (s,b,A)).size=(I4 s b).size+(Ed A).length:=by show (Nn (s,b,A)).toArray.size=_;rw[XJ,Nn,XM,Gm]
 simp only[Cv,Y9] at h;have d:=Ri b (XG (Hh h.1) (by decide));have f:=fC c
 have g:0<(I4 s b).size:=by unfold I4;have e9:(⟨#[10]⟩:Tb).size=1:=rfl;rw[Ea,e9];omega
 omega
def AAe(i:Nat):List UInt8:=[108,111,103,47,48,48,48,48,UInt8.ofNat (48+i / 10),UInt8.ofNat (48+i % 10)]
def Ek(i:Nat):ByteArray:=⟨(AAe i).toArray⟩
theorem AGt:((List.range 100).all λi=>(List.range 100).all λj=>!(AAe i==AAe j) || (i==j))=true:=by kernel_rfl
theorem key_inj{i j:Nat}(c:i<100)(d:j<100)(h:Ek i=Ek j):i=j:=by
 have a:=List.all_eq_true.1 (List.all_eq_true.1 AGt i (List.mem_range.2 c)) j (List.mem_range.2 d)
 have e:AAe i=AAe j:=by have:=congrArg (λb:Tb=>b.data.toList) h;simpa[Ek] using this
 rw[e] at a;simpa using a
theorem qI(i:Nat):(Ek i).size=10:=rfl
theorem AEp(i:Nat):itoa (i:Int)=decDigits i:=by unfold itoa;rw[if_neg (by omega)];simp
def AKV(i:Int):ByteArray:=⟨#[108,111,103,47]⟩++⟨(Lib.repeatL [48] (6-(Bm i).size)).toArray⟩++Bm i
theorem AGj{i:Nat}(h:i<100):AKV (i:Int)=Ek i/\(Bm (i:Int)).size<=2:=by
 unfold AKV Bm;rw[AEp]
 by_cases h1:i<10
 ·rw[decDigits_one h1]
  have a:i / 10=0:=by omega
  have b:i % 10=i:=by omega
  unfold Ek AAe;rw[a,b];exact⟨rfl,by show Array.size _<=2;simp⟩
 rw[decDigits_two h1 h];exact⟨rfl,by show Array.size _<=2;simp⟩
theorem ABK(i:Nat)(w:Tw)(h:i<100)(o:Jp w):Zc 45 #[Zi i] w λe q=>e=Zr (Zt (Ek i))/\Zb w q:=by
 have d:=Aa (Mx (i:Int) w ⟨by omega,by omega⟩ o);obtain⟨g,n⟩:=AGj h;have a:=Aa g;unfold AKV at a;obtain⟨r,j⟩:∃r:Nat,r=6-(Bm (i:Int)).size:=⟨_,rfl⟩;rw[<-j] at a;have l:(6:Int)-((Bm (i:Int)).size:Int)=(r:Int):=by omega
 have m:(0:Int)<=(r:Int):=by omega
 have f:=Aa (λW=>strings_Repeat ⟨#[48]⟩ r W (by omega) (by show 1*r<=_;omega));clear j g;generalize Bm (i:Int)=x at *;have s:x.size<=2:=n;go_enter func45,ntmps45;go_wp2_with fail;refine d.o.mono ?_;rintro e u⟨rfl,b⟩;go_wp2_with fail;refine(f.o _).mono ?_;rintro e v⟨rfl,c⟩
 have t:(⟨(Lib.repeatL [48] r).toArray⟩:Tb).size<=6:=by show Array.size _<=6;rw[XJ,Lib.repeatL_length];simp;omega
 have k:(⟨#[108,111,103,47]⟩:Tb).size=4:=rfl;generalize (⟨(Lib.repeatL [48] r).toArray⟩:Tb)=z at *;have p:(⟨#[108,111,103,47]⟩++z:Tb).size<=10:=by rw[Ea,k];omega
 clear d f;go_wp2_with fail;go_ret;exact⟨by rw[a.o];rfl,Below.Ap b c⟩
namespace B
variable{W w:Tw}{n:Nat}{D:Td}
structure A0(S:Nat->Prop)(w w':World):Prop where
 os:w'.os=w.os
 tape:w'.tape=w.tape
 output:w'.output=w.output
 size:w.heap.size<=w'.heap.size
 block:∀k,k<w.heap.size->¬S k->w'.heap[k]? = w.heap[k]?
theorem A0.refl(S:Nat->Prop)(w:Tw):A0 S w w:=⟨rfl,rfl,rfl,XA _,λ_ _ _=>rfl⟩
theorem A0.trans{S T:Nat->Prop}{a b c:Tw}(h:A0 S a b)(k:A0 T b c)(f:∀i,i<a.heap.size->T i->S i):A0 S a c :=
 ⟨k.os.trans h.os,k.tape.trans h.tape,k.output.trans h.output,XG h.size k.size,λi d e=>(k.block i (Ya d h.size) (λht=>e (f i d ht))).trans (h.block i d e)⟩
theorem A0.mono{S T:Nat->Prop}{a b:Tw}(h:A0 S a b)(e:∀i,i<a.heap.size->S i->T i):A0 T a b :=
 ⟨h.os,h.tape,h.output,h.size,λi c d=>h.block i c (λhs=>d (e i c hs))⟩
theorem A0.Ba{S:Nat->Prop}{a b:Tw}(h:Zb a b):A0 S a b:=⟨h.os,h.tape,h.output,h.size,λi c _=>h.block i c⟩
theorem A0.below{S:Nat->Prop}{B:Nat}{w0 a b:Tw}(c:Below B w0 a)(h:A0 S a b)(e:B<=a.heap.size)(d:∀i,S i->B<=i):Below B w0 b :=
 c.trans ⟨h.os,h.tape,h.output,h.size,λi f=>h.block i (by omega) (λhs=>by have:=d i hs;omega)⟩
theorem A0.cell{S:Nat->Prop}{a b:Tw}(h:A0 S a b){p:Addr}{v:Tv}(c:a.cell? p=some v)(d:¬S p.block):b.cell? p=some v :=
 (World.cell?_of_block (h.block p.block (XN a p c) d)).trans c
theorem A0.alloc{S:Nat->Prop}{a b:Tw}(h:A0 S a b)(o:Obj):A0 S a (b.alloc o) :=
 h.trans (T:=λ_=>False) ⟨rfl,rfl,rfl,by simp,λk hk _=>XC _ _ _ hk⟩ (λ_ _ h=>h.elim)
theorem A0.setCell{S:Nat->Prop}{a b:Tw}(h:A0 S a b){p:Addr}(c:p.block<a.heap.size->S p.block)(u:Tv):A0 S a (b.setCell p u) :=
 h.trans (T:=λk=>k=p.block) ⟨rfl,rfl,rfl,by simp[World.setCell],λk _ hk=>X6 _ _ _ _ hk⟩ (λ_ hi e=>e ▸ c (e ▸ hi))
theorem A0.AFb{S:Nat->Prop}{a b c:Tw}{m:Nat}(h:A0 S a b)(g:b.mapTurned c m)(f:m<a.heap.size->S m):A0 S a c:=by have d:=g.grown;exact h.trans (T:=λk=>k=m) ⟨d.os,d.tape,d.output,d.size,λk hk hn=>d.block k hk (λe=>hn (Yu e))⟩ (λi hi e=>e ▸ f (e ▸ hi))
theorem A0.grown{S:Nat->Prop}{a b c:Tw}{row:Option Nat}(h:A0 S a b)(d:b.grownBy c row)(f:∀m,row=some m->m<a.heap.size->S m):A0 S a c :=
 h.trans (T:=λk=>row=some k) ⟨d.os,d.tape,d.output,d.size,λk hk hn=>d.block k hk (λe=>hn e.symm)⟩ (λi hi e=>f i e hi)
def Jd(v:Value):Option (DataW Unit×List MemPlace) :=
 match v with
 | .agg cs=>match cs.toList with
   | [.string s]=>if s.size<=maxLen then some (.lit (.string s.data.toList),[]) else none
   | _=>none
 | _=>none
theorem Wt{s:Tb}(h:s.size<=maxLen):Jd (.agg #[.string s])=some (.lit (.string s.data.toList),[]):=by simp[Jd,h]
theorem wC{v:Tv}{z:Td×List MemPlace}(h:Jd v=some z):∃s:Tb,v=.agg #[.string s]/\z=(.lit (.string s.data.toList),[])/\s.size<=maxLen:=by
 unfold Jd at h;split at h
 ·rename_i cs
  split at h
  ·rename_i s hs
   split at h
   ·rename_i hl
    cases h;exact⟨s,by rw[<-Array.toArray_toList (xs:=cs),hs],rfl,hl⟩
   cases h
  cases h
 cases h
def lit(b:ByteArray):Lit:=.string b.data.toList
def Gw(b:ByteArray):DataW Unit:=.lit (.string b.data.toList)
theorem aS{a b:Tb}(h:Gw a=Gw b):a=b:=by unfold Gw at h;injection h with h;injection h with h;cases a;cases b;simp at h;simp[h]
theorem Jr{a b:Tb}(h:lit a=lit b):a=b:=by unfold lit at h;injection h with h;cases a;cases b;simp at h;simp[h]
theorem Wl:Keyed prog 9:=string_keyed underlying9
theorem Mh{b:Tb}(h:b.size<=maxLen):keyOf prog 9 (.string b)=some (lit b):=WideMaps.keyOf_string_mk underlying9 h
def Th(w:World)(mv:Value)(n:Nat)(D:DataW Unit):Prop:=(mv=.map none/\D=.map [])\/∃m,mv=.map (some m)/\w.ownsMap prog 9 Jd m n D
def Fs(w:World)(d:Value)(fs:List Int):Prop:=∃a c,d=.slice a fs.length c/\fs.length<=c/\(fs≠[]->∃b off,a=some ⟨b,off,none⟩/\∀(j:Nat)x,fs[j]? = some x->w.cell? ⟨b,off+j,none⟩=some (Zi x))
def Bk(w:World)(bb:Nat)(mv a:Value):Prop:=w.heap[bb]? = some (.cells #[mv,a] 30 (0,0))
theorem Bk.c0{bb:Nat}{mv v:Tv}(h:Bk w bb mv v):w.cell? ⟨bb,0,none⟩=some mv:=by unfold Bk at h;simp[World.cell?,h]
theorem Bk.c1{bb:Nat}{mv v:Tv}(h:Bk w bb mv v):w.cell? ⟨bb,1,none⟩=some v:=by unfold Bk at h;simp[World.cell?,h]
theorem Bk.f{bb:Nat}{mv v:Tv}(h:Bk w bb mv v)(i:Nat):w.frozen? ⟨bb,i,none⟩=false:=by unfold Bk at h;simp[World.frozen?,h]
theorem Bk.lt{bb:Nat}{mv v:Tv}(h:Bk w bb mv v):bb<w.heap.size:=XN w ⟨bb,0,none⟩ h.c0
theorem Bk.keep{bb:Nat}{mv v:Tv}(h:Bk w bb mv v)(a:W.heap[bb]? = w.heap[bb]?):Bk W bb mv v:=a.trans h
theorem Bk.AKp{bb:Nat}{mv v:Tv}(h:Bk w bb mv v)(u:Tv):Bk (w.setCell ⟨bb,0,none⟩ u) bb u v:=by unfold Bk at h ⊢;simp[World.setCell,XZ,h]
theorem Bk.AEs{bb:Nat}{mv v:Tv}(h:Bk w bb mv v)(u:Tv):Bk (w.setCell ⟨bb,1,none⟩ u) bb mv u:=by unfold Bk at h ⊢;simp[World.setCell,XZ,h]
theorem Bk.alloc{w:Tw}{bb:Nat}{mv v:Tv}(h:Bk w bb mv v)(o:Obj):Bk (w.alloc o) bb mv v:=h.keep (XC _ _ _ h.lt)
theorem Fs.keep{u:Tv}{fs:List Int}(h:Fs w u fs)(i:∀p v,(∃x,v=Value.int .i64 x)->w.cell? p=some v->W.cell? p=some v):Fs W u fs:=by obtain⟨a,d,e,g,k⟩:=h;refine⟨a,d,e,g,λl=>?_⟩;obtain⟨b,off,f,c⟩:=k l;exact⟨b,off,f,λj x m=>i _ _ ⟨x,rfl⟩ (c j x m)⟩
theorem Fs.alloc{w:Tw}{v:Tv}{fs:List Int}(h:Fs w v fs)(o:Obj):Fs (w.alloc o) v fs:=h.keep λp _ _ a=>(Yo _ _ p (XN w p a)).trans a
theorem Th.alloc{w:Tw}{mv:Tv}{n:Nat}{D:Td}(h:Th w mv n D)(o:Obj):Th (w.alloc o) mv n D:=by
 rcases h with h|⟨m,e,a⟩
 ·exact .inl h
 exact .inr ⟨m,e,a.alloc _⟩
theorem Th.mono{w:Tw}{mv:Tv}{n n':Nat}{D:Td}(h:Th w mv n D)(b:n<=n'):Th w mv n' D:=by
 rcases h with h|⟨m,e,a⟩
 ·exact .inl h
 exact .inr ⟨m,e,a.mono b⟩
theorem Th.keep{mv:Tv}(h:Th w mv n D)(b:∀m,mv=.map (some m)->W.heap[m]? = w.heap[m]?):Th W mv n D:=by
 rcases h with h|⟨m,e,c⟩
 ·exact .inl h
 obtain⟨es,clock,a,r⟩:=c;exact .inr ⟨m,e,es,clock,(b m e).trans a,r⟩
theorem Th.lt{w:Tw}{mv:Tv}{n:Nat}{D:Td}(h:Th w mv n D){m:Nat}(e:mv=.map (some m)):m<w.heap.size:=by
 rcases h with⟨h,_⟩|⟨c,a,b⟩
 ·rw[e] at h;cases h
 rw[e] at a;cases a;exact b.lt
theorem Th.ne{w:Tw}{mv:Tv}{n:Nat}{D:Td}(h:Th w mv n D){p:Addr}{v:Tv}(c:w.cell? p=some v):mv≠.map (some p.block):=by
 rcases h with⟨h,_⟩|⟨m,e,es,clock,b,_⟩
 ·rw[h];intro e;cases e
 rw[e];intro a;cases a;simp[World.cell?,b] at c
theorem Th.look{mv:Tv}(h:Th w mv n D){p:Tb}(b:p.size<=maxLen):
 ∃t:Tb,(Instr.lookup 27 mv (Zt p) true).run prog w=.ok (Zu #[Zg #[Zt t],Zo (Maps.has D (lit p))]) w/\D.atKey (lit p) (Gw ByteArray.empty)=Gw t:=by
 have c:∀W,(zeroValue 164).run prog W=.ok (Zg #[Zt ⟨#[]⟩]) W:=λW=>by kernel_rfl
 rcases h with⟨rfl,rfl⟩|⟨m,rfl,d⟩
 ·refine⟨⟨#[]⟩,?_,rfl⟩
  have:=Maps.look_nil (w:=w) true Wl underlying27 (c w) (Mh b);simpa[Maps.has] using this
 obtain⟨v,g,a,f⟩:=d.look_ok Wl underlying27 (c w) (zd:=Gw ByteArray.empty) (Wt (by decide)) (Mh b);obtain⟨s,rfl,e,_⟩:=wC f;exact⟨s,a,congrArg Prod.fst e⟩
section
variable (w : World) {ops : Array Oper} {rest : List Oper} {o : Oper} {a : Act} {Q : Exit → Act → World → Prop}
theorem Wv(h:o.guard=none)(m x:Operand)(f:o.op=Op.lookup 27 m x true)(n:Nat)(D:Td)(mv:Tv)(b:Tb)(j:a.eval m=mv)(k:a.eval x=Zt b)(g:Th w mv n D)(i:b.size<=maxLen)(hK:∀t:Tb,D.atKey (lit b) (Gw ByteArray.empty)=Gw t->wpList prog ops Q rest (a.put o.dst (Zu #[Zg #[Zt t],Zo (Maps.has D (lit b))])) w):
 wpList prog ops Q (o :: rest) a w:=by
 refine wpList_plain h λl d=>?_
 obtain⟨t,c,e⟩:=g.look i;unfold Oper.wp;simp[execOp,f,j,k,c,Result.andThen];exact d _ _ (hK t e)
end
theorem ABJ(bb:Nat)(mv:Tv)(w:Tw)(b:w.cell? ⟨bb,0,none⟩=some mv):
 Zc 80 #[Zp (some ⟨bb,0,none⟩)] w λe a=>e=Zr mv/\a=w:=by
 go_enter func80,ntmps80;go_wp2;go_ret;exact⟨rfl,rfl⟩
theorem AGP(bb:Nat)(b:To)(a:Nat)(w:Tw)(d:w.cell? ⟨bb,1,none⟩=some (Zs b 0 a)):
 Zc 121 #[Zp (some ⟨bb,0,none⟩)] w λe c=>e=Zr (Zi 0)/\c=w:=by
 go_enter func121,ntmps121;go_wp2;go_ret;exact⟨rfl,rfl⟩
theorem ADR(bb b off n a:Nat)(x:Int)(w:Tw)(g:w.cell? ⟨bb,1,none⟩=some (Zs (some ⟨b,off,none⟩) (n+1) a))(i:w.frozen? ⟨bb,1,none⟩=false)(j:n+1<=a)(h:w.cell? ⟨b,off,none⟩=some (Zi x)):
 Zc 121 #[Zp (some ⟨bb,0,none⟩)] w λe f=>e=Zr (Zi x)/\∃c,(n≠0->c=some ⟨b,off+1,none⟩)/\f=w.setCell ⟨bb,1,none⟩ (Zs c n (a-1)):=by
 go_enter func121,ntmps121;go_wp2
 ·go_ret
  exact⟨rfl,some ⟨b,off,none⟩,λd=>by omega,rfl⟩
 go_ret;exact⟨rfl,some ⟨b,off+1,none⟩,λ_=>rfl,rfl⟩
def Own(bb:Nat)(mv:Value)(k:Nat):Prop:=k=bb\/mv=.map (some k)
def Bu(w:World)(bb n:Nat)(D:DataW Unit)(fs:List Int)(mv a:Value):Prop:=Bk w bb mv a/\Th w mv n D/\Fs w a fs
theorem Fs.far{w:Tw}{bb:Nat}{mv v:Tv}{n:Nat}{D:Td}{fs:List Int}(f:Bk w bb mv v)(j:Th w mv n D)(i:Fs w v fs){p:Addr}{x:Int}(b:w.cell? p=some (Zi x)):p.block≠bb:=by
 intro e;unfold Bk at f;obtain⟨a,g,rfl,_⟩:=i
 have c:∀x,mv≠Zi x:=λx d=>by rcases j with⟨h,_⟩|⟨m,h,_⟩ <;> rw[h] at d <;> cases d
 obtain⟨r,o,q⟩:=p;have l:q=none:=World.cell?_spot b;subst l;simp only at e;subst e;simp only[World.cell?,f] at b
 match o with
 | 0=>simp at b;exact c _ b
 | 1=>simp at b
 | k+2=>simp at b
def Ur(e d:Value):Prop:=∀b off l c,d=.slice (some ⟨b,off,none⟩) (l+1) c->∃a f c0,e=.slice (some ⟨b,a,none⟩) (f+1) c0
theorem Ur.refl(a:Tv):Ur a a:=λ_ off l c e=>⟨off,l,c,e⟩
theorem AFS(bb n:Nat)(D:Td)(fs:List Int)(mv i:Tv)(w:Tw)(g:Bk w bb mv i)(t:Th w mv n D)(s:Fs w i fs):
 Zc 121 #[Zp (some ⟨bb,0,none⟩)] w λe u=>e=Zr (Zi (fs.headD 0))/\∃o,Bu u bb n D fs.tail mv o/\A0 (λk=>k=bb) w u/\Ur i o:=by
 cases fs with
 | nil=>have v:=s;obtain⟨a,c,e,z,I⟩:=v;refine(AGP bb a c w (by have:=g.c1;rw[e] at this;exact this)).mono ?_;rintro e u⟨rfl,rfl⟩;exact⟨rfl,i,⟨g,t,s⟩,A0.refl _ _,Ur.refl _⟩
 | cons x fs=>
   have r:=@Fs.far w bb mv i n D (x :: fs) g t s;obtain⟨a,c,rfl,z,I⟩:=s;obtain⟨b,off,rfl,d⟩:=I (by simp);refine(ADR bb b off fs.length c x w g.c1 (g.f 1) z (by simpa using d 0 x rfl)).mono ?_;rintro e u⟨rfl,J,q,rfl⟩;refine⟨rfl,_,⟨g.AEs _,t.keep λm L=>X6 _ _ _ _ ?_,J,c-1,rfl,by simp at z ⊢;omega,λhn=>⟨b,off+1,q (by cases fs with|nil=>exact absurd rfl hn|cons y l=>simp),λj y hy=>?_⟩⟩,(A0.refl (λk=>k=bb) w).setCell (p:=⟨bb,1,none⟩) (λ_=>rfl) _,λb1 off1 l1 c1 e=>?_⟩
   rotate_right
   ·injection e with h M
    have:=q (by omega);rw[this] at h;injection h with h;injection h with h;subst h;exact⟨off,fs.length,c,rfl⟩
   ·intro e
    exact t.ne (g.c0) (by rw[L,e])
   have G:=d (j+1) y (by simpa using hy);rw[show off+1+j=off+(j+1) by omega,YP _ _ _ _ (by intro e;exact r G (congrArg Addr.block e).symm)];exact G
theorem AGN(w:Tw)(a:Option Nat):(binOp .eql 27 (.map a) (.map none)).run prog w=.ok (Zo a.isNone) w:=by cases a <;> kernel_rfl
theorem AH6(bb:Nat)(i:Tv)(c s:Tb)(w:Tw)(d:Bk w bb (.map none) i)(t:c.size<=maxLen)(x:s.size<=maxLen):
 Zc 122 #[Zp (some ⟨bb,0,none⟩),Zt c,Zt s] w λe l=>e=Zr (Zu #[])/\∃m,w.heap.size<=m/\Bk l bb (.map (some m)) i/\l.ownsMap prog 9 Jd m 1 (DataW.put (.map []) (lit c) (Gw s))/\A0 (λk=>k=bb) w l:=by
 have v:=@run_makeMap prog;have z:=AGN;have c0:=d.c0;have y:=d.f 0;have j:w.heap.size≠bb:=Nat.ne_of_gt d.lt;have g:(w.setCell ⟨bb,0,none⟩ (.map (some w.heap.size))).heap.size=w.heap.size:=by simp[World.setCell]
 have q:Hid (((w.setCell ⟨bb,0,none⟩ (.map (some w.heap.size))).alloc (.map #[] 0)).ownsMap prog 9 Jd w.heap.size 0 (.map [])):=by have:=World.ownsMap_made (w.setCell ⟨bb,0,none⟩ (.map (some w.heap.size))) prog 9 Jd;rw[g] at this;exact this
 have n:Hid (Bk ((w.setCell ⟨bb,0,none⟩ (.map (some w.heap.size))).alloc (.map #[] 0)) bb (.map (some w.heap.size)) i):=(d.AKp _).alloc _;have o:Hid (A0 (λk=>k=bb) w ((w.setCell ⟨bb,0,none⟩ (.map (some w.heap.size))).alloc (.map #[] 0))):=((A0.refl (λk=>k=bb) w).setCell (p:=⟨bb,0,none⟩) (λ_=>rfl) _).alloc _;clear g;have u:=d.lt;clear d j;go_enter func122,ntmps122
 go_wp2_with (first
  | (at_mapUpdate;(refine wpList_mapUpdate_in _ rfl _ _ _ 27 rfl 9 164 Wl underlying27 Jd w.heap.size 0 (.map []) rfl q.o (by decide) _ _ _ rfl rfl (Mh t) _ [] (Wt x) ?_);intro D b a))
 go_end0
 have r:=a.grown;exact⟨rfl,w.heap.size,XA _,n.o.keep (r.block bb (n.o.lt) (by intro e;cases e;omega)),b,o.o.AFb a (λh=>absurd h (YF _))⟩
theorem AFc(bb m n:Nat)(D:Td)(i:Tv)(c s:Tb)(w:Tw)(d:Bk w bb (.map (some m)) i)(f:w.ownsMap prog 9 Jd m n D)(k:n<maxLen)(j:c.size<=maxLen)(l:s.size<=maxLen):
 Zc 122 #[Zp (some ⟨bb,0,none⟩),Zt c,Zt s] w λe g=>e=Zr (Zu #[])/\g.ownsMap prog 9 Jd m (n+1) (D.put (lit c) (Gw s))/\w.mapTurned g m:=by
 have o:=AGN;have c0:=d.c0;have h:Hid (w.ownsMap prog 9 Jd m n D):=f;clear d f;go_enter func122,ntmps122
 go_wp2_with (first
  | (at_mapUpdate;(refine wpList_mapUpdate_in _ rfl _ _ _ 27 rfl 9 164 Wl underlying27 Jd m n D rfl h.o k _ _ _ rfl rfl (Mh j) _ [] (Wt l) ?_);intro p b a))
 go_end0
 exact⟨rfl,b,a⟩
def St(mv a:Value):Prop:=∀k,mv=.map (some k)->a=mv
theorem St.refl(mv:Tv):St mv mv:=λ_ _=>rfl
theorem oD(bb n:Nat)(D:Td)(fs:List Int)(mv l:Tv)(c s:Tb)(w:Tw)(h:Bu w bb n D fs mv l)(L:n<maxLen)(g:c.size<=maxLen)(G:s.size<=maxLen):
 Zc 122 #[Zp (some ⟨bb,0,none⟩),Zt c,Zt s] w λe d=>e=Zr (Zu #[])/\∃j,Bu d bb (n+1) (D.put (lit c) (Gw s)) fs j l/\A0 (Own bb mv) w d/\(∀k,j=.map (some k)->mv=.map (some k)\/w.heap.size<=k)/\St mv j:=by
 obtain⟨o,t,z⟩:=h;have q:=@Fs.far w bb mv l n D fs o t z;have f:=@Th.ne w mv n D t
 have a:∀d,A0 (Own bb mv) w d->Fs d l fs:=λd y=>z.keep λp v⟨x,hx⟩hc=>y.cell hc (by
  rintro(e|e)
  ·exact q (hc.trans (congrArg some hx)) e
  exact f hc e)
 rcases t with⟨rfl,rfl⟩|⟨m,rfl,J⟩
 ·refine(AH6 bb l c s w o g G).mono ?_
  rintro e d⟨rfl,m,u,r,i,y⟩;have b:A0 (Own bb (.map none)) w d:=y.mono λ_ _ e=>.inl e
  exact⟨rfl,_,⟨r,.inr ⟨m,rfl,i.mono (by omega)⟩,a _ b⟩,b,λk g=>.inr (by cases g;exact u),λk g=>by cases g⟩
 refine(AFc bb m n D l c s w o J L g G).mono ?_;rintro e d⟨rfl,i,I⟩;have b:A0 (Own bb (.map (some m))) w d:=(A0.refl _ w).AFb I (λ_=>.inr rfl);refine⟨rfl,_,⟨o.keep (I.grown.block bb o.lt ?_),.inr ⟨m,rfl,i⟩,a _ b⟩,b,λk g=>.inl g,St.refl _⟩;intro e;cases e;exact f o.c0 rfl
def Wz(a:ByteArray):Bool:=decide (1<=a.size) && decide (a.size<=60)
def bM(D:DataW Unit)(fs:List Int)(a s:ByteArray):Int×DataW Unit×List Int :=
 if Wz a=false then (1,D,fs) else if Maps.has D (lit a)=true then (9,D,fs) else if fs.headD 0=1 then (14,D,fs.tail) else if fs.headD 0=2 then (14,D.put (lit a) (Gw s),fs.tail) else (0,D.put (lit a) (Gw s),fs.tail)
def L8(x:Int):Value:=if x=0 then .nilIface else .iface 90 (Zi x)
def Um(D:DataW Unit)(a:ByteArray)(w:World)(e:Ending)(b:World):Prop:=∃t:ByteArray,e=.returned (.tuple #[.string t,L8 (if Maps.has D (lit a)=true then 0 else 7)])/\(Maps.has D (lit a)=true->D.atKey (lit a) (Gw ByteArray.empty)=Gw t)/\(Maps.has D (lit a)=false->t=ByteArray.empty)/\Zb w b
theorem aP(bb n:Nat)(D:Td)(mv:Tv)(a:Tb)(w:Tw)(i:w.cell? ⟨bb,0,none⟩=some mv)(f:Th w mv n D)(j:a.size<=maxLen):
 Zc 44 #[Zp (some ⟨bb,0,none⟩),Zt a] w (Um D a w):=by
 have b:=ABJ bb mv w i;have g:Hid (Th w mv n D):=f;clear f;go_enter func44,ntmps44
 go_wp2_with (first
  | (go_at_call 80;refine b.mono ?_;rintro e k⟨rfl,rfl⟩)
  | (at_lookup;refine Wv _ rfl _ _ rfl n D mv a rfl rfl g.o j ?_;intro t d))
 ·rename_i hh
  have c:=nt hh;go_ret2;exact⟨ByteArray.empty,by rw[c];rfl,λh=>(by rw[c] at h;cases h),λ_=>rfl,Zal⟩
 rename_i hh;have c:=nf hh;go_ret2;exact⟨t,by rw[c];rfl,λ_=>d,λh=>(by rw[c] at h;cases h),Zal⟩
theorem Bu.only{S:Nat->Prop}{bb n:Nat}{fs:List Int}{mv u:Tv}(h:Bu w bb n D fs mv u)(a:A0 S w W)(f:¬S bb)(i:∀m,mv=.map (some m)->¬S m)(g:∀p x,w.cell? p=some (Zi x)->¬S p.block):Bu W bb n D fs mv u:=by obtain⟨b,c,d⟩:=h;exact⟨b.keep (a.block bb b.lt f),c.keep λm e=>a.block m (c.lt e) (i m e),d.keep λp v⟨x,hx⟩hc=>a.cell hc (g p x (hc.trans (congrArg some hx)))⟩
theorem Bu.below{bb n:Nat}{fs:List Int}{mv v:Tv}(h:Bu w bb n D fs mv v)(a:Zb w W):Bu W bb n D fs mv v :=
 h.only (S:=λ_=>False) (A0.Ba a) (λh=>h) (λ_ _ h=>h) (λ_ _ _ h=>h)
theorem Bu.mono{w:Tw}{bb n n':Nat}{D:Td}{fs:List Int}{mv v:Tv}(h:Bu w bb n D fs mv v)(a:n<=n'):Bu w bb n' D fs mv v:=⟨h.1,h.2.1.mono a,h.2.2⟩
def AHf(bb n:Nat)(r:Int×DataW Unit×List Int)(mv d:Value)(w:World)(e:Ending)(c:World):Prop:=e=.returned (L8 r.1)/\∃a b,Bu c bb (n+1) r.2.1 r.2.2 a b/\A0 (Own bb mv) w c/\(∀k,a=.map (some k)->mv=.map (some k)\/w.heap.size<=k)/\Ur d b/\St mv a
theorem ABa(bb n:Nat)(D:Td)(fs:List Int)(mv m:Tv)(a s:Tb)(w:Tw)(h:Bu w bb n D fs mv m)(W:n<maxLen)(c:a.size<=maxLen)(hs:s.size<=maxLen):
 Zc 78 #[Zp (some ⟨bb,0,none⟩),Zt a,Zt s] w (AHf bb n (bM D fs a s) mv m w):=by
 have H:Hid (Bu w bb n D fs mv m):=h;have c0:=h.1.c0;have q:=ABJ bb mv w c0;have R:Hid (∀o,Zc 121 #[Zp (some ⟨bb,0,none⟩)] (w.alloc o) λe P=>e=Zr (Zi (fs.headD 0))/\∃b,Bu P bb n D fs.tail mv b/\A0 (λk=>k=bb) (w.alloc o) P/\Ur m b):=λo=>AFS bb n D fs mv m _ (h.1.alloc _) (h.2.1.alloc _) (h.2.2.alloc _)
 have U:Hid (∀G b,Bu G bb n D fs.tail mv b->Zc 122 #[Zp (some ⟨bb,0,none⟩),Zt a,Zt s] G λe P=>e=Zr (Zu #[])/\∃y,Bu P bb (n+1) (D.put (lit a) (Gw s)) fs.tail y b/\A0 (Own bb mv) G P/\(∀k,y=.map (some k)->mv=.map (some k)\/G.heap.size<=k)/\St mv y):=λG b hb=>oD bb n D fs.tail mv b a s G hb W c hs
 have l:Hid (bM D fs a s=if Wz a=false then (1,D,fs) else if Maps.has D (lit a)=true then (9,D,fs) else if fs.headD 0=1 then (14,D,fs.tail) else if fs.headD 0=2 then (14,D.put (lit a) (Gw s),fs.tail) else (0,D.put (lit a) (Gw s),fs.tail)):=rfl;have T:Hid (Wz a=(decide (1<=a.size) && decide (a.size<=60))):=rfl;clear h c0 W;generalize bM D fs a s=r at l ⊢;generalize fs.headD 0=f at R l;generalize fs.tail=V at R l U
 rcases Yc 0 a.size with p|p
 ·rcases Yc 60 a.size with I|I
  ·go_enter func78,ntmps78
   go_wp2;go_ret;have g:r=(1,D,fs):=by rw[l.o,if_pos (by rw[T.o];simp only[XI,decide_eq_false_iff_not];omega)]
   rw[g];exact⟨rfl,mv,m,H.o.mono (by omega),A0.refl _ _,λk c=>.inl c,Ur.refl _,St.refl _⟩
  have X:1<=a.size:=p;have j:Hid (Wz a=true):=Aa (by rw[T.o];simp only[Y9,decide_eq_true_eq];omega);go_enter func78,ntmps78
  go_wp2_with (first
   | (go_at_call 80;refine q.mono ?_;rintro e G⟨rfl,rfl⟩)
   | (at_lookup;refine Wv _ rfl _ _ rfl n D mv a rfl rfl H.o.2.1 c ?_;intro t Y)
   | (go_at_call 121;refine(R.o _).mono ?_;rintro e w2⟨rfl,v,M,d,z⟩)
   | (go_at_call 122;refine(U.o _ _ M).mono ?_;rintro e w3⟨rfl,O,N,L,J,u⟩))
  all_goals clear R U q
  ·rename_i x
   go_ret;have g:r=(9,D,fs):=by rw[l.o,if_neg (by rw[j.o];simp),if_pos x]
   rw[g];exact⟨rfl,mv,m,(H.o.below (Zal)).mono (by omega),(A0.refl _ _).alloc _,λk c=>.inl c,Ur.refl _,St.refl _⟩
  ·have x:Maps.has D (lit a)=false:=by assumption
   have p:(f==1)=true:=by assumption
   go_ret;have g:r=(14,D,V):=by rw[l.o,if_neg (by rw[j.o];simp),if_neg (by rw[x];simp),if_pos (by simpa using p)]
   rw[g];exact⟨rfl,mv,v,M.mono (by omega),((A0.refl _ _).alloc _).trans d (λi _ e=>.inl e),λk c=>.inl c,z,St.refl _⟩
  ·have x:Maps.has D (lit a)=false:=by assumption
   have p:(f==1)=false:=by assumption
   have I:(f==2)=true:=by assumption
   go_ret;have g:r=(14,D.put (lit a) (Gw s),V):=by rw[l.o,if_neg (by rw[j.o];simp),if_neg (by rw[x];simp),if_neg (by simpa using p),if_pos (by simpa using I)]
   rw[g];exact⟨rfl,O,v,N,(((A0.refl _ _).alloc _).trans d (λi _ e=>.inl e)).trans L (λi _ e=>e),λk c=>(J k c).imp id (λh=>XG (XG (by simp) d.size) h),z,u⟩
  have x:Maps.has D (lit a)=false:=by assumption
  have p:(f==1)=false:=by assumption
  have I:(f==2)=false:=by assumption
  go_ret;have g:r=(0,D.put (lit a) (Gw s),V):=by rw[l.o,if_neg (by rw[j.o];simp),if_neg (by rw[x];simp),if_neg (by simpa using p),if_neg (by simpa using I)]
  rw[g];exact⟨rfl,O,v,N,(((A0.refl _ _).alloc _).trans d (λi _ e=>.inl e)).trans L (λi _ e=>e),λk c=>(J k c).imp id (λh=>XG (XG (by simp) d.size) h),z,u⟩
 go_enter func78,ntmps78;go_wp2;go_ret;have g:r=(1,D,fs):=by rw[l.o,if_pos (by rw[T.o];simp only[XI,decide_eq_false_iff_not];omega)]
 rw[g];exact⟨rfl,mv,m,H.o.mono (by omega),A0.refl _ _,λk c=>.inl c,Ur.refl _,St.refl _⟩
def Ob(w:World):Prop:=w.cell? ⟨1,0,none⟩=some (.iface 369 (.agg #[.pointer (some ⟨11,32,none⟩)]))
theorem Ob.lt{w:Tw}(h:Ob w):1<w.heap.size:=by
 rcases Yc 1 w.heap.size with a|a
 ·exact a
 unfold Ob at h;simp[World.cell?,Array.getElem?_eq_none a] at h
theorem Ob.below{w W:Tw}(h:Ob w)(a:Zb w W):Ob W:=(a.cell (p:=⟨1,0,none⟩) h.lt).trans h
theorem AJj(w:Tw):Bu (w.alloc (Zk #[.map none,Zs none 0 0] 30)) w.heap.size 0 (.map []) [] (.map none) (Zs none 0 0) :=
 ⟨heap_alloc_new w _,.inl ⟨rfl,rfl⟩,_,_,rfl,XA _,λh=>absurd rfl h⟩
def Z(w0:World)(bb n:Nat)(D:DataW Unit)(fs:List Int)(w:World):Prop:=∃mv a,Bu w bb n D fs mv a/\Zb w0 w/\w0.heap.size<=bb/\∀k,mv=.map (some k)->w0.heap.size<=k
end B
variable{H:List (Dn×Ah)}{i:Nat}{x:Dn×Ah}{c:Dn}{D:Td}{W Y w:Tw}{v:Tv}{s:Ah}
structure Lay(c:Dn):Prop where
 ok:Cv c=true
 lines:∀a∈c.2.2,Fh a
 Iz:c.2.2.length<=100
 len:0<(C6 c).size/\(C6 c).size<=1000000
def Xv:Ah->List (Dn×Ah)->Prop
 | _,[]=>True
 | s,x :: l=>Bi s x.1 x.2/\Lay x.1/\Xv x.2 l
def Ic:Ah->List (Dn×Ah)->Ah
 | s,[]=>s
 | _,x :: l=>Ic x.2 l
def Ae(H:List (Dn×Ah))(i:Nat):Ah:=Ic F6 (H.take i)
theorem fF:∀{s:Ah}{H:List (Dn×Ah)}{c:Dn}{t:Ah},Xv s H->Bi (Ic s H) c t->Lay c->Xv s (H++[(c,t)])
 | _,[],_,_,_,h,hl=>⟨h,hl,trivial⟩
 | _,_ :: _,_,_,hc,h,hl=>⟨hc.1,hc.2.1,fF hc.2.2 h hl⟩
theorem Re:∀{s:Ah}{H:List (Dn×Ah)}{x:Dn×Ah},Ic s (H++[x])=x.2
 | _,[],_=>rfl
 | _,y :: l,_=>Re (s:=y.2) (H:=l)
theorem rO:∀{s:Ah}{H:List (Dn×Ah)},Xv s H->∀i,i<H.length->∃c t,H[i]? = some (c,t)/\Bi (Ic s (H.take i)) c t/\Lay c/\Ic s (H.take (i+1))=t
 | _,x :: _,h,0,_=>⟨x.1,x.2,rfl,h.1,h.2.1,rfl⟩
 | _,x :: l,h,i+1,hi=>by obtain⟨c,t,a,b,d,e⟩:=rO (s:=x.2) (H:=l) h.2.2 i (by simpa using hi);exact⟨c,t,by simpa using a,by simpa[Ic] using b,d,by simpa[Ic] using e⟩
theorem fR:∀{s:Ah}{H:List (Dn×Ah)},Xv s H->Good Bv Cm s->Q7 s->0<=s.Eb->∀i,i<=H.length->Good Bv Cm (Ic s (H.take i))/\Q7 (Ic s (H.take i))/\(Ic s (H.take i)).Eb=s.Eb+i
 | _,_,_,g,n,_,0,_=>by simpa[Ic] using ⟨g,n⟩
 | _,x :: l,h,g,n,hv,i+1,hi=>by have e:=aB h.1;have:=fR (s:=x.2) (H:=l) h.2.2 (mP h.1 g) (iX h.1 n) (by omega) i (by simpa using hi);simp only[List.take_succ_cons,Ic];exact⟨this.1,this.2.1,by rw[this.2.2,e];omega⟩
def La(H:List (Dn×Ah)):Prop:=Xv F6 H
theorem AA8(h:La H)(f:i<H.length):∃c,(H[i]?).map (·.1)=some c/\Bi (Ae H i) c (Ae H (i+1))/\Lay c:=by obtain⟨c,t,a,b,d,e⟩:=rO h i f;exact⟨c,by rw[a];rfl,by unfold Ae;rw[e];exact b,d⟩
theorem yJ:Q7 F6:=by intro e a;cases a
theorem Jb(h:La H)(a:i<=H.length):Good Bv Cm (Ae H i)/\Q7 (Ae H i)/\(Ae H i).Eb=i:=by have:=fR h ABq yJ (by show (0:Int)<=0;omega) i a;refine⟨this.1,this.2.1,?_⟩;have e:=this.2.2;have e0:F6.Eb=0:=rfl;rw[e0] at e;unfold Ae;omega
theorem qV(a:i<=H.length):Ae (H++[x]) i=Ae H i:=by unfold Ae;rw[Yx a]
theorem rJ:Ae (H++[x]) (H.length+1)=x.2:=by unfold Ae;rw[Yd (by simp)];exact Re
theorem bR:Ae H H.length=Ic F6 H:=by unfold Ae;rw[Ye]
theorem ADc(h:La H){t:Ah}(a:Bi (Ae H H.length) c t)(b:Lay c):La (H++[(c,t)]):=by rw[bR] at a;exact fF h a b
def U6(D:DataW Unit)(H:List (Dn×Ah)):Prop:=Maps.IsMap D/\∀i,i<99->(∀c,(H[i]?).map (·.1)=some c->Maps.has D (B.lit (Ek (i+1)))=true/\D.atKey (B.lit (Ek (i+1))) (B.Gw ByteArray.empty)=B.Gw (C6 c))/\(H.length<=i->Maps.has D (B.lit (Ek (i+1)))=false)
theorem AGO:U6 (.map []) []:=⟨Maps.isMap_empty,λi _=>⟨λc h=>by simp at h,λ_=>rfl⟩⟩
theorem L4{b:Tb}:WideAt.IsKeyLit (B.lit b):=by simp[B.lit,WideAt.IsKeyLit]
theorem AFI(h:U6 D H)(l:H.length<90)(c:Dn)(t:Ah):U6 (D.put (B.lit (Ek (H.length+1))) (B.Gw (C6 c))) (H++[(c,t)]):=by
 refine⟨?_,λi g=>?_⟩
 ·exact h.1.put _ _
 by_cases e:i=H.length
 ·subst e
  refine⟨λd a=>?_,λhle=>by simp at hle;omega⟩;have:d=c:=by simpa using a.symm
  subst this;exact⟨Maps.has_put_same h.1 L4 _,Maps.atKey_put_same h.1 L4 _ _⟩
 have b:B.lit (Ek (i+1))≠B.lit (Ek (H.length+1)):=λj=>by have:=key_inj (by omega) (by omega) (B.Jr j);omega
 rw[Maps.has_put_other b,Maps.atKey_put_other b];refine⟨λd a=>(h.2 i g).1 d ?_,λhle=>(h.2 i g).2 (by simp at hle;omega)⟩
 rcases Yc i H.length with f|k
 ·rwa[XU f] at a
 rw[Yb (by simp;omega)] at a;cases a
structure G3(W Y:World):Prop where
 size:W.heap.size<=Y.heap.size
 same:∀g o x,W.cell? ⟨g,o,none⟩=some (Zi x)->Y.heap[g]? = W.heap[g]?
theorem G3.Ba(h:Zb W Y):G3 W Y:=⟨h.size,λg _ _ a=>h.block g (Fv a)⟩
theorem G3.cell{W Y:Tw}(h:G3 W Y){g o n:Nat}{x:Int}{v:Tv}(b:W.cell? ⟨g,o,none⟩=some (Zi x))(a:W.cell? ⟨g,n,none⟩=some v):Y.cell? ⟨g,n,none⟩=some v:=by have e:=h.same g o x b;simp only[World.cell?,e] at a ⊢;exact a
theorem G3.trans{W X Y:Tw}(h:G3 W X)(k:G3 X Y):G3 W Y :=
 ⟨XG h.size k.size,λg o x a=>(k.same g o x (h.cell a a)).trans (h.same g o x a)⟩
theorem G3.grown{b:Nat}{cs:Array Tv}{T:TypeId}(f:W.heap[b]? = some (Zk cs T (0,0)))(c:∀(i:Nat)x,cs[i]? ≠some (Zi x))(d:W.grownBy Y (some b)):G3 W Y :=
 ⟨d.size,λg o x a=>d.block g (Fv a) (λe=>by injection e with e;subst e;simp only[World.cell?,f] at a;exact c o x (by simpa using a))⟩
theorem Ph.stays{l:List Int}(h:Ph W v l)(k:G3 W Y):Ph Y v l:=by
 rcases h with h|⟨g,o,c,d,e,f,a⟩
 ·exact .inl h
 exact .inr ⟨g,o,c,d,Ya e k.size,f,λj b=>k.cell (a j b) (a j b)⟩
theorem bH.stays{l:List Aj}(h:bH W v l)(k:G3 W Y):bH Y v l:=by
 rcases h with h|⟨g,o,c,d,e,f,a⟩
 ·exact .inl h
 exact .inr ⟨g,o,c,d,e,Ya f k.size,λj b i u m=>k.cell (a j b 0 _ rfl) (a j b i u m)⟩
theorem Om.stays{W Y:Tw}{a:A5}{c:To}{n i:Nat}{b:To}{j m:Nat}(h:Om W a c n i b j m)(k:G3 W Y):Om Y a c n i b j m :=
 ⟨h.mask.stays k,h.cols.stays k,h.path,h.Iz,h.texts⟩
theorem M6.stays{g o:Nat}{a:A5}{c:To}{n:Nat}{b:To}{j m:Nat}(h:M6 W g o a c n i b j m)(k:G3 W Y):M6 Y g o a c n i b j m :=
 ⟨k.cell h.1 h.1,k.cell h.1 h.2.1,k.cell h.1 h.2.2.1,k.cell h.1 h.2.2.2.1,k.cell h.1 h.2.2.2.2.1,k.cell h.1 h.2.2.2.2.2⟩
theorem Dt.stays{W Y:Tw}{v:Tv}{l:List A5}(h:Dt W v l)(k:G3 W Y):Dt Y v l:=by
 rcases h with h|⟨g,o,c,e,f,i,m⟩
 ·exact .inl h
 refine .inr ⟨g,o,c,e,f,Ya i k.size,λj q=>?_⟩;obtain⟨r,t,s,a,d,b,n,p⟩:=m j q;exact⟨r,t,s,a,d,b,n.stays k,p.stays k⟩
theorem G3.put{bb n:Nat}{fs:List Int}{mv v:Tv}(h:B.Bu W bb n D fs mv v)(b:B.A0 (B.Own bb mv) W Y):G3 W Y :=
 ⟨b.size,λg _ _ a=>b.block g (Fv a) (by
  rintro(e|e)
  ·exact B.Fs.far h.1 h.2.1 h.2.2 a e
  exact h.2.1.ne a e)⟩
theorem Dl.only{bb n:Nat}{fs:List Int}{mv f:Tv}(N:Dl W s v)(h:B.Bu W bb n D fs mv f)(M:B.A0 (B.Own bb mv) W Y):Dl Y s v:=by
 have keep:∀{base:Nat}{t:TypeId}{z:Nat}{u:Tv}{k:Nat}{xs:List Tv},t≠30->W.ownsRow base t z u k xs->Y.ownsRow base t z u k xs:=λl p=>by
  refine⟨p.1,?_⟩
  rcases p.2 with G|⟨g,c,d,O,i,a,o⟩
  ·exact .inl G
  refine .inr ⟨g,c,d,O,i,(M.block g (Ac a) ?_).trans a,o⟩;rintro(e|e)
  ·subst e
   have J:W.heap[g]? = _:=h.1;rw[J] at a;injection a with a;injection a with _ a;exact l a.symm
  rcases h.2.1 with⟨I,_⟩|⟨m,y,es,clock,j,_⟩
  ·rw[I] at e;cases e
  rw[y] at e;cases e;rw[j] at a;cases a
 obtain⟨q,c1,r,w,L,e,b⟩:=N;exact⟨q,c1,r,w,L,e,keep (by decide) b.cols,b.files,keep (by decide) b.row,λx P=>keep (by decide) (b.Cl x P)⟩
theorem mM(bb:Nat)(w:Tw):
 Zc 25 #[Zp (some ⟨bb,0,none⟩)] w λe a=>e=Zr (.func (.func 43) #[] #[Zp (some ⟨w.heap.size,0,none⟩)])/\a=w.alloc (Zk #[Zp (some ⟨bb,0,none⟩)] 26):=by
 go_enter func25,ntmps25;go_wp2;go_ret;exact⟨rfl,rfl⟩
structure Ground(w:World)(bb n:Nat)(D:DataW Unit)(mv:Value):Prop where
 c0:w.cell? ⟨bb,0,none⟩=some mv
 th:B.Th w mv n D
 er:Ik w
 nc:Lw w
 tb:Jp w
theorem Ground.up{bb n:Nat}{mv:Tv}(h:Ground w bb n D mv)(a:Zb w W):Ground W bb n D mv :=
 ⟨(a.cell (p:=⟨bb,0,none⟩) (Fv h.c0)).trans h.c0,h.th.keep λm e=>a.block m (h.th.lt e),h.er.below a,h.nc.below a,h.tb.below a⟩
theorem AAW{bb n:Nat}{mv:Tv}(h:Ground w bb n D mv)(i:Nat):Zc 44 #[Zp (some ⟨bb,0,none⟩),Zt (Ek i)] w (B.Um D (Ek i) w) :=
 B.aP bb n D mv (Ek i) w h.c0 h.th (by rw[qI];decide)
theorem uV(a:i<100)(b:Jp w):Hid (∀W,Zb w W->Zc 45 #[Zi i] W λe c=>e=Zr (Zt (Ek i))/\Zb w c) :=
 Aa (λW h=>(ABK i W a (b.below h)).mono λ_ _⟨he,hb⟩=>⟨he,Below.Ap h hb⟩)
theorem qR{bb n:Nat}{mv:Tv}(h:Ground w bb n D mv)(i:Nat)(t:Tb)(b:Tv)(k:(Maps.has D (B.lit (Ek i))=true/\D.atKey (B.lit (Ek i)) (B.Gw ByteArray.empty)=B.Gw t/\b=.nilIface)\/(Maps.has D (B.lit (Ek i))=false/\t=⟨#[]⟩/\b=.iface 90 (.int .i64 7))):
 Hid (∀W,Zb w W->Zc 44 #[Zp (some ⟨bb,0,none⟩),Zt (Ek i)] W λe d=>e=Zr (Zu #[Zt t,b])/\Zb w d) :=
 Aa (λW c=>(AAW (h.up c) i).mono (by
  rintro e d⟨t',rfl,f,g,j⟩;refine⟨?_,Below.Ap c j⟩
  rcases k with⟨a,l,rfl⟩|⟨a,rfl,rfl⟩
  ·have:t'=t:=B.aS ((f a).symm.trans l)
   subst this;rw[a];rfl
  rw[a,g a];rfl))
theorem kC{n bb:Nat}(a:w.heap[n]? = some (Zk #[Zp (some ⟨bb,0,none⟩)] 26 (0,0)))(b:Zb w W):W.cell? ⟨n,0,none⟩=some (Zp (some ⟨bb,0,none⟩)) :=
 (I2 ((b.block _ (Ac a)).trans a)).1
theorem AIL(bb q n:Nat)(D:Td)(mv:Tv)(i:Nat)(w:Tw)(t:i<100)(h:Ground w bb n D mv)(p:w.heap[q]? = some (.cells #[.pointer (some ⟨bb,0,none⟩)] 26 (0,0)))(s:Maps.has D (B.lit (Ek i))=false):
 Zc 43 #[Zi i,Zp (some ⟨q,0,none⟩)] w λe r=>e=Zr (Zu #[Zg #[Zt ⟨#[]⟩,Zt ⟨#[]⟩,Zo false,Zs none 0 0],Zf 90 (Zi 7)])/\Zb w r:=by
 have f:Hid (Zb w (w.alloc (Zk #[Zt ⟨#[]⟩,Zt ⟨#[]⟩,Zo false,Zs none 0 0] 88))):=Aa (Zal);have l:=Aa (heap_alloc_new w (Zk #[Zt ⟨#[]⟩,Zt ⟨#[]⟩,Zo false,Zs none 0 0] 88));have g:=h.up f.o;have d:=(f.o.block _ (Ac p)).trans p;have k:=uV t g.tb;have j:=qR g i ⟨#[]⟩ (Zf 90 (Zi 7)) (.inr ⟨s,rfl,rfl⟩);have a:=Aa d;clear h s p t g d;go_enter func43,ntmps43;go_wp2_with fail;generalize Ek i=y at *;generalize w.alloc (Zk #[Zt ⟨#[]⟩,Zt ⟨#[]⟩,Zo false,Zs none 0 0] 88)=T at *;have d:=kC a.o (XF _ _)
 go_region_held3 (λr=>r.cell? ⟨q,0,none⟩=some (Zp (some ⟨bb,0,none⟩))) (go_keep)
  (first
    | (go_at_call 45;refine(k.o _ (by first|exact XF _ _|exact(XF _ _).drew)).mono ?_;rintro e P⟨rfl,b⟩;have u:=kC a.o b)
    | (go_at_call 44;refine(j.o _ (by first|exact b|exact b.drew)).mono ?_;rintro e R⟨rfl,c⟩;have x:=kC a.o c))
 have o:=Aa (Below.Ap f.o c);have m:=Aa ((c.block _ (Ac l.o)).trans l.o);clear k j a d u x b c;obtain⟨_,_,_,_,gf⟩:=B3 m.o;have L:=gf 0;have M:=gf 1;have N:=gf 2;have O:=gf 3;go_wp2_with fail;obtain⟨z,G,I,J,_⟩:=B3 (sF _ _ _ _ _ _ (Zt ⟨#[]⟩) (Zt ⟨#[]⟩) (Zo false) (Zs none 0 0) _ m.o).1;refine bodyPost_ret (v:=Zu #[Zg #[Zt ⟨#[]⟩,Zt ⟨#[]⟩,Zo false,Zs none 0 0],Zf 90 (Zi 7)]) (by simp[results,results43,go_sem,z,G,I,J]) rfl ⟨rfl,?_⟩;exact Hx o.o (XA _) _ _ _ _
theorem ABr(f:Lay c)(r:Ik w)(t:Lw w)(s:Jp w):Hid (∀W,Zb w W->Zc 46 #[Zt (C6 c)] W λe o=>∃a d b,e=Zr (Zu #[Zg #[Zt c.1,Zo c.2.1,Zs a d b],Zn])/\Dt o (Zs a d b) c.2.2/\Zb w o):=Aa (λW h=>by
 obtain⟨i,g,A⟩:=c;have m:=f.len;refine(ADU (C6 (i,g,A)) W m.2 (r.below h) (t.below h) (s.below h)).mono ?_;have e:(C6 (i,g,A)).data.toList=Nn (i,g,A):=rfl;have q:=n9 f.ok f.lines;rintro v o⟨k,⟨t',x,u,a,d,b,n,rfl,j⟩|⟨l,_⟩⟩
 ·have p:=n.1
  rw[e,q] at p;cases p;exact⟨a,d,b,rfl,j,Below.Ap h k⟩
 exact absurd ⟨by rw[e];exact q,f.ok,rfl⟩ (l (i,g,A)))
theorem AAJ(bb R n:Nat)(D:Td)(mv:Tv)(i:Nat)(c:Dn)(w:Tw)(W:i<100)(h:Ground w bb n D mv)(P:w.heap[R]? = some (.cells #[.pointer (some ⟨bb,0,none⟩)] 26 (0,0)))(V:Maps.has D (B.lit (Ek i))=true)(T:D.atKey (B.lit (Ek i)) (B.Gw ByteArray.empty)=B.Gw (C6 c))(U:Lay c):
 Zc 43 #[Zi i,Zp (some ⟨R,0,none⟩)] w λe L=>∃d g f,e=Zr (Zu #[Zg #[Zt (C6 c),Zt c.1,Zo c.2.1,Zs d g f],Zn])/\Dt L (Zs d g f) c.2.2/\Zb w L:=by
 have l:Hid (Zb w (w.alloc (Zk #[Zt ⟨#[]⟩,Zt ⟨#[]⟩,Zo false,Zs none 0 0] 88))):=Aa (Zal);have G:=Aa (heap_alloc_new w (Zk #[Zt ⟨#[]⟩,Zt ⟨#[]⟩,Zo false,Zs none 0 0] 88));have a:=h.up l.o;have k:=(l.o.block _ (Ac P)).trans P;have z:=uV W a.tb;have y:=qR a i (C6 c) Zn (.inl ⟨V,T,rfl⟩);have m:=ABr U a.er a.nc a.tb;have b:=Aa k;obtain⟨t,s,A⟩:=c;simp only at m;generalize C6 (t,s,A)=X at *;clear h V P W a k U T;go_enter func43,ntmps43;go_wp2_with fail;generalize Ek i=aa at *;generalize w.alloc (Zk #[Zt ⟨#[]⟩,Zt ⟨#[]⟩,Zo false,Zs none 0 0] 88)=wa at *;have k:=kC b.o (XF _ _)
 go_region_held3 (λL=>L.cell? ⟨R,0,none⟩=some (Zp (some ⟨bb,0,none⟩))) (go_keep)
  (first
    | (go_at_call 45;refine(z.o _ (by first|exact XF _ _|exact(XF _ _).drew)).mono ?_;rintro e w1⟨rfl,j⟩;have k1:=kC b.o j)
    | (go_at_call 44;refine(y.o _ (by first|exact j|exact j.drew)).mono ?_;rintro e w2⟨rfl,q⟩;have k2:=kC b.o q))
 have N:=Aa q;clear z y b k k1 k2 j q;go_wp2_with fail;refine(m.o _ N.o).mono ?_;rintro e Y⟨d,g,f,rfl,I,r⟩;have u:=Aa (Below.Ap l.o r);have o:=Aa ((r.block _ (Ac G.o)).trans G.o);have p:=Aa ((XC Y (Zk #[Zt t,Zo s,Zs d g f] 86) _ (Ac o.o)).trans o.o);have O:Hid (Zb w (Y.alloc (Zk #[Zt t,Zo s,Zs d g f] 86))):=Aa (Below.Ap u.o (Zal));have M:=Aa (I.below ((XF _ _).alloc (XA _) (Zk #[Zt t,Zo s,Zs d g f] 86)));obtain⟨_,_,_,_,gf⟩:=B3 p.o;have g0:=gf 0;have g1:=gf 1;have g2:=gf 2;have g3:=gf 3;clear I r u o m gf;go_wp2_with fail;clear g0 g1 g2 g3;obtain⟨hP,hG⟩:=sF _ _ _ _ _ _ (Zt X) (Zt t) (Zo s) (Zs d g f) _ p.o;obtain⟨z0,z1,z2,z3,_⟩:=B3 hP;refine bodyPost_ret (v:=Zu #[Zg #[Zt X,Zt t,Zo s,Zs d g f],Zn]) (by simp[results,results43,go_sem,z0,z1,z2,z3]) rfl ⟨d,g,f,rfl,M.o.stays (G3.grown p.o ?_ hG),?_⟩
 ·intro i x J
  match i with
  | 0=>simp at J
  | 1=>simp at J
  | 2=>simp at J
  | 3=>simp at J
  | i+4=>simp at J
 exact Hx O.o (XA _) _ _ _ _
def K4(d:Int)(a:Option Addr)(n1 c1:Nat)(e:Int)(b:Option Addr)(n2 c:Nat):Value:=.agg #[Zi d,.slice a n1 c1,Zi e,.slice b n2 c]
theorem Nv(h:Dl W s v):∃a n1 c1 d b n2 c,v=K4 s.Eb a n1 c1 d b n2 c:=by obtain⟨a,c1,b,c,L,e,f⟩:=h;exact⟨_,_,_,_,_,_,_,e⟩
theorem bN(s t:Ah)(P:Int)(u:To)(N y:Nat)(T:Int)(x:To)(O z:Nat)(l:Tb)(q:Bool)(Bz:List A5)(n:To)(p o:Nat)(w:Tw)(h:Dl w s (K4 P u N y T x O z))(hg:Good Bv Cm s)(L:0<=s.Eb)(M:s.Eb<=1000)(ha:Dt w (Zs n p o) Bz)(D:Bz.length<=1000)(J:l.size<=maxLen)(hw:Lw w)(j:Bi s (l,q,Bz) t):
 Zc 26 #[K4 P u N y T x O z,Zg #[Zt l,Zo q,Zs n p o]] w λe m=>∃d a n1 c1 f b n2 c,e=Zr (Zu #[K4 d a n1 c1 f b n2 c,Zn])/\Dl m t (K4 d a n1 c1 f b n2 c)/\Zb w m:=by
 unfold K4 at h ⊢;obtain⟨R,Y,ab,U,g⟩:=On w (Zk #[Zi P,Zs u N y,Zi T,Zs x O z] 42) (Zk #[Zt l,Zo q,Zs n p o] 86) (Zk #[Zi 0,Zs none 0 0,Zi 0,Zs none 0 0] 42)
 have r:Hid (Zc 47 #[Zg #[Zi P,Zs u N y,Zi T,Zs x O z],Zg #[Zt l,Zo q,Zs n p o]] (((w.alloc (Zk #[Zi P,Zs u N y,Zi T,Zs x O z] 42)).alloc (Zk #[Zt l,Zo q,Zs n p o] 86)).alloc (Zk #[Zi 0,Zs none 0 0,Zi 0,Zs none 0 0] 42)) λe m=>∃d a n1 c1 f b n2 c,e=Zr (Zu #[Zg #[Zi d,Zs a n1 c1,Zi f,Zs b n2 c],Zn])/\Dl m t (Zg #[Zi d,Zs a n1 c1,Zi f,Zs b n2 c])/\Zb w m/\m.heap[w.heap.size+2]? = some (Zk #[Zi 0,Zs none 0 0,Zi 0,Zs none 0 0] 42 (0,0))):=Aa ((kJ s _ l q Bz n p o _ (h.up g) hg L M (ha.below g) D J (hw.below g)).mono (by
  rintro e m⟨d,a,n1,c1,f,b,n2,c,er,rfl,hb,⟨rfl,t',h1,h2⟩|⟨_,_,_,X⟩⟩
  ·have:=qX h1 j
   subst this;exact⟨d,a,n1,c1,f,b,n2,c,rfl,h2,Below.Ap g hb,(hb.block _ (by rw[R];omega)).trans U⟩
  exact absurd j (X t)))
 clear h hg L M ha D J hw j R Y ab U g;go_enter func26,ntmps26;go_wp2_with fail;refine r.o.mono ?_;rintro e w2⟨d,a,n1,c1,f,b,n2,c,rfl,I,G,k⟩;have V:Hid (Zb w (w2.alloc (Zk #[Zi d,Zs a n1 c1,Zi f,Zs b n2 c] 42))):=Aa (Below.Ap G (Zal));have i:=Aa ((XC w2 (Zk #[Zi d,Zs a n1 c1,Zi f,Zs b n2 c] 42) _ (Ac k)).trans k);have W:=Aa (I.up ((XF _ _).alloc (XA _) (Zk #[Zi d,Zs a n1 c1,Zi f,Zs b n2 c] 42)));obtain⟨_,_,_,_,gf⟩:=B3 i.o;have g0:=gf 0;have g1:=gf 1;have g2:=gf 2;have g3:=gf 3;clear I G k r gf;go_wp2_with fail;clear g0 g1 g2 g3;obtain⟨hP,hG⟩:=sF _ _ _ _ _ _ (Zi d) (Zs a n1 c1) (Zi f) (Zs b n2 c) _ i.o;obtain⟨z0,z1,z2,z3,_⟩:=B3 hP;refine bodyPost_ret (v:=Zu #[Zg #[Zi d,Zs a n1 c1,Zi f,Zs b n2 c],Zn]) (by simp[results,results26,go_sem,z0,z1,z2,z3]) rfl ⟨d,a,n1,c1,f,b,n2,c,rfl,W.o.put i.o hG,?_⟩;exact Hx V.o (by omega) _ _ _ _
