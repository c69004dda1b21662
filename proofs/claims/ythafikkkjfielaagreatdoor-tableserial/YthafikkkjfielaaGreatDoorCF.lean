import Derived.Test.YthafikkkjfielaaGreatDoorRF
import Derived.Maps.Ext
import Derived.Stop.Asserts
set_option maxHeartbeats 40000000
set_option maxRecDepth 100000
open Nat renaming le_refl->Y',le_trans->XC,zero_le->XK,le_succ->WA,zero_add->WO
open Bool renaming and_eq_true->XA,and_eq_false_iff->XQ,not_eq_true'->WB
open Go.World renaming putObj_heap_other->XB,ownsRow_nil->XM,putObj_heap_same->XO,alloc_heap_new->XR,block_lt_of_cell?->XX,size_alloc->XZ,news_of_block->WG,ownsMap_made->WI
open List renaming length_cons->XD,length_append->XH,mem_append->XI,cons_append->XJ,length_nil->XL,size_toArray->XN,mem_cons->XP,getElem?_append_left->XU,append_toArray->XV,length_map->XW,push_toArray->XY,length_drop->X2,nil_append->X4,drop_succ_cons->X6,take_succ_cons->X',map_append->WC,drop_zero->WE,flatMap_cons->WJ,getElem?_map->WK,length_take->WL,take_zero->WM,map_cons->WN,map_map->WQ
open Go.RowKit.Below renaming heap_alloc->XE,refl->XG,heap_setCell->Wb
open Option renaming bind_some->XF
open Array renaming replicate_succ->XS,replicate_zero->XT,getElem?_modify->WD,length_toList->WH
namespace Go.Proofs.YthafikkkjfielaaGreatDoor
open Tryz RowKit Lib Joins Maps ChangeShapes WideShapes ChangeAt Deep Extern.Stop Stop Extern Go.Sort Shelf
variable{W w:Tw}{n z:Nat}{v:Tv}
def iM{β:Type}(B a:Nat)(J:β->World->Prop):Prop:=∀b X Y row,J b X->X.grownBy Y row->(∀r,row=some r->r=B\/(a<=r/\∃o:Obj,X.1[r]? = some o/\o.isCells=false))->J b Y
theorem iM.drew{β:Type}{B n:Nat}{J:β->Tw->Prop}(h:iM B n J){b:β}{W:Tw}(a:J b W):J b W.drew :=
 h b W _ none a ⟨rfl,rfl,rfl,Y' _,λ_ _ _=>rfl⟩ (λr e=>by cases e)
theorem iM.set{β:Type}{B n:Nat}{J:β->Tw->Prop}(h:iM B n J){b:β}(a:J b W)(v:Tv):J b (W.setCell (Zd B 0) v) :=
 h b W _ (some B) a (Aq W B 0 v) (λr e=>by injection e with e;exact .inl e.symm)
theorem iM.alloc{β:Type}{B n:Nat}{J:β->Tw->Prop}(h:iM B n J){b:β}{W:Tw}(a:J b W)(o:Obj):J b (W.alloc o) :=
 h b W _ none a (World.grownBy_alloc W o none) (λr e=>by cases e)
theorem iM.put{β:Type}{B n:Nat}{J:β->Tw->Prop}(h:iM B n J){b:β}(d:J b W){r:Nat}{o:Obj}(f:W.1[r]? = some o)(c:o.isCells=false)(g:n<=r)(a:Obj):J b (W.putObj r a) :=
 h b W _ (some r) d (grownBy_putObj' W r a) (λq e=>by injection e with e;subst e;exact .inr ⟨g,o,f,c⟩)
def aX{β:Type}(m gf:Nat)(lb:Array Value)(B:Nat)(R:β->Array Value->β->Prop)(i:β)(E:β->Prop)(f:List UInt8->World->Prop)(h:World->Prop):Prop :=
 ∀(l:Nat)(J:β->World->Prop)(c:World->Prop)(W:World),iM B W.1.size J->iM B W.1.size (λ(_:Unit)=>c) ->
  (∀b args g d v,R b args g->J b d->f v d->YieldAt Fence.wide (m-1) prog l args d λe a=>(e=.returned (.bool true)/\J g a/\f v a)\/(e=.returned (.bool false)/\c a)) ->
  h W->J i W->CallsIn Fence.wide m prog gf (#[.func (.yield l) #[] #[]]++lb) W λe a=>(∃v,e=.returned v)/\((∃b,E b/\J b a)\/c a)
def AA1{β:Type}(w0:Nat)(b:List UInt8->World->Prop)(v:List UInt8)(I:β->World->Prop)(a:Code->World->Prop)(c:β)(W:World):Exit->Act->World->Prop
 | .normal,_,W'=>KeepsFrom w0 W W'/\I c W'/\b v W'
 | .ret,_,W'=>KeepsFrom w0 W W'/\a .ret W'
 | _,_,_=>False
theorem ADO{β:Type}{g:Operand}{ps:Array Tmp}{assign body:Code}{Q:Exit->Act->Tw->Prop}{a:Act}(h1:1<=n){gf:Nat}{lb:Array Tv}(hg:a.eval g=.func (.func gf) #[] lb)(eg:∀args w,(callFunc gf args).run prog w=.ok (.enter gf args) w){B:Nat}{R:β->Array Tv->β->Prop}{b0:β}{E:β->Prop}{Kp:List UInt8->Tw->Prop}{T0:Tw->Prop}(af:aX (n-1) gf lb B R b0 E Kp T0)(ac:∀v X r o o',Kp v X->X.1[r]? = some o->o.isCells=false->Kp v (X.putObj r o'))(ae:∀b args L,R b args L->args.size=ps.size)(ap:B≠w.1.size)(aq:B≠w.1.size+1)(I:β->Tw->Prop)(Ix:Code->Tw->Prop)(hI:iM B w.1.size I)(M:∀c,iM B w.1.size (λ(_:Unit)=>Ix c))(h0:I b0 w)(hT:∀r,T0 ((w.alloc (.deferred (some []))).alloc (.loop r)))(a1:Array Tv->Act)(z:∀(l:Nat)(args:Array Tv)(W:Tw)(K:Act->Tw->Prop),args.size=ps.size->K (a1 args) W ->
   assign.wpIn (Fence.wide.inRound l) (n-1-1) prog (Exit.then K (λ_ _ _=>False)) { tmps:=(ps.zip args).foldl (λt(p,v)=>t.setIfInBounds p v) a.tmps,defers:=[] } W)(N:∀(l:Nat)(b:β)(args:Array Tv)(L:β)(W:Tw)(v:List UInt8),w.1.size<=l->R b args L->I b W->Kp v W->body.wpIn (Fence.wide.inRound l) (n-1-1) prog (AA1 w.1.size Kp v I Ix L W) (a1 args) W)(O:∀(D:Nat)(b:β)(W:Tw),w.1.size<=D->E b->I b W->W.1[D]? = some (.deferred (some []))->Q .normal { a with defers:={ target:=.collected D,args:=#[] } :: a.defers } W)(aa:∀(D:Nat)(c:Code)(W:Tw),w.1.size<=D->Ix c W->W.1[D]? = some (.deferred (some []))->c.wpIn Fence.wide n prog Q { a with defers:={ target:=.collected D,args:=#[] } :: a.defers } W):
 (Code.rangeFunc g ps assign body).wpIn Fence.wide n prog Q a w:=by
 refine wpIn_rangeFunc λfn ak=>?_
 obtain⟨d,f⟩:∃d:LoopState->Option Code->Loop,d=λst pe=>{ state:=st,pending:=pe,fn,tmps:=a.tmps,params:=ps,assign,body,defers:=w.1.size }:=⟨_,rfl⟩
 obtain⟨u,x⟩:∃u,(w.alloc (.deferred (some []))).alloc (.loop (d .ready none))=u:=⟨_,rfl⟩;have ar:u.1.size=w.1.size+2:=by rw[<-x];simp
 have ai:u.1[w.1.size+1]? = some (.loop (d .ready none)):=by rw[<-x];have:=XR (w.alloc (.deferred (some []))) (.loop (d .ready none));rwa[XZ] at this
 have ah:u.1[w.1.size]? = some (.deferred (some [])):=by rw[<-x];exact(XE _ _ _ (by simp)).trans (XR w _)
 have ag:I b0 u:=by rw[<-x];exact hI.alloc (hI.alloc h0 _) _
 have aj:T0 u:=by rw[<-x];exact hT _
 have m:∀{X Y:Tw}{row:Option Nat}(k:Nat)(o:Obj),k<w.1.size+2->w.1.size<=k->X.1[k]? = some o->X.grownBy Y row->(∀r,row=some r->r=B\/(u.1.size<=r/\∃o:Obj,X.1[r]? = some o/\o.isCells=false))->Y.1[k]? = some o:=by
  intro X Y row k o hk ad ho i s;refine(i.block k (Ac ho) (λe=>?_)).trans ho
  rcases s k e.symm with h|⟨h,_⟩
  ·omega
  omega
 have lift:∀{X:Tw}{row:Option Nat},(∀r,row=some r->r=B\/(u.1.size<=r/\∃o:Obj,X.1[r]? = some o/\o.isCells=false))->∀r,row=some r->r=B\/(w.1.size<=r/\∃o:Obj,X.1[r]? = some o/\o.isCells=false) :=
  λs r e=>(s r e).imp id (λ⟨q,o⟩=>⟨by omega,o⟩)
 refine⟨w.1.size+1,[{ target:=.collected w.1.size,args:=#[] }],u,{ target:=.fn (.func gf) lb,args:=#[.func (.yield (w.1.size+1)) #[] #[]] },u,gf,
  #[.func (.yield (w.1.size+1)) #[] #[]]++lb,u,?_,?_,λ_ _=>trivial,?_,λ_=>h1,?_⟩
 ·rw[<-x,f];exact run_enterLoop_outer _ _ _ _ _
 ·simp only[resolve,hg]
  simp[go_sem]
 ·simp[invoke,go_sem,eg]
 refine(af (w.1.size+1)
  (λb W=>I b W/\W.1[w.1.size+1]? = some (.loop (d .ready none))/\W.1[w.1.size]? = some (.deferred (some [])))
  (λW=>∃c,Ix c W/\W.1[w.1.size+1]? = some (.loop (d .done (some c)))/\W.1[w.1.size]? = some (.deferred (some []))) u
  (λb X Y row hs i s=>⟨hI b X Y row hs.1 i (lift s),m _ _ (by omega) (by omega) hs.2.1 i s,m _ _ (by omega) (by omega) hs.2.2 i s⟩)
  (λb X Y row hs i s=>by obtain⟨c,hc,q1,q2⟩:=hs;exact⟨c,M c () X Y row hc i (lift s),m _ _ (by omega) (by omega) q1 i s,m _ _ (by omega) (by omega) q2 i s⟩)
  ?_ aj ⟨ag,ai,ah⟩).mono ?_
 ·rintro b args L W v hR⟨hi,G,hk⟩hv
  have am:w.1.size+1<W.1.size:=Ac G;have hy:=run_yield (P:=prog) (args:=args) G (by rw[f];exact ae b args L hR);rw[f] at hy;refine⟨fn,_,assign,body,hy,roundIn_of_wpIn ak (z _ args W _ (ae b args L hR) ⟨_,run_beginRound G (by rw[f]),?_⟩)⟩;have al:(W.putObj (w.1.size+1) (.loop { d .ready none with state:=.busy })).1[w.1.size+1]? = some (.loop { d .ready none with state:=.busy }):=XO am;have ad:(W.putObj (w.1.size+1) (.loop { d .ready none with state:=.busy })).1[w.1.size]? = some (.deferred (some [])):=(XB (by omega)).trans hk;have an:Kp v (W.putObj (w.1.size+1) (.loop { d .ready none with state:=.busy })):=ac _ _ _ _ _ hv G rfl;refine wpIn_mono (N _ b args L _ v (by omega) hR (hI.put hi G rfl (by omega) _) an) ?_
  have ab:∀(jump:Option Code)(J:Tw),KeepsFrom w.1.size (W.putObj (w.1.size+1) (.loop { d .ready none with state:=.busy })) J ->
   (Instr.endRound (w.1.size+1) jump).run prog J=.ok (Zo jump.isNone) (J.putObj (w.1.size+1) (.loop (d (if jump.isNone then .ready else .done) jump))) /\
   J.1[w.1.size+1]? = some (.loop { d .ready none with state:=.busy }) /\
   (J.putObj (w.1.size+1) (.loop (d (if jump.isNone then .ready else .done) jump))).1[w.1.size+1]? = some (.loop (d (if jump.isNone then .ready else .done) jump)) /\
   (J.putObj (w.1.size+1) (.loop (d (if jump.isNone then .ready else .done) jump))).1[w.1.size]? = some (.deferred (some [])):=λjump J y=>by
   have j:=y.same _ _ (by omega) al rfl;have:=run_endRound (P:=prog) jump j;rw[f] at this ⊢;exact⟨this,by rw[f] at j;exact j,XO (Ac j),(XB (by omega)).trans (y.same _ _ (Y' _) ad rfl)⟩
  rintro e a3 J hp;cases e with
  | normal=>obtain⟨y,T,ao⟩:=hp;obtain⟨s,j,V,U⟩:=ab none J y;exact⟨_,_,s,.inl ⟨rfl,⟨hI.put T j rfl (by omega) _,V,U⟩,ac _ _ _ _ _ ao j rfl⟩⟩
  | ret=>obtain⟨y,T⟩:=hp;obtain⟨s,j,V,U⟩:=ab (some .ret) J y;exact⟨_,_,s,.inr ⟨rfl,.ret,(M .ret).put (b:=()) T j rfl (by omega) _,V,U⟩⟩
  | exit id=>exact hp.elim
  | goto t=>exact hp.elim
  | panic ch=>exact hp.elim
  | outgrown=>exact hp.elim
 rintro e W2⟨⟨v,rfl⟩,(⟨b,hE,hi,G,hk⟩|⟨c,hi,G,hk⟩)⟩
 ·exact⟨none,_,by have:=run_endLoop (P:=prog) G (by rw[f];simp);rw[f] at this;exact this,O _ b _ (Y' _) hE (hI.put hi G rfl (by omega) _) ((XB (by omega)).trans hk)⟩
 exact⟨some c,_,by have:=run_endLoop (P:=prog) G (by rw[f];simp);rw[f] at this;exact this,aa _ c _ (Y' _) ((M c).put (b:=()) hi G rfl (by omega) _) ((XB (by omega)).trans hk)⟩
theorem iN.kept{B:Nat}{r:List UInt8}{X:Tw}{q:Nat}{o d:Obj}(h:iN B r X)(a:X.1[q]? = some o)(c:o.isCells=false):iN B r (X.putObj q d):=by refine(XB (λe=>?_)).trans h;subst e;have b:X.1[B]? = _:=h;rw[b] at a;cases a;cases c
theorem AAH(m B:Nat)(p:1<=m)(d:List UInt8)(hlen:d.length<=1000000):
 aX m 239 #[Zp (some (Zd B 0))] B (λ(pre:List (List UInt8))args c=>∃a b t,args=#[Zt (bA b)]/\Dp d=pre++a :: t/\Lib.trimSuffix b [10]=a/\b.length<=1000000/\c=pre++[a]) [] (λpre=>pre=Dp d) (iN B) (iN B d):=by
 intro l J i W g k o n j;refine(ADN m p l B d hlen J i (λpre W h=>g.drew h) (λpre W v h=>g.set h v) (λpre a b W1 v ht hr hl hj f=>by obtain⟨t,ht⟩:=ht;exact o pre _ (pre++[a]) W1 v ⟨a,b,t,rfl,ht,hr,hl,rfl⟩ hj f) W n j).mono ?_;rintro e q⟨f,h|h⟩
 ·exact⟨f,.inl ⟨_,rfl,h⟩⟩
 exact⟨f,.inr h⟩
theorem Iu{b:Nat}{v u f a e c:Tv}{t:TypeId}(h:W.1[b]? = some (Zk #[v,u,f,a,e,c] t (0,0))):
 W.cell? (Zd b 0)=some v/\W.cell? (Zd b 1)=some u/\W.cell? (Zd b 2)=some f/\W.cell? (Zd b 3)=some a/\W.cell? (Zd b 4)=some e/\W.cell? (Zd b 5)=some c/\∀i,W.frozen? (Zd b i)=false:=by
 refine⟨?_,?_,?_,?_,?_,?_,λi=>?_⟩
 all_goals first|(rw[World.frozen?,h];simp)|(simp[World.cell?,h])
abbrev AJS(W:World)(b:Nat)(a c d e f g:Value):World:=(((((W.setCell ⟨b,0,none⟩ a).setCell ⟨b,1,none⟩ c).setCell ⟨b,2,none⟩ d).setCell ⟨b,3,none⟩ e).setCell ⟨b,4,none⟩ f).setCell ⟨b,5,none⟩ g
theorem oA(W:Tw)(b:Nat)(t r l k j g a c d e f i:Tv)(T:TypeId)(h:W.1[b]? = some (Zk #[t,r,l,k,j,g] T (0,0))):
 (W.setCell (Zd b 0) a).cell? (Zd b 0)=some a/\((W.setCell (Zd b 0) a).setCell (Zd b 1) c).cell? (Zd b 1)=some c/\(((W.setCell (Zd b 0) a).setCell (Zd b 1) c).setCell (Zd b 2) d).cell? (Zd b 2)=some d/\((((W.setCell (Zd b 0) a).setCell (Zd b 1) c).setCell (Zd b 2) d).setCell (Zd b 3) e).cell? (Zd b 3)=some e/\(((((W.setCell (Zd b 0) a).setCell (Zd b 1) c).setCell (Zd b 2) d).setCell (Zd b 3) e).setCell (Zd b 4) f).cell? (Zd b 4)=some f/\((((((W.setCell (Zd b 0) a).setCell (Zd b 1) c).setCell (Zd b 2) d).setCell (Zd b 3) e).setCell (Zd b 4) f).setCell (Zd b 5) i).cell? (Zd b 5)=some i:=by
 have m:(W.setCell (Zd b 0) a).heap[b]? = some (Zk #[a,r,l,k,j,g] T (0,0)):=by simpa using As W b 0 _ T a h
 have n:((W.setCell (Zd b 0) a).setCell (Zd b 1) c).heap[b]? = some (Zk #[a,c,l,k,j,g] T (0,0)):=by simpa using As (W.setCell (Zd b 0) a) b 1 _ T c m
 have o:(((W.setCell (Zd b 0) a).setCell (Zd b 1) c).setCell (Zd b 2) d).heap[b]? = some (Zk #[a,c,d,k,j,g] T (0,0)):=by simpa using As ((W.setCell (Zd b 0) a).setCell (Zd b 1) c) b 2 _ T d n
 have p:((((W.setCell (Zd b 0) a).setCell (Zd b 1) c).setCell (Zd b 2) d).setCell (Zd b 3) e).heap[b]? = some (Zk #[a,c,d,e,j,g] T (0,0)):=by simpa using As (((W.setCell (Zd b 0) a).setCell (Zd b 1) c).setCell (Zd b 2) d) b 3 _ T e o
 have q:(((((W.setCell (Zd b 0) a).setCell (Zd b 1) c).setCell (Zd b 2) d).setCell (Zd b 3) e).setCell (Zd b 4) f).heap[b]? = some (Zk #[a,c,d,e,f,g] T (0,0)):=by simpa using As ((((W.setCell (Zd b 0) a).setCell (Zd b 1) c).setCell (Zd b 2) d).setCell (Zd b 3) e) b 4 _ T f p
 have s:((((((W.setCell (Zd b 0) a).setCell (Zd b 1) c).setCell (Zd b 2) d).setCell (Zd b 3) e).setCell (Zd b 4) f).setCell (Zd b 5) i).heap[b]? = some (Zk #[a,c,d,e,f,i] T (0,0)):=by simpa using As (((((W.setCell (Zd b 0) a).setCell (Zd b 1) c).setCell (Zd b 2) d).setCell (Zd b 3) e).setCell (Zd b 4) f) b 5 _ T i q
 exact⟨(Iu m).1,(Iu n).2.1,(Iu o).2.2.1,(Iu p).2.2.2.1,(Iu q).2.2.2.2.1,(Iu s).2.2.2.2.2.1⟩
theorem yX(W:Tw)(b:Nat)(a c d e f g:Tv):W.grownBy (AJS W b a c d e f g) (some b):=(((((Aq W b 0 a).trans (Aq _ b 1 c)).trans (Aq _ b 2 d)).trans (Aq _ b 3 e)).trans (Aq _ b 4 f)).trans (Aq _ b 5 g)
theorem Gf(h:Below n w W){b:Nat}(a:n<=b)(c d e f g i:Tv):Below n w (AJS W b c d e f g i) :=
 (((((h.setCell (p:=Zd b 0) a _).setCell (p:=Zd b 1) a _).setCell (p:=Zd b 2) a _).setCell (p:=Zd b 3) a _).setCell (p:=Zd b 4) a _).setCell (p:=Zd b 5) a _
theorem ABe{base b:Nat}{t u:TypeId}{xs:List Tv}{cs:Array Tv}(h:w.ownsRow base t z v n xs)(l:w.1[b]? = some (Zk cs u (0,0)))(a:t≠u)(c d f g i j:Tv):(AJS w b c d f g i j).ownsRow base t z v n xs :=
 Az h (yX w b c d f g i j) (λk m e=>Fq h l a (by rw[m];exact e.symm))
theorem qL{k i:Nat}{t:TypeId}{xs:List Tv}(h:w.ownsRow i t z v n xs)(d:k<=i):w.ownsRow k t z v n xs:=by
 refine⟨h.1,?_⟩
 rcases h.2 with h|⟨g,c,a,f,b,e⟩
 ·exact .inl h
 exact .inr ⟨g,c,a,f,XC d b,e⟩
theorem AFB{b:Nat}{t:TypeId}{xs:List Tv}(h:w.ownsRow b t z v n xs):w.drew.ownsRow b t z v n xs:=Bc h (XG _ _).drew
def AGd(l:List UInt8)(w:World)(e:Ending)(b:World):Prop:=∃(a:Option Addr)(n c:Nat)(ok:Bool),e=.returned (.tuple #[.slice a n c,.bool ok])/\Zb w b/\((ok=true/\∃L:List Int,L1 l=some L/\n=L.length/\b.ownsRow w.1.size 3 1 (.slice a n c) L.length (L.map (.int .i64)))\/(ok=false/\L1 l=none))
def S0:Prop:=∀(s:ByteArray)(w:World),s.size<=1000000->Ik w->Zc 242 #[.string s] w (AGd s.1.toList w)
def AA3(l:List UInt8)(w:World)(e:Ending)(a:World):Prop:=∃(k:Int)(p:ByteArray)(r:Int)(f:Option Addr)(h g:Nat)(b:Option Addr)(d c:Nat)(i:Int)(ok:Bool),e=.returned (.tuple #[.agg #[Zi k,.string p,Zi r,.slice f h g,.slice b d c,Zi i],.bool ok])/\Zb w a/\((ok=true/\∃(M:List Int)(C:List Aj),Co l=some (k,p,r,M,C,i)/\a.ownsRow w.1.size 3 1 (.slice f h g) M.length (M.map (.int .i64))/\a.ownsRow w.1.size 69 7 (.slice b d c) C.length (Av C))\/(ok=false/\Co l=none))
theorem eE(hP:S0)(s:ByteArray)(w:World)(hs:s.size<=1000000)(he:Ik w):Zc 199 #[.string s] w (AA3 s.1.toList w):=by
 obtain⟨l,hl⟩:∃l,s.1.toList=l:=⟨_,rfl⟩;have ar:l.length<=1000000:=by rw[<-hl,Gm];exact hs
 rw[hl];have o:=Aa (λW=>L5 s 32 W (by unfold maxLen;omega));rw[hl] at o;have aq:=Ve 32 l;have an:=P1 32 (Aw l);have ao:=Ve 32 (Aw l);have ap:=Gi l
 have U:Hid (∀W,Zc 197 #[.string (bA (Aw l)),.string ⟨#[32]⟩] W λe w'=>e=.returned (.tuple #[.string (bA (Ao 32 (Aw l)).1),.string (bA (Ao 32 (Aw l)).2.1),.bool (Ao 32 (Aw l)).2.2])/\Zb W w'):=Aa (λW=>by have:=L5 (bA (Aw l)) 32 W (by rw[Cz];unfold maxLen;omega);rw[B5] at this;exact this)
 have T:Hid (∀W,Zb w W->Zc 241 #[.string (bA (Ao 32 (Aw l)).2.1)] W (Ns (Ao 32 (Aw l)).2.1 W)):=Aa (λW hW=>by have:=Ud (bA (Ao 32 (Aw l)).2.1) W (by omega) (he.below hW);rw[B5] at this;exact this)
 have R:Hid (∀W,Zb w W->Zc 241 #[.string (bA (Ao 32 (Aw l)).1)] W (Ns (Ao 32 (Aw l)).1 W)):=Aa (λW hW=>by have:=Ud (bA (Ao 32 (Aw l)).1) W (by omega) (he.below hW);rw[B5] at this;exact this)
 have X:Hid (∀W,Zb w W->Zc 242 #[.string (bA (Ao 32 (Aw l)).2.1)] W (AGd (Ao 32 (Aw l)).2.1 W)):=Aa (λW hW=>by have:=hP (bA (Ao 32 (Aw l)).2.1) W (by omega) (he.below hW);rw[B5] at this;exact this)
 have V:Hid (∀W,Zb w W->Zc 243 #[.string (bA (Ao 32 (Aw l)).2.1)] W (sE (Ao 32 (Aw l)).2.1 W)):=Aa (λW hW=>by have:=aE (bA (Ao 32 (Aw l)).2.1) W (by omega) (he.below hW);rw[B5] at this;exact this)
 have q:Hid (Co l=_):=Aa (by unfold Co;exact rfl)
 change Hid (∀W,Calls _ _ _ W λe w'=>e=.returned (.tuple #[.string (bA (Ao 32 l).1),.string (bA (Aw l)),_])/\_) at o
 have k:=Aa (Ky (Ao 32 l).1);clear he hl hs hP aq an ao ap;generalize (Ao 32 l).2.2=z1 at *;generalize (Ao 32 l).1=Y at *;generalize bA (Aw l)=rs at *;generalize Ao 32 (Aw l)=cc at *;obtain⟨f1,f2,z2⟩:=cc;simp only at U T R X V q
 by_cases hadd:Y=ADF
 ·subst hadd
  have ex:bA ADF=⟨#[97,100,100]⟩:=rfl;rw[ex] at o;have g:Hid (Co l=Option.map (λn=>(1,bA f1,n,[],[],0)) (numOf f2)):=Aa (by rw[q.o,Yae rfl]);clear ex k R X V q;generalize bA f1=x1 at *;go_enter func199,ntmps199
  go_wp2_with (first
   | (go_at_call_of 197 (#[.string s,.string ⟨#[32]⟩]:Array Value);refine(o.o _).mono ?_;rintro e w2⟨rfl,a⟩;have D:=Aa a;have h:=Aa ((a.block w.1.size (by simp)).trans (Yac w _));clear a)
   | (go_at_call_of 197 (#[.string rs,.string ⟨#[32]⟩]:Array Value);refine(U.o _).mono ?_;rintro e w3⟨rfl,b⟩;have i:=Aa (Below.Ap (b1c D.o) b);have d:=Aa ((b.block w.1.size (Ac h.o)).trans h.o);clear b;obtain⟨y0,y1,y2,y3,y4,y5,yf⟩:=Iu d.o;have r:=yf 0;have t:=yf 1;have u:=yf 2;have x:=yf 3;have y:=yf 4;have z:=yf 5;clear yf)
   | (go_at_call 241;refine(T.o _ i.o).mono ?_;rintro e w4⟨n,er,rfl,m,f⟩;have j:=Aa (Below.Ap i.o m);have c:=Aa ((m.block w.1.size (Ac d.o)).trans d.o);have p:=Aa f;clear m f y0 y1 y2 y3 y4 y5 r t u x y z;obtain⟨y0,y1,y2,y3,y4,y5,yf⟩:=Iu c.o;have r:=yf 0;have t:=yf 1;have u:=yf 2;have x:=yf 3;have y:=yf 4;have z:=yf 5;clear yf))
  rcases p.o with⟨G,rfl⟩|⟨G,ty,xx,rfl⟩
  ·have H1:=Aa G
   clear p G
   go_region
   go_wp2;obtain⟨I,J,M,N,O,P⟩:=oA w4 w.1.size _ _ _ _ _ _ (.int .i64 1) (.string x1) (.int .i64 n) (.slice none 0 0) (.slice none 0 0) (.int .i64 0) _ c.o;refine bodyPost_ret (v:=.tuple #[.agg #[.int .i64 1,.string x1,.int .i64 n,.slice none 0 0,.slice none 0 0,.int .i64 0],.bool true]) (by simp[results,results199,go_sem,I,J,M,N,O,P]) rfl ⟨_,_,_,_,_,_,_,_,_,_,_,rfl,(Gf j.o (Y' _) _ _ _ _ _ _).drew,?_⟩;exact .inl ⟨rfl,[],[],by rw[g.o,H1.o];rfl,XM ..,XM ..⟩
  have H1:=Aa G;clear p G
  go_region
  go_wp2;obtain⟨I,J,M,N,O,P⟩:=oA w4 w.1.size _ _ _ _ _ _ (.int .i64 1) (.string x1) (.int .i64 n) (.slice none 0 0) (.slice none 0 0) (.int .i64 0) _ c.o;refine bodyPost_ret (v:=.tuple #[.agg #[.int .i64 1,.string x1,.int .i64 n,.slice none 0 0,.slice none 0 0,.int .i64 0],.bool false]) (by simp[results,results199,go_sem,I,J,M,N,O,P]) rfl ⟨_,_,_,_,_,_,_,_,_,_,_,rfl,(Gf j.o (Y' _) _ _ _ _ _ _).drew,?_⟩;exact .inr ⟨rfl,by rw[g.o,H1.o];rfl⟩
 by_cases hremove:Y=P4
 ·subst hremove
  have ex:bA P4=⟨#[114,101,109,111,118,101]⟩:=rfl;rw[ex] at o;have g:Hid (Co l=some (2,bA f1,0,[],[],0)):=Aa (by rw[q.o,Yad (by decide),Yae rfl]);clear ex k R X V q T hadd;generalize bA f1=x1 at *;go_enter func199,ntmps199
  go_wp2_with (first
   | (go_at_call_of 197 (#[.string s,.string ⟨#[32]⟩]:Array Value);refine(o.o _).mono ?_;rintro e w2⟨rfl,a⟩;have D:=Aa a;have h:=Aa ((a.block w.1.size (by simp)).trans (Yac w _));clear a)
   | (go_at_call_of 197 (#[.string rs,.string ⟨#[32]⟩]:Array Value);refine(U.o _).mono ?_;rintro e w3⟨rfl,b⟩;have i:=Aa (Below.Ap (b1c D.o) b);have d:=Aa ((b.block w.1.size (Ac h.o)).trans h.o);clear b;obtain⟨y0,y1,y2,y3,y4,y5,yf⟩:=Iu d.o;have r:=yf 0;have t:=yf 1;have u:=yf 2;have x:=yf 3;have y:=yf 4;have z:=yf 5;clear yf)
   | fail)
  have c:=Aa d.o;have j:=Aa i.o;obtain⟨I,J,M,N,O,P⟩:=oA w3 w.1.size _ _ _ _ _ _ (.int .i64 2) (.string x1) (.int .i64 0) (.slice none 0 0) (.slice none 0 0) (.int .i64 0) _ c.o;refine bodyPost_ret (v:=.tuple #[.agg #[.int .i64 2,.string x1,.int .i64 0,.slice none 0 0,.slice none 0 0,.int .i64 0],.bool true]) (by simp[results,results199,go_sem,I,J,M,N,O,P]) rfl ⟨_,_,_,_,_,_,_,_,_,_,_,rfl,(Gf j.o (Y' _) _ _ _ _ _ _),?_⟩;exact .inl ⟨rfl,[],[],g.o,XM ..,XM ..⟩
 by_cases hmask:Y=lA
 ·subst hmask
  have ex:bA lA=⟨#[109,97,115,107]⟩:=rfl;rw[ex] at o;have g:Hid (Co l=Option.map (λl=>(3,bA f1,0,l,[],0)) (L1 f2)):=Aa (by rw[q.o,Yad (by decide),Yad (by decide),Yae rfl]);clear ex k R V q T hadd hremove;generalize bA f1=x1 at *;go_enter func199,ntmps199
  go_wp2_with (first
   | (go_at_call_of 197 (#[.string s,.string ⟨#[32]⟩]:Array Value);refine(o.o _).mono ?_;rintro e w2⟨rfl,a⟩;have D:=Aa a;have h:=Aa ((a.block w.1.size (by simp)).trans (Yac w _));clear a)
   | (go_at_call_of 197 (#[.string rs,.string ⟨#[32]⟩]:Array Value);refine(U.o _).mono ?_;rintro e w3⟨rfl,b⟩;have i:=Aa (Below.Ap (b1c D.o) b);have d:=Aa ((b.block w.1.size (Ac h.o)).trans h.o);clear b;obtain⟨y0,y1,y2,y3,y4,y5,yf⟩:=Iu d.o;have r:=yf 0;have t:=yf 1;have u:=yf 2;have x:=yf 3;have y:=yf 4;have z:=yf 5;clear yf)
   | (go_at_call 242;refine(X.o _ i.o).mono ?_;rintro e w4⟨pa,pn,pc,ok,rfl,m,f⟩;have ab:=Aa m;have j:=Aa (Below.Ap i.o m);have c:=Aa ((m.block w.1.size (Ac d.o)).trans d.o);have p:=Aa f;clear m f;clear y0 y1 y2 y3 y4 y5 r t u x y z;obtain⟨y0,y1,y2,y3,y4,y5,yf⟩:=Iu c.o;have r:=yf 0;have t:=yf 1;have u:=yf 2;have x:=yf 3;have y:=yf 4;have z:=yf 5;clear yf))
  obtain⟨I,J,M,N,O,P⟩:=oA w4 w.1.size _ _ _ _ _ _ (.int .i64 3) (.string x1) (.int .i64 0) (.slice pa pn pc) (.slice none 0 0) (.int .i64 0) _ c.o;refine bodyPost_ret (v:=.tuple #[.agg #[.int .i64 3,.string x1,.int .i64 0,.slice pa pn pc,.slice none 0 0,.int .i64 0],.bool ok]) (by simp[results,results199,go_sem,I,J,M,N,O,P]) rfl ⟨_,_,_,_,_,_,_,_,_,_,_,rfl,(Gf j.o (Y' _) _ _ _ _ _ _),?_⟩
  rcases p.o with⟨rfl,L,G,rfl,h2⟩|⟨rfl,G⟩
  ·refine .inl ⟨rfl,L,[],by rw[g.o,G];rfl,?_,XM ..⟩
   exact ABe (qL h2 i.o.size) c.o (by decide) _ _ _ _ _ _
  exact .inr ⟨rfl,by rw[g.o,G];rfl⟩
 by_cases hschema:Y=P3
 ·subst hschema
  have ex:bA P3=⟨#[115,99,104,101,109,97]⟩:=rfl;rw[ex] at o;have g:Hid (Co l=(numOf f1).bind λn=>Option.map (λl=>(4,bA [],0,[],l,n)) (Dg f2)):=Aa (by rw[q.o,Yad (by decide),Yad (by decide),Yad (by decide),Yae rfl]);clear ex k q T X hadd hremove hmask;generalize bA f1=x1 at *;generalize bA f2=x2 at *;go_enter func199,ntmps199
  go_wp2_with (first
   | (go_at_call_of 197 (#[.string s,.string ⟨#[32]⟩]:Array Value);refine(o.o _).mono ?_;rintro e w2⟨rfl,a⟩;have D:=Aa a;have h:=Aa ((a.block w.1.size (by simp)).trans (Yac w _));clear a)
   | (go_at_call_of 197 (#[.string rs,.string ⟨#[32]⟩]:Array Value);refine(U.o _).mono ?_;rintro e w3⟨rfl,b⟩;have i:=Aa (Below.Ap (b1c D.o) b);have d:=Aa ((b.block w.1.size (Ac h.o)).trans h.o);clear b;obtain⟨y0,y1,y2,y3,y4,y5,yf⟩:=Iu d.o;have r:=yf 0;have t:=yf 1;have u:=yf 2;have x:=yf 3;have y:=yf 4;have z:=yf 5;clear yf)
   | (go_at_call 241;refine(R.o _ i.o).mono ?_;rintro e w4⟨n,er,rfl,m,f⟩;have ab:=Aa (Below.Ap i.o m);have ai:=Aa ((m.block w.1.size (Ac d.o)).trans d.o);have p:=Aa f;clear m f)
   | (go_at_call 243;refine(V.o _ ab.o).mono ?_;rintro e w5⟨pa,pn,pc,ok,rfl,ad,ac⟩;have j:=Aa (Below.Ap ab.o ad);have c:=Aa ((ad.block w.1.size (Ac ai.o)).trans ai.o);have aa:=Aa ac;clear ad ac;clear y0 y1 y2 y3 y4 y5 r t u x y z;obtain⟨y0,y1,y2,y3,y4,y5,yf⟩:=Iu c.o;have r:=yf 0;have t:=yf 1;have u:=yf 2;have x:=yf 3;have y:=yf 4;have z:=yf 5;clear yf))
  rcases aa.o with⟨rfl,L,G,rfl,h2⟩|⟨rfl,G⟩ <;> rcases p.o with⟨h3,rfl⟩|⟨h3,ty,xx,rfl⟩
  ·have H1:=Aa G
   have H2:=Aa h2;have H3:=Aa h3;clear p aa G h2 h3
   go_region
   go_wp2;obtain⟨I,J,M,N,O,P⟩:=oA w5 w.1.size _ _ _ _ _ _ (.int .i64 4) (.string ⟨#[]⟩) (.int .i64 0) (.slice none 0 0) (.slice pa L.length pc) (.int .i64 n) _ c.o;refine bodyPost_ret (v:=.tuple #[.agg #[.int .i64 4,.string ⟨#[]⟩,.int .i64 0,.slice none 0 0,.slice pa L.length pc,.int .i64 n],.bool true]) (by simp[results,results199,go_sem,I,J,M,N,O,P]) rfl ⟨_,_,_,_,_,_,_,_,_,_,_,rfl,(Gf j.o (Y' _) _ _ _ _ _ _).drew,?_⟩;refine .inl ⟨rfl,[],L,by rw[g.o,H3.o,H1.o];rfl,XM ..,?_⟩;exact AFB (ABe (qL H2.o ab.o.size) c.o (by decide) _ _ _ _ _ _)
  ·have H3:=Aa h3
   clear p aa G h2 h3
   go_region
   go_wp2;obtain⟨I,J,M,N,O,P⟩:=oA w5 w.1.size _ _ _ _ _ _ (.int .i64 4) (.string ⟨#[]⟩) (.int .i64 0) (.slice none 0 0) (.slice pa L.length pc) (.int .i64 n) _ c.o;refine bodyPost_ret (v:=.tuple #[.agg #[.int .i64 4,.string ⟨#[]⟩,.int .i64 0,.slice none 0 0,.slice pa L.length pc,.int .i64 n],.bool false]) (by simp[results,results199,go_sem,I,J,M,N,O,P]) rfl ⟨_,_,_,_,_,_,_,_,_,_,_,rfl,(Gf j.o (Y' _) _ _ _ _ _ _).drew,?_⟩;exact .inr ⟨rfl,by rw[g.o,H3.o];rfl⟩
  ·have H1:=Aa G
   clear p aa G h3
   go_region
   go_wp2;obtain⟨I,J,M,N,O,P⟩:=oA w5 w.1.size _ _ _ _ _ _ (.int .i64 4) (.string ⟨#[]⟩) (.int .i64 0) (.slice none 0 0) (.slice pa pn pc) (.int .i64 n) _ c.o;refine bodyPost_ret (v:=.tuple #[.agg #[.int .i64 4,.string ⟨#[]⟩,.int .i64 0,.slice none 0 0,.slice pa pn pc,.int .i64 n],.bool false]) (by simp[results,results199,go_sem,I,J,M,N,O,P]) rfl ⟨_,_,_,_,_,_,_,_,_,_,_,rfl,(Gf j.o (Y' _) _ _ _ _ _ _).drew,?_⟩;refine .inr ⟨rfl,by rw[g.o,H1.o];cases numOf f1 <;> rfl⟩
  have H1:=Aa G;clear p aa G h3
  go_region
  go_wp2;obtain⟨I,J,M,N,O,P⟩:=oA w5 w.1.size _ _ _ _ _ _ (.int .i64 4) (.string ⟨#[]⟩) (.int .i64 0) (.slice none 0 0) (.slice pa pn pc) (.int .i64 n) _ c.o;refine bodyPost_ret (v:=.tuple #[.agg #[.int .i64 4,.string ⟨#[]⟩,.int .i64 0,.slice none 0 0,.slice pa pn pc,.int .i64 n],.bool false]) (by simp[results,results199,go_sem,I,J,M,N,O,P]) rfl ⟨_,_,_,_,_,_,_,_,_,_,_,rfl,(Gf j.o (Y' _) _ _ _ _ _ _).drew,?_⟩;refine .inr ⟨rfl,by rw[g.o,H1.o];cases numOf f1 <;> rfl⟩
 have g:Hid (Co l=none):=Aa (by rw[q.o,Yad hadd,Yad hremove,Yad hmask,Yad hschema]);have al:((bA Y).toList==[97,100,100])=false:=by rw[k.o];exact beq_eq_false_iff_ne.2 hadd
 have am:¬(bA Y).toList=[97,100,100]:=by rw[k.o];exact hadd
 have ae:((bA Y).toList==[114,101,109,111,118,101])=false:=by rw[k.o];exact beq_eq_false_iff_ne.2 hremove
 have ag:¬(bA Y).toList=[114,101,109,111,118,101]:=by rw[k.o];exact hremove
 have aj:((bA Y).toList==[109,97,115,107])=false:=by rw[k.o];exact beq_eq_false_iff_ne.2 hmask
 have ak:¬(bA Y).toList=[109,97,115,107]:=by rw[k.o];exact hmask
 have af:((bA Y).toList==[115,99,104,101,109,97])=false:=by rw[k.o];exact beq_eq_false_iff_ne.2 hschema
 have ah:¬(bA Y).toList=[115,99,104,101,109,97]:=by rw[k.o];exact hschema
 clear k q T X V R hadd hremove hmask hschema;generalize bA Y=wb at *;generalize bA f1=x1 at *;generalize bA f2=x2 at *;go_enter func199,ntmps199
 go_wp2_with (first
  | (go_at_call_of 197 (#[.string s,.string ⟨#[32]⟩]:Array Value);refine(o.o _).mono ?_;rintro e w2⟨rfl,a⟩;have D:=Aa a;have h:=Aa ((a.block w.1.size (by simp)).trans (Yac w _));clear a)
  | (go_at_call_of 197 (#[.string rs,.string ⟨#[32]⟩]:Array Value);refine(U.o _).mono ?_;rintro e w3⟨rfl,b⟩;have i:=Aa (Below.Ap (b1c D.o) b);have d:=Aa ((b.block w.1.size (Ac h.o)).trans h.o);clear b;obtain⟨y0,y1,y2,y3,y4,y5,yf⟩:=Iu d.o;have r:=yf 0;have t:=yf 1;have u:=yf 2;have x:=yf 3;have y:=yf 4;have z:=yf 5;clear yf)
  | fail)
 have c:=Aa d.o;have j:=Aa i.o;obtain⟨I,J,M,N,O,P⟩:=oA w3 w.1.size _ _ _ _ _ _ (.int .i64 0) (.string ⟨#[]⟩) (.int .i64 0) (.slice none 0 0) (.slice none 0 0) (.int .i64 0) _ c.o;refine bodyPost_ret (v:=.tuple #[.agg #[.int .i64 0,.string ⟨#[]⟩,.int .i64 0,.slice none 0 0,.slice none 0 0,.int .i64 0],.bool false]) (by simp[results,results199,go_sem,I,J,M,N,O,P]) rfl ⟨_,_,_,_,_,_,_,_,_,_,_,rfl,(Gf j.o (Y' _) _ _ _ _ _ _),?_⟩;exact .inr ⟨rfl,g.o⟩
def look(l:List Vc)(p:ByteArray):Option (Int×List Int):=(l.find? λe=>decide (e.1=p)).map (·.2)
section
variable {nb : ByteArray → Bool} {cb : ByteArray → Bool} {fb : Int → Int → Int → ByteArray → Bool}
end
def Q7(s:Ah):Prop:=∀e∈s.qx,e.1.size<=16
structure AK9(W:World)(a:ADV)(ma:Option Addr)(mn mc:Nat)(ca:Option Addr)(cn cc:Nat):Prop where
 qv:Ph W (.slice ma mn mc) a.2.2.2.1
 qz:bH W (.slice ca cn cc) a.2.2.2.2.1
 qk:a.2.1.size<=maxLen
 Iz:a.2.2.2.1.length<=maxLen
 ADp:a.2.2.2.2.1.length<=maxLen
 texts:∀x∈a.2.2.2.2.1,x.2.1.size<=maxLen/\x.2.2.2.2.2.2.size<=maxLen
def AKB(W:World)(v:Value)(l:List ADV):Prop:=((∃a c,v=.slice a 0 c)/\l=[])\/∃g o c,v=.slice (some ⟨g,o,none⟩) l.length c/\l.length<=c/\g<W.1.size/\∀j,j<l.length->∃f i h b e d,AK9 W l[j]! f i h b e d/\M6 W g (o+j*6) l[j]! f i h b e d
variable{W w:Tw}{l:List ADV}{c:Dn}
def cl(b:ByteArray):ByteArray:=if b.size<=maxLen then b else ⟨#[]⟩
theorem AEi(b:Tb):(cl b).size<=maxLen:=by
 unfold cl;split
 ·assumption
 decide
theorem AGQ{b:Tb}(h:b.size<=maxLen):cl b=b:=by simp[cl,h]
abbrev sG:=ADV×Sv×Sv
def tJ(x:sG):List Value:=[Zi x.1.1,.string (cl x.1.2.1),Zi x.1.2.2.1,sv x.2.1,sv x.2.2,Zi x.1.2.2.2.2.2]
theorem rP(x:sG):(tJ x).length=6:=rfl
theorem Dt.list{g o c:Nat}(h:∀j,j<l.length->∃k p m b f d,Om w l[j]! k p m b f d/\M6 w g (o+j*6) l[j]! k p m b f d):
 ∃zs:List sG,zs.map (·.1)=l/\∀j,j<zs.length->∀i v,(tJ zs[j]!)[i]? = some v->w.cell? (Zd g (o+j*6+i))=some v:=by
 have _:=c
 have t:∀n,n<=l.length->∃zs:List sG,zs.map (·.1)=l.take n/\∀j,j<zs.length->∀i v,(tJ zs[j]!)[i]? = some v->w.cell? (Zd g (o+j*6+i))=some v:=by
  intro n
  induction n with
  | zero=>intro _;exact⟨[],rfl,λj s=>absurd s (Yr _)⟩
  | succ n ih=>
    intro N;obtain⟨zs,q,r⟩:=ih (by omega);obtain⟨k,p,m,b,f,d,y,z⟩:=h n (by omega);have hlen:zs.length=n:=by have:=congrArg List.length q;simp at this;omega
    refine⟨zs++[(l[n]!,(k,p,m),(b,f,d))],?_,?_⟩
    ·rw[WC,q,Br (by omega)];rfl
    intro j s i v a;simp only[XH,XD,XL] at s
    by_cases e:j<zs.length
    ·rw[show (zs++[(l[n]!,(k,p,m),(b,f,d))])[j]! = zs[j]! by simp[List.getElem!_eq_getElem?_getD,XU e]] at a
     exact r j e i v a
    have x:j=n:=by omega
    subst x;rw[show (zs++[(l[j]!,(k,p,m),(b,f,d))])[j]! = (l[j]!,(k,p,m),(b,f,d)) by simp[List.getElem!_eq_getElem?_getD,hlen]] at a;obtain⟨G,u,I,J,L,M⟩:=z;rw[<-AGQ y.qk] at u;have:i=0\/i=1\/i=2\/i=3\/i=4\/i=5\/6<=i:=by omega
    rcases this with rfl|rfl|rfl|rfl|rfl|rfl|D
    ·cases a;exact G
    ·cases a;exact u
    ·cases a;exact I
    ·cases a;exact J
    ·cases a;exact L
    ·cases a;exact M
    rw[Yb (by rw[rP];exact D)] at a;cases a
 obtain⟨zs,q,r⟩:=t l.length (Y' _);exact⟨zs,by rw[q,Yg],r⟩
theorem AEB(a:To)(c:Nat)(d:Tv)(w:Tw):Zc 163 #[Zs a 0 c,d] w λe b=>e=Zr (Zo false)/\b=w:=by
 have f:Hid (Zc 209 #[Zs a 0 c,d] w λe b=>e=Zr (Zi (-1))/\b=w):=by
  go_enter func209,ntmps209;go_wp2
  go_loopg [5,8] 0 (λ_ _ g wr=>g=Zi 0/\wr=w)
  case atStart=>exact⟨rfl,rfl⟩
  case round=>obtain⟨rfl,rfl⟩:=hrel;go_wp2;go_ret;exact⟨rfl,rfl⟩
 go_enter func163,ntmps163;go_wp2_with (go_at_call 209;apply f.o.mono;rintro e h⟨rfl,rfl⟩);go_ret;exact⟨rfl,rfl⟩
theorem tB(a:To)(n c:Nat)(l:List ADV)(p:ADV->Bool)(g:Nat)(lb:Array Tv)(w:Tw)(h:Dt w (Zs a n c) l)(z:l.length<=1000)(k:∀args w,(callFunc g args).run prog w=.ok (.enter g args) w)(s:PredBelow prog g lb (λx:sG=>Zg (tJ x).toArray) (λx=>p x.1) w):
 Zc 163 #[Zs a n c,.func (.func g) #[] lb] w λe u=>e=Zr (Zo (l.any p))/\Zb w u:=by
 rcases h with⟨⟨_,_,e⟩,e0⟩|⟨m,o,v,e,y,d,b⟩
 ·cases e;subst e0
  exact(AEB _ _ _ w).mono λ_ _⟨r,t⟩=>⟨r,t ▸ XG _ _⟩
 cases e;obtain⟨zs,f,q⟩:=Dt.list (c:=c) b;have i:zs.length=l.length:=by have:=congrArg List.length f;simpa using this
 have:=AnyQ.slices_ContainsFunc layAnyA 6 isAgg111 sizeOf111 tJ rP (λx=>p x.1) g lb k m o l.length c zs w s (by omega) (by omega) d q;rw[<-i,Yg] at this;have j:zs.any (λx=>p x.1)=l.any p:=by rw[<-f,List.any_map];rfl
 rw[j,i] at this;exact this
theorem nQ(w:Tw):PredBelow prog 164 #[] (λx:sG=>Zg (tJ x).toArray) (λx=>x.1.1==4) w:=λW x hb=>by
 obtain⟨⟨k,p,r,m,h,g⟩,⟨d,f,e⟩,a,c,b⟩:=x;show Zc 164 #[Zg #[Zi k,Zt (cl p),Zi r,Zs d f e,Zs a c b,Zi g]] W _;generalize cl p=i;go_enter func164,ntmps164;go_wp2
 all_goals (go_ret;exact⟨rfl,hb.alloc hb.size _⟩)
def G8(l:List ADV):Bool:=l.any (λa=>a.1==4)
theorem Wy(g:Tb)(f:Bool)(a:To)(n c:Nat)(l:List ADV)(w:Tw)(h:Dt w (Zs a n c) l)(p:l.length<=1000):
 Zc 104 #[Zg #[Zt g,Zo f,Zs a n c]] w λe q=>e=Zr (Zo (G8 l))/\Zb w q:=by
 have k:∀args w,(callFunc 164 args).run prog w=.ok (.enter 164 args) w:=enters_of func164 (by kernel_rfl) rfl;have b:Zb w (w.alloc (Zk #[Zt g,Zo f,Zs a n c] 53)):=Zal;have i:=Aa (tB a n c l (λa=>a.1==4) 164 #[] _ (h.below b) p k (nQ (w.alloc (Zk #[Zt g,Zo f,Zs a n c] 53))));have o:=Aa b;clear h b k;generalize m:l.any (λa=>a.1==4)=r at i;have j:Hid (G8 l=r):=m;clear m;generalize G8 l=s at j ⊢;go_enter func104,ntmps104;go_wp2_with (go_at_call 163;apply i.o.mono;rintro e t⟨rfl,d⟩);go_ret;exact⟨Af j.o.symm,Below.Ap o.o d⟩
def lit(b:ByteArray):Lit:=.string b.1.toList
theorem Jr{a b:Tb}(h:lit a=lit b):a=b:=by unfold lit at h;injection h with h;cases a;cases b;simp at h;simp[h]
theorem AEF(b:Tb):WideAt.IsKeyLit (lit b):=by unfold lit;simp[WideAt.IsKeyLit]
theorem Wl:Keyed prog 9:=string_keyed underlying9
theorem Mh{b:Tb}(h:b.size<=maxLen):keyOf prog 9 (.string b)=some (lit b):=WideMaps.keyOf_string_mk underlying9 h
def iH(l:List ADV)(p:ByteArray):Nat:=(l.filter λa=>decide (a.2.1=p)).length
theorem AFj(l:List ADV)(a:ADV)(p:Tb):iH (l++[a]) p=if a.2.1=p then iH l p+1 else iH l p:=by
 simp only[iH,List.filter_append,XH]
 by_cases h:a.2.1=p <;> simp[h]
theorem AJf(l:List ADV)(p:Tb):iH l p<=l.length:=List.length_filter_le _ _
theorem AOj{p:Tb}(h:iH l p=0):∀a∈l,a.2.1≠p:=by
 intro a b e;have:a∈l.filter λa=>decide (a.2.1=p):=List.mem_filter.2 ⟨b,by simp[e]⟩
 have c:=List.length_pos_of_mem this;unfold iH at h;omega
theorem AEk{c:Int}(a:0<=c)(b:c<=2000):(Lit.int .i64 c).wf=true:=by simp only[Lit.wf,XA,decide_eq_true_eq];exact⟨Yab (by decide:IntKind.i64.min<=0) a,Yab b (by decide)⟩
def Seen(W:World)(b n:Nat)(l:List ADV):Prop:=∃D:DataW Unit,W.ownsMap prog 9 (plainElem prog 3) b n D/\∀p,D.atKey (lit p) (.lit (.int .i64 0))=.lit (.int .i64 (iH l p))
def S9(l o:List ADV):Bool:=o.any (λa=>decide (0<(iH l a.2.1:Int)))
theorem Seen.below{b n:Nat}(h:Seen w b n l)(f:Zb w W):Seen W b n l:=by obtain⟨D,c,d⟩:=h;obtain⟨es,clock,a,e⟩:=c;exact⟨D,⟨es,clock,(f.block b (Ac a)).trans a,e⟩,d⟩
theorem ADd(b n B:Nat)(l:List ADV)(w:Tw)(h:Seen w b n l)(L:B<w.1.size)(M:w.cell? (Zd B 0)=some (.map (some b))):
 PredBelow prog 165 #[Zp (some (Zd B 0))] (λx:sG=>Zg (tJ x).toArray) (λx=>decide (0<(iH l (cl x.1.2.1):Int))) w:=λW x hb=>by
 obtain⟨⟨k,p,r,m,T,z⟩,⟨u,y,v⟩,o,s,q⟩:=x;show Zc 165 #[Zg #[Zi k,Zt (cl p),Zi r,Zs u y v,Zs o s q,Zi z],Zp (some (Zd B 0))] W (λe R=>e=Zr (Zo (decide (0<(iH l (cl p):Int))))/\Zb w R);have P:=AEi p;generalize cl p=g at *;have f:=(hb.cell (p:=Zd B 0) L).trans M;have O:B≠W.1.size:=by have:=hb.size;omega
 have N:(W.alloc (Zk #[Zi k,Zt g,Zi r,Zs u y v,Zs o s q,Zi z] 111)).cell? (Zd B 0)=some (.map (some b)):=Lib.cell?_alloc_some _ f;obtain⟨D,I,d⟩:=(h.below hb).below ((XG W.1.size W).alloc (Y' _) (Zk #[Zi k,Zt g,Zi r,Zs u y v,Zs o s q,Zi z] 111));have i:=Aa (d g);have J:=Aa I;have G:=Aa hb;clear d I h hb f;go_enter func165,ntmps165;go_wp2_with (at_lookup;refine wpList_lookup_own_int _ rfl _ _ 252 rfl 9 3 .i64 Wl underlying252 underlying3 (zeroValue3 _) b n D rfl J.o _ _ rfl (Mh P) ?_;intro c a t;have j:Hid (c=(iH l g:Int)):=Aa (by rw[i.o] at a;injection a with a;injection a with _ a;exact a.symm);clear a t);go_ret;exact⟨Af (by rw[j.o]),G.o.alloc G.o.size _⟩
theorem AF0(a1:To)(n1 c1:Nat)(l:List ADV)(V:To)(n2 X:Nat)(o:List ADV)(w:Tw)(N:Dt w (Zs a1 n1 c1) l)(r:Dt w (Zs V n2 X) o)(hl:l.length<=1000)(ho:o.length<=1000):
 Zc 105 #[Zs a1 n1 c1,Zs V n2 X] w λe w'=>e=Zr (Zo (S9 l o))/\Below w.1.size w w':=by
 have Y:∀args w,(callFunc 165 args).run prog w=.ok (.enter 165 args) w:=enters_of func165 (by kernel_rfl) rfl;have al:=N.len;subst al;have H1:=Aa N;have H2:=Aa r
 have I:Hid (∀W,Below w.1.size w W->Seen W w.1.size 1000 l->W.cell? (Zd (w.1.size+1) 0)=some (.map (some w.1.size))->w.1.size+1<W.1.size->Zc 163 #[Zs V n2 X,.func (.func 165) #[] #[Zp (some (Zd (w.1.size+1) 0))]] W λe w'=>e=Zr (Zo (S9 l o))/\Below W.1.size W w'):=λW hW hS hc hB=>by
  have hp:PredBelow prog 165 #[Zp (some (Zd (w.1.size+1) 0))] (λx:sG=>Zg (tJ x).toArray) (λx=>(λa:ADV=>decide (0<(iH l (cl a.2.1):Int))) x.1) W:=ADd w.1.size 1000 (w.1.size+1) l W hS hB hc;have:=tB V n2 X o (λa=>decide (0<(iH l (cl a.2.1):Int))) 165 _ W (r.below hW) ho Y hp
  have e:o.any (λa=>decide (0<(iH l (cl a.2.1):Int)))=S9 l o:=by
   unfold S9;rw[YZ];simp only[List.any_eq_true]
   rcases r with⟨_,e0⟩|⟨gg,oo,c',_,_,_,d⟩
   ·subst e0;simp
   constructor
   ·rintro⟨x,i,u⟩
    obtain⟨j,t,rfl⟩:=Yk i;obtain⟨_,_,_,_,_,_,h5,_⟩:=d j t;have:=h5.qk;rw[getElem!_pos o j t] at this;exact⟨_,i,by rw[AGQ this] at u;exact u⟩
   rintro⟨x,i,u⟩;obtain⟨j,t,rfl⟩:=Yk i;obtain⟨_,_,_,_,_,_,h5,_⟩:=d j t;have:=h5.qk;rw[getElem!_pos o j t] at this;exact⟨_,i,by rw[AGQ this];exact u⟩
  rw[e] at this;exact this
 clear N r Y;have ak:=@run_makeMap prog;have L:Hid (Seen (w.alloc (.map #[] 0)) w.1.size 0 []):=⟨.map [],WI w _ _ _,λp=>rfl⟩;generalize S9 l o=av at I ⊢;go_enter func105,ntmps105;go_wp2_with fail;have z:Hid (Below w.1.size w ((w.alloc (.map #[] 0)).alloc (Zk #[.map (some w.1.size)] 252))):=(Zal).alloc (by simp) _;have M:Hid (Seen ((w.alloc (.map #[] 0)).alloc (Zk #[.map (some w.1.size)] 252)) w.1.size 0 (l.take 0)):=Aa (L.o.below (Zal));have G:Hid (((w.alloc (.map #[] 0)).alloc (Zk #[.map (some w.1.size)] 252)).cell? (Zd (w.1.size+1) 0)=some (.map (some w.1.size))/\w.1.size+1<((w.alloc (.map #[] 0)).alloc (Zk #[.map (some w.1.size)] 252)).1.size):=Aa ⟨by rw[World.cell?_alloc_at _ _ _ _ (by simp)];rfl,by simp⟩;clear ak L;generalize (w.alloc (.map #[] 0)).alloc (Zk #[.map (some w.1.size)] 252)=wa at *
 go_loopw [11] (λvi wr=>∃k:Nat,k<=l.length/\vi=Zi k/\Hid (Seen wr w.1.size k (l.take k))/\Hid (wr.cell? (Zd (w.1.size+1) 0)=some (.map (some w.1.size))/\w.1.size+1<wr.1.size)/\Hid (Below w.1.size w wr)) (λvi _=>l.length-(intOf vi).toNat)
 case atStart=>exact⟨0,XK _,rfl,M,G,z⟩
 case round=>
  clear M G z;obtain⟨k,hk,rfl,SE,v,U⟩:=hrel
  by_cases hlt:k<l.length
  ·have ap:(k:Int)<(l.length:Int):=by omega
   rcases H1.o.below U.o with⟨_,e0⟩|⟨g,o',c,Y,an,aq,d⟩
   ·rw[e0] at hlt;simp at hlt
   injection Y with ad _ ae;subst ad ae;obtain⟨ma,mn,mc,ca,cn,cc,s,O⟩:=d k hlt;have n:Hid (∀p,iH (l.take (k+1)) p=if l[k]!.2.1=p then iH (l.take k) p+1 else iH (l.take k) p):=Aa (λp=>by rw[Br hlt,AFj]);obtain⟨⟨x1,m,x3,x4,x5,x6⟩,i⟩:∃x,l[k]! = x:=⟨_,rfl⟩;rw[i] at s O n;obtain⟨q0,q1,q2,q3,q4,q5⟩:=O;simp only at q0 q1 q2 q3 q4 q5;have hp:m.size<=maxLen:=s.qk;obtain⟨D,hD,P⟩:=SE.o.below ((XG wr.1.size wr).alloc (Y' _) (Zk #[Zi x1,Zt m,Zi x3,Zs ma mn mc,Zs ca cn cc,Zi x6] 111));have y:=Aa P;have HD:=Aa hD;have ai:=AJf (l.take k) m
   have R:(iH (l.take k) m:Int)<=1000:=by
    have:(l.take k).length<=l.length:=by simp;omega
    omega
   have ag:=Lib.cell?_alloc_some (Zk #[Zi x1,Zt m,Zi x3,Zs ma mn mc,Zs ca cn cc,Zi x6] 111) v.o.1;have aa:Hid (Below wr.1.size wr (wr.alloc (Zk #[Zi x1,Zt m,Zi x3,Zs ma mn mc,Zs ca cn cc,Zi x6] 111))):=Aa (Zal);have ar:w.1.size+1≠wr.1.size:=by have:=v.o.2;omega
   clear P hD s d i ai;generalize T:(iH (l.take k) m:Int)=cv at R;have J:=Aa T;have ao:0<=cv:=by omega
   clear T
   go_wp2_with (first
    | (at_lookup;refine wpList_lookup_own_int _ rfl _ _ 252 rfl 9 3 .i64 Wl underlying252 underlying3 (zeroValue3 _) w.1.size k D rfl HD.o _ _ rfl (Mh hp) ?_;intro c b am
       have ah:c=cv:=by rw[y.o,J.o] at b;injection b with b;injection b with _ b;exact b.symm
       clear b am;subst ah)
    | (at_mapUpdate;refine wpList_mapUpdate_in _ rfl _ _ _ 252 rfl 9 3 Wl underlying252 _ w.1.size k D rfl HD.o (by unfold maxLen;omega) _ _ _ rfl rfl (Mh hp) _ [] (plainElem_int underlying3 (AEk (by omega) (by omega))) ?_;intro w8 h f
       have ac:=Aa h;have q:=Aa f.grown;clear h f))
   go_roundw
   case rel=>
    have au:=v.o.2;refine⟨k+1,by omega,by go_num,Aa ⟨_,ac.o,λp=>?_⟩,Aa ⟨(q.o.cell_far (Zd (w.1.size+1) 0) (by simp;omega) (by simp)).trans ag,by have:=q.o.size;simp at this;omega⟩,Aa ((Below.Ap U.o aa.o).grown q.o (by simp;omega) (λj t=>by cases t;exact Y' _))⟩
    by_cases e:m=p
    ·subst e
     rw[atKey_put_same HD.o.isMap (AEF _),n.o,Yae rfl];rw[Int.natCast_add,J.o];rfl
    rw[atKey_put_other (λu=>e (Jr u).symm),n.o,Yad e];exact y.o p
   case measure=>simp[intOf];omega
  have aj:k=l.length:=by omega
  subst aj
  have ab:=Aa (I.o wr U.o (by obtain⟨D,N,r⟩:=SE.o;rw[Yg] at r;exact⟨D,N.mono hl,r⟩) v.o.1 v.o.2)
  go_wp2_with (go_at_call 163;apply ab.o.mono;rintro e w1⟨rfl,af⟩);go_ret;exact⟨rfl,Below.Ap U.o af⟩
def Nt(c o:Dn):Bool:=G8 o.2.2 || (decide (0<o.2.2.length) && (c.2.1 || G8 c.2.2) || S9 c.2.2 o.2.2)
theorem ANr{c o:Dn}(h:Nt c o=false):G8 o.2.2=false/\∀a∈o.2.2,∀b∈c.2.2,b.2.1≠a.2.1:=by simp only[Nt,Bool.or_eq_false_iff] at h;refine⟨h.1,λa d b e=>?_⟩;have:=h.2.2;unfold S9 at this;have:=List.any_eq_false.1 this a d;simp at this;exact AOj (by omega) b e
theorem ANs(t1:Tb)(c:Bool)(f:To)(n1 c1:Nat)(l:List ADV)(t2:Tb)(j:Bool)(g:To)(n2 h:Nat)(o:List ADV)(w:Tw)(M:Dt w (Zs f n1 c1) l)(z:Dt w (Zs g n2 h) o)(N:l.length<=1000)(P:o.length<=1000):
 Zc 59 #[Zg #[Zt t1,Zo c,Zs f n1 c1],Zg #[Zt t2,Zo j,Zs g n2 h]] w λe r=>e=Zr (Zo (Nt (t1,c,l) (t2,j,o)))/\Zb w r:=by
 have O:=z.len;subst O;obtain⟨Y,z1,z2,z3⟩:=ALM w (Zk #[Zt t1,Zo c,Zs f n1 c1] 53) (Zk #[Zt t2,Zo j,Zs g o.length h] 53)
 have I:Hid (∀W,Below (w.1.size+2) ((w.alloc (Zk #[Zt t1,Zo c,Zs f n1 c1] 53)).alloc (Zk #[Zt t2,Zo j,Zs g o.length h] 53)) W->(W.cell? (Zd w.1.size 0)=some (Zt t1)/\W.cell? (Zd w.1.size 1)=some (Zo c)/\W.cell? (Zd w.1.size 2)=some (Zs f n1 c1))/\W.cell? (Zd (w.1.size+1) 2)=some (Zs g o.length h)/\Zb w W/\w.1.size+2<=W.1.size):=λW d=>by have hs:=d.size;rw[Y] at hs;obtain⟨y0,y1,y2,_⟩:=Db ((d.block _ (by omega)).trans z1);obtain⟨_,_,y3,_⟩:=Db ((d.block _ (by omega)).trans z2);exact⟨⟨y0,y1,y2⟩,y3,z3.trans (d.mono (by omega)),hs⟩
 have t:=Aa (λ(W:Tw)(d:Zb w W)=>Wy t1 c f n1 c1 l W (M.below d) N)
 have m:=Aa (λ(W:Tw)(d:Zb w W)=>Wy t2 j g _ h o W (z.below d) P)
 have n:=Aa (λ(W:Tw)(d:Zb w W)=>AF0 f n1 c1 l g _ h o W (M.below d) (z.below d) N P)
 have i:Hid (Nt (t1,c,l) (t2,j,o)=(G8 o || (decide (0<o.length) && (c || G8 l) || S9 l o))):=rfl;have aa:(o.length:Int)<=1000:=by omega
 clear M z z1 z2 N P;generalize Nt (t1,c,l) (t2,j,o)=x at i ⊢;generalize G8 o=y at m i;generalize G8 l=b2 at t i;generalize S9 l o=b3 at n i;have p:=Aa Y;have u:=Aa z3;clear Y z3
 by_cases h0:0<o.length
 ·have L:(0:Int)<(o.length:Int):=by omega
  have a:Hid (x=(y || ((c || b2) || b3))):=Aa (by rw[i.o];simp[h0]);clear i;cases y <;> cases c <;> cases b2
  all_goals
   go_enter func59,ntmps59;go_wp2_with fail;refine(m.o _ u.o).mono ?_;rintro e R⟨rfl,b⟩;obtain⟨⟨T,U,V⟩,X,k,x5⟩:=I.o R (b.mono (by rw[p.o];omega));have D:=Aa (b.mono (show w.1.size+2<=_ by rw[p.o];omega));have s:=Aa k;clear b k
   go_wp2_with (first
    | (go_at_call 104;refine(t.o _ s.o).mono ?_;rintro e w2⟨rfl,v⟩
       have G:=Aa (D.o.trans (v.mono x5));clear T U V X;obtain⟨⟨T,U,V⟩,X,k,x6⟩:=I.o w2 G.o;have J:=Aa k;clear v k)
    | (go_at_call 105;refine(n.o _ J.o).mono ?_;rintro e w3⟨rfl,q⟩))
   go_ret
   first
    | exact⟨Af (by rw[a.o];simp),Below.Ap J.o q⟩
    | exact⟨Af (by rw[a.o];simp),J.o⟩
    | exact⟨Af (by rw[a.o];simp),s.o⟩
 have L:¬(0:Int)<(o.length:Int):=by omega
 have a:Hid (x=(y || b3)):=Aa (by rw[i.o];simp[h0]);clear i;cases y
 all_goals
  go_enter func59,ntmps59;go_wp2_with fail;refine(m.o _ u.o).mono ?_;rintro e R⟨rfl,b⟩;obtain⟨⟨T,U,V⟩,X,k,x5⟩:=I.o R (b.mono (by rw[p.o];omega));have s:=Aa k;clear b k;go_wp2_with (go_at_call 105;refine(n.o _ s.o).mono ?_;rintro e w3⟨rfl,q⟩);go_ret
  first
   | exact⟨Af (by rw[a.o];simp),Below.Ap s.o q⟩
   | exact⟨Af (by rw[a.o];simp),s.o⟩
theorem xK{s t:Ah}{a:ADV}(h:Xx s a t)(g:Q7 s):Q7 t:=by
 rcases h with⟨_,⟨f,_,_,_,_,_⟩,rfl⟩|⟨_,_,rfl⟩|⟨_,⟨i,_⟩,rfl⟩|⟨_,_,rfl⟩
 ·intro e b
  simp only[oE,XI,List.mem_singleton] at b
  rcases b with b|rfl
  ·exact g e b
  exact Rk f
 ·intro e b
  exact g e (YB b)
 ·intro e b
  simp only[gJ] at b
  rcases Yu b with b|rfl
  ·exact g e b
  rcases J8 s.qx a.2.1 with c|⟨k,d,c,_⟩
  ·omega
  rw[c];show (s.qx[k]!).1.size<=16;exact g _ (bB d)
 exact g
theorem cP:∀{l:List ADV}{s t:Ah},X1 s l t->Q7 s->Q7 t
 | [],_,_,h,g=>by simp only[X1,Il] at h;subst h;exact g
 | a :: l,s,t,⟨u,h1,h2⟩,g=>cP (l:=l) h2 (xK h1 g)
theorem iX{s t:Ah}(h:Bi s c t)(g:Q7 s):Q7 t:=cP h.2 g
theorem qX{s t u:Ah}(h:Bi s c t)(k:Bi s c u):t=u:=K6 h.2 k.2
theorem sF(W:Tw)(b:Nat)(c0 c1 f g a c d e:Tv)(T:TypeId)(h:W.1[b]? = some (Zk #[c0,c1,f,g] T (0,0))):
 ((((W.setCell (Zd b 0) a).setCell (Zd b 1) c).setCell (Zd b 2) d).setCell (Zd b 3) e).heap[b]? = some (Zk #[a,c,d,e] T (0,0))/\W.grownBy ((((W.setCell (Zd b 0) a).setCell (Zd b 1) c).setCell (Zd b 2) d).setCell (Zd b 3) e) (some b) :=
 ⟨As _ b 3 _ T e (As _ b 2 _ T d (As _ b 1 _ T c (As _ b 0 _ T a h))),(((Aq W b 0 a).trans (Aq _ b 1 c)).trans (Aq _ b 2 d)).trans (Aq _ b 3 e)⟩
theorem Dl.up{w W:Tw}{s:Ah}{v:Tv}(h:Dl w s v)(f:Zb w W):Dl W s v:=by obtain⟨a,c1,b,c,L,e,d⟩:=h;exact⟨a,c1,b,c,L,e,d.up f⟩
theorem Dl.put{s:Ah}{v:Tv}{b:Nat}{cs:Array Tv}(h:Dl w s v)(d:w.1[b]? = some (Zk cs 56 (0,0)))(f:w.grownBy W (some b)):Dl W s v:=by
 obtain⟨i,c1,j,l,L,e,a⟩:=h;refine⟨i,c1,j,l,L,e,?_,a.qx,?_,λx g=>?_⟩
 ·exact Az a.qz f (λk c e=>Fq a.qz d (by decide) (by rw[c];exact e.symm))
 ·exact Az a.row f (λk c e=>Fq a.row d (by decide) (by rw[c];exact e.symm))
 exact Az (a.Cl x g) f (λk c e=>Fq (a.Cl x g) d (by decide) (by rw[c];exact e.symm))
theorem AAK(W:Tw):Dl W F6 Wi:=⟨none,0,none,0,[],rfl,xI W⟩
def AKH(s:Ah)(c:Dn)(h:Int)(b:Option Addr)(n1 c1:Nat)(i:Int)(d:Option Addr)(n2 e:Nat)(a:Value)(g:World):Prop :=
 (a=.nilIface/\∃t,Bi s c t/\Dl g t (.agg #[Zi h,.slice b n1 c1,Zi i,.slice d n2 e]))\/(∃f x,a=.iface f x/\∀t,¬Bi s c t)
theorem kJ(s:Ah)(a:Tv)(f:Tb)(p:Bool)(Bz:List ADV)(g:To)(j i:Nat)(w:Tw)(h:Dl w s a)(J:Good Bv Cm s)(n:0<=s.Eb)(o:s.Eb<=1000)(I:Dt w (Zs g j i) Bz)(k:Bz.length<=1000)(m:f.size<=maxLen)(M:Lw w):
 Zc 56 #[a,Zg #[Zt f,Zo p,Zs g j i]] w λe q=>∃y b n1 c1 z c n2 d r,e=Zr (Zu #[Zg #[Zi y,Zs b n1 c1,Zi z,Zs c n2 d],r])/\Zb w q/\AKH s (f,p,Bz) y b n1 c1 z c n2 d r q:=by
 refine(ADj s a f p Bz g j i w h J n o I k m M).mono ?_;rintro e q⟨u,⟨t,v,D,rfl,l⟩|⟨N,x,rfl,l⟩⟩
 ·obtain⟨b,c1,c,d,L,rfl,G⟩:=l
  exact⟨_,_,_,_,_,_,_,_,_,rfl,u,.inl ⟨rfl,t,D,b,c1,c,d,L,rfl,G⟩⟩
 exact⟨_,_,_,_,_,_,_,_,_,rfl,u,.inr ⟨N,x,rfl,l⟩⟩
abbrev AKw(W:World)(b:Nat)(a c d e:Value):World:=(((W.setCell ⟨b,0,none⟩ a).setCell ⟨b,1,none⟩ c).setCell ⟨b,2,none⟩ d).setCell ⟨b,3,none⟩ e
theorem Hx{n:Nat}(h:Below n w W){b:Nat}(a:n<=b)(c d e f:Tv):Below n w (AKw W b c d e f) :=
 (((h.setCell (p:=Zd b 0) a _).setCell (p:=Zd b 1) a _).setCell (p:=Zd b 2) a _).setCell (p:=Zd b 3) a _
def Vp(c:Aj):Prop:=Lu c.1/\Lu c.2.2.1/\Lu c.2.2.2.2.2.1
structure Ints(a:ADV):Prop where
 qj:Lu a.2.2.1
 qv:∀x∈a.2.2.2.1,Lu x
 qz:∀x∈a.2.2.2.2.1,Vp x
 next:Lu a.2.2.2.2.2
theorem zD{n:Int}(h:(Lit.int .i64 n).wf=true):Lu n:=by
 have a:IntKind.i64.min = -9223372036854775808:=by decide
 have b:IntKind.i64.max=9223372036854775807:=by decide
 simp only[Lit.wf,XA,decide_eq_true_eq] at h;rw[a,b] at h;exact h
theorem AIb:prog.cellsOf 3=1:=by kernel_rfl
theorem AKN:prog.cellsOf 2=1:=by kernel_rfl
theorem AJr:prog.cellsOf 4=1:=by kernel_rfl
theorem AEW:prog.cellsOf 9=1:=by kernel_rfl
theorem AJ3:prog.cellsOf 67=3:=by kernel_rfl
theorem AHW:prog.cellsOf 69=7:=by kernel_rfl
theorem Jq{α:Type}{l:List α}{n:Nat}(h:l.length=n+1):∃a t,l=a :: t/\t.length=n:=by
 cases l with
 | nil=>simp at h
 | cons a t=>exact⟨a,t,rfl,by simpa using h⟩
theorem AFh{α:Type}{l:List α}(h:l.length=0):l=[]:=Yag.1 h
section
variable {H : Type} {enc : TypeId × Value → H} {P : Program} {w : World} {base : Nat} {spare : Nat → Bool} {held : Bool} {t : TypeId} {fuel : Nat} {cs : List Value} {x : DataW H × List MemPlace}
theorem nB{a b c d e:Field}(p:P.underlying t=some (.struct #[a,b,c,d,e]))(h:DataW.trod enc P w base spare held fuel t cs=some x):
 ∃(i j k l m:DataW H×List MemPlace)(n:Nat),cs.length=P.cellsOf t/\DataW.trod enc P w base spare held n a.type ((cs.drop a.offset).take (P.cellsOf a.type))=some i/\DataW.trod enc P w base spare held n b.type ((cs.drop b.offset).take (P.cellsOf b.type))=some j/\DataW.trod enc P w base spare held n c.type ((cs.drop c.offset).take (P.cellsOf c.type))=some k/\DataW.trod enc P w base spare held n d.type ((cs.drop d.offset).take (P.cellsOf d.type))=some l/\DataW.trod enc P w base spare held n e.type ((cs.drop e.offset).take (P.cellsOf e.type))=some m:=by
 obtain⟨xs,n,_,_,o,g,f⟩:=DataW.trod_struct p h
 match xs,g with
 | [i,j,k,l,m],_=>exact⟨i,j,k,l,m,n,o,f 0 a rfl,f 1 b rfl,f 2 c rfl,f 3 d rfl,f 4 e rfl⟩
end
section
variable {H : Type} {enc : TypeId × Value → H} {W : World} {sp : Nat → Bool} {held : Bool} {n : Nat} {cs : List Value} {x : DataW H × List MemPlace}
theorem AEc(h:DataW.trod enc prog W 0 sp held n 69 cs=some x):∃c:Aj,cs=Cc c/\(c.2.1.size<=maxLen/\c.2.2.2.2.2.2.size<=maxLen)/\Vp c:=by obtain⟨y0,y1,y2,y3,y4,n1,z,t,u,v,w,y⟩:=nB underlying69 h;rw[AHW] at z;obtain⟨v0,cs1,rfl,a⟩:=Jq (n:=6) z;obtain⟨v1,cs2,rfl,b⟩:=Jq (n:=5) a;obtain⟨v2,cs3,rfl,d⟩:=Jq (n:=4) b;obtain⟨v3,O,rfl,e⟩:=Jq (n:=3) d;obtain⟨v4,P,rfl,f⟩:=Jq (n:=2) e;obtain⟨v5,R,rfl,g⟩:=Jq (n:=1) f;obtain⟨v6,T,rfl,i⟩:=Jq (n:=0) g;obtain rfl:=AFh i;simp only[AIb,AEW,AJr,AJ3,WE,X6,X',WM] at t u v w y;obtain⟨D,e0,_,U⟩:=DataW.trod_int underlying3 t;obtain⟨G,j,_,Y⟩:=DataW.trod_string underlying9 u;obtain⟨I,k,_,V⟩:=DataW.trod_int underlying3 v;obtain⟨J,l,_⟩:=DataW.trod_bool underlying4 w;obtain⟨z0,z1,z2,n2,_,_,q,r,s⟩:=trod_struct3 underlying67 y;simp only[AIb,AEW,AKN,WE,X6,X',WM] at q r s;obtain⟨L,m,_,_⟩:=DataW.trod_int underlying3 q;obtain⟨M,o,_,X⟩:=DataW.trod_int underlying2 r;obtain⟨N,p,_,m7⟩:=DataW.trod_string underlying9 s;simp at e0 j k l m o p;subst e0 j k l m o p;exact⟨(D,G,I,J,L,M,N),rfl,⟨Y,m7⟩,zD U,zD V,zD X⟩
def AKI{α:Type}[Inhabited α](k:Nat)(en:α->List Value)(W:World)(v:Value)(l:List α):Prop :=
 ((∃a c,v=.slice a 0 c)/\l=[])\/∃g o c,v=.slice (some ⟨g,o,none⟩) l.length c/\l.length<=c/\g<W.1.size/\∀j,j<l.length->∀i u,(en l[j]!)[i]? = some u->W.cell? ⟨g,o+j*k+i,none⟩=some u
theorem p8{v:Tv}{l:List Aj}(h:AKI 7 Cc W v l):bH W v l:=by
 rcases h with h|⟨g,o,c,e,b,d,a⟩
 ·exact .inl h
 exact .inr ⟨g,o,c,e,b,d,a⟩
abbrev Gx:=ADV×Sv×Sv
def nU(q:Gx):List Value:=[Zi q.1.1,.string q.1.2.1,Zi q.1.2.2.1,sv q.2.1,sv q.2.2,Zi q.1.2.2.2.2.2]
abbrev AKx:=Dn×Sv
def PK(W:World)(q:AKx):Prop:=AKB W (sv q.2) q.1.2.2/\q.1.2.2.length<=maxLen/\q.1.1.size<=maxLen/\∀a∈q.1.2.2,Ints a
end
variable{W Y w:Tw}{n:Nat}
attribute [local go_sem] Oper.semAt_some
def Mi:Value:=.agg #[Zi 0,.string ⟨#[]⟩,Zi 0,.slice none 0 0,.slice none 0 0,Zi 0]
theorem gO:(prog.info? 111).map (λi=>(i.zero,i.size,i.bytes))=some (some Mi,6,88):=by kernel_rfl
def Ci(L:List Gx):List Value:=L.flatMap nU
theorem Uy:∀{pre:List (List UInt8)}{L:List ADV}{a:List UInt8}{x:ADV},Cp pre=some L->Co a=some x->Cp (pre++[a])=some (L++[x])
 | [],L,a,x,h,hx=>by simp only[Cp] at h;cases h;simp[Cp,hx]
 | p :: pre,L,a,x,h,hx=>by
   simp only[Cp] at h;cases hp:Co p with
   | none=>rw[hp] at h;cases h
   | some y=>
     rw[hp] at h;simp only[XF] at h;cases hr:Cp pre with
     | none=>rw[hr] at h;cases h
     | some M=>rw[hr] at h;cases h;simp only[XJ,Cp,hp,XF,Uy hr hx];rfl
theorem Sz:∀{pre:List (List UInt8)}{a:List UInt8}{t:List (List UInt8)},Co a=none->Cp (pre++a :: t)=none
 | [],a,t,h=>by simp[Cp,h]
 | p :: pre,a,t,h=>by simp only[XJ,Cp];rw[Sz h];cases Co p <;> rfl
def pC(base:Nat)(W:World)(q:Gx):Prop:=W.ownsRow base 3 1 (sv q.2.1) q.1.2.2.2.1.length (q.1.2.2.2.1.map (.int .i64))/\W.ownsRow base 69 7 (sv q.2.2) q.1.2.2.2.2.1.length (Av q.1.2.2.2.2.1)
structure RdI(w:World)(bc base:Nat)(tx:ByteArray)(rd:Bool)(pre:List (List UInt8))(W:World)(L:List Gx)(aa:Option Addr)(ac:Nat):Prop where
 box:W.1[bc]? = some (.cells #[.string tx,.bool rd,.slice aa L.length ac] 53 (0,0))
 Bz:Cp pre=some (L.map (·.1))
 row:W.ownsRow base 111 6 (.slice aa L.length ac) L.length (Ci L)
 own:∀q∈L,pC base W q
 res:W.1[w.1.size]? = some (.cells #[.string ⟨#[]⟩,.bool false,.slice none 0 0] 53 (0,0))
 ok:W.1[w.1.size+1]? = some (.cells #[.bool false] 4 (0,0))
 low:Zb w W
theorem Le{base:Nat}{t:TypeId}{z:Nat}{v:Tv}{xs:List Tv}{row:Option Nat}{B:Nat}(h:W.ownsRow base t z v n xs)(i:B<base)(f:W.grownBy Y row)(g:∀r,row=some r->r=B\/(∃o:Obj,W.1[r]? = some o/\o.isCells=false)):Y.ownsRow base t z v n xs :=
 Az h f (λk a e=>by
  rcases g k e with rfl|⟨o,b,d⟩
  ·have:=Fu h a;omega
  obtain⟨cs,c⟩:=Ho h a;rw[c] at b;cases b;cases d)
theorem Ht{b:Nat}{cs:Array Tv}{t:TypeId}{row:Option Nat}{B:Nat}(h:W.1[b]? = some (Zk cs t (0,0)))(c:b≠B)(f:W.grownBy Y row)(g:∀r,row=some r->r=B\/(∃o:Obj,W.1[r]? = some o/\o.isCells=false)):Y.1[b]? = some (Zk cs t (0,0)):=by
 refine(f.block b (Ac h) (λe=>?_)).trans h
 rcases g b e.symm with rfl|⟨o,a,d⟩
 ·exact c rfl
 rw[h] at a;cases a;cases d
theorem RdI.free{n base:Nat}{s:Tb}{l:Bool}{pre:List (List UInt8)}{L:List Gx}{f:To}{k:Nat}{row:Option Nat}{B:Nat}(h:RdI w n base s l pre W L f k)(c:B<base)(d:n≠B)(t:w.1.size+1<B)(b:W.grownBy Y row)(i:∀r,row=some r->r=B\/(w.1.size<=r/\∃o:Obj,W.1[r]? = some o/\o.isCells=false)):RdI w n base s l pre Y L f k:=by
 have a:∀r,row=some r->r=B\/(∃o:Obj,W.1[r]? = some o/\o.isCells=false):=λr e=>(i r e).imp id And.right
 refine⟨Ht h.box d b a,h.Bz,Le h.row c b a,λq g=>⟨Le (h.own q g).1 c b a,Le (h.own q g).2 c b a⟩,Ht h.res (by omega) b a,Ht h.ok (by omega) b a,h.low.grown b h.low.size (λj p=>?_)⟩
 rcases i j p with rfl|⟨m,_⟩
 ·omega
 exact m
structure RdX(w:World)(t0:List UInt8)(W:World):Prop where
 bad:Cp (Dp t0)=none
 res:W.1[w.1.size]? = some (.cells #[.string ⟨#[]⟩,.bool false,.slice none 0 0] 53 (0,0))
 ok:W.1[w.1.size+1]? = some (.cells #[.bool false] 4 (0,0))
 low:Zb w W
theorem RdX.free{l:List UInt8}{row:Option Nat}{B:Nat}(h:RdX w l W)(g:w.1.size+1<B)(b:W.grownBy Y row)(c:∀r,row=some r->r=B\/(w.1.size<=r/\∃o:Obj,W.1[r]? = some o/\o.isCells=false)):RdX w l Y:=by
 have a:∀r,row=some r->r=B\/(∃o:Obj,W.1[r]? = some o/\o.isCells=false):=λr e=>(c r e).imp id And.right
 refine⟨h.bad,Ht h.res (by omega) b a,Ht h.ok (by omega) b a,h.low.grown b h.low.size (λj f=>?_)⟩
 rcases c j f with rfl|⟨d,_⟩
 ·omega
 exact d
theorem Ie(h:Zb W Y):KeepsFrom n W Y:=⟨h.size,λk _ _ a _=>(h.block k (Ac a)).trans a⟩
variable{n z:Nat}{W Y:Tw}{v:Tv}
attribute [local go_sem] Oper.semAt_some
theorem dL{β:Type}{g:Operand}{p:Tmp}{assign body:Code}{Q:Exit->Act->Tw->Prop}{a:Act}{w:Tw}(q:Tmp)(T:1<=n){gf:Nat}{lb:Array Tv}(Y:a.eval g=.func (.func gf) #[] lb)(O:∀args w,(callFunc gf args).run prog w=.ok (.enter gf args) w){B:Nat}{R:β->Array Tv->β->Prop}{M:β}{E:β->Prop}{k:List UInt8->Tw->Prop}{L:Tw->Prop}(s:aX (n-1) gf lb B R M E k L)(J:∀v X r o o',k v X->X.1[r]? = some o->o.isCells=false->k v (X.putObj r o'))(m:∀b args e,R b args e->args.size=1)(y:B≠w.1.size)(z:B≠w.1.size+1)(I:β->Tw->Prop)(x:Code->Tw->Prop)(U:iM B w.1.size I)(G:∀c,iM B w.1.size (λ(_:Unit)=>x c))(P:I M w)(V:∀r,L ((w.alloc (.deferred (some []))).alloc (.loop r)))(d:∀(l:Nat)(v:Tv)(W:Tw)(K:Act->Tw->Prop),K { tmps:=(a.tmps.setIfInBounds p v).setIfInBounds q v,defers:=[] } W ->
   assign.wpIn (Fence.wide.inRound l) (n-1-1) prog (Exit.then K (λ_ _ _=>False)) { tmps:=a.tmps.setIfInBounds p v,defers:=[] } W)(f:∀(l:Nat)(b:β)(v:Tv)(e:β)(W:Tw)(t:List UInt8),w.1.size<=l->R b #[v] e->I b W->k t W->body.wpIn (Fence.wide.inRound l) (n-1-1) prog (AA1 w.1.size k t I x e W) { tmps:=(a.tmps.setIfInBounds p v).setIfInBounds q v,defers:=[] } W)(i:∀(D:Nat)(b:β)(W:Tw),w.1.size<=D->E b->I b W->W.1[D]? = some (.deferred (some []))->Q .normal { a with defers:={ target:=.collected D,args:=#[] } :: a.defers } W)(j:∀(D:Nat)(c:Code)(W:Tw),w.1.size<=D->x c W->W.1[D]? = some (.deferred (some []))->c.wpIn Fence.wide n prog Q { a with defers:={ target:=.collected D,args:=#[] } :: a.defers } W):
 (Code.rangeFunc g #[p] assign body).wpIn Fence.wide n prog Q a w:=by
 have one:∀args:Array Tv,args.size=1->∃v,args=#[v]:=λargs h=>by
  rcases args with⟨_|⟨v,_|⟨u,r⟩⟩⟩
  ·cases h
  ·exact⟨v,rfl⟩
  simp at h
 refine ADO T Y O s J m y z I x U G P V (λargs=>{ tmps:=(a.tmps.setIfInBounds p (args.getD 0 undef)).setIfInBounds q (args.getD 0 undef),defers:=[] }) ?_ ?_ i j
 ·intro l args W K hs hK
  obtain⟨v,rfl⟩:=one args hs;have:=d l v W K hK;simpa using this
 intro l b args e W t hl N hi hk;obtain⟨v,rfl⟩:=one args (m b args e N);exact f l b v e W t hl N hi hk
theorem G6{q i:Nat}(h:KeepsFrom n W Y)(d:q<n):KeepsFrom n W (Y.setCell (Zd q i) v) :=
 ⟨XC h.size (Aq Y q i v).size,λk o b c a=>((Aq Y q i v).block k (Ac (h.same k o b c a)) (λe=>by injection e with e;omega)).trans (h.same k o b c a)⟩
theorem Cg{b q i:Nat}{o:Obj}(h:Y.1[b]? = some o)(a:b≠q):(Y.setCell (Zd q i) v).heap[b]? = some o :=
 ((Aq Y q i v).block b (Ac h) (λe=>by injection e with e;omega)).trans h
theorem Iq{base:Nat}{t:TypeId}{xs:List Tv}{b i:Nat}{u:Tv}(h:W.ownsRow base t z v n xs)(a:b<base):(W.setCell (Zd b i) u).ownsRow base t z v n xs :=
 Le (B:=b) h a (Aq W b i u) (λr e=>by injection e with e;exact .inl e.symm)
theorem Xa:∀{pre:List (List UInt8)}{M:List ADV},Cp pre=some M->M.length=pre.length
 | [],M,h=>by simp only[Cp] at h;cases h;rfl
 | p :: pre,M,h=>by
   simp only[Cp] at h;cases hp:Co p with
   | none=>rw[hp] at h;cases h
   | some y=>
     rw[hp] at h;simp only[XF] at h;cases hr:Cp pre with
     | none=>rw[hr] at h;cases h
     | some N=>rw[hr] at h;cases h;simp[Xa hr]
theorem AHN(s p:List UInt8):(Lib.trimSuffix s p).length<=s.length:=by
 unfold Lib.trimSuffix;split
 ·rw[WL];omega
 exact Y' _
theorem j8{base i:Nat}{t t':TypeId}{j:Nat}{v v':Tv}{n n':Nat}{xs xs':List Tv}(h:W.ownsRow base t z v n xs)(d:W.ownsRow i t' j v' n' xs')(b:t≠t')(f:W.grownBy Y v'.ownBlock):Y.ownsRow base t z v n xs :=
 Az h f (λk g e=>by obtain⟨c1,c⟩:=Ho h g;obtain⟨l,a⟩:=Ho d e;rw[c] at a;injection a with a;injection a with _ a;exact b a)
theorem j4{X:Tw}{base:Nat}{t:TypeId}{k:Nat}{xs:List Tv}(h:KeepsFrom n W X)(g:X.ownsRow base t z v k xs)(f:X.grownBy Y v.ownBlock):KeepsFrom n W Y :=
 ⟨XC h.size f.size,λj o b c a=>(f.block j (Ac (h.same j o b c a)) (λe=>by obtain⟨i,d⟩:=Ho g e.symm;rw[h.same j o b c a] at d;cases d;cases a)).trans (h.same j o b c a)⟩
theorem I2{b:Nat}{x:Tv}{t:TypeId}(h:W.1[b]? = some (Zk #[x] t (0,0))):W.cell? (Zd b 0)=some x/\W.frozen? (Zd b 0)=false:=by constructor <;> simp[World.cell?,World.frozen?,h]
def dM(l:List UInt8)(w:World)(e:Ending)(b:World):Prop:=∃(g:ByteArray)(f:Bool)(c:Option Addr)(a d:Nat)(ok:Bool),e=.returned (.tuple #[.agg #[.string g,.bool f,.slice c a d],.bool ok])/\Zb w b/\((ok=true/\∃L:List Gx,Js l=some (g,f,L.map (·.1))/\a=L.length/\b.ownsRow 0 111 6 (.slice c a d) L.length (Ci L)/\∀q∈L,pC 0 b q)\/(ok=false/\Js l=none))
theorem Pq(hP:S0)(s:Tb)(w:Tw)(hs:s.size<=1000000)(he:Ik w):Zc 153 #[Zt s] w (dM s.1.toList w):=by
 obtain⟨l,hl⟩:∃l,s.1.toList=l:=⟨_,rfl⟩;have cf:l.length<=1000000:=by rw[<-hl,Gm];exact hs
 rw[hl];have aj:=Aa (λW=>L5 s 10 W (by unfold maxLen;omega));rw[hl] at aj;have bn:=P1 10 l;have bb:=Ve 10 l
 have ap:Hid (∀W,Zc 197 #[Zt (bA (Ao 10 l).1),Zt ⟨#[32]⟩] W λe w'=>e=Zr (Zu #[Zt (bA (Ao 32 (Ao 10 l).1).1),Zt (bA (Aw (Ao 10 l).1)),Zo (Ao 32 (Ao 10 l).1).2.2])/\Below W.1.size W w'):=Aa (λW=>by have:=L5 (bA (Ao 10 l).1) 32 W (by unfold maxLen;omega);rw[B5] at this;exact this)
 have b3:=Gi (Ao 10 l).1
 have aq:Hid (∀W,Zc 197 #[Zt (bA (Aw (Ao 10 l).1)),Zt ⟨#[32]⟩] W λe w'=>e=Zr (Zu #[Zt (bA (Ao 32 (Aw (Ao 10 l).1)).1),Zt (bA (Ao 32 (Aw (Ao 10 l).1)).2.1),Zo (Ao 32 (Aw (Ao 10 l).1)).2.2])/\Below W.1.size W w'):=Aa (λW=>by have:=L5 (bA (Aw (Ao 10 l).1)) 32 W (by rw[Cz] at bn ⊢;unfold maxLen;omega);rw[B5] at this;exact this)
 have am:Hid (Js l=(Cp (Dp (Ao 10 l).2.1)).map λx=>(bA (Ao 32 (Aw (Ao 10 l).1)).1,decide ((Ao 32 (Aw (Ao 10 l).1)).2.1=gX),x)):=Aa rfl;have ax:=Aa (Ky (Ao 32 (Aw (Ao 10 l).1)).2.1);rw[Cz] at bb
 have av:Hid (∀(a:List UInt8)W,a.length<=1000000->Below w.1.size w W->Zc 199 #[Zt (bA a)] W (AA3 a W)):=Aa (λa W ha hW=>by have:=eE hP (bA a) W (by rw[Cz];exact ha) (he.below hW);rw[B5] at this;exact this)
 clear he hl hs hP bn b3;generalize Ao 32 (Aw (Ao 10 l).1)=c3 at *;generalize (Ao 32 (Ao 10 l).1).1=bv at *;generalize (Ao 32 (Ao 10 l).1).2.2=z2 at *;generalize bA (Aw (Ao 10 l).1)=r2 at *;generalize Ao 10 l=c1 at *;obtain⟨hd,t0,z1⟩:=c1;obtain⟨b7,ao,z3⟩:=c3;simp only at aj ap aq am ax bb;generalize bA hd=xh at *;generalize bA bv=cg at *;have b5:t0.length<=1000000:=by omega
 generalize bm:bA t0=rs at *;have aw:=Aa bm;generalize bA b7=tx at *;have bl:((bA ao).toList==[114,101,97,100,115])=decide (ao=gX):=by rw[ax.o];exact ABi _ _
 have ar:=Aa bl;generalize bA ao=xw at *;generalize decide (ao=gX)=rd at *;clear bl ax bm bb;obtain⟨z0,bp,bq,br⟩:=ALM w (Zk #[Zt ⟨#[]⟩,Zo false,Zs none 0 0] 53) (Zk #[Zo false] 4);have Z0:=Aa z0;have Z1:=Aa bp;have Z2:=Aa bq;have Z3:=Aa br;clear z0 bp bq br;refine(callsIn_wide (n:=5)).1 ?_;refine callsIn_of_wp_marks func153 rfl trivial ?_ rfl;simp only[ntmps153,XN,XD,XL,Nat.reduceAdd,Nat.reduceSub,XS,XT,XY,XV,X4,XJ]
 gi_wp2_with (first
  | (refine⟨trivial,?_⟩;gi_at_call_has 197 (Zt s);refine(callsIn_wide.2 (aj.o _)).mono ?_;rintro e w2⟨rfl,ay⟩)
  | (refine⟨trivial,?_⟩;gi_at_call_has 197 (Zt xh);refine(callsIn_wide.2 (ap.o _)).mono ?_;rintro e w3⟨rfl,az⟩)
  | (refine⟨trivial,?_⟩;gi_at_call_has 197 (Zt r2);refine(callsIn_wide.2 (aq.o _)).mono ?_;rintro e g⟨rfl,a0⟩)
  | (refine⟨trivial,?_⟩;gi_at_call 198;refine(callsIn_wide.2 (ADX _ _)).mono ?_;rintro e w5⟨rfl,rfl⟩))
 rename_i K0 hK0;simp only[ar.o];have ah:Below w.1.size w g:=Below.Ap (Below.Ap (Below.Ap Z3.o ay) az) a0;have ae:=Below.Ap (Below.Ap ay az) a0;have cd:w.1.size+2<=g.1.size:=by have:=ae.size;rw[Z0.o] at this;exact this
 have ai:g.1[w.1.size]? = some (Zk #[Zt ⟨#[]⟩,Zo false,Zs none 0 0] 53 (0,0)):=(ae.block _ (by rw[Z0.o];omega)).trans Z1.o;have a6:g.1[w.1.size+1]? = some (Zk #[Zo false] 4 (0,0)):=(ae.block _ (by rw[Z0.o];omega)).trans Z2.o;clear ae ay az a0 Z0 Z1 Z2 Z3 aj ap aq;obtain⟨y0,y1,y2,y3⟩:=ALM g (Zk #[Zt tx,Zo rd,Zs none 0 0] 53) (Zk #[Zt rs] 9);refine dL 14 (by decide) rfl (λ_ _=>rfl) (AAH 4 (g.1.size+1) (by decide) t0 b5) (λv X r o o' h ho hc=>iN.kept h ho hc) (λb args b'⟨_,_,_,h,_⟩=>by rw[h];rfl) (by simp) (by simp) (λpre W=>∃L V ac,RdI w g.1.size (g.1.size+2) tx rd pre W L V ac) (λc W=>c=.ret/\RdX w t0 W) ?ab ?abx ?h0 ?hT ?hassign ?hbody ?hdone ?hstop
 case ab=>rintro pre X Y row⟨L,V,ac,hI⟩hg hr;exact⟨L,V,ac,hI.free (Nat.lt_succ_self _) (by omega) (by omega) hg (λr e=>(hr r e).imp id (λh=>⟨by have:=h.1;rw[y0] at this;omega,h.2⟩))⟩
 case abx=>rintro c b X Y row⟨hc,hX⟩hg hr;exact⟨hc,hX.free (by omega) hg (λr e=>(hr r e).imp id (λh=>⟨by have:=h.1;rw[y0] at this;omega,h.2⟩))⟩
 case h0=>refine⟨[],none,0,y1,rfl,?_,(λq hq=>by cases hq),(y3.block _ (by omega)).trans ai,(y3.block _ (by omega)).trans a6,Below.Ap ah y3⟩;exact⟨rfl,.inl ⟨rfl,rfl⟩⟩
 case hT=>intro r;unfold iN;rw[XE _ _ _ (by simp),XE _ _ _ (by simp),y2,<-aw.o]
 case hassign=>intro l v W K hK;gi_wp2;exact hK
 case hbody=>
  rintro l pre v ce W t hl⟨a,bo,t',hv,bj,a8,b4,rfl⟩⟨L,V,ac,hI⟩hk;cases hv;clear ai a6 y1 y2 y3 ah
  have HT:Hid (∀W,Zc 200 #[Zt (bA bo),Zt ⟨#[10]⟩] W λe w'=>e=Zr (Zt (bA a))/\w'=W):=Aa (λW=>by have:=Any.strings_TrimSuffix lays102 (bA bo) ⟨#[10]⟩ W (by rw[Cz];omega);rw[B5] at this;apply this.mono;rintro e w'⟨rfl,rfl⟩;refine⟨?_,rfl⟩;rw[<-a8];rfl)
  have b2:a.length<=1000000:=by rw[<-a8];exact XC (AHN _ _) b4
  have HR:=Aa (av.o a W b2 hI.low);have d:=Aa hI;have HK:=Aa hk;have HL:=Aa bj;clear hI hk bj a8 av am ar aw;cases hra:Co a with
  | none=>
    have au:Hid (Zc 199 #[Zt (bA a)] W λe w'=>∃(k:Int)(p:Tb)(r:Int)(N:To)(P O:Nat)(G:To)(J I:Nat)(T:Int),e=Zr (Zu #[Zg #[Zi k,Zt p,Zi r,Zs N P O,Zs G J I,Zi T],Zo false])/\Below W.1.size W w'):=Aa (HR.o.mono (by
     rintro e w'⟨k,p,r,N,P,O,G,J,I,T,ok,rfl,hb,⟨_,M,C,h,_⟩|⟨rfl,_⟩⟩
     ·rw[hra] at h;cases h
     exact⟨k,p,r,N,P,O,G,J,I,T,rfl,hb⟩))
    have HN:Hid (Cp (Dp t0)=none):=Aa (by rw[HL.o];exact Sz hra);clear HR hra HL
    gi_wp2_with (first
     | (refine⟨trivial,?_⟩;gi_at_call 200;refine(callsIn_wide.2 (HT.o _)).mono ?_;rintro e w6⟨rfl,rfl⟩)
     | (refine⟨trivial,?_⟩;gi_at_call 199;refine(callsIn_wide.2 au.o).mono ?_;rintro e w7⟨k,p,r,N,P,O,G,J,I,T,rfl,R⟩
        have ag:Hid (Below w6.1.size w6 (w7.alloc (Zk #[Zi k,Zt p,Zi r,Zs N P O,Zs G J I,Zi T] 111))):=Aa (R.alloc R.size _);have an:=Aa ((ag.o.block _ (Ac d.o.res)).trans d.o.res);have bc:=Aa ((ag.o.block _ (Ac d.o.ok)).trans d.o.ok);obtain⟨x0,x1,x2,xf⟩:=Db an.o;have xb:=I2 bc.o;clear R))
    rw[y0];refine⟨G6 (G6 (G6 (G6 (Ie ag.o) (by omega)) (by omega)) (by omega)) (by omega),rfl,HN.o,?_,?_,?_⟩
    ·exact Cg (pF _ _ _ _ _ _ _ _ _ an.o) (by omega)
    ·exact As _ _ 0 _ _ _ (Cg (Cg (Cg bc.o (by omega)) (by omega)) (by omega))
    exact(Fi (Below.Ap d.o.low ag.o) (Y' _) _ _ _).setCell (p:=Zd (w.1.size+1) 0) (WA _) _
  | some x=>
    obtain⟨k,p,r,M,C,T⟩:=x
    have au:Hid (Zc 199 #[Zt (bA a)] W λe w'=>∃(N:To)(P O:Nat)(G:To)(J I:Nat),e=Zr (Zu #[Zg #[Zi k,Zt p,Zi r,Zs N P O,Zs G J I,Zi T],Zo true])/\Below W.1.size W w'/\w'.ownsRow W.1.size 3 1 (Zs N P O) M.length (M.map (.int .i64))/\w'.ownsRow W.1.size 69 7 (Zs G J I) C.length (Av C)):=Aa (HR.o.mono (by
     rintro e w'⟨k,p,r,N,P,O,G,J,I,T,ok,rfl,hb,⟨rfl,M,C,h,h1,h2⟩|⟨_,h⟩⟩
     ·rw[hra] at h;cases h;exact⟨N,P,O,G,J,I,rfl,hb,h1,h2⟩
     rw[hra] at h;cases h))
    have HN:=Aa (Uy d.o.Bz hra)
    have hlen:L.length<=1000000:=by have h1:=Xa d.o.Bz;have h2:=eX _ t0 (Y' _);rw[HL.o] at h2;simp only[XW,XH,XD] at h1 h2;omega
    obtain⟨iA,bi,a2⟩:=Option.map_eq_some_iff.1 gO;simp only[Prod.mk.injEq] at a2;have al:=Aa (And.intro bi a2);clear HR hra HL bi a2
    gi_wp2_with (first
     | (refine⟨trivial,?_⟩;gi_at_call 200;refine(callsIn_wide.2 (HT.o _)).mono ?_;rintro e w6⟨rfl,rfl⟩)
     | (refine⟨trivial,?_⟩;gi_at_call 199;refine(callsIn_wide.2 au.o).mono ?_;rintro e w7⟨N,P,O,G,J,I,rfl,R,bk,bh⟩
        have bt:=Aa bk;have bs:=Aa bh;have f:=Aa R;have ag:Hid (Below w6.1.size w6 (w7.alloc (Zk #[Zi k,Zt p,Zi r,Zs N P O,Zs G J I,Zi T] 111))):=Aa (R.alloc R.size _);have an:=Aa ((ag.o.block _ (Ac d.o.box)).trans d.o.box);obtain⟨x0,x1,x2,xf⟩:=Db an.o;have y:Hid (Below w7.1.size w7 ((w7.alloc (Zk #[Zi k,Zt p,Zi r,Zs N P O,Zs G J I,Zi T] 111)).alloc (Zk #[Zi k,Zt p,Zi r,Zs N P O,Zs G J I,Zi T] 111))):=Aa ((Zal).alloc (by rw[XZ];exact WA _) _);have m:=Aa (Bc (Bc d.o.row f.o) y.o);have U:Hid (g.1.size+2<=w6.1.size):=Aa (Ac HK.o);clear R bk bh)
     | (gi_at_builtin;refine wpListIn_append_own _ rfl _ _ 51 rfl (g.1.size+2) 111 iA Mi 6 88 underlying51 al.o.1 al.o.2.1 al.o.2.2.1 al.o.2.2.2 rfl (by decide) (.slice V L.length ac) L.length (Ci L) rfl m.o (Zd (w7.1.size+1) 0) 1 1 (nU ((k,p,r,M,C,T),(N,P,O),(G,J,I))) rfl rfl (λj u hj=>WG (by rw[<-XZ w7 (.cells #[Zi k,.string p,Zi r,.slice N P O,.slice G J I,Zi T] 111)];exact Yac _ _) j u hj) (by intro u hu;simp[nU] at hu;rcases hu with rfl|rfl|rfl|rfl|rfl|rfl <;> rfl) (by unfold maxLen;omega) (by omega) (XC U.o (XC f.o.size y.o.size)) ?_
        intro v1 w9 ad a1 _;obtain⟨a',c',rfl⟩:=AAN ad;have bu:=Aa ad;have ak:=Aa a1;have bd:=Aa ((a1.block g.1.size (Ya (Ac d.o.box) (XC f.o.size y.o.size)) (λe=>by have:=Fu m.o e.symm;omega)).trans ((y.o.block _ (Ya (Ac d.o.box) f.o.size)).trans ((f.o.block _ (Ac d.o.box)).trans d.o.box)));obtain⟨b8,b9,cb,yf⟩:=Db bd.o;clear ad a1))
    clear b8 b9 cb yf x0 x1 x2 xf
    have a9:∀{b:Nat}{cs:Array Tv}{t:TypeId},w6.1[b]? = some (Zk cs t (0,0))->b<g.1.size+2->b≠g.1.size->(w9.setCell (Zd g.1.size 2) (Zs a' (L.length+1) c')).1[b]? = some (Zk cs t (0,0)):=λh hb a4=>Cg ((ak.o.block _ (Ya (Ac h) (XC f.o.size y.o.size)) (λe=>by have:=Fu m.o e.symm;omega)).trans ((y.o.block _ (Ya (Ac h) f.o.size)).trans ((f.o.block _ (Ac h)).trans h))) a4
    have af:∀{t:TypeId}{z:Nat}{v:Tv}{n:Nat}{xs:List Tv},w7.ownsRow (g.1.size+2) t z v n xs->t≠111->(w9.setCell (Zd g.1.size 2) (Zs a' (L.length+1) c')).ownsRow (g.1.size+2) t z v n xs:=λh a4=>Iq (j8 (Bc h y.o) m.o a4 ak.o) (by omega)
    rw[y0];refine⟨G6 (j4 (Ie (Below.Ap f.o y.o)) m.o ak.o) (by omega),⟨L++[((k,p,r,M,C,T),(N,P,O),(G,J,I))],a',c',?_,?_,?_,?_,?_,?_,?_⟩,?_⟩
    ·rw[XH]
     exact As w9 g.1.size 2 _ _ _ bd.o
    ·rw[HN.o,WC];rfl
    ·rw[XH]
     have:=Iq (b:=g.1.size) (i:=2) (u:=Zs a' (L.length+1) c') bu.o (by omega);have e:Ci (L++[((k,p,r,M,C,T),(N,P,O),(G,J,I))])=Ci L++nU ((k,p,r,M,C,T),(N,P,O),(G,J,I)):=by simp[Ci]
     rw[e];exact this
    ·intro q hq
     rcases List.mem_append.1 hq with hq|hq
     ·exact⟨af (Bc (d.o.own q hq).1 f.o) (by decide),af (Bc (d.o.own q hq).2 f.o) (by decide)⟩
     obtain rfl:=List.mem_singleton.1 hq;exact⟨af (G1 bt.o U.o) (by decide),af (G1 bs.o U.o) (by decide)⟩
    ·exact a9 d.o.res (by omega) (by omega)
    ·exact a9 d.o.ok (by omega) (by omega)
    ·have h1:=Below.Ap d.o.low (Below.Ap f.o y.o)
     exact(h1.grown ak.o h1.size (λj hj=>by have:=Fu m.o hj;omega)).setCell (p:=Zd g.1.size 2) (by show w.1.size<=g.1.size;omega) _
    exact a9 HK.o (by omega) (by omega)
 case hdone=>
  rintro D pre W hD rfl⟨L,V,ac,hI⟩hd;rw[y0] at hD;clear y0 y1 y2 y3 ai a6 av aw ar ah;refine hK0 _ _ ?_;clear hK0;obtain⟨x0,x1,x2,xf⟩:=Db hI.box;obtain⟨r0,r1,b6,rf⟩:=Db hI.res;obtain⟨o0,of⟩:=I2 hI.ok;have d:=Aa hI;have HD:=Aa hd;clear hI hd;gi_wp2;clear x0 x1 x2 xf r0 r1 b6 rf o0 of;have bw:=pF W w.1.size _ _ _ (Zt tx) (Zo rd) (Zs V L.length ac) _ d.o.res;have bx:(aL W w.1.size (Zt tx) (Zo rd) (Zs V L.length ac)).1[w.1.size+1]? = _:=Cg (Cg (Cg d.o.ok (by omega)) (by omega)) (by omega);have bz:=Cg (q:=w.1.size+1) (i:=0) (v:=Zo true) bw (by omega);have b0:=As _ (w.1.size+1) 0 _ _ (Zo true) bx;have bf:((aL W w.1.size (Zt tx) (Zo rd) (Zs V L.length ac)).setCell (Zd (w.1.size+1) 0) (Zo true)).1[D]? = _:=Cg (Cg (Cg (Cg HD.o (by omega)) (by omega)) (by omega)) (by omega);have bg:Below w.1.size w ((aL W w.1.size (Zt tx) (Zo rd) (Zs V L.length ac)).setCell (Zd (w.1.size+1) 0) (Zo true)):=(Fi d.o.low (Y' _) _ _ _).setCell (p:=Zd (w.1.size+1) 0) (WA _) _;have b1:∀{t:TypeId}{z:Nat}{v:Tv}{n:Nat}{xs:List Tv},W.ownsRow (g.1.size+2) t z v n xs->((aL W w.1.size (Zt tx) (Zo rd) (Zs V L.length ac)).setCell (Zd (w.1.size+1) 0) (Zo true)).ownsRow (g.1.size+2) t z v n xs:=λh=>Iq (Iq (Iq (Iq h (by omega)) (by omega)) (by omega)) (by omega)
  change LeavesInM _ _ _ _ _ _ _ _ ((aL W w.1.size (Zt tx) (Zo rd) (Zs V L.length ac)).setCell (Zd (w.1.size+1) 0) (Zo true))
  generalize (aL W w.1.size (Zt tx) (Zo rd) (Zs V L.length ac)).setCell (Zd (w.1.size+1) 0) (Zo true)=X at *;refine⟨by simp,.inl ⟨_,_,rfl,run_takeDeferred bf,?_⟩⟩;have a7:(X.putObj D (.deferred none)).1[w.1.size]? = _:=(XB (by omega)).trans bz;have a5:(X.putObj D (.deferred none)).1[w.1.size+1]? = _:=(XB (by omega)).trans b0;have a3:Below w.1.size w (X.putObj D (.deferred none)):=bg.grown (grownBy_putObj' X D _) bg.size (λj hj=>by injection hj with hj;omega);have ba:∀{t:TypeId}{z:Nat}{v:Tv}{n:Nat}{xs:List Tv},W.ownsRow (g.1.size+2) t z v n xs->(X.putObj D (.deferred none)).ownsRow 0 t z v n xs:=λh=>G1 (Le (B:=w.1.size) (b1 h) (by omega) (grownBy_putObj' X D _) (λr e=>by injection e with e;subst e;exact .inr ⟨_,bf,rfl⟩)) (XK _)
  generalize X.putObj D (.deferred none)=W9 at *;obtain⟨x0,x1,x2,_⟩:=Db a7;obtain⟨xb,_⟩:=I2 a5;refine⟨Zu #[Zg #[Zt tx,Zo rd,Zs V L.length ac],Zo true],?_,tx,rd,V,L.length,ac,true,rfl,a3,.inl ⟨rfl,L,by rw[am.o,d.o.Bz];rfl,rfl,ba d.o.row,λq hq=>⟨ba (d.o.own q hq).1,ba (d.o.own q hq).2⟩⟩⟩;simp[results,f153,go_sem,x0,x1,x2,xb]
 case hstop=>rintro D c W hD⟨rfl,hX⟩hd;gi_wp2;rw[y0] at hD;refine⟨by simp,.inl ⟨_,_,rfl,run_takeDeferred hd,?_⟩⟩;have a7:(W.putObj D (.deferred none)).1[w.1.size]? = _:=(XB (by omega)).trans hX.res;have a5:(W.putObj D (.deferred none)).1[w.1.size+1]? = _:=(XB (by omega)).trans hX.ok;have a3:Below w.1.size w (W.putObj D (.deferred none)):=hX.low.grown (grownBy_putObj' W D _) hX.low.size (λj hj=>by injection hj with hj;omega);generalize W.putObj D (.deferred none)=W9 at *;obtain⟨x0,x1,x2,_⟩:=Db a7;obtain⟨xb,_⟩:=I2 a5;refine⟨Zu #[Zg #[Zt ⟨#[]⟩,Zo false,Zs none 0 0],Zo false],?_,⟨#[]⟩,false,none,0,0,false,rfl,a3,.inr ⟨rfl,by rw[am.o,hX.bad];rfl⟩⟩;clear hK0;simp[results,f153,go_sem,x0,x1,x2,xb]
attribute [local go_sem] Oper.semAt_some
theorem AB5(s sep:Tb)(w:Tw):
 Zc 337 #[Zt s,Zt sep,Zi 0] w λe a=>e=Zr (.func (.func 346) #[] #[Zp (some (Zd (w.1.size+1) 0)),Zp (some (Zd w.1.size 0)),Zp (some (Zd (w.1.size+2) 0))])/\a=((w.alloc (Zk #[Zt s] 9)).alloc (Zk #[Zt sep] 9)).alloc (Zk #[Zi 0] 3):=by
 go_enter func337,ntmps337;go_wp2;go_ret;exact⟨rfl,rfl⟩
theorem ACE(s sep:Tb)(w:Tw):
 Zc 319 #[Zt s,Zt sep] w λe a=>e=Zr (.func (.func 346) #[] #[Zp (some (Zd (w.1.size+1) 0)),Zp (some (Zd w.1.size 0)),Zp (some (Zd (w.1.size+2) 0))])/\a=((w.alloc (Zk #[Zt s] 9)).alloc (Zk #[Zt sep] 9)).alloc (Zk #[Zi 0] 3):=by
 go_enter func319,ntmps319;go_wp2_with (go_at_call 337;refine(AB5 _ _ _).mono ?_;rintro e b⟨rfl,rfl⟩);go_ret;exact⟨rfl,rfl⟩
structure pI(B:Nat)(r:List UInt8)(w:World):Prop where
 Gw:iN B r w
 sep:iN (B+1) [44] w
 save:w.1[B+2]? = some (.cells #[Zi 0] 3 (0,0))
theorem pI.put{B:Nat}{r:List UInt8}{w:Tw}(h:pI B r w)(q:List UInt8):pI B q (w.setCell (Zd B 0) (Zt (bA q))) :=
 ⟨h.Gw.put q,Cg h.sep (by omega),Cg h.save (by omega)⟩
theorem ABy(n:Nat)(_hn:1<=n)(l B:Nat)(h:List UInt8)(hlen:h.length<=1000000)(I:List (List UInt8)->Tw->Prop)(O:Tw->Prop)(G:∀pre W v,I pre W->I pre (W.setCell (Zd B 0) v))(V:∀pre a W v,(∃t,Dd 44 h=pre++a :: t)->a.length<=1000000->I pre W->pI B v W->YieldAt Fence.wide (n-1) prog l #[Zt (bA a)] W λe p=>
   (e=Zr (Zo true)/\I (pre++[a]) p/\pI B v p)\/(e=Zr (Zo false)/\O p))(W:Tw)(U:pI B h W)(h0:I [] W):
 CallsIn Fence.wide n prog 346 #[.func (.yield l) #[] #[],Zp (some (Zd (B+1) 0)),Zp (some (Zd B 0)),Zp (some (Zd (B+2) 0))] W λe p=>(∃v,e=Zr v)/\(I (Dd 44 h) p\/O p):=by
 refine callsIn_of_wp func346 rfl trivial ?_ rfl;simp only[ntmps346,XN,XD,XL,Nat.reduceAdd,Nat.reduceSub,XS,XT,XY,XV,X4,XJ];have L:W.cell? (Zd (B+1) 0)=some (Zt ⟨#[44]⟩):=U.sep.cell;gi_wp2;clear L
 gi_loopw [7,8] (λ_ _ wr=>∃(pre:List (List UInt8))(r:List UInt8),Hid (Dd 44 h=pre++Dd 44 r)/\r.length<=1000000/\Hid (I pre wr)/\Hid (pI B r wr)) (λ_ _ wr=>mV B wr)
 case atStart=>exact⟨[],h,Aa rfl,hlen,Aa h0,Aa U⟩
 case round=>
  obtain⟨pre,r,x,hr,N,o⟩:=hrel;have hc:=o.o.Gw.cell;have hf:=o.o.Gw.frozen;have aa:wr.cell? (Zd (B+1) 0)=some (Zt ⟨#[44]⟩):=o.o.sep.cell;have ab:=(I2 o.o.save).1;have M:(bA r).size=r.length:=Cz;have J:=Mt hc;have f:=Aa (λW=>Any.strings_Index_one lays143 (bA r) 44 W);rw[B5] at f
  rcases O3 r 44 with k|⟨i,k⟩
  ·have b:=Np k
   rw[k] at f;have c:Dd 44 r=[r]:=by rw[Dd,dif_neg (by rw[b];simp)]
   obtain⟨Y,tmps,assign,body,X,u⟩:=V pre r wr r ⟨[],by rw[x.o,c]⟩ hr N.o o.o;have D:=Aa u;have j:Hid (Dd 44 h=pre++[r]):=Aa (by rw[x.o,c]);clear k b c u;gi_wp2_with (refine⟨trivial,?_⟩;gi_at_call 348;refine(callsIn_wide.2 (f.o _)).mono ?_;rintro e w1⟨rfl,rfl⟩);apply D.o.mono;rintro e P (⟨rfl,g,d⟩|⟨rfl,m⟩)
   ·gi_wp2
    go_end0
    refine⟨⟨_,rfl⟩,.inl ?_⟩;rw[j.o];exact g
   gi_wp2
   go_end0
   exact⟨⟨_,rfl⟩,.inr m⟩
  obtain⟨b,w⟩:=J0 k;rw[k] at f;have R:bA (r.take i)=(bA r).extract 0 i:=by rw[extract_eq,B5];simp[bA]
  have T:bA (r.drop (i+1))=(bA r).extract (i+1) (bA r).size:=by rw[extract_eq,B5,Yf (by rw[X2,Cz];exact Y' _)];rfl
  have c:Dd 44 r=r.take i :: Dd 44 (r.drop (i+1)):=by rw[Dd,dif_pos (by rw[b]),b]
  obtain⟨Y,tmps,assign,body,X,u⟩:=V pre (r.take i) wr r ⟨_,by rw[x.o,c]⟩ (by rw[WL];omega) N.o o.o;rw[R] at X;have D:=Aa u;have j:Hid (Dd 44 h=(pre++[r.take i])++Dd 44 (r.drop (i+1))):=Aa (by rw[x.o,c];simp);have q:=Aa T;have z:=Aa w;have c1:(0:Int)<=(i:Int):=by omega
  have c0:(i:Int)<=1000000:=by omega
  have c3:(0:Int)<=(i:Int)+1:=by omega
  have c4:(i:Int)+1<=((bA r).size:Int):=by omega
  have c5:(i:Int)<=((bA r).size:Int):=by omega
  clear k b c u R T w M;gi_wp2_with (refine⟨trivial,?_⟩;gi_at_call 348;refine(callsIn_wide.2 (f.o _)).mono ?_;rintro e w1⟨rfl,rfl⟩);apply D.o.mono;rintro e P (⟨rfl,g,d⟩|⟨rfl,m⟩)
  ·have y:=Aa g
   have s:=Aa d;have d1:=d.Gw.cell;have d2:P.cell? (Zd (B+1) 0)=some (Zt ⟨#[44]⟩):=d.sep.cell;have d3:=d.Gw.frozen;clear g d;gi_wp2
   go_roundw
   case rel=>
    refine⟨pre++[r.take i],r.drop (i+1),j,by rw[X2];omega,Aa ?_,Aa ?_⟩
    ·exact G _ _ _ y.o
    rw[<-q.o];exact s.o.put _
   case measure=>rw[<-q.o,Mt (s.o.put _).Gw.cell,J,X2];have:=z.o;omega
  gi_wp2;refine bodyPost_ret (results_none rfl _ _ _) rfl ?_;exact⟨⟨_,rfl⟩,.inr m⟩
theorem pI.kept{B:Nat}{r:List UInt8}{X:Tw}{q:Nat}{o c:Obj}(h:pI B r X)(a:X.1[q]? = some o)(b:o.isCells=false):pI B r (X.putObj q c):=by refine⟨h.Gw.kept a b,h.sep.kept a b,(XB (λe=>?_)).trans h.save⟩;subst e;rw[h.save] at a;cases a;cases b
theorem yO(m B:Nat)(o:1<=m)(c:List UInt8)(hlen:c.length<=1000000):
 aX m 346 #[Zp (some (Zd (B+1) 0)),Zp (some (Zd B 0)),Zp (some (Zd (B+2) 0))] B (λ(pre:List (List UInt8))args b=>∃a t,args=#[Zt (bA a)]/\Dd 44 c=pre++a :: t/\a.length<=1000000/\b=pre++[a]) [] (λpre=>pre=Dd 44 c) (pI B) (pI B c):=by
 intro l J f W i j n k g;refine(ABy m o l B c hlen J f (λpre W v h=>i.set h v) (λpre a W1 v ht hl hj d=>by obtain⟨t,ht⟩:=ht;exact n pre _ (pre++[a]) W1 v ⟨a,t,rfl,ht,hl,rfl⟩ hj d) W k g).mono ?_;rintro e p⟨d,h|h⟩
 ·exact⟨d,.inl ⟨_,rfl,h⟩⟩
 exact⟨d,.inr h⟩
def dN{β γ:Type}(m gf:Nat)(lb:Array Value)(B:Nat)(R:β->Array Value->β->Prop)(i:β)(E:β->Prop)(d:γ->World->Prop)(h:World->Prop):Prop :=
 ∀(l:Nat)(J:β->World->Prop)(c:World->Prop)(W:World),iM B W.1.size J->iM B W.1.size (λ(_:Unit)=>c) ->
  (∀b args g f v,R b args g->J b f->d v f->YieldAt Fence.wide (m-1) prog l args f λe a=>(e=.returned (.bool true)/\J g a/\d v a)\/(e=.returned (.bool false)/\c a/\d v a)) ->
  h W->J i W->CallsIn Fence.wide m prog gf (#[.func (.yield l) #[] #[]]++lb) W λe a=>(∃v,e=.returned v)/\((∃b,E b/\J b a)\/c a)
def uD{β γ:Type}(w0:Nat)(a:γ->World->Prop)(v:γ)(I:β->World->Prop)(b:Code->World->Prop)(c:β)(W:World):Exit->Act->World->Prop
 | .normal,_,W'=>KeepsFrom w0 W W'/\I c W'/\a v W'
 | .ret,_,W'=>KeepsFrom w0 W W'/\b .ret W'/\a v W'
 | _,_,_=>False
theorem zQ{β γ:Type}{g:Operand}{ps:Array Tmp}{assign body:Code}{Q:Exit->Act->Tw->Prop}{a:Act}{w:Tw}{n:Nat}(h1:1<=n){gf:Nat}{lb:Array Tv}(hg:a.eval g=.func (.func gf) #[] lb)(eg:∀args w,(callFunc gf args).run prog w=.ok (.enter gf args) w){B:Nat}{R:β->Array Tv->β->Prop}{b0:β}{E:β->Prop}{Kp:γ->Tw->Prop}{T0:Tw->Prop}(ag:dN (n-1) gf lb B R b0 E Kp T0)(N:∀v X o o',Kp v X->X.1[w.1.size+1]? = some o->o.isCells=false->Kp v (X.putObj (w.1.size+1) o'))(af:∀b args L,R b args L->args.size=ps.size)(ap:B≠w.1.size)(aq:B≠w.1.size+1)(I:β->Tw->Prop)(Ix:Code->Tw->Prop)(hI:iM B w.1.size I)(M:∀c,iM B w.1.size (λ(_:Unit)=>Ix c))(h0:I b0 w)(hT:∀r,T0 ((w.alloc (.deferred (some []))).alloc (.loop r)))(a1:Array Tv->Act)(z:∀(l:Nat)(args:Array Tv)(W:Tw)(K:Act->Tw->Prop),args.size=ps.size->K (a1 args) W ->
   assign.wpIn (Fence.wide.inRound l) (n-1-1) prog (Exit.then K (λ_ _ _=>False)) { tmps:=(ps.zip args).foldl (λt(p,v)=>t.setIfInBounds p v) a.tmps,defers:=[] } W)(O:∀(l:Nat)(b:β)(args:Array Tv)(L:β)(W:Tw)(v:γ),w.1.size<=l->R b args L->I b W->Kp v W->body.wpIn (Fence.wide.inRound l) (n-1-1) prog (uD w.1.size Kp v I Ix L W) (a1 args) W)(T:∀(D:Nat)(b:β)(W:Tw),w.1.size<=D->E b->I b W->W.1[D]? = some (.deferred (some []))->Q .normal { a with defers:={ target:=.collected D,args:=#[] } :: a.defers } W)(ab:∀(D:Nat)(c:Code)(W:Tw),w.1.size<=D->Ix c W->W.1[D]? = some (.deferred (some []))->c.wpIn Fence.wide n prog Q { a with defers:={ target:=.collected D,args:=#[] } :: a.defers } W):
 (Code.rangeFunc g ps assign body).wpIn Fence.wide n prog Q a w:=by
 refine wpIn_rangeFunc λfn al=>?_
 obtain⟨d,f⟩:∃d:LoopState->Option Code->Loop,d=λst pe=>{ state:=st,pending:=pe,fn,tmps:=a.tmps,params:=ps,assign,body,defers:=w.1.size }:=⟨_,rfl⟩
 obtain⟨u,x⟩:∃u,(w.alloc (.deferred (some []))).alloc (.loop (d .ready none))=u:=⟨_,rfl⟩;have ar:u.1.size=w.1.size+2:=by rw[<-x];simp
 have aj:u.1[w.1.size+1]? = some (.loop (d .ready none)):=by rw[<-x];have:=XR (w.alloc (.deferred (some []))) (.loop (d .ready none));rwa[XZ] at this
 have ai:u.1[w.1.size]? = some (.deferred (some [])):=by rw[<-x];exact(XE _ _ _ (by simp)).trans (XR w _)
 have ah:I b0 u:=by rw[<-x];exact hI.alloc (hI.alloc h0 _) _
 have ak:T0 u:=by rw[<-x];exact hT _
 have m:∀{X Y:Tw}{row:Option Nat}(k:Nat)(o:Obj),k<w.1.size+2->w.1.size<=k->X.1[k]? = some o->X.grownBy Y row->(∀r,row=some r->r=B\/(u.1.size<=r/\∃o:Obj,X.1[r]? = some o/\o.isCells=false))->Y.1[k]? = some o:=by
  intro X Y row k o hk ae ho j s;refine(j.block k (Ac ho) (λe=>?_)).trans ho
  rcases s k e.symm with h|⟨h,_⟩
  ·omega
  omega
 have lift:∀{X:Tw}{row:Option Nat},(∀r,row=some r->r=B\/(u.1.size<=r/\∃o:Obj,X.1[r]? = some o/\o.isCells=false))->∀r,row=some r->r=B\/(w.1.size<=r/\∃o:Obj,X.1[r]? = some o/\o.isCells=false) :=
  λs r e=>(s r e).imp id (λ⟨q,o⟩=>⟨by omega,o⟩)
 refine⟨w.1.size+1,[{ target:=.collected w.1.size,args:=#[] }],u,{ target:=.fn (.func gf) lb,args:=#[.func (.yield (w.1.size+1)) #[] #[]] },u,gf,
  #[.func (.yield (w.1.size+1)) #[] #[]]++lb,u,?_,?_,λ_ _=>trivial,?_,λ_=>h1,?_⟩
 ·rw[<-x,f];exact run_enterLoop_outer _ _ _ _ _
 ·simp only[resolve,hg]
  simp[go_sem]
 ·simp[invoke,go_sem,eg]
 refine(ag (w.1.size+1)
  (λb W=>I b W/\W.1[w.1.size+1]? = some (.loop (d .ready none))/\W.1[w.1.size]? = some (.deferred (some [])))
  (λW=>∃c,Ix c W/\W.1[w.1.size+1]? = some (.loop (d .done (some c)))/\W.1[w.1.size]? = some (.deferred (some []))) u
  (λb X Y row hs j s=>⟨hI b X Y row hs.1 j (lift s),m _ _ (by omega) (by omega) hs.2.1 j s,m _ _ (by omega) (by omega) hs.2.2 j s⟩)
  (λb X Y row hs j s=>by obtain⟨c,hc,q1,q2⟩:=hs;exact⟨c,M c () X Y row hc j (lift s),m _ _ (by omega) (by omega) q1 j s,m _ _ (by omega) (by omega) q2 j s⟩)
  ?_ ak ⟨ah,aj,ai⟩).mono ?_
 ·rintro b args L W v hR⟨hi,G,hk⟩hv
  have an:w.1.size+1<W.1.size:=Ac G;have hy:=run_yield (P:=prog) (args:=args) G (by rw[f];exact af b args L hR);rw[f] at hy;refine⟨fn,_,assign,body,hy,roundIn_of_wpIn al (z _ args W _ (af b args L hR) ⟨_,run_beginRound G (by rw[f]),?_⟩)⟩;have am:(W.putObj (w.1.size+1) (.loop { d .ready none with state:=.busy })).1[w.1.size+1]? = some (.loop { d .ready none with state:=.busy }):=XO an;have ae:(W.putObj (w.1.size+1) (.loop { d .ready none with state:=.busy })).1[w.1.size]? = some (.deferred (some [])):=(XB (by omega)).trans hk;have ao:Kp v (W.putObj (w.1.size+1) (.loop { d .ready none with state:=.busy })):=N _ _ _ _ hv G rfl;refine wpIn_mono (O _ b args L _ v (by omega) hR (hI.put hi G rfl (by omega) _) ao) ?_
  have ad:∀(jump:Option Code)(J:Tw),KeepsFrom w.1.size (W.putObj (w.1.size+1) (.loop { d .ready none with state:=.busy })) J ->
   (Instr.endRound (w.1.size+1) jump).run prog J=.ok (Zo jump.isNone) (J.putObj (w.1.size+1) (.loop (d (if jump.isNone then .ready else .done) jump))) /\
   J.1[w.1.size+1]? = some (.loop { d .ready none with state:=.busy }) /\
   (J.putObj (w.1.size+1) (.loop (d (if jump.isNone then .ready else .done) jump))).1[w.1.size+1]? = some (.loop (d (if jump.isNone then .ready else .done) jump)) /\
   (J.putObj (w.1.size+1) (.loop (d (if jump.isNone then .ready else .done) jump))).1[w.1.size]? = some (.deferred (some [])):=λjump J y=>by
   have i:=y.same _ _ (by omega) am rfl;have:=run_endRound (P:=prog) jump i;rw[f] at this ⊢;exact⟨this,by rw[f] at i;exact i,XO (Ac i),(XB (by omega)).trans (y.same _ _ (Y' _) ae rfl)⟩
  rintro e a3 J hp;cases e with
  | normal=>obtain⟨y,U,ac⟩:=hp;obtain⟨s,i,aa,V⟩:=ad none J y;exact⟨_,_,s,.inl ⟨rfl,⟨hI.put U i rfl (by omega) _,aa,V⟩,N _ _ _ _ ac i rfl⟩⟩
  | ret=>obtain⟨y,U,ac⟩:=hp;obtain⟨s,i,aa,V⟩:=ad (some .ret) J y;exact⟨_,_,s,.inr ⟨rfl,⟨.ret,(M .ret).put (b:=()) U i rfl (by omega) _,aa,V⟩,N _ _ _ _ ac i rfl⟩⟩
  | exit id=>exact hp.elim
  | goto t=>exact hp.elim
  | panic ch=>exact hp.elim
  | outgrown=>exact hp.elim
 rintro e W2⟨⟨v,rfl⟩,(⟨b,hE,hi,G,hk⟩|⟨c,hi,G,hk⟩)⟩
 ·exact⟨none,_,by have:=run_endLoop (P:=prog) G (by rw[f];simp);rw[f] at this;exact this,T _ b _ (Y' _) hE (hI.put hi G rfl (by omega) _) ((XB (by omega)).trans hk)⟩
 exact⟨some c,_,by have:=run_endLoop (P:=prog) G (by rw[f];simp);rw[f] at this;exact this,ab _ c _ (Y' _) ((M c).put (b:=()) hi G rfl (by omega) _) ((XB (by omega)).trans hk)⟩
theorem ACK{l l' n n':Nat}{f:FuncId}{tmps:Array Tv}{assign body:Code}{w:Tw}{R:Ending->Tw->Prop}(h:RoundIn Fence.wide n prog l f tmps assign body w R):RoundIn (Fence.wide.inRound l') n' prog l f tmps assign body w R :=
 ⟨h.1,λc cs _=>h.2 c cs (room_wide _)⟩
variable{W Y:Tw}
attribute [local go_sem] Oper.semAt_some
theorem rX(s:Tb)(w:Tw):
 Zc 283 #[Zt s] w λe a=>e=Zr (.func (.func 318) #[] #[Zp (some (Zd w.1.size 0))])/\a=w.alloc (Zk #[Zt s] 9):=by
 go_enter func283,ntmps283;go_wp2;go_ret;exact⟨rfl,rfl⟩
structure KpN(Y:Nat)(v:List UInt8×World)(W:World):Prop where
 sp:pI (Y+1) v.1 W
 keep:KeepsFrom (Y+4) v.2 W
 err:Ik W
 yb:W.1[Y]? = v.2.1[Y]?
def AK8(d:List UInt8)(pre:List (List UInt8))(args:Array Value)(b:List (List UInt8)):Prop:=∃a t n c,args=#[Zi n,c]/\Dd 44 d=pre++a :: t/\b=pre++[a]/\((numOf a=some n/\c=.nilIface)\/(numOf a=none/\∃t x,c=.iface t x))
theorem lN{B:Nat}{row:Option Nat}(h:Ik W)(j:B≠7)(d:B≠8)(m:W.grownBy Y row)(p:∀r,row=some r->r=B\/(∃o:Obj,W.1[r]? = some o/\o.isCells=false)):Ik Y:=by
 obtain⟨⟨t1,q,g⟩,t2,s,i⟩:=h
 have a:∀(b:Nat)(v:Tv),b≠B->W.cell? (Zd b 0)=some v->Y.cell? (Zd b 0)=some v:=λb v k c=>by
  have f:=Fv c
  have e:=m.block b f (λe=>by
   rcases p b e.symm with rfl|⟨o,n,l⟩
   ·exact k rfl
   simp only[World.cell?,n] at c;cases o <;> simp_all [Obj.isCells])
  simp only[World.cell?,e] at c ⊢;exact c
 exact⟨⟨t1,q,a _ _ (Ne.symm j) g⟩,t2,s,a _ _ (Ne.symm d) i⟩
theorem ABt(h:Zb W Y):W.grownBy Y none:=⟨h.os,h.tape,h.output,h.size,λk a _=>h.block k a⟩
theorem iM.up{β:Type}{B n:Nat}{J:β->Tw->Prop}(h:iM B n J){b:β}(c:J b W)(a:Zb W Y):J b Y:=h b W Y none c (ABt a) (λr e=>by cases e)
theorem cF(w:Tw)(a b c d:Obj):((((w.alloc a).alloc b).alloc c).alloc d).heap.size=w.1.size+4/\((((w.alloc a).alloc b).alloc c).alloc d).heap[w.1.size]? = some a/\((((w.alloc a).alloc b).alloc c).alloc d).heap[w.1.size+1]? = some b/\((((w.alloc a).alloc b).alloc c).alloc d).heap[w.1.size+2]? = some c/\((((w.alloc a).alloc b).alloc c).alloc d).heap[w.1.size+3]? = some d/\Zb w ((((w.alloc a).alloc b).alloc c).alloc d):=by
 obtain⟨e,i,j,k⟩:=ALM w a b;obtain⟨f,g,h,b3⟩:=ALM ((w.alloc a).alloc b) c d
 change Below _ _ _ at b3
 rw[e] at f g h b3;exact⟨f,(b3.block _ (by omega)).trans i,(b3.block _ (by omega)).trans j,g,h,Below.Ap k (by change Below _ _ _;rw[e];exact b3)⟩
theorem pI.AFy{B:Nat}{r:List UInt8}{X:Tw}(h:pI B r X)(a:Zb X Y):pI B r Y:=⟨(a.block _ (Ac h.Gw)).trans h.Gw,(a.block _ (Ac h.sep)).trans h.sep,(a.block _ (Ac h.save)).trans h.save⟩
def AKA(b:List (List UInt8))(J:List (List UInt8)->World->Prop)(a:World->Prop)(c:World->Prop)(e:Ending)(W:World):Prop:=∃ok:Bool,e=.returned (.bool ok)/\c W/\((ok=true/\J b W)\/(ok=false/\a W))
theorem oQ(m Y Bs:Nat)(hm:3<=m)(j:List UInt8)(hlen:j.length<=1000000):
 dN m 318 #[Zp (some (Zd Bs 0))] (Y+1) (AK8 j) [] (λpre=>pre=Dd 44 j) (KpN Y) (λW=>W.1.size=Y/\iN Bs j W/\Ik W):=by
 rintro l J Jx W z N hY⟨rfl,ad,i⟩h0;have w:iN Bs j (W.alloc (Zk #[.func (.yield l) #[] #[]] 401)):=(XE W _ Bs (Ac ad)).trans ad;have O:=w.cell;refine callsIn_of_wp_marks func318 rfl trivial ?_ rfl;simp only[ntmps318,XN,XD,XL,Nat.reduceAdd,Nat.reduceSub,XS,XT,XY,XV,X4,XJ];gi_wp2_with (refine⟨trivial,λ_=>by omega,?_⟩;gi_at_call 319;refine(callsIn_wide.2 (ACE _ _ _)).mono ?_;rintro e w5⟨rfl,rfl⟩);obtain⟨y0,y1,y2,y3,y4,y5⟩:=cF W (Zk #[.func (.yield l) #[] #[]] 401) (Zk #[Zt (bA j)] 9) (Zk #[Zt ⟨#[44]⟩] 9) (Zk #[Zi 0] 3);have ag:J [] ((((W.alloc (Zk #[.func (.yield l) #[] #[]] 401)).alloc (Zk #[Zt (bA j)] 9)).alloc (Zk #[Zt ⟨#[44]⟩] 9)).alloc (Zk #[Zi 0] 3)):=z.alloc (z.alloc (z.alloc (z.alloc h0 _) _) _) _;have ai:=i.below y5;have ah:pI (W.1.size+1) j ((((W.alloc (Zk #[.func (.yield l) #[] #[]] 401)).alloc (Zk #[Zt (bA j)] 9)).alloc (Zk #[Zt ⟨#[44]⟩] 9)).alloc (Zk #[Zi 0] 3)):=⟨y2,y3,y4⟩;have ak:W.1.size+1≠7:=by obtain⟨⟨_,_,h⟩,_⟩:=i;have:=Fv h;omega
 have al:W.1.size+1≠8:=by obtain⟨_,_,_,h⟩:=i;have:=Fv h;omega
 clear O w y2 y3 y4;generalize (((W.alloc (Zk #[.func (.yield l) #[] #[]] 401)).alloc (Zk #[Zt (bA j)] 9)).alloc (Zk #[Zt ⟨#[44]⟩] 9)).alloc (Zk #[Zi 0] 3)=w4 at *;refine dL 3 (by omega) rfl (λ_ _=>rfl) (yO (m-1) (W.1.size+1) (by omega) j hlen) (λv X r o o' h ho O=>pI.kept h ho O) (λb args b'⟨_,_,h,_⟩=>by rw[h];rfl) (by omega) (by omega) (λpre X=>J pre X/\Ik X/\X.1[W.1.size]? = some (Zk #[.func (.yield l) #[] #[]] 401 (0,0))) (λc X=>c=.ret/\Jx X) ?ab ?abx ?h0 ?hT ?hassign ?hbody ?hdone ?hstop
 case ab=>
  rintro pre X Z row⟨I,U,f⟩V hr;refine⟨z pre X Z row I V (λr e=>(hr r e).imp id (λh=>⟨by omega,h.2⟩)),lN U ak al V (λr e=>(hr r e).imp id And.right),(V.block _ (Ac f) (λe=>?_)).trans f⟩
  rcases hr _ e.symm with h|h
  ·omega
  have:=h.1;omega
 case abx=>rintro c b X Z row⟨O,hX⟩V hr;exact⟨O,N () X Z row hX V (λr e=>(hr r e).imp id (λh=>⟨by omega,h.2⟩))⟩
 case h0=>exact⟨ag,ai,y1⟩
 case hT=>intro r;exact ah.AFy ((Zal).alloc (by simp) _)
 case hassign=>intro l v W K hK;gi_wp2;exact hK
 case hbody=>
  rintro l' pre v an X t hl⟨a,t',hv,ac,ao,rfl⟩⟨I,U,f⟩hk;cases hv;have P:=(I2 f).1
  have ae:Hid (∀Z,Ik Z->Zc 241 #[Zt (bA a)] Z (Ns a Z)):=Aa (λZ h=>by have:=Ud (bA a) Z (by rw[Cz];omega) h;rw[B5] at this;exact this)
  have aj:Ik X.drew:=U.below (XG _ _).drew
  have L:Hid (∀n y g,Below X.drew.1.size X.drew g->((numOf a=some n/\y=Zn)\/(numOf a=none/\∃t x,y=Zf t x))->∃M tmps assign body,(Instr.yield l #[Zi n,y]).run prog g=.ok (.round l M tmps assign body) g/\∀l' k,RoundIn (Fence.wide.inRound l') k prog l M tmps assign body g (AKA (pre++[a]) J Jx (KpN W.1.size (t,g)))):=Aa (λn y g hb u=>by
   have G:Zb X g:=Below.Ap (XG _ _).drew hb;obtain⟨M,tmps,assign,body,hy,hR⟩:=hY pre _ (pre++[a]) g (t,g) ⟨a,t',n,y,rfl,ac,rfl,u⟩ (z.up I G) ⟨hk.AFy G,KeepsFrom.refl _ _,U.below G,rfl⟩;refine⟨M,tmps,assign,body,hy,λl' k=>ACK (hR.mono ?_)⟩;rintro e W3 (⟨rfl,h1,h2⟩|⟨rfl,h1,h2⟩)
   ·exact⟨true,rfl,h2,.inl ⟨rfl,h1⟩⟩
   exact⟨false,rfl,h2,.inr ⟨rfl,h1⟩⟩)
  have HX:=Aa f;clear hY I hk ac;gi_wp2_with fail
  gi_region_with (first
   | (refine⟨trivial,λ_=>by omega,?_⟩;gi_at_call 241;refine(CallsIn.inRound l' (callsIn_wide.2 (ae.o _ aj))).mono ?_;rintro e g⟨n,y,rfl,d,u⟩
      obtain⟨M,tmps,assign,body,hy,hR⟩:=L.o n y g d u;have HR:=Aa hR;have af:=Aa d;have R:=(d.cell (p:=Zd W.1.size 0) (Ac HX.o)).trans P;clear hR d u)
   | (refine(HR.o _ _).mono ?_;rintro e W3⟨b,rfl,q⟩)
   | (refine⟨λ_=>by omega,(HR.o _ _).mono ?_⟩;rintro e W3⟨b,rfl,q⟩)
   | (refine⟨trivial,λ_=>by omega,(HR.o _ _).mono ?_⟩;rintro e W3⟨b,rfl,q⟩))
  all_goals
   rename_i K0 hK0;obtain⟨s,q⟩:=q;refine hK0 _ _ ?_;have d:Zb X g:=Below.Ap (XG _ _).drew af.o;have aa:KeepsFrom w4.1.size X W3:=by rw[y0];exact(Ie d).trans s.keep
   have am:=s.yb.trans ((d.block _ (Ac HX.o)).trans HX.o);clear hK0 hy R P HR L
   rcases q with⟨rfl,q⟩|⟨rfl,q⟩
   ·gi_wp2
    exact⟨aa,⟨q,s.err,am⟩,s.sp⟩
   gi_wp2;exact⟨aa,rfl,q⟩
 case hdone=>rintro D pre X hD rfl⟨I,U,f⟩T;show LeavesInM Fence.wide m prog f318 _ _ _ .returning X;refine⟨by simp,.inl ⟨_,_,rfl,run_takeDeferred T,?_⟩⟩;exact⟨Zu #[],results_none rfl _ _ _,⟨_,rfl⟩,.inl ⟨_,rfl,z.put I T rfl (by omega) _⟩⟩
 case hstop=>rintro D c X hD⟨rfl,hX⟩T;gi_wp2;refine⟨by simp,.inl ⟨_,_,rfl,run_takeDeferred T,?_⟩⟩;exact⟨Zu #[],results_none rfl _ _ _,⟨_,rfl⟩,.inr (N.put (b:=()) hX T rfl (by omega) _)⟩
variable{W Y w:Tw}{n:Nat}
attribute [local go_sem] Oper.semAt_some
theorem vJ{β γ:Type}{g:Operand}{p y:Tmp}{assign body:Code}{Q:Exit->Act->Tw->Prop}{a:Act}(q O:Tmp)(h1:1<=n){gf:Nat}{lb:Array Tv}(hg:a.eval g=.func (.func gf) #[] lb)(V:∀args w,(callFunc gf args).run prog w=.ok (.enter gf args) w){B:Nat}{R:β->Array Tv->β->Prop}{T:β}{E:β->Prop}{k:γ->Tw->Prop}{P:Tw->Prop}(s:dN (n-1) gf lb B R T E k P)(N:∀v X o o',k v X->X.1[w.1.size+1]? = some o->o.isCells=false->k v (X.putObj (w.1.size+1) o'))(m:∀b args e,R b args e->args.size=2)(J:B≠w.1.size)(L:B≠w.1.size+1)(I:β->Tw->Prop)(G:Code->Tw->Prop)(hI:iM B w.1.size I)(M:∀c,iM B w.1.size (λ(_:Unit)=>G c))(Y:I T w)(hT:∀r,P ((w.alloc (.deferred (some []))).alloc (.loop r)))(d:∀(l:Nat)(v u:Tv)(W:Tw)(K:Act->Tw->Prop),K { tmps:=(((a.tmps.setIfInBounds p v).setIfInBounds y u).setIfInBounds q v).setIfInBounds O u,defers:=[] } W ->
   assign.wpIn (Fence.wide.inRound l) (n-1-1) prog (Exit.then K (λ_ _ _=>False)) { tmps:=(a.tmps.setIfInBounds p v).setIfInBounds y u,defers:=[] } W)(f:∀(l:Nat)(b:β)(v u:Tv)(e:β)(W:Tw)(t:γ),w.1.size<=l->R b #[v,u] e->I b W->k t W->body.wpIn (Fence.wide.inRound l) (n-1-1) prog (uD w.1.size k t I G e W) { tmps:=(((a.tmps.setIfInBounds p v).setIfInBounds y u).setIfInBounds q v).setIfInBounds O u,defers:=[] } W)(i:∀(D:Nat)(b:β)(W:Tw),w.1.size<=D->E b->I b W->W.1[D]? = some (.deferred (some []))->Q .normal { a with defers:={ target:=.collected D,args:=#[] } :: a.defers } W)(j:∀(D:Nat)(c:Code)(W:Tw),w.1.size<=D->G c W->W.1[D]? = some (.deferred (some []))->c.wpIn Fence.wide n prog Q { a with defers:={ target:=.collected D,args:=#[] } :: a.defers } W):
 (Code.rangeFunc g #[p,y] assign body).wpIn Fence.wide n prog Q a w:=by
 have z:∀args:Array Tv,args.size=2->∃v u,args=#[v,u]:=λargs h=>by
  rcases args with⟨_|⟨v,_|⟨u,_|⟨x,r⟩⟩⟩⟩
  ·cases h
  ·cases h
  ·exact⟨v,u,rfl⟩
  simp at h
 refine zQ h1 hg V s N m J L I G hI M Y hT (λargs=>{ tmps:=(((a.tmps.setIfInBounds p (args.getD 0 undef)).setIfInBounds y (args.getD 1 undef)).setIfInBounds q (args.getD 0 undef)).setIfInBounds O (args.getD 1 undef),defers:=[] }) ?_ ?_ i j
 ·intro l args W K hs hK
  obtain⟨v,u,rfl⟩:=z args hs;have:=d l v u W K hK;simpa using this
 intro l b args e W t hl U hi hk;obtain⟨v,u,rfl⟩:=z args (m b args e U);exact f l b v u e W t hl U hi hk
theorem Xd:∀{pre:List (List UInt8)}{L:List Int}{a:List UInt8}{x:Int},Dr pre=some L->numOf a=some x->Dr (pre++[a])=some (L++[x])
 | [],L,a,x,h,hx=>by simp only[Dr] at h;cases h;simp[Dr,hx]
 | p :: pre,L,a,x,h,hx=>by
   simp only[Dr] at h;cases hp:numOf p with
   | none=>rw[hp] at h;cases h
   | some y=>
     rw[hp] at h;simp only[XF] at h;cases hr:Dr pre with
     | none=>rw[hr] at h;cases h
     | some M=>rw[hr] at h;cases h;simp only[XJ,Dr,hp,XF,Xd hr hx];rfl
theorem aA:∀{pre:List (List UInt8)}{a:List UInt8}{t:List (List UInt8)},numOf a=none->Dr (pre++a :: t)=none
 | [],a,t,h=>by simp[Dr,h]
 | p :: pre,a,t,h=>by simp only[XJ,Dr];rw[aA h];cases numOf p <;> rfl
theorem cJ:∀{pre:List (List UInt8)}{M:List Int},Dr pre=some M->M.length=pre.length
 | [],M,h=>by simp only[Dr] at h;cases h;rfl
 | p :: pre,M,h=>by
   simp only[Dr] at h;cases hp:numOf p with
   | none=>rw[hp] at h;cases h
   | some y=>
     rw[hp] at h;simp only[XF] at h;cases hr:Dr pre with
     | none=>rw[hr] at h;cases h
     | some N=>rw[hr] at h;cases h;simp[cJ hr]
theorem gS(c:UInt8):∀(n:Nat)(s:List UInt8),s.length<=n->(Dd c s).length<=s.length+1
 | n,s,hn=>by
   rw[Dd];split
   ·rename_i h
    have a:s≠[]:=by rintro rfl;simp[Ao] at h
    have b:=Un c a;cases n with
    | zero=>exact absurd (Yag.1 (by omega)) a
    | succ n=>have:=gS c n (Ao c s).2.1 (by omega);simp only[XD];omega
   simp
structure PlI(w:World)(pre:List (List UInt8))(W:World)(L:List Int)(aa:Option Addr)(ac:Nat):Prop where
 box:W.1[w.1.size+2]? = some (.cells #[.slice aa L.length ac] 23 (0,0))
 AHU:Dr pre=some L
 row:W.ownsRow (w.1.size+10) 3 1 (.slice aa L.length ac) L.length (L.map (.int .i64))
 res:W.1[w.1.size]? = some (.cells #[.slice none 0 0] 23 (0,0))
 ok:W.1[w.1.size+1]? = some (.cells #[.bool false] 4 (0,0))
 low:Zb w W
theorem PlI.free{pre:List (List UInt8)}{L:List Int}{c:To}{row:Option Nat}(h:PlI w pre W L c n)(b:W.grownBy Y row)(d:∀r,row=some r->r=w.1.size+7\/(w.1.size+4<=r/\∃o:Obj,W.1[r]? = some o/\o.isCells=false)):PlI w pre Y L c n:=by
 have a:∀r,row=some r->r=w.1.size+7\/(∃o:Obj,W.1[r]? = some o/\o.isCells=false):=λr e=>(d r e).imp id And.right
 refine⟨Ht h.box (by omega) b a,h.AHU,Le h.row (by omega) b a,Ht h.res (by omega) b a,Ht h.ok (by omega) b a,h.low.grown b h.low.size (λj f=>?_)⟩
 rcases d j f with rfl|⟨g,_⟩ <;> omega
structure PlX(w:World)(t0:List UInt8)(W:World):Prop where
 bad:Dr (Dd 44 t0)=none
 res:W.1[w.1.size]? = some (.cells #[.slice none 0 0] 23 (0,0))
 ok:W.1[w.1.size+1]? = some (.cells #[.bool false] 4 (0,0))
 low:Zb w W
theorem PlX.free{l:List UInt8}{row:Option Nat}(h:PlX w l W)(b:W.grownBy Y row)(c:∀r,row=some r->r=w.1.size+7\/(w.1.size+4<=r/\∃o:Obj,W.1[r]? = some o/\o.isCells=false)):PlX w l Y:=by
 have a:∀r,row=some r->r=w.1.size+7\/(∃o:Obj,W.1[r]? = some o/\o.isCells=false):=λr e=>(c r e).imp id And.right
 refine⟨h.bad,Ht h.res (by omega) b a,Ht h.ok (by omega) b a,h.low.grown b h.low.size (λj d=>?_)⟩
 rcases c j d with rfl|⟨f,_⟩ <;> omega
theorem ACP:S0:=by
 intro s w hs he;obtain⟨U,hl⟩:∃l,s.1.toList=l:=⟨_,rfl⟩;have az:s=bA U:=by rw[<-hl,Ju]
 have ax:U.length<=1000000:=by rw[<-hl,Gm];exact hs
 rw[hl];subst az;clear hs hl;refine(callsIn_wide (n:=9)).1 ?_;refine callsIn_of_wp_marks func242 rfl trivial ?_ rfl;simp only[ntmps242,XN,XD,XL,Nat.reduceAdd,Nat.reduceSub,XS,XT,XY,XV,X4,XJ];gi_wp2_with (refine⟨trivial,?_⟩;gi_at_call 283;refine(callsIn_wide.2 (rX _ _)).mono ?_;rintro e w5⟨rfl,rfl⟩);rename_i K0 hK0;obtain⟨y0,y1,y2,y3,y4,y5⟩:=cF w (Zk #[Zs none 0 0] 23) (Zk #[Zo false] 4) (Zk #[Zs none 0 0] 23) (Zk #[Zt (bA U)] 9);have T:=y5;have al:=he.below y5;have a2:7<w.1.size:=by obtain⟨⟨_,_,h⟩,_⟩:=he;exact Fv h
 have a3:8<w.1.size:=by obtain⟨_,_,_,h⟩:=he;exact Fv h
 have HE:=Aa he;clear he;generalize (((w.alloc (Zk #[Zs none 0 0] 23)).alloc (Zk #[Zo false] 4)).alloc (Zk #[Zs none 0 0] 23)).alloc (Zk #[Zt (bA U)] 9)=w4 at *;have e2:w.1.size+1+1=w.1.size+2:=rfl;have e3:w.1.size+2+1=w.1.size+3:=rfl;rw[e2,e3];refine vJ 5 6 (by decide) rfl (λ_ _=>rfl) (oQ 8 (w.1.size+6) (w.1.size+3) (by decide) U ax) (λv X o o' h ho hc=>?kp) (λb args b'⟨_,_,_,_,h,_⟩=>by rw[h];rfl) (by omega) (by omega) (λpre W=>∃L m x,PlI w pre W L m x) (λc W=>c=.ret/\PlX w U W) ?ab ?abx ?h0 ?hT ?hassign ?hbody ?hdone ?hstop
 case kp=>rw[y0] at ho ⊢;refine⟨h.sp.kept ho hc,?_,lN h.err (B:=w.1.size+5) (by omega) (by omega) (grownBy_putObj' X _ _) (λr e=>by injection e with e;exact .inl e.symm),(XB (by omega)).trans h.yb⟩;exact h.keep.trans (KeepsFrom.of_grownBy (grownBy_putObj' X _ _) (λj G=>by injection G with G;omega))
 case ab=>rintro pre X Y row⟨L,m,x,k⟩hg hr;exact⟨L,m,x,k.free hg (λr e=>(hr r e).imp id (λh=>⟨by have:=h.1;omega,h.2⟩))⟩
 case abx=>rintro c b X Y row⟨hc,V⟩hg hr;exact⟨hc,V.free hg (λr e=>(hr r e).imp id (λh=>⟨by have:=h.1;omega,h.2⟩))⟩
 case h0=>exact⟨[],none,0,y3,rfl,⟨rfl,.inl ⟨rfl,rfl⟩⟩,y1,y2,T⟩
 case hT=>intro r;obtain⟨N,_,_,x3⟩:=ALM w4 (.deferred (some [])) (.loop r);exact⟨by rw[N,y0],(x3.block _ (Ac y4)).trans y4,al.below x3⟩
 case hassign=>intro l v u W K hK;gi_wp2;exact hK
 case hbody=>
  rintro l pre v u a1 W t hl⟨a,t',n,er,hv,R,rfl,aw⟩⟨L,m,x,k⟩hk;cases hv;have y:=Aa k;have M:=Aa hk;have av:w.1.size+10<=W.1.size:=Ac hk.sp.save
  rcases aw with⟨hn,rfl⟩|⟨hn,t1,x1,rfl⟩
  ·have HN:=Aa (Xd k.AHU hn)
   have hlen:L.length<=1000001:=by have h1:=cJ k.AHU;have h2:=gS 44 _ U (Y' _);rw[R] at h2;simp only[XH,XD] at h2;omega
   have f:Hid (Below W.1.size W (W.alloc (Zk #[Zi n] 3))):=Aa (Zal);have g:=Aa (Bc k.row f.o);obtain⟨N,xf⟩:=I2 k.box;obtain⟨iI,am,ae⟩:=Option.map_eq_some_iff.1 AFX;simp only[Prod.mk.injEq] at ae;have P:=Aa (And.intro am ae);clear am ae k hk R hn y1 y2 y3 y4
   gi_wp2_with (first
    | (gi_at_builtin;refine wpListIn_append_own _ rfl _ _ 23 rfl (w.1.size+10) 3 iI U5 1 8 underlying23 P.o.1 P.o.2.1 P.o.2.2.1 P.o.2.2.2 rfl (by decide) (.slice m L.length x) L.length (L.map (.int .i64)) rfl g.o (Zd W.1.size 0) 1 1 [Zi n] rfl rfl (λj u G=>WG (Yac _ _) j u G) (by intro u hu;simp at hu;subst hu;rfl) (by unfold maxLen;omega) (by omega) (XC av f.o.size) ?_
       intro v1 w9 z ad _;obtain⟨a',c',rfl⟩:=AAN z;have an:=Aa z;have O:=Aa ad;have ai:=Aa ((ad.block (w.1.size+2) (Ya (Ac y.o.box) f.o.size) (λe=>by have:=Fu g.o e.symm;omega)).trans ((f.o.block _ (Ac y.o.box)).trans y.o.box));obtain⟨z0,zf⟩:=I2 ai.o;clear z ad))
   clear z0 zf N xf
   have d:∀b,b<w.1.size+10->b≠w.1.size+2->(w9.setCell (Zd (w.1.size+2) 0) (Zs a' (L.length+1) c')).1[b]? = W.1[b]? := λb hb ay=>((Aq w9 (w.1.size+2) 0 _).block b (Ya (by omega) (XC f.o.size O.o.size)) (λe=>by injection e with e;omega)).trans ((O.o.block b (Ya (by omega) f.o.size) (λe=>by have:=Fu g.o e.symm;omega)).trans (f.o.block b (by omega)))
   have I:∀q,w.1.size+3<=q->KeepsFrom q W (w9.setCell (Zd (w.1.size+2) 0) (Zs a' (L.length+1) c')):=λq hq=>G6 (j4 (Ie f.o) g.o O.o) (by omega)
   have J:Below w.1.size w (w9.setCell (Zd (w.1.size+2) 0) (Zs a' (L.length+1) c')):=by have h1:=Below.Ap y.o.low f.o;exact(h1.grown O.o h1.size (λj G=>by have:=Fu g.o G;omega)).setCell (p:=Zd (w.1.size+2) 0) (by show w.1.size<=w.1.size+2;omega) _
   refine⟨I _ (by omega),⟨L++[n],a',c',?_,HN.o,?_,(d _ (by omega) (by omega)).trans y.o.res,(d _ (by omega) (by omega)).trans y.o.ok,J⟩,⟨⟨(d _ (by omega) (by omega)).trans M.o.sp.Gw,(d _ (by omega) (by omega)).trans M.o.sp.sep,(d _ (by omega) (by omega)).trans M.o.sp.save⟩,M.o.keep.trans (I _ (by omega)),HE.o.below J,(d _ (by omega) (by omega)).trans M.o.yb⟩⟩
   ·rw[XH]
    exact As w9 (w.1.size+2) 0 _ _ _ ai.o
   rw[XH,WC];exact Iq an.o (by omega)
  have HN:Hid (Dr (Dd 44 U)=none):=Aa (by rw[R];exact aA hn);obtain⟨N,xf⟩:=I2 k.res;obtain⟨x1,xg⟩:=I2 k.ok;clear k hk R hn y1 y2 y3 y4;gi_wp2;have J:Below w.1.size w ((W.setCell (Zd w.1.size 0) (Zs none 0 0)).setCell (Zd (w.1.size+1) 0) (Zo false)):=(y.o.low.setCell (p:=Zd w.1.size 0) (Y' _) _).setCell (p:=Zd (w.1.size+1) 0) (WA _) _;have I:∀q,w.1.size+2<=q->KeepsFrom q W ((W.setCell (Zd w.1.size 0) (Zs none 0 0)).setCell (Zd (w.1.size+1) 0) (Zo false)):=λq hq=>G6 (G6 (KeepsFrom.refl _ _) (by omega)) (by omega)
  have d:∀b,b<W.1.size->w.1.size+1<b->((W.setCell (Zd w.1.size 0) (Zs none 0 0)).setCell (Zd (w.1.size+1) 0) (Zo false)).1[b]? = W.1[b]? := λb hb ay=>((Aq _ (w.1.size+1) 0 _).block b (Ya hb (Aq W w.1.size 0 _).size) (λe=>by injection e with e;omega)).trans ((Aq W w.1.size 0 _).block b hb (λe=>by injection e with e;omega))
  refine⟨I _ (by omega),⟨rfl,HN.o,?_,?_,J⟩,⟨⟨(d _ (by omega) (by omega)).trans M.o.sp.Gw,(d _ (by omega) (by omega)).trans M.o.sp.sep,(d _ (by omega) (by omega)).trans M.o.sp.save⟩,M.o.keep.trans (I _ (by omega)),HE.o.below J,(d _ (by omega) (by omega)).trans M.o.yb⟩⟩
  ·exact Cg (As W _ 0 _ _ _ y.o.res) (by omega)
  exact As _ _ 0 _ _ _ (Cg y.o.ok (by omega))
 case hdone=>
  rintro D pre W hD rfl⟨L,m,x,k⟩hd;rw[y0] at hD;clear y0 y1 y2 y3 y4 y5 T al;refine hK0 _ _ ?_;clear hK0;obtain⟨N,xf⟩:=I2 k.box;obtain⟨r0,rf⟩:=I2 k.res;obtain⟨o0,of⟩:=I2 k.ok;have y:=Aa k;have HD:=Aa hd;clear k hd;gi_wp2;clear N xf r0 rf o0 of;have ao:=As W w.1.size 0 _ _ (Zs m L.length x) y.o.res;have ap:(W.setCell (Zd w.1.size 0) (Zs m L.length x)).1[w.1.size+1]? = _:=Cg y.o.ok (by omega);have aq:=Cg (q:=w.1.size+1) (i:=0) (v:=Zo true) ao (by omega);have ar:=As _ (w.1.size+1) 0 _ _ (Zo true) ap;have aj:((W.setCell (Zd w.1.size 0) (Zs m L.length x)).setCell (Zd (w.1.size+1) 0) (Zo true)).1[D]? = _:=Cg (Cg HD.o (by omega)) (by omega);have ak:Below w.1.size w ((W.setCell (Zd w.1.size 0) (Zs m L.length x)).setCell (Zd (w.1.size+1) 0) (Zo true)):=(y.o.low.setCell (p:=Zd w.1.size 0) (Y' _) _).setCell (p:=Zd (w.1.size+1) 0) (WA _) _;have au:=Iq (b:=w.1.size+1) (i:=0) (u:=Zo true) (Iq (b:=w.1.size) (i:=0) (u:=Zs m L.length x) y.o.row (by omega)) (by omega)
  change LeavesInM _ _ _ _ _ _ _ _ ((W.setCell (Zd w.1.size 0) (Zs m L.length x)).setCell (Zd (w.1.size+1) 0) (Zo true))
  generalize (W.setCell (Zd w.1.size 0) (Zs m L.length x)).setCell (Zd (w.1.size+1) 0) (Zo true)=X at *;refine⟨by simp,.inl ⟨_,_,rfl,run_takeDeferred aj,?_⟩⟩;have ah:(X.putObj D (.deferred none)).1[w.1.size]? = _:=(XB (by omega)).trans aq;have ag:(X.putObj D (.deferred none)).1[w.1.size+1]? = _:=(XB (by omega)).trans ar;have af:Below w.1.size w (X.putObj D (.deferred none)):=ak.grown (grownBy_putObj' X D _) ak.size (λj G=>by injection G with G;omega);have a0:(X.putObj D (.deferred none)).ownsRow w.1.size 3 1 (Zs m L.length x) L.length (L.map (.int .i64)):=G1 (Le (B:=w.1.size) au (by omega) (grownBy_putObj' X D _) (λr e=>by injection e with e;subst e;exact .inr ⟨_,aj,rfl⟩)) (by omega);generalize X.putObj D (.deferred none)=W9 at *;obtain⟨N,_⟩:=I2 ah;obtain⟨xb,_⟩:=I2 ag;refine⟨Zu #[Zs m L.length x,Zo true],?_,m,L.length,x,true,rfl,af,.inl ⟨rfl,L,y.o.AHU,rfl,a0⟩⟩;simp[results,f242,go_sem,N,xb]
 case hstop=>rintro D c W hD⟨rfl,V⟩hd;gi_wp2;rw[y0] at hD;refine⟨by simp,.inl ⟨_,_,rfl,run_takeDeferred hd,?_⟩⟩;have ah:(W.putObj D (.deferred none)).1[w.1.size]? = _:=(XB (by omega)).trans V.res;have ag:(W.putObj D (.deferred none)).1[w.1.size+1]? = _:=(XB (by omega)).trans V.ok;have af:Below w.1.size w (W.putObj D (.deferred none)):=V.low.grown (grownBy_putObj' W D _) V.low.size (λj G=>by injection G with G;omega);generalize W.putObj D (.deferred none)=W9 at *;obtain⟨N,_⟩:=I2 ah;obtain⟨xb,_⟩:=I2 ag;refine⟨Zu #[Zs none 0 0,Zo false],?_,none,0,0,false,rfl,af,.inr ⟨rfl,V.bad⟩⟩;clear hK0;simp[results,f242,go_sem,N,xb]
variable{W w:Tw}{u v:Tv}{L:List Gx}
theorem Hi{α:Type}[Inhabited α]{k:Nat}{en:α->List Tv}(hlen:∀x,(en x).length=k):∀(l:List α)(j:Nat),j<l.length->∀(i:Nat),i<k->(l.flatMap en)[j*k+i]? = (en l[j]!)[i]?
 | [],j,hj,_,_=>by cases hj
 | x :: l,0,_,i,hi=>by rw[WJ,Nat.zero_mul,WO,XU (by rw[hlen];exact hi)];rfl
 | x :: l,j+1,hj,i,hi=>by
   have e:(j+1)*k+i=k+(j*k+i):=by rw[Y3];omega
   rw[WJ,e,List.getElem?_append_right (by rw[hlen];omega),hlen,Nat.add_sub_cancel_left];simp only[XD] at hj;rw[Hi hlen l j (by omega) i hi];rfl
theorem gL{α:Type}[Inhabited α]{k:Nat}{en:α->List Tv}(hlen:∀x,(en x).length=k){base:Nat}{T:TypeId}{l:List α}(h:w.ownsRow base T k v l.length (l.flatMap en)):AKI k en w v l:=by
 rcases Di h with⟨e,e0⟩|⟨g,c,e,_,n,m,_⟩
 ·exact .inl ⟨⟨_,_,e⟩,Yag.1 e0⟩
 subst e;refine .inr ⟨g,0,c,rfl,m,n,λj d i u b=>?_⟩
 have o:i<k:=by
  rcases Yc i k with a|a
  ·exact a
  rw[Yb (by rw[hlen];exact a)] at b;cases b
 have f:j*k+i<l.length*k:=by have:(j+1)*k<=l.length*k:=Yo k d;rw[Y3] at this;omega
 rw[WO,h.cellAt (j*k+i) f,Hi hlen l j d i o,b]
structure pM(a:ADV):Prop where
 qk:a.2.1.size<=maxLen
 Iz:a.2.2.2.1.length<=600000
 texts:∀x∈a.2.2.2.2.1,x.2.1.size<=maxLen/\x.2.2.2.2.2.2.size<=maxLen
theorem sP{base:Nat}(h:w.ownsRow base 111 6 v L.length (Ci L))(d:∀q∈L,pC base w q)(l:∀q∈L,pM q.1):Dt w v (L.map (·.1)):=by
 rcases gL (k:=6) (en:=nU) (λ_=>rfl) h with⟨h1,h2⟩|⟨g,o,c,e,hc,hg,hcell⟩
 ·exact .inl ⟨h1,by rw[h2];rfl⟩
 refine .inr ⟨g,o,c,by rw[XW];exact e,by rw[XW];exact hc,hg,λj a=>?_⟩;rw[XW] at a;have b:L[j]! ∈L:=by rw[getElem!_pos L j a];exact Yh a
 have i:(L.map (·.1))[j]! = L[j]!.1:=by rw[getElem!_pos _ j (by rw[XW];exact a),List.getElem_map,getElem!_pos L j a]
 rw[i];have f:=l _ b;refine⟨_,_,_,_,_,_,⟨Ph.Fz (d _ b).1,?_,f.qk,f.Iz,f.texts⟩,hcell j a 0 _ rfl,hcell j a 1 _ rfl,hcell j a 2 _ rfl,hcell j a 3 _ rfl,hcell j a 4 _ rfl,hcell j a 5 _ rfl⟩;exact p8 (gL (k:=7) (en:=Cc) (λ_=>rfl) (d _ b).2)
def uK(l:List UInt8)(s:ByteArray)(c:Dn):Prop:=Js l=some c/\Cv c=true/\C6 c=s
def Kx(l:List UInt8)(s:ByteArray)(w:World)(e:Ending)(h:World):Prop :=
 Zb w h/\((∃(g:ByteArray)(f:Bool)(A:List ADV)(a:Option Addr)(d b:Nat),uK l s (g,f,A)/\e=.returned (.tuple #[.agg #[.string g,.bool f,.slice a d b],.nilIface])/\Dt h (.slice a d b) A) \/
  ((∀c,¬uK l s c)/\e=.returned (.tuple #[.agg #[.string ⟨#[]⟩,.bool false,.slice none 0 0],.iface 91 (Zi 3)])))
theorem Sa{base:Nat}{t T:TypeId}{z:Nat}{n:Nat}{xs:List Tv}{b i:Nat}{cs:Array Tv}(h:W.ownsRow base t z v n xs)(a:W.1[b]? = some (Zk cs T (0,0)))(c:t≠T):(W.setCell (Zd b i) u).ownsRow base t z v n xs :=
 Az h (Aq W b i u) (λk f e=>by obtain⟨c1,d⟩:=Ho h f;injection e with e;subst e;rw[d] at a;injection a with a;injection a with _ a;exact c a)
theorem zF{a b:Tb}(h:a.toList=b.toList):a=b:=by rw[ByteArray.toList_eq,ByteArray.toList_eq] at h;obtain⟨x⟩:=a;obtain⟨y⟩:=b;have c:x=y:=Array.toList_inj.1 h;rw[c]
def oW(W:World)(v:Value)(L:List Gx):Prop:=W.ownsRow 0 111 6 v L.length (Ci L)/\∀q∈L,pC 0 W q
theorem oW.up{Y:Tw}(h:oW W v L)(a:Zb W Y):oW Y v L:=⟨Bc h.1 a,λq b=>⟨Bc (h.2 q b).1 a,Bc (h.2 q b).2 a⟩⟩
theorem oW.set{b i:Nat}{cs:Array Tv}(h:oW W v L)(a:W.1[b]? = some (Zk cs 53 (0,0))):oW (W.setCell (Zd b i) u) v L :=
 ⟨Sa h.1 a (by decide),λq c=>⟨Sa (h.2 q c).1 a (by decide),Sa (h.2 q c).2 a (by decide)⟩⟩
theorem jF(hP:S0)(s:Tb)(w:Tw)(hs:s.size<=1000000)(he:Ik w)(hw:Lw w)(ht:Jp w)(hF:∀b d A,Js s.1.toList=some (b,d,A)->A.length<=600000/\b.size<=maxLen/\∀a∈A,pM a/\(Ch a=true->Fh a)):
 Zc 97 #[Zt s] w (Kx s.1.toList s w):=by
 have t:Hid (Zb w (w.alloc (Zk #[Zt ⟨#[]⟩,Zo false,Zs none 0 0] 53))):=Aa (Zal);have r:=Aa (Yac w (Zk #[Zt ⟨#[]⟩,Zo false,Zs none 0 0] 53));have HR:=Aa (Pq hP s (w.alloc (Zk #[Zt ⟨#[]⟩,Zo false,Zs none 0 0] 53)) hs (he.below t.o));generalize hl:s.1.toList=l at *;cases hc:Js l with
 | none=>
   have z:Hid (Zc 153 #[Zt s] (w.alloc (Zk #[Zt ⟨#[]⟩,Zo false,Zs none 0 0] 53)) λe u=>∃(b:Tb)(d:Bool)(f:To)(i g:Nat),e=Zr (Zu #[Zg #[Zt b,Zo d,Zs f i g],Zo false])/\Zb w u/\u.1[w.1.size]? = some (Zk #[Zt ⟨#[]⟩,Zo false,Zs none 0 0] 53)):=Aa (HR.o.mono (by
    rintro e u⟨b,d,f,i,g,ok,rfl,D,⟨_,L,h,_⟩|⟨rfl,_⟩⟩
    ·rw[hc] at h;cases h
    exact⟨b,d,f,i,g,rfl,Below.Ap t.o D,(D.block _ (Ac r.o)).trans r.o⟩))
   have R:Hid (∀c,¬uK l s c):=Aa (λc h=>by have:=h.1;rw[hc] at this;cases this);clear HR hc hF he hw ht hl r t;go_enter func97,ntmps97
   go_wp2_with (first
    | (go_at_call 153;apply z.o.mono;rintro e x⟨b,d,f,i,g,rfl,k,j⟩
       have p:Hid (Zb w (x.alloc (Zk #[Zt b,Zo d,Zs f i g] 53))):=Aa (k.alloc k.size _);have o:=Aa ((XE x (Zk #[Zt b,Zo d,Zs f i g] 53) _ (Ac j)).trans j);obtain⟨U,V,X,Y⟩:=Db o.o;clear k j))
   clear U V X Y;obtain⟨N,O,P⟩:=mH (pF _ _ _ _ _ (Zt ⟨#[]⟩) (Zo false) (Zs none 0 0) _ o.o);refine bodyPost_ret (v:=Zu #[Zg #[Zt ⟨#[]⟩,Zo false,Zs none 0 0],Zf 91 (Zi 3)]) (by simp[results,results97,go_sem,N,O,P]) rfl ⟨Fi p.o (Y' _) _ _ _,.inr ⟨R.o,rfl⟩⟩
 | some c=>
   obtain⟨b,d,A⟩:=c;obtain⟨hA,ak,M⟩:=hF b d A hc
   have z:Hid (Zc 153 #[Zt s] (w.alloc (Zk #[Zt ⟨#[]⟩,Zo false,Zs none 0 0] 53)) λe u=>∃(f:To)(i g:Nat)(L:List Gx),e=Zr (Zu #[Zg #[Zt b,Zo d,Zs f i g],Zo true])/\Zb w u/\u.1[w.1.size]? = some (Zk #[Zt ⟨#[]⟩,Zo false,Zs none 0 0] 53)/\L.map (·.1)=A/\oW u (Zs f i g) L):=Aa (HR.o.mono (by
    rintro e u⟨tx',ao,f,i,g,ok,rfl,D,⟨rfl,L,h,al,h1,h2⟩|⟨rfl,h⟩⟩
    ·rw[hc] at h
     simp only[Option.some.injEq,Prod.mk.injEq] at h;obtain⟨rfl,rfl,rfl⟩:=h;exact⟨f,i,g,L,rfl,Below.Ap t.o D,(D.block _ (Ac r.o)).trans r.o,rfl,h1,h2⟩
    rw[hc] at h;cases h))
   have ab:Hid (∀W v L,L.map (·.1)=A->oW W v L->Dt W v A):=Aa (λW v L e h=>by subst e;exact sP h.1 h.2 (λq hq=>(M q.1 (Y2 hq)).1))
   have af:Hid (∀W f i g L,L.map (·.1)=A->oW W (Zs f i g) L->Zb w W->Zc 54 #[Zg #[Zt b,Zo d,Zs f i g]] W λe u=>e=Zr (Hz (b,d,A))/\Zb W u):=Aa (λW f i g L e h D=>lW b d A f i g W (ab.o W _ L e h) hA ak (λa ha=>(M a ha).2) (hw.below D) (ht.below D));have HC:=Aa hc;clear HR hF he hw ht hl hc M r t
   have R:Hid (Cv (b,d,A)=false\/C6 (b,d,A)≠s->∀c,¬uK l s c):=Aa (λh c hk=>by
    have h1:=hk.1;rw[HC.o] at h1;cases h1
    rcases h with h|h
    ·rw[hk.2.1] at h;cases h
    exact h hk.2.2)
   cases hp:Cv (b,d,A) with
   | false=>
     have J:Hid (Hz (b,d,A)=Zu #[Zt ⟨#[]⟩,Zf 91 (Zi 1)]):=Aa (by unfold Hz;rw[hp];rfl);have G:=Aa (R.o (.inl hp));clear R hp;go_enter func97,ntmps97
     go_wp2_with (first
      | (go_at_call 153;apply z.o.mono;rintro e x⟨f,i,g,L,rfl,k,j,T,hO⟩
         have p:Hid (Zb w (x.alloc (Zk #[Zt b,Zo d,Zs f i g] 53))):=Aa (k.alloc k.size _);have o:=Aa ((XE x (Zk #[Zt b,Zo d,Zs f i g] 53) _ (Ac j)).trans j);have I:=Aa (af.o _ _ _ _ L T (hO.up (Zal)) p.o);clear k j hO T)
      | (go_at_call 54;apply I.o.mono;rintro e w5⟨rfl,n⟩;rw[J.o]
         have y:=Aa (Below.Ap p.o n);have m:=Aa ((n.block _ (Ac o.o)).trans o.o);obtain⟨U,V,X,Y⟩:=Db m.o;clear n))
     clear U V X Y;obtain⟨N,O,P⟩:=mH (pF _ _ _ _ _ (Zt ⟨#[]⟩) (Zo false) (Zs none 0 0) _ m.o);refine bodyPost_ret (v:=Zu #[Zg #[Zt ⟨#[]⟩,Zo false,Zs none 0 0],Zf 91 (Zi 3)]) (by simp[results,results97,go_sem,N,O,P]) rfl ⟨Fi y.o (Y' _) _ _ _,.inr ⟨G.o,rfl⟩⟩
   | true=>
     have J:Hid (Hz (b,d,A)=Zu #[Zt (C6 (b,d,A)),Zn]):=Aa (by unfold Hz;rw[hp];rfl);generalize ag:C6 (b,d,A)=pb at *;have G:=Aa (λh=>R.o (.inr h));have aj:Hid (pb=s->uK l s (b,d,A)):=Aa (λh=>⟨HC.o,hp,ag.trans h⟩);clear R hp ag;go_enter func97,ntmps97
     go_wp2_with (first
      | (go_at_call 153;apply z.o.mono;rintro e x⟨f,i,g,L,rfl,k,j,T,hO⟩
         have p:Hid (Zb w (x.alloc (Zk #[Zt b,Zo d,Zs f i g] 53))):=Aa (k.alloc k.size _);have o:=Aa ((XE x (Zk #[Zt b,Zo d,Zs f i g] 53) _ (Ac j)).trans j);have ad:=Aa (Yac x (Zk #[Zt b,Zo d,Zs f i g] 53));have ae:=Aa (hO.up ((XG _ _).alloc (Y' _) (Zk #[Zt b,Zo d,Zs f i g] 53)));have I:=Aa (af.o _ _ _ _ L T ae.o p.o);have HL:=Aa T;have am:w.1.size<x.1.size:=Ac j;clear k j hO T)
      | (go_at_call 54;apply I.o.mono;rintro e w5⟨rfl,n⟩;rw[J.o]
         have y:=Aa (Below.Ap p.o n);have m:=Aa ((n.block _ (Ac o.o)).trans o.o);have ah:=Aa ((n.block _ (Ac ad.o)).trans ad.o);have ai:=Aa (ae.o.up n);obtain⟨U,V,X,Y⟩:=Db m.o;obtain⟨c0,c1,c2,cf⟩:=Db ah.o;clear n))
     ·rename_i hcmp
      clear U V X Y c0 c1 c2 cf;obtain⟨N,O,P⟩:=mH (pF _ _ _ _ _ (Zt ⟨#[]⟩) (Zo false) (Zs none 0 0) _ m.o);refine bodyPost_ret (v:=Zu #[Zg #[Zt ⟨#[]⟩,Zo false,Zs none 0 0],Zf 91 (Zi 3)]) (by simp[results,results97,go_sem,N,O,P]) rfl ⟨Fi y.o (Y' _) _ _ _,.inr ⟨G.o (λe=>?_),rfl⟩⟩;subst e;simp at hcmp
     rename_i hcmp;clear U V X Y c0 c1 c2 cf;obtain⟨N,O,P⟩:=mH (pF _ _ _ _ _ (Zt b) (Zo d) (Zs f i g) _ m.o);refine bodyPost_ret (v:=Zu #[Zg #[Zt b,Zo d,Zs f i g],Zn]) (by simp[results,results97,go_sem,N,O,P]) rfl ⟨Fi y.o (Y' _) _ _ _,.inl ⟨b,d,A,f,i,g,aj.o ?_,rfl,ab.o _ _ L HL.o ?_⟩⟩
     ·exact zF (by simpa using hcmp)
     exact((ai.o.set m.o).set (As _ _ 0 _ _ _ m.o)).set (As _ _ 1 _ _ _ (As _ _ 0 _ _ _ m.o))
variable{l:List UInt8}{p s:Tb}{c:Aj}{k n r y:Int}{a x:ADV}
def O8(l:List UInt8):Prop:=∀b∈l,b≠10/\b≠32/\b≠39/\b≠44/\b≠59
theorem O8.n10(h:O8 l):(10:UInt8) ∉ l:=λe=>(h _ e).1 rfl
theorem O8.n32(h:O8 l):(32:UInt8) ∉ l:=λe=>(h _ e).2.1 rfl
theorem O8.n39(h:O8 l):(39:UInt8) ∉ l:=λe=>(h _ e).2.2.1 rfl
theorem O8.n44(h:O8 l):(44:UInt8) ∉ l:=λe=>(h _ e).2.2.2.1 rfl
theorem O8.n59(h:O8 l):(59:UInt8) ∉ l:=λe=>(h _ e).2.2.2.2 rfl
theorem AAy(h:∀b∈l,b.toNat=45\/(48<=b.toNat/\b.toNat<=57)\/b.toNat=95\/(97<=b.toNat/\b.toNat<=122)):O8 l:=by intro b a;have:=h b a;refine⟨?_,?_,?_,?_,?_⟩ <;> (rintro rfl;revert this;decide)
theorem Fw(n:Int):O8 (itoa n):=AAy λb a=>by
 rcases lO b a with h|h
 ·exact .inl h
 exact .inr (.inl h)
theorem uJ(r:Nat)(h:126<r):Is r=true:=by simp only[Is,Ki,Pe,XA,WB,XQ,decide_eq_false_iff_not,beq_eq_false_iff_ne];refine⟨.inr (by omega),.inr (by omega),by omega⟩
theorem Qp(r:Nat)(h:126<r):Cu r=true:=by simp[Cu,h]
theorem Ge(h:Bx s=true):O8 s.1.toList/\s.1.toList≠[]:=by
 simp only[Bx,XA,decide_eq_true_eq,WB,decide_eq_false_iff_not] at h;obtain⟨a,_,_,c⟩:=h;refine⟨AAy λb g=>?_,λe=>?_⟩
 ·obtain⟨d,_⟩:=o4 uJ c b g
  have f:(!Ki b.toNat && (!Pe b.toNat && !((b.toNat:Int)==95)))=false:=d;simp only[Ki,Pe,XQ,Bool.not_eq_false',XA,decide_eq_true_eq,beq_iff_eq] at f;omega
 have:s.1.toList.length=0:=by rw[e];rfl
 simp only[WH] at this;simp only[ByteArray.size] at a;omega
theorem bS{t:Tb}(h:Vb t=true):(39:UInt8) ∉ t.1.toList/\(10:UInt8) ∉ t.1.toList:=by
 simp only[Vb,XA,decide_eq_true_eq,WB,decide_eq_false_iff_not] at h;refine⟨λe=>?_,λe=>?_⟩
 ·have:=(o4 Qp h.2 _ e).1
  revert this;decide
 have:=(o4 Qp h.2 _ e).1
 revert this;decide
def yA(t:List UInt8):Prop:=t=[]\/∃r,t=59 :: r
theorem qD{c:UInt8}{x t:List UInt8}(a:c ∉ x)(b:t=[]\/∃r,t=c :: r):(Ao c (x++t)).1=x/\(Ao c (x++t)).2.1=t.tail:=by
 rcases b with rfl|⟨r,rfl⟩
 ·rw[List.append_nil,Qa a];simp
 rw[Dh a];simp
theorem AER(a b:Tb):(a++b).1.toList=a.1.toList++b.1.toList:=by simp
theorem lD{x t:List UInt8}(c:(39:UInt8) ∉ x)(a:yA t):Lib.hasPrefix (x++t) [39]=false:=by
 unfold Lib.hasPrefix;cases x with
 | nil=>
   rcases a with rfl|⟨r,rfl⟩
   ·rfl
   simp[List.isPrefixOf]
 | cons b x=>
   have:b≠39:=λe=>c (by simp[e])
   simp[List.isPrefixOf,this.symm]
theorem nA{t:Tb}(h:A9 k n t=true)(j:Lu n)(a:yA l):Ej ((E7 k n t).1.toList++l)=some ((k,n,t),l.tail):=by
 unfold A9 at h;unfold E7
 by_cases h0:k=0
 ·subst h0
  simp only[if_true,XA,beq_iff_eq] at h ⊢;obtain⟨rfl,b⟩:=h;have e:t=bA []:=toList_inj (by simpa[bA,ByteArray.toList_eq] using b);subst e;have q:=qD (c:=59) (x:=Qm) (t:=l) (by decide) a;unfold Ej;show (if Lib.hasPrefix (Qm++l) [39]=true then _ else _)=_;rw[lD (by decide) a,Yad (by decide)];show (if (Ao 59 (Qm++l)).1=Qm then _ else _)=_;rw[Yae q.1];show some ((0,0,bA []),(Ao 59 (Qm++l)).2.1)=_;rw[q.2]
 rw[Yad h0] at h ⊢
 by_cases h1:k=1
 ·subst h1
  simp only[if_true] at h ⊢;have e:t=bA []:=toList_inj (by simpa[bA,ByteArray.toList_eq] using h);subst e;have g:=Fw n;have q:=qD (c:=59) (x:=itoa n) (t:=l) g.n59 a;have d:(Bm n).1.toList=itoa n:=by simp[Bm]
  have f:itoa n≠Qm:=λe=>by
   have:=lO (n:=n) 110 (by rw[e];decide)
   revert this;decide
  rw[d];unfold Ej;rw[lD g.n39 a,Yad (by decide),q.1,q.2,Yad f,I7 j];rfl
 rw[Yad h1] at h ⊢
 by_cases b:k=2
 ·subst b
  simp only[if_true,XA,beq_iff_eq] at h ⊢;obtain⟨rfl,i⟩:=h;have d:(⟨#[39]⟩++t++⟨#[39]⟩:Tb).1.toList++l=39 :: (t.1.toList++39 :: l):=by simp
  rw[d];unfold Ej;rw[Yae (by simp[Lib.hasPrefix,List.isPrefixOf])];simp only[X6,WE];rw[Dh (bS i).1];simp only[if_true,Ju];congr 2
  rcases a with rfl|⟨r,rfl⟩
  ·rfl
  simp[Lib.trimPrefix,Lib.hasPrefix,List.isPrefixOf]
 rw[Yad b] at h;cases h
def mmL(b:Bool):List UInt8:=(Fa b Qn jI).1.toList
theorem tH(b:Bool):O8 (mmL b):=by cases b <;> (unfold O8 mmL;decide)
theorem AEI(b:Bool):decide (mmL b=dS)=b:=by cases b <;> decide
def Ft(c:Aj):List UInt8:=itoa c.1++32 :: (c.2.1.1.toList++32 :: (itoa c.2.2.1++32 :: (mmL c.2.2.2.1++32 :: (E7 c.2.2.2.2.1 c.2.2.2.2.2.1 c.2.2.2.2.2.2).1.toList)))
theorem oJ(c:Aj):(B9 c).1.toList=Ft c:=by simp[B9,Fe,Lib.join,List.intercalate,Ft,mmL,Bm]
structure ADD(c:Aj):Prop where
 ok:Ib c
 may:Ko c=true
theorem ADD.parts(h:ADD c):Bx c.2.1=true/\A9 c.2.2.2.2.1 c.2.2.2.2.2.1 c.2.2.2.2.2.2=true:=by have:=h.may;simp only[Ko,Bv,Cm,XA] at this;exact⟨this.2.2.1.2,this.2.2.2.1⟩
theorem Hb{x y:List UInt8}(h:(32:UInt8) ∉ x):Aw (x++32 :: y)=y:=by unfold Aw;rw[Dh h]
theorem Sq(h:ADD c)(q:yA l):ALP (Ft c++l)=some (c,l.tail):=by
 obtain⟨f,g⟩:=h.parts;have m:=(Ge f).1;obtain⟨c1,i,a,b,j,d,k⟩:=c
 have e:Ft (c1,i,a,b,j,d,k)++l=itoa c1++32 :: (i.1.toList++32 :: (itoa a++32 :: (mmL b++32 :: ((E7 j d k).1.toList++l)))):=by simp[Ft]
 have n:=(Fw c1).n32;have o:=(Fw a).n32;have p:=(tH b).n32;have r:Lu c1:=h.ok.id;have s:Lu a:=h.ok.kind;have t:Lu d:=h.ok.num;unfold ALP;rw[e,Hb n,Hb m.n32,Hb o,Hb p,Dh n,Dh o,Dh m.n32,Dh p];simp only;rw[I7 r,I7 s,nA g t q];simp only[XF,Option.map_some,Ju,AEI]
theorem zH(c:Aj):Ft c≠[]:=by unfold Ft;intro e;have:=congrArg List.length e;simp at this
theorem Q5:∀{l:List Aj},l≠[]->(∀c∈l,ADD c)->Dg (Lib.join (l.map Ft) [59])=some l
 | [],h,_=>absurd rfl h
 | [c],_,h=>by
   have e:Lib.join ([c].map Ft) [59]=Ft c++[]:=by simp[Lib.join]
   rw[e,Jv (by simpa using zH c) (Sq (h c (by simp)) (.inl rfl))];rw[show ([]:List UInt8).tail=[] from rfl,Kq];rfl
 | c :: d :: l,_,h=>by
   have e:Lib.join ((c :: d :: l).map Ft) [59]=Ft c++59 :: Lib.join ((d :: l).map Ft) [59]:=by simp[Lib.join]
   rw[e,Jv (by simp) (Sq (h c (by simp)) (.inr ⟨_,rfl⟩))];rw[List.tail_cons,Q5 (by simp) (λx a=>h x (by simp[a]))];rfl
theorem Xw:∀{l:List Int},(∀x∈l,Lu x)->Dr (l.map itoa)=some l
 | [],_=>rfl
 | n :: l,h=>by rw[WN,Dr,I7 (h n (by simp)),Xw (λx a=>h x (by simp[a]))];rfl
theorem oO{l:List Int}(a:l≠[])(h:∀x∈l,Lu x):L1 (Lib.join (l.map itoa) [44])=some l:=by
 unfold L1
 rw[X3 (by simpa using a) (λx b=>by obtain⟨n,_,rfl⟩:=List.mem_map.1 b;exact(Fw n).n44),Xw h]
theorem gE(xs:List Tb)(sep:Tb):(Fe xs sep).1.toList=Lib.join (xs.map (·.data.toList)) sep.1.toList:=by simp[Fe]
theorem Na(n:Int):(Bm n).1.toList=itoa n:=by simp[Bm]
def Xf(a:ADV):List UInt8 :=
 if a.1=1 then ADF++32 :: (a.2.1.1.toList++32 :: itoa a.2.2.1)
 else if a.1=2 then P4++32 :: a.2.1.1.toList
 else if a.1=3 then lA++32 :: (a.2.1.1.toList++32 :: Lib.join (a.2.2.2.1.map itoa) [44])
 else P3++32 :: (itoa a.2.2.2.2.2++32 :: Lib.join (a.2.2.2.2.1.map Ft) [59])
theorem AAd(a:ADV):(F3 a).1.toList=Xf a:=by
 unfold F3 Xf;split
 ·simp[Na,ADF]
 split
 ·simp[P4]
 split
 ·simp[gE,lA,WQ,Function.comp_def,Na]
 simp[gE,P3,WQ,Function.comp_def,Na,oJ]
theorem G4{n k:Nat}{x:Int}(h:Mm p r n k x=true):p=bA []/\r=0/\n=0/\k=0/\x=0:=by simp only[Mm,XA,beq_iff_eq] at h;obtain⟨a,b,d,e,c⟩:=h;exact⟨toList_inj (by simpa[bA,ByteArray.toList_eq] using a),b,by omega,by omega,c⟩
theorem fJ{l:List Aj}(h:Be l y=true)(b:∀x∈l,Ib x):l≠[]/\∀c∈l,ADD c:=by have a:=(I9 l y).1 h;refine⟨λe=>?_,λc hc'=>⟨b c hc',(Ou c).2 (a.2.2.1 c hc').1⟩⟩;have:=a.1;rw[e] at this;simp at this
theorem AFt:(32:UInt8) ∉ ADF:=by decide
theorem kQ:(32:UInt8) ∉ P4:=by decide
theorem AAn:(32:UInt8) ∉ lA:=by decide
theorem l6:(32:UInt8) ∉ P3:=by decide
theorem oN(h:Ch a=true)(l:Fh a):Co (Xf a)=some a:=by
 obtain⟨k,p,r,m,cl,n⟩:=a;unfold Ch at h;unfold Xf;simp only at h ⊢
 by_cases h1:k=1
 ·subst h1
  simp only[if_true,XA] at h ⊢;obtain⟨g,d⟩:=h;obtain⟨_,_,e,f,rfl⟩:=G4 d;have b:m=[]:=Yag.1 e;have c:cl=[]:=Yag.1 f;subst b c;have i:Bx p=true:=by simp only[rfB,XA] at g;exact g.1
  unfold Co;rw[Dh AFt,Hb AFt,Dh (Ge i).1.n32];simp only[if_true];have j:Lu r:=l.qj;rw[I7 j];simp[Ju]
 rw[Yad h1] at h ⊢
 by_cases g:k=2
 ·subst g
  simp only[if_true,XA] at h ⊢;obtain⟨i,d⟩:=h;obtain⟨_,rfl,e,f,rfl⟩:=G4 d;have b:m=[]:=Yag.1 e;have c:cl=[]:=Yag.1 f;subst b c;unfold Co;rw[Dh kQ,Hb kQ,Qa (Ge i).1.n32];simp only;rw[Yad (by decide),Yae trivial,Ju]
 rw[Yad g] at h ⊢
 by_cases d:k=3
 ·subst d
  simp only[if_true,XA] at h ⊢;obtain⟨⟨i,j⟩,d⟩:=h;obtain⟨_,rfl,_,f,rfl⟩:=G4 d;have c:cl=[]:=Yag.1 f;subst c
  have s:m≠[]:=by rintro rfl;simp[Dj] at j
  unfold Co;rw[Dh AAn,Hb AAn,Dh (Ge i).1.n32];simp only;rw[Yad (by decide),Yad (by decide),Yae trivial,oO s l.qv,Ju];rfl
 rw[Yad d] at h ⊢
 by_cases h4:k=4
 ·subst h4
  simp only[if_true,XA] at h ⊢;obtain⟨j,d⟩:=h;obtain⟨rfl,rfl,e,_,_⟩:=G4 d;have b:m=[]:=Yag.1 e;subst b;obtain⟨q,o⟩:=fJ j l.qz;have t:Lu n:=l.next;unfold Co;rw[Dh l6,Hb l6,Dh (Fw n).n32];simp only;rw[Yad (by decide),Yad (by decide),Yad (by decide),Yae trivial,I7 t,Q5 q o];rfl
 rw[Yad h4] at h;cases h
theorem oF{c s:UInt8}(a:c≠s):∀{l:List (List UInt8)},(∀x∈l,c ∉ x)->c ∉ Lib.join l [s]
 | [],_=>by simp[Lib.join,List.intercalate]
 | [x],h=>by simpa[Lib.join] using h x (by simp)
 | x :: y :: l,h=>by
   have e:Lib.join (x :: y :: l) [s]=x++s :: Lib.join (y :: l) [s]:=by simp[Lib.join]
   rw[e];simp only[XI,XP,not_or];exact⟨h x (by simp),a,oF a (λz b=>h z (by simp[b]))⟩
theorem AGx{t:Tb}(h:A9 k n t=true):(10:UInt8) ∉ (E7 k n t).1.toList:=by
 unfold A9 at h;unfold E7;split
 ·decide
 rename_i h0;rw[Yad h0] at h;split
 ·rw[Na];exact(Fw n).n10
 rename_i h1;rw[Yad h1] at h;split
 ·rename_i h2
  rw[Yae h2,XA] at h;simp only[AER,XI,not_or];exact⟨⟨by decide,(bS h.2).2⟩,by decide⟩
 decide
theorem AHs(h:ADD c):(10:UInt8) ∉ Ft c:=by obtain⟨a,b⟩:=h.parts;unfold Ft;simp only[XI,XP,not_or];exact⟨(Fw _).n10,by decide,(Ge a).1.n10,by decide,(Fw _).n10,by decide,(tH _).n10,by decide,AGx b⟩
theorem AFo(h:Ch a=true)(f:Fh a):(10:UInt8) ∉ Xf a:=by
 obtain⟨k,p,r,m,cl,g⟩:=a;unfold Ch at h;unfold Xf;simp only at h ⊢
 by_cases h1:k=1
 ·rw[Yae h1] at h ⊢
  simp only[XA,rfB] at h;simp only[XI,XP,not_or];exact⟨by decide,by decide,(Ge h.1.1).1.n10,by decide,(Fw _).n10⟩
 rw[Yad h1] at h ⊢
 by_cases h2:k=2
 ·rw[Yae h2] at h ⊢
  simp only[XA] at h;simp only[XI,XP,not_or];exact⟨by decide,by decide,(Ge h.1).1.n10⟩
 rw[Yad h2] at h ⊢
 by_cases h3:k=3
 ·rw[Yae h3] at h ⊢
  simp only[XA] at h;simp only[XI,XP,not_or]
  exact⟨by decide,by decide,(Ge h.1.1).1.n10,by decide,oF (by decide) (λx d=>by obtain⟨n,_,rfl⟩:=List.mem_map.1 d;exact(Fw n).n10)⟩
 rw[Yad h3] at h ⊢
 by_cases h4:k=4
 ·rw[Yae h4] at h
  simp only[XA] at h;obtain⟨_,e⟩:=fJ h.1 f.qz;simp only[XI,XP,not_or]
  exact⟨by decide,by decide,(Fw _).n10,by decide,oF (by decide) (λx d=>by obtain⟨c,b,rfl⟩:=List.mem_map.1 d;exact AHs (e c b))⟩
 rw[Yad h4] at h;cases h
theorem Uv:∀{l:List ADV},(∀a∈l,Ch a=true/\Fh a)->Cp (l.map Xf)=some l
 | [],_=>rfl
 | a :: l,h=>by rw[WN,Cp,oN (h a (by simp)).1 (h a (by simp)).2,Uv (λx b=>h x (by simp[b]))];rfl
def bE:List UInt8:=[99,111,109,109,105,116]
def rbL(b:Bool):List UInt8:=(Fa b Ov Oy).1.toList
theorem AEf(b:Bool):O8 (rbL b):=by cases b <;> (unfold O8 rbL;decide)
theorem ACF(b:Bool):decide (rbL b=gX)=b:=by cases b <;> decide
theorem vU(b:Tb)(a:Bool):(I4 b a).1.toList=bE++32 :: (b.1.toList++32 :: rbL a)++[10]:=by simp[I4,bE,rbL]
theorem n9{c:Dn}(h:Cv c=true)(i:∀a∈c.2.2,Fh a):Js (Nn c)=some c:=by
 obtain⟨f,e,l⟩:=c;simp only[Cv,XA,List.all_eq_true] at h;obtain⟨m,g⟩:=h;have d:=(Ge m).1
 have j:Nn (f,e,l)=(bE++32 :: (f.1.toList++32 :: rbL e))++10 :: (l.map Xf).flatMap (λx=>x++[10]):=by simp[Nn,vU,Ed,AAd,List.flatMap_map]
 have k:(10:UInt8) ∉ bE++32 :: (f.1.toList++32 :: rbL e):=by simp only[XI,XP,not_or];exact⟨by decide,by decide,d.n10,by decide,(AEf e).n10⟩
 unfold Js;rw[j,Dh k];simp only
 rw[Sx (λx n=>by obtain⟨a,b,rfl⟩:=List.mem_map.1 n;exact AFo (g a b) (i a b)),Uv (λa b=>⟨g a b,i a b⟩),Hb (by decide),Dh d.n32]
 simp[Ju,ACF]
theorem Hh(h:Bx s=true):s.size<=16:=by simp only[Bx,XA,decide_eq_true_eq] at h;exact h.2.1
theorem eJ{t:Tb}(h:t.toList.isEmpty=true):t.size<=0:=by rw[List.isEmpty_iff,ByteArray.toList_eq] at h;show t.1.size<=0;rw[<-WH,h];exact Y' _
theorem gA{t:Tb}(h:A9 k n t=true):t.size<=40:=by
 unfold A9 at h;split at h
 ·simp only[XA] at h;have:=eJ h.2;omega
 split at h
 ·have:=eJ h;omega
 split at h
 ·simp only[XA,Vb,decide_eq_true_eq] at h;exact h.2.1
 cases h
theorem AIu(h:Ko c=true)(a:Vp c):Ib c:=by simp only[Ko,Bv,Cm,XA] at h;have b:=Hh h.2.2.1.2;have d:=gA h.2.2.2.1;exact⟨a.1,by omega,a.2.1,a.2.2,by omega⟩
theorem Qb(h:Ch a=true)(b:Ints a):Fh a:=by
 unfold Ch at h;split at h
 ·simp only[XA,rfB] at h
  obtain⟨_,_,e,d,_⟩:=G4 h.2;have:=Hh h.1.1;exact⟨by omega,b.qj,b.qv,by omega,(λx c=>by rw[Yag.1 d] at c;cases c),by omega,b.next⟩
 split at h
 ·simp only[XA] at h
  obtain⟨_,_,e,d,_⟩:=G4 h.2;have:=Hh h.1;exact⟨by omega,b.qj,b.qv,by omega,(λx c=>by rw[Yag.1 d] at c;cases c),by omega,b.next⟩
 split at h
 ·simp only[XA,Dj] at h
  obtain⟨_,_,_,d,_⟩:=G4 h.2;have:=Hh h.1.1;have:=fO 60 h.1.2.2;exact⟨by omega,b.qj,b.qv,by omega,(λx c=>by rw[Yag.1 d] at c;cases c),by omega,b.next⟩
 split at h
 ·simp only[XA] at h
  obtain⟨g,_,e,_,_⟩:=G4 h.2;have f:=(I9 _ _).1 h.1;refine⟨by rw[g];simp[bA,ByteArray.size],b.qj,b.qv,by omega,λx c=>AIu ((Ou x).2 (f.2.2.1 x c).1) (b.qz x c),by have:=f.2.1;omega,b.next⟩
 cases h
theorem Im:Lu 0:=⟨by decide,by decide⟩
theorem zB{s:List UInt8}{v:AIE}{b:List UInt8}(h:Ej s=some (v,b)):Lu v.2.1/\v.2.2.size<=s.length:=by
 unfold Ej at h;split at h
 ·split at h
  ·cases h
   refine⟨Im,?_⟩;have a:=Gv 39 (s.drop 1);rw[X2] at a;show (bA _).size<=_;rw[Cz];omega
  cases h
 split at h
 ·cases h;exact⟨Im,by show (bA []).size<=_;rw[Cz];exact XK _⟩
 cases hn:numOf (Ao 59 s).1 with
 | none=>rw[hn] at h;cases h
 | some n=>rw[hn] at h;cases h;exact⟨Hd hn,by show (bA []).size<=_;rw[Cz];exact XK _⟩
theorem AAj{s:List UInt8}{b:List UInt8}(h:ALP s=some (c,b)):Vp c/\c.2.1.size<=s.length/\c.2.2.2.2.2.2.size<=s.length:=by
 obtain⟨i,k,v,a,d,e,rfl⟩:=Va h;have q:=zB e;have f:=Gi s;have g:=Gi (Aw s);have j:=Gi (Aw (Aw s));have l:=Gi (Aw (Aw (Aw s)));have m:=Gv 32 (Aw s);refine⟨⟨Hd a,Hd d,q.1⟩,?_,?_⟩
 ·show (bA _).size<=_
  rw[Cz];omega
 have:=q.2;show v.2.2.size<=_;omega
theorem Oq:∀(n:Nat){s:List UInt8}{l:List Aj},s.length<=n->Dg s=some l->∀x∈l,Vp x/\x.2.1.size<=n/\x.2.2.2.2.2.2.size<=n
 | 0,s,l,hn,h=>by have:s=[]:=Yag.1 (by omega);subst this;rw[Kq] at h;cases h;intro x a;cases a
 | n+1,s,l,hn,h=>by
   by_cases e:s=[]
   ·subst e
    rw[Kq] at h;cases h;intro x a;cases a
   cases hc:ALP s with
   | none=>rw[Qt e hc] at h;cases h
   | some p=>
     obtain⟨c,b⟩:=p;rw[Jv e hc] at h;have d:=Ru hc;cases hb:Dg b with
     | none=>rw[hb] at h;cases h
     | some m=>
       rw[hb] at h;cases h;intro x a
       rcases List.mem_cons.1 a with rfl|a
       ·have:=AAj hc
        exact⟨this.1,by omega,by omega⟩
       have:=Oq n (by omega) hb x a;exact⟨this.1,by omega,by omega⟩
theorem kH:∀{l:List (List UInt8)}{m:List Int},Dr l=some m->m.length=l.length/\∀x∈m,Lu x
 | [],m,h=>by simp only[Dr] at h;cases h;exact⟨rfl,λx a=>by cases a⟩
 | y :: l,m,h=>by
   simp only[Dr] at h;cases hy:numOf y with
   | none=>rw[hy] at h;cases h
   | some n=>
     rw[hy] at h;simp only[XF] at h;cases hr:Dr l with
     | none=>rw[hr] at h;cases h
     | some k=>
       rw[hr] at h;cases h;have:=kH hr;refine⟨by simp[this.1],λx a=>?_⟩
       rcases List.mem_cons.1 a with rfl|a
       ·exact Hd hy
       exact this.2 x a
theorem nF{a:List UInt8}(h:Co a=some x):Ints x:=by
 unfold Co at h;split at h
 ·cases hn:numOf (Ao 32 (Aw a)).2.1 with
  | none=>rw[hn] at h;cases h
  | some n=>rw[hn] at h;cases h;exact⟨Hd hn,(λ_ q=>by cases q),(λ_ q=>by cases q),Im⟩
 split at h
 ·cases h;exact⟨Im,(λ_ q=>by cases q),(λ_ q=>by cases q),Im⟩
 split at h
 ·cases hn:L1 (Ao 32 (Aw a)).2.1 with
  | none=>rw[hn] at h;cases h
  | some n=>rw[hn] at h;cases h;exact⟨Im,(kH hn).2,(λ_ q=>by cases q),Im⟩
 split at h
 ·cases hn:numOf (Ao 32 (Aw a)).1 with
  | none=>rw[hn] at h;cases h
  | some n=>
    rw[hn] at h;simp only[XF] at h;cases hc:Dg (Ao 32 (Aw a)).2.1 with
    | none=>rw[hc] at h;cases h
    | some l=>rw[hc] at h;cases h;exact⟨Im,(λ_ q=>by cases q),(λy hy=>(Oq _ (Y' _) hc y hy).1),Hd hn⟩
 cases h
theorem dI(c:UInt8):∀s:List UInt8,((Ao c s).2.2=true/\(Ao c s).1.length+1+(Ao c s).2.1.length=s.length)\/((Ao c s).2.2=false/\(Ao c s).2.1=[])
 | []=>.inr ⟨rfl,rfl⟩
 | b :: l=>by
   have e:=dI c l;unfold Ao;split
   ·left;exact⟨rfl,by simp;omega⟩
   rcases e with⟨a,d⟩|⟨a,d⟩
   ·left;exact⟨a,by simp only[XD];omega⟩
   right;exact⟨a,d⟩
theorem uN:Co []=none:=by decide
theorem jR:∀(n:Nat){t:List UInt8}{A:List ADV},t.length<=n->Cp (Dp t)=some A->2*A.length<=t.length+1/\∀a∈A,∃x:List UInt8,x.length<=t.length/\Co x=some a
 | 0,t,A,hn,h=>by have:t=[]:=Yag.1 (by omega);subst this;rw[Jf] at h;simp only[Cp] at h;cases h;exact⟨by simp,λa b=>by cases b⟩
 | n+1,t,A,hn,h=>by
   by_cases e:t=[]
   ·subst e
    rw[Jf] at h;simp only[Cp] at h;cases h;exact⟨by simp,λa b=>by cases b⟩
   rw[J1 e] at h;simp only[Cp] at h;have k:=Un 10 e;have j:=Gv 10 t;cases hy:Co (Ao 10 t).1 with
   | none=>rw[hy] at h;cases h
   | some y=>
     rw[hy] at h;simp only[XF] at h;cases hr:Cp (Dp (Ao 10 t).2.1) with
     | none=>rw[hr] at h;cases h
     | some M=>
       rw[hr] at h;cases h;have i:=jR n (by omega) hr;have c:(Ao 10 t).1≠[]:=λe0=>by rw[e0,uN] at hy;cases hy
       have g:0<(Ao 10 t).1.length:=List.length_pos_iff.2 c;refine⟨?_,λa b=>?_⟩
       ·have:=i.1
        simp only[XD]
        rcases dI 10 t with⟨_,f⟩|⟨_,f⟩
        ·omega
        rw[f] at this;simp only[XL] at this;have:0<t.length:=List.length_pos_iff.2 e;omega
       rcases List.mem_cons.1 b with rfl|b
       ·exact⟨_,by omega,hy⟩
       obtain⟨x,l,d⟩:=i.2 a b;exact⟨x,by omega,d⟩
theorem AAp:∀(n:Nat){s:List UInt8}{m:List Int},s.length<=n->Dr (Dd 44 s)=some m->2*m.length<=s.length+1
 | n,s,m,hn,h=>by
   rw[Dd] at h
   rcases dI 44 s with⟨b,c⟩|⟨b,c⟩
   ·rw[dif_pos b] at h
    simp only[Dr] at h;cases hy:numOf (Ao 44 s).1 with
    | none=>rw[hy] at h;cases h
    | some y=>
      rw[hy] at h;simp only[XF] at h;have a:0<(Ao 44 s).1.length:=List.length_pos_iff.2 (gC hy);cases hr:Dr (Dd 44 (Ao 44 s).2.1) with
      | none=>rw[hr] at h;cases h
      | some k=>
        rw[hr] at h;cases h;cases n with
        | zero=>omega
        | succ n=>have:=AAp n (by omega) hr;simp only[XD];omega
   rw[dif_neg (by rw[b];simp)] at h;simp only[Dr] at h;cases hy:numOf s with
   | none=>rw[hy] at h;cases h
   | some y=>rw[hy] at h;cases h;have a:0<s.length:=List.length_pos_iff.2 (gC hy);simp only[XD,XL];omega
theorem Ng{M:List Int}{C:List Aj}(d:p.size<=1000000)(c:M.length<=600000)(a:∀x∈C,x.2.1.size<=1000000/\x.2.2.2.2.2.2.size<=1000000):pM (k,p,r,M,C,y) :=
 ⟨by show p.size<=_;unfold maxLen;omega,c,λx b=>⟨by have:=(a x b).1;unfold maxLen;omega,by have:=(a x b).2;unfold maxLen;omega⟩⟩
theorem nV{a:List UInt8}(d:a.length<=1000000)(h:Co a=some x):pM x:=by
 have e:=Gi a;have f:=Gv 32 (Aw a);have b:(bA (Ao 32 (Aw a)).1).size<=1000000:=by rw[Cz];omega
 unfold Co at h;split at h
 ·cases hn:numOf (Ao 32 (Aw a)).2.1 with
  | none=>rw[hn] at h;cases h
  | some n=>rw[hn] at h;cases h;exact Ng b (XK _) (λ_ q=>by cases q)
 split at h
 ·cases h;exact Ng b (XK _) (λ_ q=>by cases q)
 split at h
 ·cases hn:L1 (Ao 32 (Aw a)).2.1 with
  | none=>rw[hn] at h;cases h
  | some n=>rw[hn] at h;cases h;have:=AAp _ (Y' _) hn;exact Ng b (by omega) (λ_ q=>by cases q)
 split at h
 ·cases hn:numOf (Ao 32 (Aw a)).1 with
  | none=>rw[hn] at h;cases h
  | some n=>
    rw[hn] at h;simp only[XF] at h;cases hc:Dg (Ao 32 (Aw a)).2.1 with
    | none=>rw[hc] at h;cases h
    | some l=>rw[hc] at h;cases h;exact Ng (by rw[Cz];exact XK _) (XK _) (λy c=>(Oq 1000000 (by omega) hc y c).2)
 cases h
theorem uG(j:l.length<=1000000):∀d e A,Js l=some (d,e,A)->A.length<=600000/\d.size<=maxLen/\∀a∈A,pM a/\(Ch a=true->Fh a):=by
 intro d e A h;unfold Js at h;have m:=Gv 10 l;have n:=Gi (Ao 10 l).1;have o:=Gv 32 (Aw (Ao 10 l).1);cases hr:Cp (Dp (Ao 10 l).2.1) with
 | none=>rw[hr] at h;cases h
 | some M=>rw[hr] at h;cases h;obtain⟨i,f⟩:=jR _ (Y' _) hr;refine⟨by omega,by rw[Cz];unfold maxLen;omega,λa g=>?_⟩;obtain⟨x,k,b⟩:=f a g;exact⟨nV (by omega) b,λc=>Qb c (nF b)⟩
theorem ADU(s:Tb)(w:Tw)(a:s.size<=1000000)(b:Ik w)(d:Lw w)(c:Jp w):Zc 97 #[Zt s] w (Kx s.1.toList s w) :=
 jF ACP s w a b d c (uG (by rw[Gm];exact a))
theorem AOv(a:Int)(n:Nat)(h:0<n)(f:n<=1000000)(w:Tw):
 Zc 7 #[Zi a,Zi n] w λe g=>∃r:Nat,r<n/\e=Zr (Zi r)/\g=w:=by
 have i:(0:Int)<=IntKind.u64.wrap a/\IntKind.u64.wrap a<18446744073709551616:=by rw[IntKind.wrap_u64];omega
 have j:((n:Int)==0)=false:=by simp;omega
 have b:¬(n:Int)=0:=by omega
 go_enter func7,ntmps7;go_wp2;go_ret;have c:0<=IntKind.u64.wrap a % (n:Int):=Int.emod_nonneg _ b;have d:IntKind.u64.wrap a % (n:Int)<(n:Int):=Int.emod_lt_of_pos _ (by omega);refine⟨(IntKind.u64.wrap a % (n:Int)).toNat,by omega,Bd ?_,rfl⟩;unfold wrap64;omega
theorem ACx{s:Tb}{b:Bool}{A:List ADV}(h:Cv (s,b,A)=true)(c:∀a∈A,Fh a)(i:A.length<=12):0<(C6 (s,b,A)).size/\(C6 (s,b,A)).size<=1000000:=by
 have e:(C6 (s,b,A)).size=(I4 s b).size+(Ed A).length:=by show (Nn (s,b,A)).toArray.size=_;rw[XN,Nn,XH,Gm]
 simp only[Cv,XA] at h;have d:=Ri b (XC (Hh h.1) (by decide));have f:=fC c
 have g:0<(I4 s b).size:=by unfold I4;have e9:(⟨#[10]⟩:Tb).size=1:=rfl;rw[Ea,e9];omega
 omega
def AAe(i:Nat):List UInt8:=[108,111,103,47,48,48,48,48,UInt8.ofNat (48+i / 10),UInt8.ofNat (48+i % 10)]
def Ek(i:Nat):ByteArray:=⟨(AAe i).toArray⟩
theorem AGt:((List.range 100).all λi=>(List.range 100).all λj=>!(AAe i==AAe j) || (i==j))=true:=by kernel_rfl
theorem key_inj{i j:Nat}(c:i<100)(d:j<100)(h:Ek i=Ek j):i=j:=by
 have a:=List.all_eq_true.1 (List.all_eq_true.1 AGt i (List.mem_range.2 c)) j (List.mem_range.2 d)
 have e:AAe i=AAe j:=by have:=congrArg (λb:Tb=>b.1.toList) h;simpa[Ek] using this
 rw[e] at a;simpa using a
theorem qI(i:Nat):(Ek i).size=10:=rfl
theorem AEp(i:Nat):itoa (i:Int)=decDigits i:=by unfold itoa;rw[Yad (by omega)];simp
def AJl(i:Int):ByteArray:=⟨#[108,111,103,47]⟩++⟨(Lib.repeatL [48] (6-(Bm i).size)).toArray⟩++Bm i
theorem AD1{i:Nat}(h:i<100):AJl (i:Int)=Ek i/\(Bm (i:Int)).size<=2:=by
 unfold AJl Bm;rw[AEp]
 by_cases h1:i<10
 ·rw[decDigits_one h1]
  have a:i / 10=0:=by omega
  have b:i % 10=i:=by omega
  unfold Ek AAe;rw[a,b];exact⟨rfl,by show Array.size _<=2;simp⟩
 rw[decDigits_two h1 h];exact⟨rfl,by show Array.size _<=2;simp⟩
theorem ABK(i:Nat)(w:Tw)(h:i<100)(o:Jp w):Zc 58 #[Zi i] w λe q=>e=Zr (Zt (Ek i))/\Zb w q:=by
 have d:=Aa (Mx (i:Int) w ⟨by omega,by omega⟩ o);obtain⟨g,n⟩:=AD1 h;have a:=Aa g;unfold AJl at a;obtain⟨r,j⟩:∃r:Nat,r=6-(Bm (i:Int)).size:=⟨_,rfl⟩;rw[<-j] at a;have l:(6:Int)-((Bm (i:Int)).size:Int)=(r:Int):=by omega
 have m:(0:Int)<=(r:Int):=by omega
 have f:=Aa (λW=>Any.strings_Repeat lays105 Qbx ⟨#[48]⟩ r W (by omega) (by show 1*r<=_;omega));clear j g;generalize Bm (i:Int)=x at *;have s:x.size<=2:=n;go_enter func58,ntmps58;go_wp2_with fail;apply d.o.mono;rintro e u⟨rfl,b⟩;go_wp2_with fail;refine(f.o _).mono ?_;rintro e v⟨rfl,c⟩
 have t:(⟨(Lib.repeatL [48] r).toArray⟩:Tb).size<=6:=by show Array.size _<=6;rw[XN,Lib.repeatL_length];simp;omega
 have k:(⟨#[108,111,103,47]⟩:Tb).size=4:=rfl;generalize (⟨(Lib.repeatL [48] r).toArray⟩:Tb)=z at *;have p:(⟨#[108,111,103,47]⟩++z:Tb).size<=10:=by rw[Ea,k];omega
 clear d f;go_wp2_with fail;go_ret;exact⟨by rw[a.o];rfl,Below.Ap b c⟩
namespace B
variable{v:Tv}{W w:Tw}{n:Nat}{D:Td}{l:List Int}
structure A0(S:Nat->Prop)(w w':World):Prop where
 os:w'.os=w.os
 tape:w'.tape=w.tape
 output:w'.output=w.output
 size:w.1.size<=w'.1.size
 block:∀k,k<w.1.size->¬S k->w'.1[k]? = w.1[k]?
theorem A0.refl(S:Nat->Prop)(w:Tw):A0 S w w:=⟨rfl,rfl,rfl,Y' _,λ_ _ _=>rfl⟩
theorem A0.trans{S T:Nat->Prop}{a b c:Tw}(h:A0 S a b)(k:A0 T b c)(f:∀i,i<a.1.size->T i->S i):A0 S a c :=
 ⟨k.os.trans h.os,k.tape.trans h.tape,k.output.trans h.output,XC h.size k.size,λi d e=>(k.block i (Ya d h.size) (λht=>e (f i d ht))).trans (h.block i d e)⟩
theorem A0.mono{S T:Nat->Prop}{a b:Tw}(h:A0 S a b)(e:∀i,i<a.1.size->S i->T i):A0 T a b :=
 ⟨h.os,h.tape,h.output,h.size,λi c d=>h.block i c (λhs=>d (e i c hs))⟩
theorem A0.Ba{S:Nat->Prop}{a b:Tw}(h:Zb a b):A0 S a b:=⟨h.os,h.tape,h.output,h.size,λi c _=>h.block i c⟩
theorem A0.below{S:Nat->Prop}{B:Nat}{w0 a b:Tw}(c:Below B w0 a)(h:A0 S a b)(e:B<=a.1.size)(d:∀i,S i->B<=i):Below B w0 b :=
 c.trans ⟨h.os,h.tape,h.output,h.size,λi f=>h.block i (by omega) (λhs=>by have:=d i hs;omega)⟩
theorem A0.cell{S:Nat->Prop}{a b:Tw}(h:A0 S a b){p:Addr}{v:Tv}(c:a.cell? p=some v)(d:¬S p.block):b.cell? p=some v :=
 (World.cell?_of_block (h.block p.block (XX a p c) d)).trans c
theorem A0.alloc{S:Nat->Prop}{a b:Tw}(h:A0 S a b)(o:Obj):A0 S a (b.alloc o) :=
 h.trans (T:=λ_=>False) ⟨rfl,rfl,rfl,by simp,λk hk _=>XE _ _ _ hk⟩ (λ_ _ h=>h.elim)
theorem A0.setCell{S:Nat->Prop}{a b:Tw}(h:A0 S a b){p:Addr}(c:p.block<a.1.size->S p.block)(u:Tv):A0 S a (b.setCell p u) :=
 h.trans (T:=λk=>k=p.block) ⟨rfl,rfl,rfl,by simp[World.setCell],λk _ hk=>Wb _ _ _ _ hk⟩ (λ_ hi e=>e ▸ c (e ▸ hi))
theorem A0.AFb{S:Nat->Prop}{a b c:Tw}{m:Nat}(h:A0 S a b)(g:b.mapTurned c m)(f:m<a.1.size->S m):A0 S a c:=by have d:=g.grown;exact h.trans (T:=λk=>k=m) ⟨d.os,d.tape,d.output,d.size,λk hk hn=>d.block k hk (λe=>hn (Yt e))⟩ (λi hi e=>e ▸ f (e ▸ hi))
theorem A0.grown{S:Nat->Prop}{a b c:Tw}{row:Option Nat}(h:A0 S a b)(d:b.grownBy c row)(f:∀m,row=some m->m<a.1.size->S m):A0 S a c :=
 h.trans (T:=λk=>row=some k) ⟨d.os,d.tape,d.output,d.size,λk hk hn=>d.block k hk (λe=>hn e.symm)⟩ (λi hi e=>f i e hi)
def Jd(v:Value):Option (DataW Unit×List MemPlace) :=
 match v with
 | .agg cs=>match cs.toList with
   | [.string s]=>if s.size<=maxLen then some (.lit (.string s.1.toList),[]) else none
   | _=>none
 | _=>none
theorem Wt{s:Tb}(h:s.size<=maxLen):Jd (.agg #[.string s])=some (.lit (.string s.1.toList),[]):=by simp[Jd,h]
theorem wC{z:Td×List MemPlace}(h:Jd v=some z):∃s:Tb,v=.agg #[.string s]/\z=(.lit (.string s.1.toList),[])/\s.size<=maxLen:=by
 unfold Jd at h;split at h
 ·rename_i cs
  split at h
  ·rename_i s hs
   split at h
   ·rename_i hl
    cases h;exact⟨s,by rw[<-Array.toArray_toList (xs:=cs),hs],rfl,hl⟩
   cases h
  cases h
 cases h
def lit(b:ByteArray):Lit:=.string b.1.toList
def Gw(b:ByteArray):DataW Unit:=.lit (.string b.1.toList)
theorem aS{a b:Tb}(h:Gw a=Gw b):a=b:=by unfold Gw at h;injection h with h;injection h with h;cases a;cases b;simp at h;simp[h]
theorem Jr{a b:Tb}(h:lit a=lit b):a=b:=by unfold lit at h;injection h with h;cases a;cases b;simp at h;simp[h]
theorem Wl:Keyed prog 9:=string_keyed underlying9
theorem Mh{b:Tb}(h:b.size<=maxLen):keyOf prog 9 (.string b)=some (lit b):=WideMaps.keyOf_string_mk underlying9 h
def Th(w:World)(mv:Value)(n:Nat)(D:DataW Unit):Prop:=(mv=.map none/\D=.map [])\/∃m,mv=.map (some m)/\w.ownsMap prog 9 Jd m n D
def Fs(w:World)(d:Value)(fs:List Int):Prop:=∃a c,d=.slice a fs.length c/\fs.length<=c/\(fs≠[]->∃b off,a=some ⟨b,off,none⟩/\∀(j:Nat)x,fs[j]? = some x->w.cell? ⟨b,off+j,none⟩=some (Zi x))
def Bk(w:World)(bb:Nat)(mv a:Value):Prop:=w.1[bb]? = some (.cells #[mv,a] 28 (0,0))
theorem Bk.c0{bb:Nat}{mv v:Tv}(h:Bk w bb mv v):w.cell? (Zd bb 0)=some mv:=by unfold Bk at h;simp[World.cell?,h]
theorem Bk.c1{bb:Nat}{mv v:Tv}(h:Bk w bb mv v):w.cell? (Zd bb 1)=some v:=by unfold Bk at h;simp[World.cell?,h]
theorem Bk.f{bb:Nat}{mv v:Tv}(h:Bk w bb mv v)(i:Nat):w.frozen? (Zd bb i)=false:=by unfold Bk at h;simp[World.frozen?,h]
theorem Bk.lt{bb:Nat}{mv v:Tv}(h:Bk w bb mv v):bb<w.1.size:=XX w (Zd bb 0) h.c0
theorem Bk.keep{bb:Nat}{mv v:Tv}(h:Bk w bb mv v)(a:W.1[bb]? = w.1[bb]?):Bk W bb mv v:=a.trans h
theorem Bk.AKp{bb:Nat}{mv v:Tv}(h:Bk w bb mv v)(u:Tv):Bk (w.setCell (Zd bb 0) u) bb u v:=by unfold Bk at h ⊢;simp[World.setCell,WD,h]
theorem Bk.AEs{bb:Nat}{mv v:Tv}(h:Bk w bb mv v)(u:Tv):Bk (w.setCell (Zd bb 1) u) bb mv u:=by unfold Bk at h ⊢;simp[World.setCell,WD,h]
theorem Bk.alloc{w:Tw}{bb:Nat}{mv v:Tv}(h:Bk w bb mv v)(o:Obj):Bk (w.alloc o) bb mv v:=h.keep (XE _ _ _ h.lt)
theorem Fs.keep{u:Tv}{fs:List Int}(h:Fs w u fs)(i:∀p v,(∃x,v=Value.int .i64 x)->w.cell? p=some v->W.cell? p=some v):Fs W u fs:=by obtain⟨a,d,e,g,k⟩:=h;refine⟨a,d,e,g,λl=>?_⟩;obtain⟨b,off,f,c⟩:=k l;exact⟨b,off,f,λj x m=>i _ _ ⟨x,rfl⟩ (c j x m)⟩
theorem Fs.alloc{w:Tw}{v:Tv}{fs:List Int}(h:Fs w v fs)(o:Obj):Fs (w.alloc o) v fs:=h.keep λp _ _ a=>(Yp _ _ p (XX w p a)).trans a
theorem Th.alloc{w:Tw}{mv:Tv}{n:Nat}{D:Td}(h:Th w mv n D)(o:Obj):Th (w.alloc o) mv n D:=by
 rcases h with h|⟨m,e,a⟩
 ·exact .inl h
 exact .inr ⟨m,e,a.alloc _⟩
theorem Th.mono{w:Tw}{mv:Tv}{n n':Nat}{D:Td}(h:Th w mv n D)(b:n<=n'):Th w mv n' D:=by
 rcases h with h|⟨m,e,a⟩
 ·exact .inl h
 exact .inr ⟨m,e,a.mono b⟩
theorem Th.keep{mv:Tv}(h:Th w mv n D)(b:∀m,mv=.map (some m)->W.1[m]? = w.1[m]?):Th W mv n D:=by
 rcases h with h|⟨m,e,c⟩
 ·exact .inl h
 obtain⟨es,clock,a,r⟩:=c;exact .inr ⟨m,e,es,clock,(b m e).trans a,r⟩
theorem Th.lt{w:Tw}{mv:Tv}{n:Nat}{D:Td}(h:Th w mv n D){m:Nat}(e:mv=.map (some m)):m<w.1.size:=by
 rcases h with⟨h,_⟩|⟨c,a,b⟩
 ·rw[e] at h;cases h
 rw[e] at a;cases a;exact b.lt
theorem Th.ne{w:Tw}{mv:Tv}{n:Nat}{D:Td}(h:Th w mv n D){p:Addr}{v:Tv}(c:w.cell? p=some v):mv≠.map (some p.block):=by
 rcases h with⟨h,_⟩|⟨m,e,es,clock,b,_⟩
 ·rw[h];intro e;cases e
 rw[e];intro a;cases a;simp[World.cell?,b] at c
theorem Th.look{mv:Tv}(h:Th w mv n D){p:Tb}(b:p.size<=maxLen):
 ∃t:Tb,(Instr.lookup 26 mv (Zt p) true).run prog w=.ok (Zu #[Zg #[Zt t],Zo (Maps.has D (lit p))]) w/\D.atKey (lit p) (Gw ByteArray.empty)=Gw t:=by
 have c:∀W,(zeroValue 194).run prog W=.ok (Zg #[Zt ⟨#[]⟩]) W:=λW=>by kernel_rfl
 rcases h with⟨rfl,rfl⟩|⟨m,rfl,d⟩
 ·refine⟨⟨#[]⟩,?_,rfl⟩
  have:=Maps.look_nil (w:=w) true Wl underlying26 (c w) (Mh b);simpa[Maps.has] using this
 obtain⟨v,g,a,f⟩:=d.look_ok Wl underlying26 (c w) (zd:=Gw ByteArray.empty) (Wt (by decide)) (Mh b);obtain⟨s,rfl,e,_⟩:=wC f;exact⟨s,a,congrArg Prod.fst e⟩
section
variable (w : World) {ops : Array Oper} {rest : List Oper} {o : Oper} {a : Act} {Q : Exit → Act → World → Prop}
theorem Wv(h:o.guard=none)(m x:Operand)(f:o.op=Op.lookup 26 m x true)(n:Nat)(D:Td)(mv:Tv)(b:Tb)(j:a.eval m=mv)(k:a.eval x=Zt b)(g:Th w mv n D)(i:b.size<=maxLen)(hK:∀t:Tb,D.atKey (lit b) (Gw ByteArray.empty)=Gw t->wpList prog ops Q rest (a.put o.dst (Zu #[Zg #[Zt t],Zo (Maps.has D (lit b))])) w):
 wpList prog ops Q (o :: rest) a w:=by
 refine wpList_plain h λl d=>?_
 obtain⟨t,c,e⟩:=g.look i;unfold Oper.wp;simp[execOp,f,j,k,c,Result.andThen];exact d _ _ (hK t e)
end
theorem ABJ(bb:Nat)(mv:Tv)(w:Tw)(b:w.cell? (Zd bb 0)=some mv):
 Zc 100 #[Zp (some (Zd bb 0))] w λe a=>e=Zr mv/\a=w:=by
 go_enter func100,ntmps100;go_wp2;go_ret;exact⟨rfl,rfl⟩
theorem AGP(bb:Nat)(b:To)(a:Nat)(w:Tw)(d:w.cell? (Zd bb 1)=some (Zs b 0 a)):
 Zc 101 #[Zp (some (Zd bb 0))] w λe c=>e=Zr (Zi 0)/\c=w:=by
 go_enter func101,ntmps101;go_wp2;go_ret;exact⟨rfl,rfl⟩
theorem ADR(bb b off n a:Nat)(x:Int)(w:Tw)(g:w.cell? (Zd bb 1)=some (Zs (some (Zd b off)) (n+1) a))(i:w.frozen? (Zd bb 1)=false)(j:n+1<=a)(h:w.cell? (Zd b off)=some (Zi x)):
 Zc 101 #[Zp (some (Zd bb 0))] w λe f=>e=Zr (Zi x)/\∃c,(n≠0->c=some (Zd b (off+1)))/\f=w.setCell (Zd bb 1) (Zs c n (a-1)):=by
 go_enter func101,ntmps101;go_wp2
 ·go_ret
  exact⟨rfl,some (Zd b off),λd=>by omega,rfl⟩
 go_ret;exact⟨rfl,some (Zd b (off+1)),λ_=>rfl,rfl⟩
def Own(bb:Nat)(mv:Value)(k:Nat):Prop:=k=bb\/mv=.map (some k)
def Bu(w:World)(bb n:Nat)(D:DataW Unit)(fs:List Int)(mv a:Value):Prop:=Bk w bb mv a/\Th w mv n D/\Fs w a fs
theorem Fs.far{w:Tw}{bb:Nat}{mv v:Tv}{n:Nat}{D:Td}{fs:List Int}(f:Bk w bb mv v)(j:Th w mv n D)(i:Fs w v fs){p:Addr}{x:Int}(b:w.cell? p=some (Zi x)):p.block≠bb:=by
 intro e;unfold Bk at f;obtain⟨a,g,rfl,_⟩:=i
 have c:∀x,mv≠Zi x:=λx d=>by rcases j with⟨h,_⟩|⟨m,h,_⟩ <;> rw[h] at d <;> cases d
 obtain⟨r,o,q⟩:=p;have l:q=none:=World.cell?_spot b;subst l;simp only at e;subst e;simp only[World.cell?,f] at b
 match o with
 | 0=>simp at b;exact c _ b
 | 1=>simp at b
 | k+2=>simp at b
def Ur(e d:Value):Prop:=∀b off l c,d=.slice (some ⟨b,off,none⟩) (l+1) c->∃a f c0,e=.slice (some ⟨b,a,none⟩) (f+1) c0
theorem Ur.refl(a:Tv):Ur a a:=λ_ off l c e=>⟨off,l,c,e⟩
theorem AFS(bb n:Nat)(D:Td)(fs:List Int)(mv i:Tv)(w:Tw)(g:Bk w bb mv i)(t:Th w mv n D)(s:Fs w i fs):
 Zc 101 #[Zp (some (Zd bb 0))] w λe u=>e=Zr (Zi (fs.headD 0))/\∃o,Bu u bb n D fs.tail mv o/\A0 (λk=>k=bb) w u/\Ur i o:=by
 cases fs with
 | nil=>have v:=s;obtain⟨a,c,e,z,I⟩:=v;refine(AGP bb a c w (by have:=g.c1;rw[e] at this;exact this)).mono ?_;rintro e u⟨rfl,rfl⟩;exact⟨rfl,i,⟨g,t,s⟩,A0.refl _ _,Ur.refl _⟩
 | cons x fs=>
   have r:=@Fs.far w bb mv i n D (x :: fs) g t s;obtain⟨a,c,rfl,z,I⟩:=s;obtain⟨b,off,rfl,d⟩:=I (by simp);refine(ADR bb b off fs.length c x w g.c1 (g.f 1) z (by simpa using d 0 x rfl)).mono ?_;rintro e u⟨rfl,J,q,rfl⟩;refine⟨rfl,_,⟨g.AEs _,t.keep λm L=>Wb _ _ _ _ ?_,J,c-1,rfl,by simp at z ⊢;omega,λhn=>⟨b,off+1,q (by cases fs with|nil=>exact absurd rfl hn|cons y l=>simp),λj y hy=>?_⟩⟩,(A0.refl (λk=>k=bb) w).setCell (p:=Zd bb 1) (λ_=>rfl) _,λb1 off1 l1 c1 e=>?_⟩
   rotate_right
   ·injection e with h M
    have:=q (by omega);rw[this] at h;injection h with h;injection h with h;subst h;exact⟨off,fs.length,c,rfl⟩
   ·intro e
    exact t.ne (g.c0) (by rw[L,e])
   have G:=d (j+1) y (by simpa using hy);rw[show off+1+j=off+(j+1) by omega,YF _ _ _ _ (by intro e;exact r G (congrArg Addr.block e).symm)];exact G
theorem AGN(w:Tw)(a:Option Nat):(binOp .eql 26 (.map a) (.map none)).run prog w=.ok (Zo a.isNone) w:=by cases a <;> kernel_rfl
theorem AH6(bb:Nat)(i:Tv)(c s:Tb)(w:Tw)(d:Bk w bb (.map none) i)(t:c.size<=maxLen)(x:s.size<=maxLen):
 Zc 102 #[Zp (some (Zd bb 0)),Zt c,Zt s] w λe l=>e=Zr (Zu #[])/\∃m,w.1.size<=m/\Bk l bb (.map (some m)) i/\l.ownsMap prog 9 Jd m 1 (DataW.put (.map []) (lit c) (Gw s))/\A0 (λk=>k=bb) w l:=by
 have v:=@run_makeMap prog;have z:=AGN;have c0:=d.c0;have y:=d.f 0;have j:w.1.size≠bb:=Nat.ne_of_gt d.lt;have g:(w.setCell (Zd bb 0) (.map (some w.1.size))).1.size=w.1.size:=by simp[World.setCell]
 have q:Hid (((w.setCell (Zd bb 0) (.map (some w.1.size))).alloc (.map #[] 0)).ownsMap prog 9 Jd w.1.size 0 (.map [])):=by have:=WI (w.setCell (Zd bb 0) (.map (some w.1.size))) prog 9 Jd;rw[g] at this;exact this
 have n:Hid (Bk ((w.setCell (Zd bb 0) (.map (some w.1.size))).alloc (.map #[] 0)) bb (.map (some w.1.size)) i):=(d.AKp _).alloc _;have o:Hid (A0 (λk=>k=bb) w ((w.setCell (Zd bb 0) (.map (some w.1.size))).alloc (.map #[] 0))):=((A0.refl (λk=>k=bb) w).setCell (p:=Zd bb 0) (λ_=>rfl) _).alloc _;clear g;have u:=d.lt;clear d j;go_enter func102,ntmps102
 go_wp2_with (first
  | (at_mapUpdate;(refine wpList_mapUpdate_in _ rfl _ _ _ 26 rfl 9 194 Wl underlying26 Jd w.1.size 0 (.map []) rfl q.o (by decide) _ _ _ rfl rfl (Mh t) _ [] (Wt x) ?_);intro D b a))
 go_end0
 have r:=a.grown;exact⟨rfl,w.1.size,Y' _,n.o.keep (r.block bb (n.o.lt) (by intro e;cases e;omega)),b,o.o.AFb a (λh=>absurd h (YX _))⟩
theorem AFc(bb m n:Nat)(D:Td)(i:Tv)(c s:Tb)(w:Tw)(d:Bk w bb (.map (some m)) i)(f:w.ownsMap prog 9 Jd m n D)(k:n<maxLen)(j:c.size<=maxLen)(l:s.size<=maxLen):
 Zc 102 #[Zp (some (Zd bb 0)),Zt c,Zt s] w λe g=>e=Zr (Zu #[])/\g.ownsMap prog 9 Jd m (n+1) (D.put (lit c) (Gw s))/\w.mapTurned g m:=by
 have o:=AGN;have c0:=d.c0;have h:=Aa f;clear d f;go_enter func102,ntmps102
 go_wp2_with (first
  | (at_mapUpdate;(refine wpList_mapUpdate_in _ rfl _ _ _ 26 rfl 9 194 Wl underlying26 Jd m n D rfl h.o k _ _ _ rfl rfl (Mh j) _ [] (Wt l) ?_);intro p b a))
 go_end0
 exact⟨rfl,b,a⟩
def St(mv a:Value):Prop:=∀k,mv=.map (some k)->a=mv
theorem St.refl(mv:Tv):St mv mv:=λ_ _=>rfl
theorem oD(bb n:Nat)(D:Td)(fs:List Int)(mv l:Tv)(c s:Tb)(w:Tw)(h:Bu w bb n D fs mv l)(L:n<maxLen)(g:c.size<=maxLen)(G:s.size<=maxLen):
 Zc 102 #[Zp (some (Zd bb 0)),Zt c,Zt s] w λe d=>e=Zr (Zu #[])/\∃j,Bu d bb (n+1) (D.put (lit c) (Gw s)) fs j l/\A0 (Own bb mv) w d/\(∀k,j=.map (some k)->mv=.map (some k)\/w.1.size<=k)/\St mv j:=by
 obtain⟨o,t,z⟩:=h;have q:=@Fs.far w bb mv l n D fs o t z;have f:=@Th.ne w mv n D t
 have a:∀d,A0 (Own bb mv) w d->Fs d l fs:=λd y=>z.keep λp v⟨x,hx⟩hc=>y.cell hc (by
  rintro(e|e)
  ·exact q (hc.trans (congrArg some hx)) e
  exact f hc e)
 rcases t with⟨rfl,rfl⟩|⟨m,rfl,J⟩
 ·refine(AH6 bb l c s w o g G).mono ?_
  rintro e d⟨rfl,m,u,r,i,y⟩;have b:A0 (Own bb (.map none)) w d:=y.mono λ_ _ e=>.inl e
  exact⟨rfl,_,⟨r,.inr ⟨m,rfl,i.mono (by omega)⟩,a _ b⟩,b,λk g=>.inr (by cases g;exact u),λk g=>by cases g⟩
 refine(AFc bb m n D l c s w o J L g G).mono ?_;rintro e d⟨rfl,i,I⟩;have b:A0 (Own bb (.map (some m))) w d:=(A0.refl _ w).AFb I (λ_=>.inr rfl);refine⟨rfl,_,⟨o.keep (I.grown.block bb o.lt ?_),.inr ⟨m,rfl,i⟩,a _ b⟩,b,λk g=>.inl g,St.refl _⟩;intro e;cases e;exact f o.c0 rfl
theorem AOD{b off:Nat}(h:∀(j:Nat)x,l[j]? = some x->w.cell? (Zd b (off+j))=some (Zi x)):∀(j:Nat)u,(l.map (Value.int .i64))[j]? = some u->w.cell? (Zd b (off+j))=some u:=by intro j u a;rw[WK] at a;obtain⟨x,c,rfl⟩:=Option.map_eq_some_iff.1 a;exact h j x c
theorem ANv{base:Nat}(h:w.ownsRow base 3 1 v l.length (l.map (Value.int .i64))):Fs w v l:=by
 obtain⟨_,⟨rfl,e⟩|⟨g,a,b,rfl,m,i,f,o,p,k⟩⟩:=h
 ·rw[Yag.1 e]
  exact⟨_,_,rfl,Y' _,λh=>absurd rfl h⟩
 refine⟨_,a,rfl,f,λ_=>⟨g,0,rfl,λj x hx=>?_⟩⟩;have d:(b.toList.take (l.length*1))[j]? = some (Zi x):=by rw[k,WK,hx];rfl
 have n:j<l.length:=by
  rcases Yc j l.length with c|c
  ·exact c
  rw[Yb c] at hx;cases hx
 rw[Yi (by omega)] at d;simp[World.cell?,i];simpa using d
theorem ANa(bb:Nat)(l mv i:Tv)(w:Tw)(h:Bk w bb mv i)(Q:Tv->Tw->Prop)(k:Zc 17 #[l] w λe g=>∃a n c,e=Zr (Zs a n c)/\Zb w g/\Q (Zs a n c) g):
 Zc 5 #[Zp (some (Zd bb 0)),l] w λe g=>e=Zr (Zu #[])/\∃v' b,Q v' b/\Zb w b/\g=b.setCell (Zd bb 1) v':=by
 have H1:=Aa (λ(b:Tw)(j:Zb w b)=>h.keep (j.block bb h.lt))
 go_enter func5,ntmps5
 go_wp2_with (first
  | (go_at_call 17;apply k.mono;rintro e b⟨a,n,c,rfl,d,m⟩;have c1:=(H1.o _ d).c1;have o:=(H1.o _ d).f 1))
 go_end0
 exact⟨rfl,_,b,m,d,rfl⟩
theorem AJn:(prog.info? 3).map (λi=>(i.zero,i.size,i.bytes))=some (some (Zi 0),1,8):=by kernel_rfl
theorem ANo(o:To)(d:Nat)(w:Tw):
 Zc 17 #[Zs o 0 d] w λe x=>∃a c,e=Zr (Zs a 0 c)/\Zb w x:=by
 have v:∀(w:Tw)(a:To)(n c n' h:Nat),(binOp .eql 23 (.slice a n c) (.slice none n' h)).run prog w=.ok (.bool a.isNone) w:=λw a n c n' h=>Lib.run_eql_slice_nil w _ _ a n c n' h underlying23
 obtain⟨u,r,j,l,m⟩:=info_parts AJn;cases o with
 | none=>go_enter func17,ntmps17;go_wp2;go_ret;exact⟨_,_,rfl,XG _ _⟩
 | some a=>
   go_enter func17,ntmps17;go_wp2_with (at_builtin;refine wpList_append_own _ rfl _ _ 23 rfl w.1.size 3 u (Zi 0) 1 8 underlying23 r j l m rfl (by decide) _ _ _ rfl (YM w #[] 0 (Y' _) (XK _) (by simp)) a 0 d [] rfl (by simp) (by simp) (by simp) (by decide) (by decide) (by simp) ?_);intro v' y f b p
   have t:∃g c,v'=Zs g 0 c:=by
    obtain⟨_,⟨i,_⟩|⟨g,c,q,i,_⟩⟩:=f
    ·exact⟨_,_,i⟩
    exact⟨_,_,i⟩
   obtain⟨g,c,rfl⟩:=t;go_wp2;go_ret;exact⟨_,_,rfl,((XG _ w).alloc (Y' _) _).grown b (by simp) (by intro k s;simp[Value.ownBlock] at s;omega)⟩
theorem P9(z:Tv)(fs:List Int)(w:Tw)(J:Fs w z fs)(I:fs.length<=1000):
 Zc 17 #[z] w λe k=>∃a n c,e=Zr (Zs a n c)/\Zb w k/\Fs k (Zs a n c) fs/\(fs≠[]->∃g,a=some (Zd g 0)/\w.1.size<=g):=by
 obtain⟨a,j,rfl,P,N⟩:=J;cases fs with
 | nil=>refine(ANo a j w).mono ?_;rintro e k⟨s,t,rfl,m⟩;exact⟨s,0,t,rfl,m,⟨s,t,rfl,XK _,λh=>absurd rfl h⟩,λh=>absurd rfl h⟩
 | cons x fs=>
   obtain⟨b,off,rfl,i⟩:=N (by simp);obtain⟨O,M,p,q,r⟩:=info_parts AJn;have d:=AnyE.slices_Clone layCloneI O (Zi 0) 1 8 M p q r rfl (by decide) sizeOf3 b off (x :: fs).length j ((x :: fs).map (Value.int .i64)) w (by simp) (by unfold maxLen;omega) (by omega) (AOD i) (by intro u v;simp only[List.mem_map] at v;obtain⟨y,_,rfl⟩:=v;rfl)
   change Zc 17 _ _ _ at d
   apply d.mono;rintro e k⟨v',rfl,f,o,m⟩;have l:=ANv f;obtain⟨_,⟨G,_⟩|⟨g,c,D,rfl,L,_⟩⟩:=f
   ·exact absurd G o
   exact⟨_,_,_,rfl,m,l,λ_=>⟨g,rfl,L⟩⟩
theorem ANq(bb n:Nat)(D:Td)(fs d:List Int)(mv L s:Tv)(w:Tw)(h:Bu w bb n D fs mv L)(I:Fs w s d)(u:d.length<=1000):
 Zc 5 #[Zp (some (Zd bb 0)),s] w λe l=>e=Zr (Zu #[])/\∃t,Bu l bb n D d mv t/\A0 (λk=>k=bb) w l:=by
 obtain⟨o,y,P⟩:=h;refine(ANa bb s mv L w o (λv l=>Fs l v d/\∀b off len f,v=Zs (some (Zd b off)) len f->d≠[]->w.1.size<=b) ((P9 s d w I u).mono ?_)).mono ?_
 ·rintro e l⟨a,n,c,rfl,q,z,G⟩
  refine⟨a,n,c,rfl,q,z,λb off len f e r=>?_⟩;obtain⟨g,rfl,J⟩:=G r;cases e;exact J
 rintro e l⟨rfl,v',R,⟨z,G⟩,q,rfl⟩;refine⟨rfl,v',⟨(o.keep (q.block bb o.lt)).AEs _,?_,?_⟩,(A0.Ba (S:=λk=>k=bb) q).setCell (p:=Zd bb 1) (λ_=>rfl) _⟩
 ·refine y.keep λm M=>?_
  rw[Wb _ _ _ _ (by intro e;exact y.ne o.c0 (by rw[M,e]))];exact q.block m (y.lt M)
 obtain⟨a,f,rfl,N,I⟩:=z;refine⟨a,f,rfl,N,λr=>?_⟩;obtain⟨b,off,rfl,i⟩:=I r;refine⟨b,off,rfl,λj x O=>?_⟩;have:=G b off _ _ rfl r;have:=o.lt;rw[YF _ _ _ _ (by intro e;have:=congrArg Addr.block e;simp only at this;omega)];exact i j x O
def Wz(a:ByteArray):Bool:=decide (1<=a.size) && decide (a.size<=60)
def bM(D:DataW Unit)(fs:List Int)(a s:ByteArray):Int×DataW Unit×List Int :=
 if Wz a=false then (1,D,fs) else if Maps.has D (lit a)=true then (9,D,fs) else if fs.headD 0=1 then (14,D,fs.tail) else if fs.headD 0=2 then (14,D.put (lit a) (Gw s),fs.tail) else (0,D.put (lit a) (Gw s),fs.tail)
def L8(x:Int):Value:=if x=0 then .nilIface else .iface 91 (Zi x)
def Um(D:DataW Unit)(a:ByteArray)(w:World)(e:Ending)(b:World):Prop:=∃t:ByteArray,e=.returned (.tuple #[.string t,L8 (if Maps.has D (lit a)=true then 0 else 7)])/\(Maps.has D (lit a)=true->D.atKey (lit a) (Gw ByteArray.empty)=Gw t)/\(Maps.has D (lit a)=false->t=ByteArray.empty)/\Zb w b
theorem aP(bb n:Nat)(D:Td)(mv:Tv)(a:Tb)(w:Tw)(i:w.cell? (Zd bb 0)=some mv)(f:Th w mv n D)(j:a.size<=maxLen):
 Zc 96 #[Zp (some (Zd bb 0)),Zt a] w (Um D a w):=by
 have b:=ABJ bb mv w i;have g:=Aa f;clear f;go_enter func96,ntmps96
 go_wp2_with (first
  | (go_at_call 100;apply b.mono;rintro e k⟨rfl,rfl⟩)
  | (at_lookup;refine Wv _ rfl _ _ rfl n D mv a rfl rfl g.o j ?_;intro t d))
 ·rename_i hh
  have c:=nt hh;go_ret2;exact⟨ByteArray.empty,by rw[c];rfl,λh=>(by rw[c] at h;cases h),λ_=>rfl,Zal⟩
 rename_i hh;have c:=nf hh;go_ret2;exact⟨t,by rw[c];rfl,λ_=>d,λh=>(by rw[c] at h;cases h),Zal⟩
theorem Bu.only{S:Nat->Prop}{bb n:Nat}{fs:List Int}{mv u:Tv}(h:Bu w bb n D fs mv u)(a:A0 S w W)(f:¬S bb)(i:∀m,mv=.map (some m)->¬S m)(g:∀p x,w.cell? p=some (Zi x)->¬S p.block):Bu W bb n D fs mv u:=by obtain⟨b,c,d⟩:=h;exact⟨b.keep (a.block bb b.lt f),c.keep λm e=>a.block m (c.lt e) (i m e),d.keep λp v⟨x,hx⟩hc=>a.cell hc (g p x (hc.trans (congrArg some hx)))⟩
theorem Bu.below{bb n:Nat}{fs:List Int}{mv v:Tv}(h:Bu w bb n D fs mv v)(a:Zb w W):Bu W bb n D fs mv v :=
 h.only (S:=λ_=>False) (A0.Ba a) (λh=>h) (λ_ _ h=>h) (λ_ _ _ h=>h)
theorem Bu.mono{w:Tw}{bb n n':Nat}{D:Td}{fs:List Int}{mv v:Tv}(h:Bu w bb n D fs mv v)(a:n<=n'):Bu w bb n' D fs mv v:=⟨h.1,h.2.1.mono a,h.2.2⟩
def AHf(bb n:Nat)(r:Int×DataW Unit×List Int)(mv d:Value)(w:World)(e:Ending)(c:World):Prop:=e=.returned (L8 r.1)/\∃a b,Bu c bb (n+1) r.2.1 r.2.2 a b/\A0 (Own bb mv) w c/\(∀k,a=.map (some k)->mv=.map (some k)\/w.1.size<=k)/\Ur d b/\St mv a
theorem ABa(bb n:Nat)(D:Td)(fs:List Int)(mv m:Tv)(a s:Tb)(w:Tw)(h:Bu w bb n D fs mv m)(W:n<maxLen)(c:a.size<=maxLen)(hs:s.size<=maxLen):
 Zc 57 #[Zp (some (Zd bb 0)),Zt a,Zt s] w (AHf bb n (bM D fs a s) mv m w):=by
 have H:=Aa h;have c0:=h.1.c0;have q:=ABJ bb mv w c0;have R:Hid (∀o,Zc 101 #[Zp (some (Zd bb 0))] (w.alloc o) λe P=>e=Zr (Zi (fs.headD 0))/\∃b,Bu P bb n D fs.tail mv b/\A0 (λk=>k=bb) (w.alloc o) P/\Ur m b):=λo=>AFS bb n D fs mv m _ (h.1.alloc _) (h.2.1.alloc _) (h.2.2.alloc _)
 have U:Hid (∀G b,Bu G bb n D fs.tail mv b->Zc 102 #[Zp (some (Zd bb 0)),Zt a,Zt s] G λe P=>e=Zr (Zu #[])/\∃y,Bu P bb (n+1) (D.put (lit a) (Gw s)) fs.tail y b/\A0 (Own bb mv) G P/\(∀k,y=.map (some k)->mv=.map (some k)\/G.1.size<=k)/\St mv y):=λG b hb=>oD bb n D fs.tail mv b a s G hb W c hs
 have l:Hid (bM D fs a s=if Wz a=false then (1,D,fs) else if Maps.has D (lit a)=true then (9,D,fs) else if fs.headD 0=1 then (14,D,fs.tail) else if fs.headD 0=2 then (14,D.put (lit a) (Gw s),fs.tail) else (0,D.put (lit a) (Gw s),fs.tail)):=rfl;have T:Hid (Wz a=(decide (1<=a.size) && decide (a.size<=60))):=rfl;clear h c0 W;generalize bM D fs a s=r at l ⊢;generalize fs.headD 0=f at R l;generalize fs.tail=V at R l U
 rcases Yc 0 a.size with p|p
 ·rcases Yc 60 a.size with I|I
  ·go_enter func57,ntmps57
   go_wp2;go_ret;have g:r=(1,D,fs):=by rw[l.o,Yae (by rw[T.o];simp only[XQ,decide_eq_false_iff_not];omega)]
   rw[g];exact⟨rfl,mv,m,H.o.mono (by omega),A0.refl _ _,λk c=>.inl c,Ur.refl _,St.refl _⟩
  have X:1<=a.size:=p;have j:Hid (Wz a=true):=Aa (by rw[T.o];simp only[XA,decide_eq_true_eq];omega);go_enter func57,ntmps57
  go_wp2_with (first
   | (go_at_call 100;apply q.mono;rintro e G⟨rfl,rfl⟩)
   | (at_lookup;refine Wv _ rfl _ _ rfl n D mv a rfl rfl H.o.2.1 c ?_;intro t Y)
   | (go_at_call 101;refine(R.o _).mono ?_;rintro e w2⟨rfl,v,M,d,z⟩)
   | (go_at_call 102;refine(U.o _ _ M).mono ?_;rintro e w3⟨rfl,O,N,L,J,u⟩))
  all_goals clear R U q
  ·rename_i x
   go_ret;have g:r=(9,D,fs):=by rw[l.o,Yad (by rw[j.o];simp),Yae x]
   rw[g];exact⟨rfl,mv,m,(H.o.below (Zal)).mono (by omega),(A0.refl _ _).alloc _,λk c=>.inl c,Ur.refl _,St.refl _⟩
  ·have x:Maps.has D (lit a)=false:=by assumption
   have p:(f==1)=true:=by assumption
   go_ret;have g:r=(14,D,V):=by rw[l.o,Yad (by rw[j.o];simp),Yad (by rw[x];simp),Yae (by simpa using p)]
   rw[g];exact⟨rfl,mv,v,M.mono (by omega),((A0.refl _ _).alloc _).trans d (λi _ e=>.inl e),λk c=>.inl c,z,St.refl _⟩
  ·have x:Maps.has D (lit a)=false:=by assumption
   have p:(f==1)=false:=by assumption
   have I:(f==2)=true:=by assumption
   go_ret;have g:r=(14,D.put (lit a) (Gw s),V):=by rw[l.o,Yad (by rw[j.o];simp),Yad (by rw[x];simp),Yad (by simpa using p),Yae (by simpa using I)]
   rw[g];exact⟨rfl,O,v,N,(((A0.refl _ _).alloc _).trans d (λi _ e=>.inl e)).trans L (λi _ e=>e),λk c=>(J k c).imp id (λh=>XC (XC (by simp) d.size) h),z,u⟩
  have x:Maps.has D (lit a)=false:=by assumption
  have p:(f==1)=false:=by assumption
  have I:(f==2)=false:=by assumption
  go_ret;have g:r=(0,D.put (lit a) (Gw s),V):=by rw[l.o,Yad (by rw[j.o];simp),Yad (by rw[x];simp),Yad (by simpa using p),Yad (by simpa using I)]
  rw[g];exact⟨rfl,O,v,N,(((A0.refl _ _).alloc _).trans d (λi _ e=>.inl e)).trans L (λi _ e=>e),λk c=>(J k c).imp id (λh=>XC (XC (by simp) d.size) h),z,u⟩
 go_enter func57,ntmps57;go_wp2;go_ret;have g:r=(1,D,fs):=by rw[l.o,Yae (by rw[T.o];simp only[XQ,decide_eq_false_iff_not];omega)]
 rw[g];exact⟨rfl,mv,m,H.o.mono (by omega),A0.refl _ _,λk c=>.inl c,Ur.refl _,St.refl _⟩
def Ob(w:World):Prop:=w.cell? ⟨1,0,none⟩=some (.iface 359 (.agg #[.pointer (some ⟨11,45,none⟩)]))
theorem Ob.lt{w:Tw}(h:Ob w):1<w.1.size:=by
 rcases Yc 1 w.1.size with a|a
 ·exact a
 unfold Ob at h;simp[World.cell?,Array.getElem?_eq_none a] at h
theorem Ob.below{w W:Tw}(h:Ob w)(a:Zb w W):Ob W:=(a.cell (p:=Zd 1 0) h.lt).trans h
theorem AJj(w:Tw):Bu (w.alloc (Zk #[.map none,Zs none 0 0] 28)) w.1.size 0 (.map []) [] (.map none) (Zs none 0 0) :=
 ⟨Yac w _,.inl ⟨rfl,rfl⟩,_,_,rfl,Y' _,λh=>absurd rfl h⟩
def Z(w0:World)(bb n:Nat)(D:DataW Unit)(fs:List Int)(w:World):Prop:=∃mv a,Bu w bb n D fs mv a/\Zb w0 w/\w0.1.size<=bb/\∀k,mv=.map (some k)->w0.1.size<=k
end B
variable{H:List (Dn×Ah)}{i j:Nat}{x:Dn×Ah}{c:Dn}{D:Td}{W Y w:Tw}{T:TypeId}{v:Tv}{s:Ah}
structure Lay(c:Dn):Prop where
 ok:Cv c=true
 lines:∀a∈c.2.2,Fh a
 Iz:c.2.2.length<=100
 len:0<(C6 c).size/\(C6 c).size<=1000000
def Xv:Ah->List (Dn×Ah)->Prop
 | _,[]=>True
 | s,x :: l=>Bi s x.1 x.2/\Lay x.1/\Xv x.2 l
def Ic:Ah->List (Dn×Ah)->Ah
 | s,[]=>s
 | _,x :: l=>Ic x.2 l
def Ae(H:List (Dn×Ah))(i:Nat):Ah:=Ic F6 (H.take i)
theorem fF:∀{s:Ah}{H:List (Dn×Ah)}{c:Dn}{t:Ah},Xv s H->Bi (Ic s H) c t->Lay c->Xv s (H++[(c,t)])
 | _,[],_,_,_,h,hl=>⟨h,hl,trivial⟩
 | _,_ :: _,_,_,hc,h,hl=>⟨hc.1,hc.2.1,fF hc.2.2 h hl⟩
theorem Re:∀{s:Ah}{H:List (Dn×Ah)}{x:Dn×Ah},Ic s (H++[x])=x.2
 | _,[],_=>rfl
 | _,y :: l,_=>Re (s:=y.2) (H:=l)
theorem rO:∀{s:Ah}{H:List (Dn×Ah)},Xv s H->∀i,i<H.length->∃c t,H[i]? = some (c,t)/\Bi (Ic s (H.take i)) c t/\Lay c/\Ic s (H.take (i+1))=t
 | _,x :: _,h,0,_=>⟨x.1,x.2,rfl,h.1,h.2.1,rfl⟩
 | _,x :: l,h,i+1,hi=>by obtain⟨c,t,a,b,d,e⟩:=rO (s:=x.2) (H:=l) h.2.2 i (by simpa using hi);exact⟨c,t,by simpa using a,by simpa[Ic] using b,d,by simpa[Ic] using e⟩
theorem fR:∀{s:Ah}{H:List (Dn×Ah)},Xv s H->Good Bv Cm s->Q7 s->0<=s.Eb->∀i,i<=H.length->Good Bv Cm (Ic s (H.take i))/\Q7 (Ic s (H.take i))/\(Ic s (H.take i)).Eb=s.Eb+i
 | _,_,_,g,n,_,0,_=>by simpa[Ic] using ⟨g,n⟩
 | _,x :: l,h,g,n,hv,i+1,hi=>by have e:=aB h.1;have:=fR (s:=x.2) (H:=l) h.2.2 (mP h.1 g) (iX h.1 n) (by omega) i (by simpa using hi);simp only[X',Ic];exact⟨this.1,this.2.1,by rw[this.2.2,e];omega⟩
def La(H:List (Dn×Ah)):Prop:=Xv F6 H
theorem AA8(h:La H)(f:i<H.length):∃c,(H[i]?).map (·.1)=some c/\Bi (Ae H i) c (Ae H (i+1))/\Lay c:=by obtain⟨c,t,a,b,d,e⟩:=rO h i f;exact⟨c,by rw[a];rfl,by unfold Ae;rw[e];exact b,d⟩
theorem yJ:Q7 F6:=by intro e a;cases a
theorem Jb(h:La H)(a:i<=H.length):Good Bv Cm (Ae H i)/\Q7 (Ae H i)/\(Ae H i).Eb=i:=by have:=fR h ABq yJ (by show (0:Int)<=0;omega) i a;refine⟨this.1,this.2.1,?_⟩;have e:=this.2.2;have e0:F6.Eb=0:=rfl;rw[e0] at e;unfold Ae;omega
theorem qV(a:i<=H.length):Ae (H++[x]) i=Ae H i:=by unfold Ae;rw[Yy a]
theorem rJ:Ae (H++[x]) (H.length+1)=x.2:=by unfold Ae;rw[Yf (by simp)];exact Re
theorem bR:Ae H H.length=Ic F6 H:=by unfold Ae;rw[Yg]
theorem ADc(h:La H){t:Ah}(a:Bi (Ae H H.length) c t)(b:Lay c):La (H++[(c,t)]):=by rw[bR] at a;exact fF h a b
def U6(D:DataW Unit)(H:List (Dn×Ah)):Prop:=Maps.IsMap D/\∀i,i<99->(∀c,(H[i]?).map (·.1)=some c->Maps.has D (B.lit (Ek (i+1)))=true/\D.atKey (B.lit (Ek (i+1))) (B.Gw ByteArray.empty)=B.Gw (C6 c))/\(H.length<=i->Maps.has D (B.lit (Ek (i+1)))=false)
theorem AGO:U6 (.map []) []:=⟨Maps.isMap_empty,λi _=>⟨λc h=>by simp at h,λ_=>rfl⟩⟩
theorem L4{b:Tb}:WideAt.IsKeyLit (B.lit b):=by simp[B.lit,WideAt.IsKeyLit]
theorem AFI(h:U6 D H)(l:H.length<90)(c:Dn)(t:Ah):U6 (D.put (B.lit (Ek (H.length+1))) (B.Gw (C6 c))) (H++[(c,t)]):=by
 refine⟨?_,λi g=>?_⟩
 ·exact h.1.put _ _
 by_cases e:i=H.length
 ·subst e
  refine⟨λd a=>?_,λhle=>by simp at hle;omega⟩;have:d=c:=by simpa using a.symm
  subst this;exact⟨Maps.has_put_same h.1 L4 _,Maps.atKey_put_same h.1 L4 _ _⟩
 have b:B.lit (Ek (i+1))≠B.lit (Ek (H.length+1)):=λj=>by have:=key_inj (by omega) (by omega) (B.Jr j);omega
 rw[Maps.has_put_other b,Maps.atKey_put_other b];refine⟨λd a=>(h.2 i g).1 d ?_,λhle=>(h.2 i g).2 (by simp at hle;omega)⟩
 rcases Yc i H.length with f|k
 ·rwa[XU f] at a
 rw[Yb (by simp;omega)] at a;cases a
structure G3(W Y:World):Prop where
 size:W.1.size<=Y.1.size
 same:∀g o x,W.cell? ⟨g,o,none⟩=some (Zi x)->Y.1[g]? = W.1[g]?
theorem G3.Ba(h:Zb W Y):G3 W Y:=⟨h.size,λg _ _ a=>h.block g (Fv a)⟩
theorem G3.cell{W Y:Tw}(h:G3 W Y){g o n:Nat}{x:Int}{v:Tv}(b:W.cell? (Zd g o)=some (Zi x))(a:W.cell? (Zd g n)=some v):Y.cell? (Zd g n)=some v:=by have e:=h.same g o x b;simp only[World.cell?,e] at a ⊢;exact a
theorem G3.trans{W X Y:Tw}(h:G3 W X)(k:G3 X Y):G3 W Y :=
 ⟨XC h.size k.size,λg o x a=>(k.same g o x (h.cell a a)).trans (h.same g o x a)⟩
theorem G3.grown{b:Nat}{cs:Array Tv}(f:W.1[b]? = some (Zk cs T (0,0)))(c:∀(i:Nat)x,cs[i]? ≠some (Zi x))(d:W.grownBy Y (some b)):G3 W Y :=
 ⟨d.size,λg o x a=>d.block g (Fv a) (λe=>by injection e with e;subst e;simp only[World.cell?,f] at a;exact c o x (by simpa using a))⟩
theorem Ph.stays{l:List Int}(h:Ph W v l)(k:G3 W Y):Ph Y v l:=by
 rcases h with h|⟨g,o,c,d,e,f,a⟩
 ·exact .inl h
 exact .inr ⟨g,o,c,d,Ya e k.size,f,λj b=>k.cell (a j b) (a j b)⟩
theorem bH.stays{l:List Aj}(h:bH W v l)(k:G3 W Y):bH Y v l:=by
 rcases h with h|⟨g,o,c,d,e,f,a⟩
 ·exact .inl h
 exact .inr ⟨g,o,c,d,e,Ya f k.size,λj b i u m=>k.cell (a j b 0 _ rfl) (a j b i u m)⟩
theorem Om.stays{W Y:Tw}{a:ADV}{c:To}{n i:Nat}{b:To}{j m:Nat}(h:Om W a c n i b j m)(k:G3 W Y):Om Y a c n i b j m :=
 ⟨h.qv.stays k,h.qz.stays k,h.qk,h.Iz,h.texts⟩
theorem M6.stays{g o:Nat}{a:ADV}{c:To}{n:Nat}{b:To}{m:Nat}(h:M6 W g o a c n i b j m)(k:G3 W Y):M6 Y g o a c n i b j m :=
 ⟨k.cell h.1 h.1,k.cell h.1 h.2.1,k.cell h.1 h.2.2.1,k.cell h.1 h.2.2.2.1,k.cell h.1 h.2.2.2.2.1,k.cell h.1 h.2.2.2.2.2⟩
theorem Dt.stays{W Y:Tw}{v:Tv}{l:List ADV}(h:Dt W v l)(k:G3 W Y):Dt Y v l:=by
 rcases h with h|⟨g,o,c,e,f,i,m⟩
 ·exact .inl h
 refine .inr ⟨g,o,c,e,f,Ya i k.size,λj q=>?_⟩;obtain⟨r,t,s,a,d,b,n,p⟩:=m j q;exact⟨r,t,s,a,d,b,n.stays k,p.stays k⟩
theorem G3.put{bb n:Nat}{fs:List Int}{mv v:Tv}(h:B.Bu W bb n D fs mv v)(b:B.A0 (B.Own bb mv) W Y):G3 W Y :=
 ⟨b.size,λg _ _ a=>b.block g (Fv a) (by
  rintro(e|e)
  ·exact B.Fs.far h.1 h.2.1 h.2.2 a e
  exact h.2.1.ne a e)⟩
theorem Dl.only{bb n:Nat}{fs:List Int}{mv f:Tv}(N:Dl W s v)(h:B.Bu W bb n D fs mv f)(M:B.A0 (B.Own bb mv) W Y):Dl Y s v:=by
 have keep:∀{base:Nat}{t:TypeId}{z:Nat}{u:Tv}{k:Nat}{xs:List Tv},t≠28->W.ownsRow base t z u k xs->Y.ownsRow base t z u k xs:=λl p=>by
  refine⟨p.1,?_⟩
  rcases p.2 with G|⟨g,c,d,O,i,a,o⟩
  ·exact .inl G
  refine .inr ⟨g,c,d,O,i,(M.block g (Ac a) ?_).trans a,o⟩;rintro(e|e)
  ·subst e
   have J:W.1[g]? = _:=h.1;rw[J] at a;injection a with a;injection a with _ a;exact l a.symm
  rcases h.2.1 with⟨I,_⟩|⟨m,y,es,clock,j,_⟩
  ·rw[I] at e;cases e
  rw[y] at e;cases e;rw[j] at a;cases a
 obtain⟨q,c1,r,w,L,e,b⟩:=N;exact⟨q,c1,r,w,L,e,keep (by decide) b.qz,b.qx,keep (by decide) b.row,λx P=>keep (by decide) (b.Cl x P)⟩
theorem mM(bb:Nat)(w:Tw):
 Zc 55 #[Zp (some (Zd bb 0))] w λe a=>e=Zr (.func (.func 95) #[] #[Zp (some (Zd w.1.size 0))])/\a=w.alloc (Zk #[Zp (some (Zd bb 0))] 25):=by
 go_enter func55,ntmps55;go_wp2;go_ret;exact⟨rfl,rfl⟩
structure Ground(w:World)(bb n:Nat)(D:DataW Unit)(mv:Value):Prop where
 c0:w.cell? ⟨bb,0,none⟩=some mv
 th:B.Th w mv n D
 er:Ik w
 nc:Lw w
 tb:Jp w
theorem Ground.up{bb n:Nat}{mv:Tv}(h:Ground w bb n D mv)(a:Zb w W):Ground W bb n D mv :=
 ⟨(a.cell (p:=Zd bb 0) (Fv h.c0)).trans h.c0,h.th.keep λm e=>a.block m (h.th.lt e),h.er.below a,h.nc.below a,h.tb.below a⟩
theorem AAW{bb n:Nat}{mv:Tv}(h:Ground w bb n D mv)(i:Nat):Zc 96 #[Zp (some (Zd bb 0)),Zt (Ek i)] w (B.Um D (Ek i) w) :=
 B.aP bb n D mv (Ek i) w h.c0 h.th (by rw[qI];decide)
theorem uV(a:i<100)(b:Jp w):Hid (∀W,Zb w W->Zc 58 #[Zi i] W λe c=>e=Zr (Zt (Ek i))/\Zb w c) :=
 Aa (λW h=>(ABK i W a (b.below h)).mono λ_ _⟨he,hb⟩=>⟨he,Below.Ap h hb⟩)
theorem qR{bb n:Nat}{mv:Tv}(h:Ground w bb n D mv)(i:Nat)(t:Tb)(b:Tv)(k:(Maps.has D (B.lit (Ek i))=true/\D.atKey (B.lit (Ek i)) (B.Gw ByteArray.empty)=B.Gw t/\b=.nilIface)\/(Maps.has D (B.lit (Ek i))=false/\t=⟨#[]⟩/\b=.iface 91 (.int .i64 7))):
 Hid (∀W,Zb w W->Zc 96 #[Zp (some (Zd bb 0)),Zt (Ek i)] W λe d=>e=Zr (Zu #[Zt t,b])/\Zb w d) :=
 Aa (λW c=>(AAW (h.up c) i).mono (by
  rintro e d⟨t',rfl,f,g,j⟩;refine⟨?_,Below.Ap c j⟩
  rcases k with⟨a,l,rfl⟩|⟨a,rfl,rfl⟩
  ·have:t'=t:=B.aS ((f a).symm.trans l)
   subst this;rw[a];rfl
  rw[a,g a];rfl))
theorem kC{n bb:Nat}(a:w.1[n]? = some (Zk #[Zp (some (Zd bb 0))] 25 (0,0)))(b:Zb w W):W.cell? (Zd n 0)=some (Zp (some (Zd bb 0))) :=
 (I2 ((b.block _ (Ac a)).trans a)).1
theorem AIL(bb q n:Nat)(D:Td)(mv:Tv)(i:Nat)(w:Tw)(t:i<100)(h:Ground w bb n D mv)(p:w.1[q]? = some (.cells #[.pointer (some (Zd bb 0))] 25 (0,0)))(s:Maps.has D (B.lit (Ek i))=false):
 Zc 95 #[Zi i,Zp (some (Zd q 0))] w λe r=>e=Zr (Zu #[Zg #[Zt ⟨#[]⟩,Zt ⟨#[]⟩,Zo false,Zs none 0 0],Zf 91 (Zi 7)])/\Zb w r:=by
 have f:Hid (Zb w (w.alloc (Zk #[Zt ⟨#[]⟩,Zt ⟨#[]⟩,Zo false,Zs none 0 0] 138))):=Aa (Zal);have l:=Aa (Yac w (Zk #[Zt ⟨#[]⟩,Zt ⟨#[]⟩,Zo false,Zs none 0 0] 138));have g:=h.up f.o;have d:=(f.o.block _ (Ac p)).trans p;have k:=uV t g.tb;have j:=qR g i ⟨#[]⟩ (Zf 91 (Zi 7)) (.inr ⟨s,rfl,rfl⟩);have a:=Aa d;clear h s p t g d;go_enter func95,ntmps95;go_wp2_with fail;generalize Ek i=y at *;generalize w.alloc (Zk #[Zt ⟨#[]⟩,Zt ⟨#[]⟩,Zo false,Zs none 0 0] 138)=T at *;have d:=kC a.o (XG _ _)
 go_region_held3 (λr=>r.cell? (Zd q 0)=some (Zp (some (Zd bb 0)))) (go_keep)
  (first
    | (go_at_call 58;refine(k.o _ (by first|exact XG _ _|exact(XG _ _).drew)).mono ?_;rintro e P⟨rfl,b⟩;have u:=kC a.o b)
    | (go_at_call 96;refine(j.o _ (by first|exact b|exact b.drew)).mono ?_;rintro e R⟨rfl,c⟩;have x:=kC a.o c))
 have o:=Aa (Below.Ap f.o c);have m:=Aa ((c.block _ (Ac l.o)).trans l.o);clear k j a d u x b c;obtain⟨_,_,_,_,gf⟩:=B3 m.o;have L:=gf 0;have M:=gf 1;have N:=gf 2;have O:=gf 3;go_wp2_with fail;obtain⟨z,G,I,J,_⟩:=B3 (sF _ _ _ _ _ _ (Zt ⟨#[]⟩) (Zt ⟨#[]⟩) (Zo false) (Zs none 0 0) _ m.o).1;refine bodyPost_ret (v:=Zu #[Zg #[Zt ⟨#[]⟩,Zt ⟨#[]⟩,Zo false,Zs none 0 0],Zf 91 (Zi 7)]) (by simp[results,results95,go_sem,z,G,I,J]) rfl ⟨rfl,?_⟩;exact Hx o.o (Y' _) _ _ _ _
theorem ABr(f:Lay c)(r:Ik w)(t:Lw w)(s:Jp w):Hid (∀W,Zb w W->Zc 97 #[Zt (C6 c)] W λe o=>∃a d b,e=Zr (Zu #[Zg #[Zt c.1,Zo c.2.1,Zs a d b],Zn])/\Dt o (Zs a d b) c.2.2/\Zb w o):=Aa (λW h=>by
 obtain⟨i,g,A⟩:=c;have m:=f.len;refine(ADU (C6 (i,g,A)) W m.2 (r.below h) (t.below h) (s.below h)).mono ?_;have e:(C6 (i,g,A)).1.toList=Nn (i,g,A):=rfl;have q:=n9 f.ok f.lines;rintro v o⟨k,⟨t',x,u,a,d,b,n,rfl,j⟩|⟨l,_⟩⟩
 ·have p:=n.1
  rw[e,q] at p;cases p;exact⟨a,d,b,rfl,j,Below.Ap h k⟩
 exact absurd ⟨by rw[e];exact q,f.ok,rfl⟩ (l (i,g,A)))
theorem AAJ(bb R n:Nat)(D:Td)(mv:Tv)(i:Nat)(c:Dn)(w:Tw)(W:i<100)(h:Ground w bb n D mv)(P:w.1[R]? = some (.cells #[.pointer (some (Zd bb 0))] 25 (0,0)))(V:Maps.has D (B.lit (Ek i))=true)(T:D.atKey (B.lit (Ek i)) (B.Gw ByteArray.empty)=B.Gw (C6 c))(U:Lay c):
 Zc 95 #[Zi i,Zp (some (Zd R 0))] w λe L=>∃d g f,e=Zr (Zu #[Zg #[Zt (C6 c),Zt c.1,Zo c.2.1,Zs d g f],Zn])/\Dt L (Zs d g f) c.2.2/\Zb w L:=by
 have l:Hid (Zb w (w.alloc (Zk #[Zt ⟨#[]⟩,Zt ⟨#[]⟩,Zo false,Zs none 0 0] 138))):=Aa (Zal);have G:=Aa (Yac w (Zk #[Zt ⟨#[]⟩,Zt ⟨#[]⟩,Zo false,Zs none 0 0] 138));have a:=h.up l.o;have k:=(l.o.block _ (Ac P)).trans P;have z:=uV W a.tb;have y:=qR a i (C6 c) Zn (.inl ⟨V,T,rfl⟩);have m:=ABr U a.er a.nc a.tb;have b:=Aa k;obtain⟨t,s,A⟩:=c;simp only at m;generalize C6 (t,s,A)=X at *;clear h V P W a k U T;go_enter func95,ntmps95;go_wp2_with fail;generalize Ek i=aa at *;generalize w.alloc (Zk #[Zt ⟨#[]⟩,Zt ⟨#[]⟩,Zo false,Zs none 0 0] 138)=wa at *;have k:=kC b.o (XG _ _)
 go_region_held3 (λL=>L.cell? (Zd R 0)=some (Zp (some (Zd bb 0)))) (go_keep)
  (first
    | (go_at_call 58;refine(z.o _ (by first|exact XG _ _|exact(XG _ _).drew)).mono ?_;rintro e w1⟨rfl,j⟩;have k1:=kC b.o j)
    | (go_at_call 96;refine(y.o _ (by first|exact j|exact j.drew)).mono ?_;rintro e w2⟨rfl,q⟩;have k2:=kC b.o q))
 have N:=Aa q;clear z y b k k1 k2 j q;go_wp2_with fail;refine(m.o _ N.o).mono ?_;rintro e Y⟨d,g,f,rfl,I,r⟩;have u:=Aa (Below.Ap l.o r);have o:=Aa ((r.block _ (Ac G.o)).trans G.o);have p:=Aa ((XE Y (Zk #[Zt t,Zo s,Zs d g f] 53) _ (Ac o.o)).trans o.o);have O:Hid (Zb w (Y.alloc (Zk #[Zt t,Zo s,Zs d g f] 53))):=Aa (Below.Ap u.o (Zal));have M:=Aa (I.below ((XG _ _).alloc (Y' _) (Zk #[Zt t,Zo s,Zs d g f] 53)));obtain⟨_,_,_,_,gf⟩:=B3 p.o;have g0:=gf 0;have g1:=gf 1;have g2:=gf 2;have g3:=gf 3;clear I r u o m gf;go_wp2_with fail;clear g0 g1 g2 g3;obtain⟨hP,hG⟩:=sF _ _ _ _ _ _ (Zt X) (Zt t) (Zo s) (Zs d g f) _ p.o;obtain⟨z0,z1,z2,z3,_⟩:=B3 hP;refine bodyPost_ret (v:=Zu #[Zg #[Zt X,Zt t,Zo s,Zs d g f],Zn]) (by simp[results,results95,go_sem,z0,z1,z2,z3]) rfl ⟨d,g,f,rfl,M.o.stays (G3.grown p.o ?_ hG),?_⟩
 ·intro i x J
  match i with
  | 0=>simp at J
  | 1=>simp at J
  | 2=>simp at J
  | 3=>simp at J
  | i+4=>simp at J
 exact Hx O.o (Y' _) _ _ _ _
def K4(d:Int)(a:Option Addr)(n1 c1:Nat)(e:Int)(b:Option Addr)(n2 c:Nat):Value:=.agg #[Zi d,.slice a n1 c1,Zi e,.slice b n2 c]
theorem Nv(h:Dl W s v):∃a n1 c1 d b n2 c,v=K4 s.Eb a n1 c1 d b n2 c:=by obtain⟨a,c1,b,c,L,e,f⟩:=h;exact⟨_,_,_,_,_,_,_,e⟩
theorem bN(s t:Ah)(P:Int)(u:To)(N y:Nat)(T:Int)(x:To)(O z:Nat)(l:Tb)(q:Bool)(Bz:List ADV)(n:To)(p o:Nat)(w:Tw)(h:Dl w s (K4 P u N y T x O z))(hg:Good Bv Cm s)(L:0<=s.Eb)(M:s.Eb<=1000)(ha:Dt w (Zs n p o) Bz)(D:Bz.length<=1000)(J:l.size<=maxLen)(hw:Lw w)(j:Bi s (l,q,Bz) t):
 Zc 60 #[K4 P u N y T x O z,Zg #[Zt l,Zo q,Zs n p o]] w λe m=>∃d a n1 c1 f b n2 c,e=Zr (Zu #[K4 d a n1 c1 f b n2 c,Zn])/\Dl m t (K4 d a n1 c1 f b n2 c)/\Zb w m:=by
 unfold K4 at h ⊢;obtain⟨R,Y,ab,U,g⟩:=On w (Zk #[Zi P,Zs u N y,Zi T,Zs x O z] 56) (Zk #[Zt l,Zo q,Zs n p o] 53) (Zk #[Zi 0,Zs none 0 0,Zi 0,Zs none 0 0] 56)
 have r:Hid (Zc 56 #[Zg #[Zi P,Zs u N y,Zi T,Zs x O z],Zg #[Zt l,Zo q,Zs n p o]] (((w.alloc (Zk #[Zi P,Zs u N y,Zi T,Zs x O z] 56)).alloc (Zk #[Zt l,Zo q,Zs n p o] 53)).alloc (Zk #[Zi 0,Zs none 0 0,Zi 0,Zs none 0 0] 56)) λe m=>∃d a n1 c1 f b n2 c,e=Zr (Zu #[Zg #[Zi d,Zs a n1 c1,Zi f,Zs b n2 c],Zn])/\Dl m t (Zg #[Zi d,Zs a n1 c1,Zi f,Zs b n2 c])/\Zb w m/\m.1[w.1.size+2]? = some (Zk #[Zi 0,Zs none 0 0,Zi 0,Zs none 0 0] 56 (0,0))):=Aa ((kJ s _ l q Bz n p o _ (h.up g) hg L M (ha.below g) D J (hw.below g)).mono (by
  rintro e m⟨d,a,n1,c1,f,b,n2,c,er,rfl,hb,⟨rfl,t',h1,h2⟩|⟨_,_,_,X⟩⟩
  ·have:=qX h1 j
   subst this;exact⟨d,a,n1,c1,f,b,n2,c,rfl,h2,Below.Ap g hb,(hb.block _ (by rw[R];omega)).trans U⟩
  exact absurd j (X t)))
 clear h hg L M ha D J hw j R Y ab U g;go_enter func60,ntmps60;go_wp2_with fail;apply r.o.mono;rintro e w2⟨d,a,n1,c1,f,b,n2,c,rfl,I,G,k⟩;have V:Hid (Zb w (w2.alloc (Zk #[Zi d,Zs a n1 c1,Zi f,Zs b n2 c] 56))):=Aa (Below.Ap G (Zal));have i:=Aa ((XE w2 (Zk #[Zi d,Zs a n1 c1,Zi f,Zs b n2 c] 56) _ (Ac k)).trans k);have W:=Aa (I.up ((XG _ _).alloc (Y' _) (Zk #[Zi d,Zs a n1 c1,Zi f,Zs b n2 c] 56)));obtain⟨_,_,_,_,gf⟩:=B3 i.o;have g0:=gf 0;have g1:=gf 1;have g2:=gf 2;have g3:=gf 3;clear I G k r gf;go_wp2_with fail;clear g0 g1 g2 g3;obtain⟨hP,hG⟩:=sF _ _ _ _ _ _ (Zi d) (Zs a n1 c1) (Zi f) (Zs b n2 c) _ i.o;obtain⟨z0,z1,z2,z3,_⟩:=B3 hP;refine bodyPost_ret (v:=Zu #[Zg #[Zi d,Zs a n1 c1,Zi f,Zs b n2 c],Zn]) (by simp[results,results60,go_sem,z0,z1,z2,z3]) rfl ⟨d,a,n1,c1,f,b,n2,c,rfl,W.o.put i.o hG,?_⟩;exact Hx V.o (by omega) _ _ _ _
theorem AFH(w:Tw):(binOp .eql 45 Zn (Zf 91 (Zi 7))).run prog w=.ok (Zo false) w:=by kernel_rfl
theorem AEV(w:Tw):(binOp .eql 45 (Zf 91 (Zi 7)) (Zf 91 (Zi 7))).run prog w=.ok (Zo true) w:=by kernel_rfl
structure LdI(w:World)(bb:Nat)(H:List (Dn×Ah))(W:World)(k:Nat)(a1:Option Addr)(n1 c1:Nat)(x2:Int)(a2:Option Addr)(n2 c2:Nat):Prop where
 box:W.1[w.1.size+2]? = some (.cells #[Zi k,.slice a1 n1 c1,Zi x2,.slice a2 n2 c2] 56 (0,0))
 snap:Dl W (Ae H k) (K4 k a1 n1 c1 x2 a2 n2 c2)
 res:W.1[w.1.size]? = some (.cells #[Zi 0,.slice none 0 0,Zi 0,.slice none 0 0] 56 (0,0))
 kb:W.1[w.1.size+1]? = some (.cells #[.pointer (some ⟨bb,0,none⟩)] 25 (0,0))
 low:Zb w W
def ABf(b:Nat)(w:World):Nat:=match w.cell? ⟨b,0,none⟩ with
 | some (.int _ v)=>v.toNat
 | _=>0
theorem Pm{b k:Nat}(h:w.cell? (Zd b 0)=some (Zi k)):ABf b w=k:=by unfold ABf;rw[h];simp
theorem Ua(bb n:Nat)(D:Td)(mv:Tv)(H:List (Dn×Ah))(Eb:Int)(P:Nat)(w:Tw)(h:Ground w bb n D mv)(hl:U6 D H)(hp:La H)(O5:H.length<=40)(hk:P<=H.length)(hv:(Eb<0/\P=H.length)\/Eb=P):
 Zc 28 #[Zp (some (Zd bb 0)),Zi Eb] w λe w'=>∃j n1 c1 o l n2 m,e=Zr (Zu #[K4 P j n1 c1 o l n2 m,Zn])/\Dl w' (Ae H P) (K4 P j n1 c1 o l n2 m)/\Zb w w':=by
 obtain⟨t0,t1,t2,t3,t4⟩:=On w (Zk #[Zi 0,Zs none 0 0,Zi 0,Zs none 0 0] 56) (Zk #[Zp (some (Zd bb 0))] 25) (Zk #[Zi 0,Zs none 0 0,Zi 0,Zs none 0 0] 56)
 have ah:Hid (∃j n1 c1 o l n2 m,LdI w bb H (((w.alloc (Zk #[Zi 0,Zs none 0 0,Zi 0,Zs none 0 0] 56)).alloc (Zk #[Zp (some (Zd bb 0))] 25)).alloc (Zk #[Zi 0,Zs none 0 0,Zi 0,Zs none 0 0] 56)) 0 j n1 c1 o l n2 m) :=
  Aa ⟨none,0,0,0,none,0,0,t3,AAK _,t1,t2,t4⟩
 have HG:=Aa h;have HL:=Aa hl;have HP:=Aa hp;have q1:=AFH;have q2:=AEV;clear h hl hp t0 t1 t2 t3 t4;go_enter func28,ntmps28;go_wp2_with (go_at_call 55;refine(mM _ _).mono ?_;rintro e w1⟨rfl,rfl⟩);generalize ((w.alloc (Zk #[Zi 0,Zs none 0 0,Zi 0,Zs none 0 0] 56)).alloc (Zk #[Zp (some (Zd bb 0))] 25)).alloc (Zk #[Zi 0,Zs none 0 0,Zi 0,Zs none 0 0] 56)=wa at *
 go_loopw [8,9] (λ_ _ wr=>∃k j n1 c1 o l n2 m,k<=P/\Hid (LdI w bb H wr k j n1 c1 o l n2 m)) (λ_ _ wr=>P-ABf (w.1.size+2) wr)
 case atStart=>obtain⟨j,n1,c1,o,l,n2,m,hI⟩:=ah.o;exact⟨0,j,n1,c1,o,l,n2,m,XK _,Aa hI⟩
 case round=>
  obtain⟨k,j,n1,c1,o,l,n2,m,au,a⟩:=hrel;clear ah;obtain⟨z,U,V,X,Y⟩:=B3 a.o.box;have an:=Pm z
  by_cases hlt:k<P
  ·obtain⟨c,hc,ak,t⟩:=AA8 HP.o (Ya hlt hk)
   obtain⟨hh,al⟩:=(HL.o.2 k (by omega)).1 c hc;obtain⟨gg,nn,vv⟩:=Jb HP.o (i:=k) (by omega);have f:=Aa (AAJ bb (w.1.size+1) n D mv (k+1) c wr (by omega) (HG.o.up a.o.low) a.o.kb hh al t);obtain⟨tx,rd,A⟩:=c;have e1:((k+1:Nat):Int)=(k:Int)+1:=by omega
   rw[e1] at f;simp only at f;have ax:A.length<=100:=t.Iz
   have am:tx.size<=maxLen:=by have h:=t.ok;simp only[Cv,XA] at h;have:=Hh h.1;unfold maxLen;omega
   have aa:Hid (∀W J M L,Zb wr W->Dt W (Zs J M L) A->Zc 60 #[Zg #[Zi k,Zs j n1 c1,Zi o,Zs l n2 m],Zg #[Zt tx,Zo rd,Zs J M L]] W λe w'=>∃y0 G R N y2 I T O,e=Zr (Zu #[K4 y0 G R N y2 I T O,Zn])/\Dl w' (Ae H (k+1)) (K4 y0 G R N y2 I T O)/\Zb wr w'):=Aa (λW J M L hb hA=>(bN _ _ k j n1 c1 o l n2 m tx rd A J M L W (a.o.snap.up hb) gg (by rw[vv];omega) (by rw[vv];omega) hA (by omega) am ((HG.o.nc.below a.o.low).below hb) ak).mono (by rintro e w'⟨y0,G,R,N,y2,I,T,O,he,h1,h2⟩;exact⟨y0,G,R,N,y2,I,T,O,he,h1,Below.Ap hb h2⟩))
   have ai:=Aa (Jb HP.o (i:=k+1) (by omega)).2.2;clear ak t hh al hc gg nn vv am;clear e1;have aw:(k:Int)+1<=41:=by omega
   have ao:(0:Int)<=(k:Int):=by omega
   have ae:Eb<0\/(¬Eb<0/\(k:Int)<Eb):=by rcases hv with⟨h,_⟩|h <;> omega
   generalize C6 (tx,rd,A)=pb at *
   rcases ae with ab|⟨ab,ay⟩
   ·go_wp2_with fail
    apply f.o.mono;rintro e w2⟨J,M,L,rfl,x,p⟩;have b:Hid (Zb wr (w2.alloc (Zk #[Zt pb,Zt tx,Zo rd,Zs J M L] 138))):=Aa (Below.Ap p (Zal));have u:=Aa (x.below ((XG _ _).alloc (Y' _) (Zk #[Zt pb,Zt tx,Zo rd,Zs J M L] 138)));have q:=Aa ((b.o.block _ (Ac a.o.box)).trans a.o.box);clear z U V X Y x p f;obtain⟨z,U,V,X,Y⟩:=B3 q.o;go_wp2_with fail;refine(aa.o _ _ _ _ b.o u.o).mono ?_;rintro e w4⟨y0,G,R,N,y2,I,T,O,rfl,g,s⟩;have r:=Aa ((s.block _ (Ac a.o.box)).trans a.o.box);have d:=Aa s;obtain⟨_,_,_,_,_,_,_,ev⟩:=Nv g;unfold K4 at ev g ⊢;simp only[Value.agg.injEq,Array.mk.injEq,List.cons.injEq,Value.int.injEq,Value.slice.injEq] at ev;have ag:y0=((k+1:Nat):Int):=by rw[ev.1.2,ai.o]
    clear ev;subst ag;have ad:=Aa g;clear z U V X Y g s aa u b q;obtain⟨_,_,_,_,gf⟩:=B3 r.o;have g0:=gf 0;have g1:=gf 1;have g2:=gf 2;have g3:=gf 3;clear gf;generalize af:((k+1:Nat):Int)=ki at *;go_wp2_with fail;subst af;obtain⟨hP,y⟩:=sF _ _ _ _ _ _ (Zi ((k+1:Nat):Int)) (Zs G R N) (Zi y2) (Zs I T O) _ r.o;refine⟨⟨k+1,G,R,N,y2,I,T,O,by omega,Aa ⟨hP,ad.o.put r.o y,?_,?_,Hx (Below.Ap a.o.low d.o) (by omega) _ _ _ _⟩⟩,?_⟩
    ·exact(y.block _ (Ya (Ac a.o.res) d.o.size) (λe=>by injection e with e;omega)).trans ((d.o.block _ (Ac a.o.res)).trans a.o.res)
    ·exact(y.block _ (Ya (Ac a.o.kb) d.o.size) (λe=>by injection e with e;omega)).trans ((d.o.block _ (Ac a.o.kb)).trans a.o.kb)
    have e1:=Pm (B3 hP).1;have e2:w.1.size+1+1=w.1.size+2:=rfl;rw[an,e2,e1];omega
   go_wp2_with fail;apply f.o.mono;rintro e w2⟨J,M,L,rfl,x,p⟩;have b:Hid (Zb wr (w2.alloc (Zk #[Zt pb,Zt tx,Zo rd,Zs J M L] 138))):=Aa (Below.Ap p (Zal));have u:=Aa (x.below ((XG _ _).alloc (Y' _) (Zk #[Zt pb,Zt tx,Zo rd,Zs J M L] 138)));have q:=Aa ((b.o.block _ (Ac a.o.box)).trans a.o.box);clear z U V X Y x p f;obtain⟨z,U,V,X,Y⟩:=B3 q.o;go_wp2_with fail;refine(aa.o _ _ _ _ b.o u.o).mono ?_;rintro e w4⟨y0,G,R,N,y2,I,T,O,rfl,g,s⟩;have r:=Aa ((s.block _ (Ac a.o.box)).trans a.o.box);have d:=Aa s;obtain⟨_,_,_,_,_,_,_,ev⟩:=Nv g;unfold K4 at ev g ⊢;simp only[Value.agg.injEq,Array.mk.injEq,List.cons.injEq,Value.int.injEq,Value.slice.injEq] at ev;have ag:y0=((k+1:Nat):Int):=by rw[ev.1.2,ai.o]
   clear ev;subst ag;have ad:=Aa g;clear z U V X Y g s aa u b q;obtain⟨_,_,_,_,gf⟩:=B3 r.o;have g0:=gf 0;have g1:=gf 1;have g2:=gf 2;have g3:=gf 3;clear gf;generalize af:((k+1:Nat):Int)=ki at *;go_wp2_with fail;subst af;obtain⟨hP,y⟩:=sF _ _ _ _ _ _ (Zi ((k+1:Nat):Int)) (Zs G R N) (Zi y2) (Zs I T O) _ r.o;refine⟨⟨k+1,G,R,N,y2,I,T,O,by omega,Aa ⟨hP,ad.o.put r.o y,?_,?_,Hx (Below.Ap a.o.low d.o) (by omega) _ _ _ _⟩⟩,?_⟩
   ·exact(y.block _ (Ya (Ac a.o.res) d.o.size) (λe=>by injection e with e;omega)).trans ((d.o.block _ (Ac a.o.res)).trans a.o.res)
   ·exact(y.block _ (Ya (Ac a.o.kb) d.o.size) (λe=>by injection e with e;omega)).trans ((d.o.block _ (Ac a.o.kb)).trans a.o.kb)
   have e1:=Pm (B3 hP).1;have e2:w.1.size+1+1=w.1.size+2:=rfl;rw[an,e2,e1];omega
  have ar:k=P:=by omega
  subst ar;clear au hlt;have aj:∀(W:Tw)(S:Act),LdI w bb H W k j n1 c1 o l n2 m->True:=λ_ _ _=>trivial
  rcases hv with⟨ab,aq⟩|av
  ·have f:=Aa (AIL bb (w.1.size+1) n D mv (k+1) wr (by omega) (HG.o.up a.o.low) a.o.kb ((HL.o.2 k (by omega)).2 (by omega)))
   have e1:((k+1:Nat):Int)=(k:Int)+1:=by omega
   rw[e1] at f;have aw:(k:Int)+1<=41:=by omega
   have ao:(0:Int)<=(k:Int):=by omega
   clear e1 aj aq;go_wp2_with fail;apply f.o.mono;rintro e w2⟨rfl,p⟩;have b:Hid (Zb wr (w2.alloc (Zk #[Zt ⟨#[]⟩,Zt ⟨#[]⟩,Zo false,Zs none 0 0] 138))):=Aa (Below.Ap p (Zal));have q:=Aa ((b.o.block _ (Ac a.o.box)).trans a.o.box);have ac:=Aa ((b.o.block _ (Ac a.o.res)).trans a.o.res);have ap:=Aa (a.o.snap.up b.o);clear z U V X Y p f;obtain⟨z,U,V,X,Y⟩:=B3 q.o;obtain⟨_,_,_,_,gf⟩:=B3 ac.o;have g0:=gf 0;have g1:=gf 1;have g2:=gf 2;have g3:=gf 3;clear gf;go_wp2_with fail;clear g0 g1 g2 g3 z U V X Y;obtain⟨hP,y⟩:=sF _ _ _ _ _ _ (Zi (k:Int)) (Zs j n1 c1) (Zi o) (Zs l n2 m) _ ac.o;obtain⟨z0,z1,z2,z3,_⟩:=B3 hP;refine bodyPost_ret (v:=Zu #[K4 k j n1 c1 o l n2 m,Zn]) (by simp[results,results28,go_sem,z0,z1,z2,z3,K4]) rfl ⟨j,n1,c1,o,l,n2,m,rfl,ap.o.put ac.o y,Hx (Below.Ap a.o.low b.o) (Y' _) _ _ _ _⟩
  subst av;clear aj;have ao:¬(k:Int)<0:=by omega
  obtain⟨_,_,_,_,gf⟩:=B3 a.o.res;have g0:=gf 0;have g1:=gf 1;have g2:=gf 2;have g3:=gf 3;clear gf;go_wp2_with fail;clear g0 g1 g2 g3 z U V X Y;obtain⟨hP,y⟩:=sF _ _ _ _ _ _ (Zi (k:Int)) (Zs j n1 c1) (Zi o) (Zs l n2 m) _ a.o.res;obtain⟨z0,z1,z2,z3,_⟩:=B3 hP;refine bodyPost_ret (v:=Zu #[K4 k j n1 c1 o l n2 m,Zn]) (by simp[results,results28,go_sem,z0,z1,z2,z3,K4]) rfl ⟨j,n1,c1,o,l,n2,m,rfl,a.o.snap.put a.o.res y,Hx a.o.low (Y' _) _ _ _ _⟩
structure Ey(w0 w:World)(NF bb n:Nat)(D:DataW Unit)(fs:List Int)(mv fv:Value):Prop where
 bu:B.Bu w bb n D fs mv fv
 low:Zb w0 w
 hb:w0.1.size<=bb
 hm:∀k,mv=.map (some k)->w0.1.size<=k
 er:Ik w0
 nc:Lw w0
 tb:Jp w0
 hf:∀b off l c,fv=.slice (some ⟨b,off,none⟩) (l+1) c->b<NF
theorem Ey.ground{w0 w:Tw}{k bb n:Nat}{fs:List Int}{mv v:Tv}(h:Ey w0 w k bb n D fs mv v):Ground w bb n D mv :=
 ⟨h.bu.1.c0,h.bu.2.1,h.er.below h.low,h.nc.below h.low,h.tb.below h.low⟩
theorem Ey.up{w0 w W:Tw}{k bb n:Nat}{fs:List Int}{mv v:Tv}(h:Ey w0 w k bb n D fs mv v)(a:Zb w W):Ey w0 W k bb n D fs mv v :=
 ⟨h.bu.below a,Below.Ap h.low a,h.hb,h.hm,h.er,h.nc,h.tb,h.hf⟩
theorem Ut{bb n:Nat}{fs:List Int}{mv v:Tv}{b:Nat}{cs:Array Tv}(h:B.Bu W bb n D fs mv v)(j:B.A0 (B.Own bb mv) W Y)(a:W.1[b]? = some (Zk cs T (0,0)))(i:T≠28):Y.1[b]? = some (Zk cs T (0,0)):=by
 refine(j.block b (Ac a) ?_).trans a;rintro(e|e)
 ·subst e
  have g:W.1[b]? = _:=h.1;rw[g] at a;injection a with a;injection a with _ a;exact i a.symm
 rcases h.2.1 with⟨f,_⟩|⟨m,d,es,clock,c,_⟩
 ·rw[f] at e;cases e
 rw[d] at e;cases e;rw[c] at a;cases a
theorem Ub{w0 w:Tw}{j bb n:Nat}{fs:List Int}{mv v:Tv}(h:Ey w0 w j bb n D fs mv v)(z:n<100000)(i:Nat)(s:Tb)(u:s.size<=maxLen)(r:Int×Td×List Int)(t:B.bM D fs (Ek i) s=r):
 Zc 57 #[Zp (some (Zd bb 0)),Zt (Ek i),Zt s] w λe o=>e=Zr (B.L8 r.1)/\∃a d,Ey w0 o j bb (n+1) r.2.1 r.2.2 a d/\B.A0 (B.Own bb mv) w o/\∀k,a=.map (some k)->mv=.map (some k)\/w.1.size<=k:=by
 refine(B.ABa bb n D fs mv v (Ek i) s w h.bu (by unfold maxLen;omega) (by rw[qI];decide) u).mono ?_;rw[t];rintro e o⟨rfl,a,d,g,p,f,m,_⟩;refine⟨rfl,a,d,⟨g,p.below h.low h.low.size ?_,h.hb,λk q=>?_,h.er,h.nc,h.tb,λb off l c e=>?_⟩,p,f⟩
 ·rintro i (rfl|e)
  ·exact h.hb
  exact h.hm i e
 ·rcases f k q with e|e
  ·exact h.hm k e
  exact XC h.low.size e
 obtain⟨y,x,c0,e0⟩:=m b off l c e;exact h.hf b y x c0 e0
theorem AE4(i:Nat):B.Wz (Ek i)=true:=rfl
theorem wF{fs:List Int}{s:Tb}(h:Maps.has D (B.lit (Ek i))=true):B.bM D fs (Ek i) s=(9,D,fs):=by unfold B.bM;rw[AE4,h];rfl
theorem AEG{fs:List Int}{s:Tb}(h:Maps.has D (B.lit (Ek i))=false):B.bM D fs (Ek i) s=if fs.headD 0=1 then (14,D,fs.tail) else if fs.headD 0=2 then (14,D.put (B.lit (Ek i)) (B.Gw s),fs.tail) else (0,D.put (B.lit (Ek i)) (B.Gw s),fs.tail):=by unfold B.bM;rw[AE4,h];rfl
def Nj(C:Dn)(H:List (Dn×Ah))(j i:Nat):Prop:=∀x c,j<=x->x<i->(H[x]?).map (·.1)=some c->Nt C c=false
theorem oR{C:Dn}(h:Nj C H j i)(f:(H[i]?).map (·.1)=some c)(g:Nt C c=false):Nj C H j (i+1):=λx d e l a=>by
 rcases Yc x i with b|k
 ·exact h x d e b a
 have:x=i:=by omega
 subst this;rw[f] at a;cases a;exact g
def AD8(C:Dn)(H:List (Dn×Ah))(fs:List Int)(j:Nat)(a:Value):Prop :=
 Cv C=false\/(∃i,j<=i/\i<=H.length/\Nj C H j i/\∀t,¬Bi (Ae H i) C t)\/(∃i c,j<=i/\(H[i]?).map (·.1)=some c/\Nt C c=true/\a=.iface 91 (Zi 6))\/(Nj C H j H.length/\fs.headD 0=1)
def Jy(w0 w:World)(h bb n:Nat)(D:DataW Unit)(fs:List Int)(mv:Value)(C:Dn)(H:List (Dn×Ah))(j:Nat)(e:Ending)(g:World):Prop :=
 ∃n' b c a d,Ey w0 g h bb n' b c a d/\n'<=n+50/\B.A0 (B.Own bb mv) w g/\(∀k,a=.map (some k)->mv=.map (some k)\/w.1.size<=k) /\
  ((∃t,e=.returned (.tuple #[.int .i64 (H.length+1:Nat),.nilIface])/\Bi (Ae H H.length) C t/\Cv C=true/\Nj C H j H.length/\b=D.put (B.lit (Ek (H.length+1))) (B.Gw (C6 C))) \/
   (∃f x,e=.returned (.tuple #[Zi 0,.iface f x])/\b=D/\AD8 C H fs j (.iface f x)))
structure TrI(w0 w:World)(NF bb n:Nat)(D:DataW Unit)(fs:List Int)(mv:Value)(C:Dn)(aa:Option Addr)(an ac:Nat)(H:List (Dn×Ah))(j kb:Nat)(W:World)(k:Nat)(a1:Option Addr)(n1 c1:Nat)(x2:Int)(a2:Option Addr)(n2 c2:Nat)(mv' fv':Value):Prop where
 base:Ey w0 W NF bb (n+(k-j)) D fs mv' fv'
 only:B.A0 (B.Own bb mv) w W
 link:∀k,mv'=.map (some k)->mv=.map (some k)\/w.1.size<=k
 box:W.1[w.1.size]? = some (.cells #[Zi k,.slice a1 n1 c1,Zi x2,.slice a2 n2 c2] 56 (0,0))
 snap:Dl W (Ae H k) (K4 k a1 n1 c1 x2 a2 n2 c2)
 com:W.1[w.1.size+1]? = some (.cells #[.string C.1,.bool C.2.1,.slice aa an ac] 53 (0,0))
 kb:W.1[kb]? = some (.cells #[.pointer (some ⟨bb,0,none⟩)] 25 (0,0))
 st:G3 w W
 quiet:Nj C H j k
theorem TrI.up{w0 w:Tw}{i bb n:Nat}{D:Td}{fs:List Int}{mv:Tv}{C:Dn}{e:To}{m d:Nat}{H:List (Dn×Ah)}{j q:Nat}{W Y:Tw}{k:Nat}{b:To}{n1 c1:Nat}{x:Int}{c:To}{n2 p:Nat}{v u:Tv}(h:TrI w0 w i bb n D fs mv C e m d H j q W k b n1 c1 x c n2 p v u)(a:Zb W Y):TrI w0 w i bb n D fs mv C e m d H j q Y k b n1 c1 x c n2 p v u :=
 ⟨h.base.up a,h.only.trans (B.A0.Ba (S:=λ_=>False) a) (λ_ _ h=>h.elim),h.link,(a.block _ (Ac h.box)).trans h.box,h.snap.up a,(a.block _ (Ac h.com)).trans h.com,(a.block _ (Ac h.kb)).trans h.kb,h.st.trans (G3.Ba a),h.quiet⟩
theorem TrI.put{w0 w:Tw}{m bb n n':Nat}{D r:Td}{fs z:List Int}{mv:Tv}{C:Dn}{o:To}{d q:Nat}{H:List (Dn×Ah)}{j p:Nat}{W Y:Tw}{k:Nat}{c:To}{n1 c1:Nat}{x:Int}{l:To}{n2 g:Nat}{v u f a:Tv}(h:TrI w0 w m bb n D fs mv C o d q H j p W k c n1 c1 x l n2 g v u)(_hB:Ey w0 Y m bb n' r z f a)(b:B.A0 (B.Own bb v) W Y)(t:∀k,f=.map (some k)->v=.map (some k)\/W.1.size<=k):
 B.A0 (B.Own bb mv) w Y/\(∀k,f=.map (some k)->mv=.map (some k)\/w.1.size<=k)/\Y.1[w.1.size]? = some (Zk #[Zi k,Zs c n1 c1,Zi x,Zs l n2 g] 56 (0,0))/\Dl Y (Ae H k) (K4 k c n1 c1 x l n2 g)/\Y.1[w.1.size+1]? = some (Zk #[Zt C.1,Zo C.2.1,Zs o d q] 53 (0,0))/\Y.1[p]? = some (Zk #[Zp (some (Zd bb 0))] 25 (0,0))/\G3 w Y:=by
 refine⟨h.only.trans b (λi y e=>?_),λk s=>?_,Ut h.base.bu b h.box (by decide),h.snap.only h.base.bu b,Ut h.base.bu b h.com (by decide),Ut h.base.bu b h.kb (by decide),h.st.trans (G3.put h.base.bu b)⟩
 ·rcases e with e|e
  ·exact .inl e
  rcases h.link i e with e|e
  ·exact .inr e
  omega
 rcases t k s with e|e
 ·exact h.link k e
 exact .inr (XC h.only.size e)
theorem Ey.store{w0 W Y:Tw}{k bb n:Nat}{fs:List Int}{mv v:Tv}{b:Nat}{cs:Array Tv}(h:Ey w0 W k bb n D fs mv v)(c:W.1[b]? = some (Zk cs T (0,0)))(N:T≠28)(V:k<=b)(X:w0.1.size<=b)(q:W.grownBy Y (some b)):Ey w0 Y k bb n D fs mv v:=by
 obtain⟨s,d,M⟩:=h.bu
 have w:b≠bb:=λe=>by subst e;have t:W.1[b]? = _:=s;rw[t] at c;injection c with c;injection c with _ c;exact N c.symm
 refine⟨⟨s.keep (q.block bb s.lt (λe=>by injection e with e;exact w e.symm)),d.keep λm e=>q.block m (d.lt e) (λr=>?_),?_⟩,h.low.grown q h.low.size (λj hj=>by injection hj with hj;omega),h.hb,h.hm,h.er,h.nc,h.tb,h.hf⟩
 ·injection r with r
  subst r
  rcases d with⟨L,_⟩|⟨m',I,es,clock,u,_⟩
  ·rw[L] at e;cases e
  rw[I] at e;cases e;rw[u] at c;cases c
 obtain⟨a,p,e,O,P⟩:=M;refine⟨a,p,e,O,λG=>?_⟩;obtain⟨g,off,z,f⟩:=P G;refine⟨g,off,z,λi x U=>?_⟩
 have R:g<k:=by
  cases hfs:fs with
  | nil=>exact absurd hfs G
  | cons y l=>refine h.hf g off l.length p ?_;rw[e,z,hfs];rfl
 have o:=f i x U;have J:=q.block g (Fv o) (λe=>by injection e with e;omega);simp only[World.cell?,J] at o ⊢;exact o
theorem AIC{b q:Nat}{cs c:Array Tv}{U:TypeId}(h:W.1[b]? = some (Zk cs T (0,0)))(a:W.1[q]? = some (Zk c U (0,0)))(d:T≠U)(f:W.grownBy Y (some q)):Y.1[b]? = some (Zk cs T (0,0)) :=
 (f.block b (Ac h) (λe=>by injection e with e;subst e;rw[h] at a;injection a with a;injection a with _ a;exact d a)).trans h
theorem bJ{w0 w:Tw}{bb n:Nat}{fs:List Int}{mv v:Tv}(h:Ey w0 w 0 bb n D fs mv v):fs=[]:=by
 obtain⟨a,c,e,g,f⟩:=h.bu.2.2;cases fs with
 | nil=>rfl
 | cons x l=>obtain⟨b,off,d,_⟩:=f (by simp);exact absurd (h.hf b off l.length c (by rw[e,d];rfl)) (Yr _)
