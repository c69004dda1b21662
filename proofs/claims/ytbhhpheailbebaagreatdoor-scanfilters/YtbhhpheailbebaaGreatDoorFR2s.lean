import Derived.Test.YtbhhpheailbebaaGreatDoorFX2s
set_option maxHeartbeats 40000000
set_option maxRecDepth 100000
open Nat renaming le_refl->Y9,zero_le->XE,le_succ->XI,le_trans->XX,add_assoc->WA,zero_add->WB,min_def->WC
open Go.RowKit.Below renaming refl->Y'
open Go.World renaming size_alloc->XA,news_of_block->XD,putObj_heap_other->XM,ownsRow_nil->XN
open List renaming getElem?_eq_getElem->XB,mem_of_getElem?->XC,length_append->XF,setIfInBounds_toArray->XG,flatMap_append->XJ,set_cons_zero->XK,cons_append->XO,append_toArray->XR,set_cons_succ->XS,size_toArray->XT,push_toArray->XU,length_cons->XV,length_nil->XY,nil_append->XZ,mem_cons->X2,length_map->X'
open Array renaming getElem?_eq_none->XH,replicate_succ->XP,replicate_zero->XQ
open Int renaming cast_ofNat_Int->XL,eq_ofNat_of_zero_le->XW,toNat_natCast->X4
open Bool renaming and_eq_true->X6,and_false->Wb
namespace Go.Proofs.YtbhhpheailbebaaGreatDoor
open Tryz RowKit Extern.Stop Stop Extern Shelf Joins
def Ob(w:World):Prop:=w.cell? ⟨1,0,none⟩=some (.iface 369 (.agg #[.pointer (some ⟨11,32,none⟩)]))
theorem Ob.lt{w:Tw}(h:Ob w):1<w.heap.size:=by
 rcases Yc 1 w.heap.size with a|a
 ·exact a
 unfold Ob at h;simp[World.cell?,XH a] at h
theorem Ob.below{w W:Tw}(h:Ob w)(a:Zb w W):Ob W:=(a.cell (p:=⟨1,0,none⟩) h.lt).trans h
theorem vQ(t:Addr)(w:Tw):(ReflectliteValue.unpack (Zf 297 (Zp (some t)))).run prog w
 = .ok (Zg #[Zp (some ⟨11,297,none⟩),Zp (some ⟨w.heap.size,0,none⟩),.int .u64 150]) (w.alloc (Zk #[Zp (some t)] 297)):=by kernel_rfl
theorem type102(a:Addr)(w:Tw):(ReflectliteValue.methodAny (ReflectliteValue.valueError "reflectlite.Value.Type" 0) (λt _ _ _=>ReflectliteType.toType t) #[Zg #[Zp (some ⟨11,297,none⟩),Zp (some a),.int .u64 150]]).run prog w
 = .ok (Zf 369 (Zg #[Zp (some ⟨11,297,none⟩)])) w:=by kernel_rfl
theorem wL(h:Tv)(w:Tw):(Go.method 543 369 (Zg #[h]) "Kind").run prog w=.ok (345,h) w:=by kernel_rfl
theorem AHH(w:Tw):((ReflectliteType.abiMethod λt=>(λa:Nat=>Value.int IntKind.u8 (a:Int)) <$> Rtype.kind t) #[Zp (some ⟨11,297,none⟩)]).run prog w=.ok (.int .u8 22) w:=by kernel_rfl
theorem AIi(w:Tw):((ReflectliteType.abiMethod λt=>(λa:Nat=>Value.int IntKind.u8 (a:Int)) <$> Rtype.kind t) #[Zp (some ⟨11,90,none⟩)]).run prog w=.ok (.int .u8 2) w:=by kernel_rfl
theorem sJ(a:Addr)(w:Tw):(ReflectliteValue.parts (Zg #[Zp (some ⟨11,297,none⟩),Zp (some a),.int .u64 150])).run prog w=.ok (some (297,a,150)) w:=by kernel_rfl
theorem AGU(a p:Addr)(W:Tw)(b:W.cell? a=some (Zp (some p))):
 (ReflectliteValue.method (ReflectliteValue.valueError "reflectlite.Value.IsNil" 0) ReflectliteValue.isNil #[Zg #[Zp (some ⟨11,297,none⟩),Zp (some a),.int .u64 150]]).run prog W=.ok (Zo false) W:=by
 rw[Lib.rl_method];simp only[Sem.run_bind,sJ,Result.andThen];simp[ReflectliteValue.isNil,loadVar,isAgg,underlying,underlying297,b,Result.andThen]
theorem wS(h:Tv)(w:Tw):(Go.method 543 369 (Zg #[h]) "Elem").run prog w=.ok (362,Zg #[h]) w:=by kernel_rfl
theorem Vt(h:Tv)(w:Tw):(Go.method 543 369 (Zg #[h]) "Implements").run prog w=.ok (363,Zg #[h]) w:=by kernel_rfl
theorem Rx(h:Tv)(w:Tw):(Go.method 543 369 (Zg #[h]) "AssignableTo").run prog w=.ok (360,Zg #[h]) w:=by kernel_rfl
theorem AHg(w:Tw):(ReflectliteType.method ReflectliteType.elem #[Zg #[Zp (some ⟨11,297,none⟩)]]).run prog w=.ok (Zf 369 (Zg #[Zp (some ⟨11,90,none⟩)])) w:=by kernel_rfl
theorem nD(w:Tw):(ReflectliteType.relation "Implements" ReflectliteType.implements_ #[Zg #[Zp (some ⟨11,90,none⟩)],Zf 369 (Zg #[Zp (some ⟨11,32,none⟩)])]).run prog w=.ok (Zo true) w:=by kernel_rfl
theorem AEN(v:Tv)(w:Tw):(ReflectliteType.typeOf #[Zf 90 v]).run prog w=.ok (Zf 369 (Zg #[Zp (some ⟨11,90,none⟩)])) w:=by kernel_rfl
theorem nM(w:Tw):(ReflectliteType.relation "AssignableTo" ReflectliteType.assignableTo #[Zg #[Zp (some ⟨11,90,none⟩)],Zf 369 (Zg #[Zp (some ⟨11,90,none⟩)])]).run prog w=.ok (Zo true) w:=by kernel_rfl
theorem ABj(x:Int)(w:Tw):(ReflectliteValue.unpack (Zf 90 (Zi x))).run prog w
 = .ok (Zg #[Zp (some ⟨11,90,none⟩),Zp (some ⟨w.heap.size,0,none⟩),.int .u64 130]) (w.alloc (Zk #[Zi x] 90)):=by kernel_rfl
theorem ABv(w:Tw):(Rtype.elem? 297).run prog w=.ok (some 90) w:=by kernel_rfl
theorem AK6(p:Addr)(w:Tw):(ReflectliteValue.mk 90 p ReflectliteValue.flagAddr).run prog w=.ok (Zg #[Zp (some ⟨11,90,none⟩),Zp (some p),.int .u64 386]) w:=by kernel_rfl
theorem AFG(a p:Addr)(W:Tw)(b:W.cell? a=some (Zp (some p))):
 (ReflectliteValue.method (ReflectliteValue.valueError "reflectlite.Value.Elem" 0) ReflectliteValue.elem #[Zg #[Zp (some ⟨11,297,none⟩),Zp (some a),.int .u64 150]]).run prog W
   = .ok (Zg #[Zp (some ⟨11,90,none⟩),Zp (some p),.int .u64 386]) W:=by
 rw[Lib.rl_method];simp only[Sem.run_bind,sJ,Result.andThen];simp[ReflectliteValue.elem,loadVar,isAgg,underlying,underlying297,b,Result.andThen,ABv,AK6]
theorem ADu{m:Array Tv->Type}(a b:Tv)(c:(v x:Tv)->m #[v,x])(d:(x:Array Tv)->m x):ReflectliteValue.set.match_3 m #[a,b] c d=c a b:=rfl
theorem AEo(a:Addr)(w:Tw):(ReflectliteValue.parts (Zg #[Zp (some ⟨11,90,none⟩),Zp (some a),.int .u64 386])).run prog w=.ok (some (90,a,386)) w:=by kernel_rfl
theorem AGw(a:Addr)(w:Tw):(ReflectliteValue.parts (Zg #[Zp (some ⟨11,90,none⟩),Zp (some a),.int .u64 130])).run prog w=.ok (some (90,a,130)) w:=by kernel_rfl
theorem AFE(w:Tw):(Rtype.directlyAssignable 90 90).run prog w=.ok true w:=by kernel_rfl
theorem AJy(a b:Addr)(x:Int)(c:Tv)(W:Tw)(d:W.cell? b=some (Zi x))(f:W.cell? a=some c)(e:W.frozen? a=false):
 (ReflectliteValue.set #[Zg #[Zp (some ⟨11,90,none⟩),Zp (some a),.int .u64 386],Zg #[Zp (some ⟨11,90,none⟩),Zp (some b),.int .u64 130]]).run prog W
   = .ok (Zu #[]) (W.setCell a (Zi x)):=by
 delta ReflectliteValue.set
 rw[ADu];simp only[Sem.run_bind,AEo,AGw,Result.andThen];simp[ReflectliteValue.flagAddr,loadVar,isAgg,underlying,underlying90,d,Result.andThen,AFE,storeVar,Value.cells,storeCells,Addr.add];rw[run_store prog W a _ _ (by rfl)];simp[f,e]
theorem AIm(x:Int)(t:Addr)(d:Tv)(w:Tw)(e:Ob w)(b:w.cell? t=some d)(f:w.frozen? t=false):
 Zc 212 #[Zf 90 (Zi x),Zf 297 (Zp (some t))] w λj z=>j=Zr (Zo true)/\z=((((w.alloc (Zk #[Zp (some t)] 297)).alloc (Zk #[Zp (some ⟨11,297,none⟩),Zp (some ⟨w.heap.size,0,none⟩),.int .u64 150] 332)).alloc (Zk #[Zp (some ⟨11,297,none⟩),Zp (some ⟨w.heap.size,0,none⟩),.int .u64 150] 332)).alloc (Zk #[Zi x] 90)).setCell t (Zi x):=by
 have J:=@run_callFunc_extern prog 249 _ (λargs=>ReflectliteValue.unpack (args.getD 0 (Zu #[]))) func249 (by kernel_rfl) (by kernel_rfl) (by kernel_rfl) (by kernel_rfl);have L:=@run_callFunc_extern prog 250 _ (ReflectliteValue.methodAny (ReflectliteValue.valueError "reflectlite.Value.Type" 0) (λt _ _ _=>ReflectliteType.toType t)) func250 (by kernel_rfl) (by kernel_rfl) (by kernel_rfl) (by kernel_rfl);have M:=@run_callFunc_extern prog 251 _ (ReflectliteValue.method (ReflectliteValue.valueError "reflectlite.Value.IsNil" 0) ReflectliteValue.isNil) func251 (by kernel_rfl) (by kernel_rfl) (by kernel_rfl) (by kernel_rfl);have n:=@run_callFunc_extern prog 345 _ (ReflectliteType.abiMethod λt=>do pure (.int .u8 (<-Rtype.kind t))) func345 (by kernel_rfl) (by kernel_rfl) (by kernel_rfl) (by kernel_rfl);have p:=@run_callFunc_extern prog 362 _ (ReflectliteType.method ReflectliteType.elem) func362 (by kernel_rfl) (by kernel_rfl) (by kernel_rfl) (by kernel_rfl);have q:=@run_callFunc_extern prog 363 _ (ReflectliteType.relation "Implements" ReflectliteType.implements_) func363 (by kernel_rfl) (by kernel_rfl) (by kernel_rfl) (by kernel_rfl);have k:=@run_callFunc_extern prog 293 _ ReflectliteType.typeOf func293 (by kernel_rfl) (by kernel_rfl) (by kernel_rfl) (by kernel_rfl);have o:=@run_callFunc_extern prog 360 _ (ReflectliteType.relation "AssignableTo" ReflectliteType.assignableTo) func360 (by kernel_rfl) (by kernel_rfl) (by kernel_rfl) (by kernel_rfl);have l:=@run_callFunc_extern prog 294 _ (ReflectliteValue.method (ReflectliteValue.valueError "reflectlite.Value.Elem" 0) ReflectliteValue.elem) func294 (by kernel_rfl) (by kernel_rfl) (by kernel_rfl) (by kernel_rfl);have m:=@run_callFunc_extern prog 295 _ ReflectliteValue.set func295 (by kernel_rfl) (by kernel_rfl) (by kernel_rfl) (by kernel_rfl);have U:=AEN;have N:=Rx;have g:=nM;have y:=ABj;have G:=vQ;have I:=type102;have R:=wL;have O:=wS;have P:=Vt;have v:=AHH;have u:=AIi;have i:=AHg;have s:=nD;have T:=AGU ⟨w.heap.size,0,none⟩ t ((w.alloc (Zk #[Zp (some t)] 297)).alloc (Zk #[Zp (some ⟨11,297,none⟩),Zp (some ⟨w.heap.size,0,none⟩),.int .u64 150] 332)) (by simp);have a:1<w.heap.size:=e.lt;have e:w.cell? ⟨1,0,none⟩=some (Zf 369 (Zg #[Zp (some ⟨11,32,none⟩)])):=e
 have r:((w.alloc (Zk #[Zp (some t)] 297)).alloc (Zk #[Zp (some ⟨11,297,none⟩),Zp (some ⟨w.heap.size,0,none⟩),.int .u64 150] 332)).cell? ⟨1,0,none⟩=some (Zf 369 (Zg #[Zp (some ⟨11,32,none⟩)])):=by rw[Yo _ _ ⟨1,0,none⟩ (by rw[XA];exact Nat.lt_succ_of_lt a),Yo _ _ ⟨1,0,none⟩ a];exact e
 have c:t.block<w.heap.size:=by
  rcases Yc t.block w.heap.size with h|h
  ·exact h
  simp[World.cell?,XH h] at b
 have D:=AFG ⟨w.heap.size,0,none⟩ t (((w.alloc (Zk #[Zp (some t)] 297)).alloc (Zk #[Zp (some ⟨11,297,none⟩),Zp (some ⟨w.heap.size,0,none⟩),.int .u64 150] 332)).alloc (Zk #[Zp (some ⟨11,297,none⟩),Zp (some ⟨w.heap.size,0,none⟩),.int .u64 150] 332)) (by rw[Yo _ _ ⟨w.heap.size,0,none⟩ (by simp;omega)];simp)
 have st:=AJy t ⟨w.heap.size+1+1+1,0,none⟩ x d ((((w.alloc (Zk #[Zp (some t)] 297)).alloc (Zk #[Zp (some ⟨11,297,none⟩),Zp (some ⟨w.heap.size,0,none⟩),.int .u64 150] 332)).alloc (Zk #[Zp (some ⟨11,297,none⟩),Zp (some ⟨w.heap.size,0,none⟩),.int .u64 150] 332)).alloc (Zk #[Zi x] 90))
  (by rw[World.cell?_alloc_at _ _ _ _ (by simp)];rfl)
  (by rw[Yo _ _ t (by simp;omega),Yo _ _ t (by simp;omega),Yo _ _ t (by simp;omega),Yo _ _ t c];exact b)
  (by rw[YJ _ _ t (by simp;omega),YJ _ _ t (by simp;omega),YJ _ _ t (by simp;omega),YJ _ _ t (Nat.ne_of_lt c)];exact f)
 go_enter func212,ntmps212;go_wp2;refine wp_loop_rounds 1 ?_;rw[rounds_succ];go_wp2;go_ret;exact⟨rfl,rfl⟩
theorem AGB(x:Int)(w:Tw)(g:Ob w):Zc 164 #[Zf 90 (Zi x)] w λe b=>e=Zr (Zi x)/\Zb w b:=by
 have i:Hid (∀W t,Ob W->W.cell? t=some (Zi 0)->W.frozen? t=false->w.heap.size<=t.block->Zb w W->Zc 212 #[Zf 90 (Zi x),Zf 297 (Zp (some t))] W λe b=>e=Zr (Zo true)/\b.cell? t=some (Zi x)/\Zb w b):=by
  intro W t k c l m a
  have f:t.block<W.heap.size:=by
   rcases Yc t.block W.heap.size with h|h
   ·exact h
   simp[World.cell?,XH h] at c
  refine(AIm x t _ W k c l).mono ?_;rintro e b⟨rfl,rfl⟩;refine⟨rfl,?_,?_⟩
  ·refine World.cell?_setCell_same _ _ _ (u:=Zi 0) ?_
   rw[Yo _ _ t (by simp;omega),Yo _ _ t (by simp;omega),Yo _ _ t (by simp;omega),Yo _ _ t f];exact c
  exact((((a.alloc (by have:=a.size;omega) _).alloc (by have:=a.size;simp;omega) _).alloc (by have:=a.size;simp;omega) _).alloc (by have:=a.size;simp;omega) _).setCell m _
 have j:Hid (∀o,Ob (w.alloc o)):=λo=>g.below (Zal)
 clear g;go_enter func164,ntmps164
 go_wp2_with (first
  | (go_at_call 212;refine(i.o _ ⟨w.heap.size,0,none⟩ (j.o _) (by simp) (by simp) (Y9 _) (Zal)).mono ?_;rintro e p⟨rfl,n,d⟩))
 go_ret;exact⟨rfl,d⟩
namespace F
variable{l:List Aj}
attribute [local go_sem] Oper.semAt_some
def gK(r:Option s9)(w:World)(e:Ending)(a:World):Prop:=match r with
 | none=>∃T v,e=.returned (.tuple #[.agg #[.slice none 0 0,.slice none 0 0],.iface T v])/\Zb w a
 | some f=>∃b c,e=.returned (.tuple #[.agg #[b,c],.nilIface])/\Hm a b c f/\Zb w a
theorem Ss{rows:List (List V)}(h:De l rows=false):J9 l rows=none:=by unfold J9;rw[if_neg (by simp[h])]
theorem lG{rows:List (List V)}(h:De l rows=true):J9 l rows=some (l,Ay l rows):=by unfold J9;rw[if_pos h]
theorem AGV:(prog.info? 128).map (λi=>(i.zero,i.size,i.bytes))=some (some (Zg #[Zi 0,Zs none 0 0,Zs none 0 0]),3,56):=by kernel_rfl
theorem rW(lv rv:Tv)(l:List Aj)(rows:List (List V))(w:Tw)(hl:F7 7 Cc w lv l)(hr:iJ w rv rows)(hlen:l.length<=1000)(dp:rows.length<=100000)(b9:∀x∈l,x.2.1.size<=maxLen/\x.2.2.2.2.2.2.size<=maxLen)(ht:∀r∈rows,∀v∈r,v.2.2.size<=maxLen)(bp:K9 rows)(hw:Lw w)(hg:Ob w):
 Zc 109 #[lv,rv] w (gK (J9 l rows) w):=by
 have HL:=Aa hl;have HR:=Aa hr;have HT:=Aa ht;have cd:=Aa bp;have HG:=Aa hg;obtain⟨la,s,rfl,dk⟩:=hl.slice;obtain⟨ra,rc,rfl,c9⟩:=hr.slice;obtain⟨ac,hX,hY,hB⟩:=Kt w (Zk #[Zs la l.length s] 34) (Zk #[Zs none 0 0,Zs none 0 0] 98);have c1:((w.alloc (Zk #[Zs la l.length s] 34)).alloc (Zk #[Zs none 0 0,Zs none 0 0] 98)).cell? ⟨w.heap.size,0,none⟩=some (Zs la l.length s):=by simp[World.cell?,hX]
 have X:=Aa (kR (Zs la l.length s) l 1099511627777 _ (hl.up hB) hlen b9 (hw.below hB));have HX:=Aa hX;have HY:=Aa hY;have HB:=Aa hB;have af:=Aa ac;clear hl hr ht bp hw hg b9 hX hY hB ac;cases hR:Be l 1099511627777 with
 | false=>rw[hR] at X;have HE:Hid (J9 l rows=none):=Aa (Ss (by unfold De Lf;rw[hR];rfl));obtain⟨y0,y1⟩:=Hg HY.o;refine callsIn_wide (n:=5).1 ?_;refine callsIn_of_wp_marks func109 rfl trivial ?_ rfl;simp only[ntmps109,XT,XV,XY,Nat.reduceAdd,Nat.reduceSub,XP,XQ,XU,XR,XZ,XO];refine wpIn_wide.2 ?_;go_wp2_with fail;refine X.o.mono ?_;rintro e w1⟨rfl,O⟩;have z:=(O.block (w.heap.size+1) (by have:=af.o;omega)).trans HY.o;obtain⟨z0,z1⟩:=Hg z;have f0:=frozen_of_row w1 (w.heap.size+1) 0 _ _ z;have f1:=frozen_of_row w1 (w.heap.size+1) 1 _ _ z;go_wp2;refine⟨Zu #[Zg #[Zs none 0 0,Zs none 0 0],Zf 90 (Zi 1)],by simp[results,results109,go_sem,z0,z1],?_⟩;rw[HE.o];exact⟨_,_,rfl,((Ap HB.o O).setCell (p:=⟨w.heap.size+1,0,none⟩) (XI _) _).setCell (p:=⟨w.heap.size+1,1,none⟩) (XI _) _⟩
 | true=>
   rw[hR] at X;have ar:=K5.1 hR;have c0:=ar.one;have b4:=ar.eight;have bn:=Aa ar;clear ar c1
   have a7:Hid (∀W,Below (w.heap.size+2) ((w.alloc (Zk #[Zs la l.length s] 34)).alloc (Zk #[Zs none 0 0,Zs none 0 0] 98)) W->W.cell? ⟨w.heap.size,0,none⟩=some (Zs la l.length s)/\W.heap[w.heap.size+1]? = some (Zk #[Zs none 0 0,Zs none 0 0] 98)/\Below w.heap.size w W):=Aa (λW hW=>by
    have N:Below ((w.alloc (Zk #[Zs la l.length s] 34)).alloc (Zk #[Zs none 0 0,Zs none 0 0] 98)).heap.size ((w.alloc (Zk #[Zs la l.length s] 34)).alloc (Zk #[Zs none 0 0,Zs none 0 0] 98)) W:=by rw[af.o];exact hW
    have hc:((w.alloc (Zk #[Zs la l.length s] 34)).alloc (Zk #[Zs none 0 0,Zs none 0 0] 98)).cell? ⟨w.heap.size,0,none⟩=some (Zs la l.length s):=by simp[World.cell?,HX.o]
    exact⟨Ag N hc,(N.block (w.heap.size+1) (by rw[af.o];omega)).trans HY.o,Ap HB.o N⟩)
   have ac:=af.o
   by_cases h60:1<=rows.length/\rows.length<=60
   ·obtain⟨c4,b7⟩:=h60
    have df:¬(rows.length:Int)<1:=by omega
    have c6:¬(60:Int)<(rows.length:Int):=by omega
    refine(callsIn_wide (n:=5)).1 ?_;refine callsIn_of_wp_marks func109 rfl trivial ?_ rfl;simp only[ntmps109,XT,XV,XY,Nat.reduceAdd,Nat.reduceSub,XP,XQ,XU,XR,XZ,XO];refine wpIn_wide.2 ?_;go_wp2_with fail;refine X.o.mono ?_;rintro e w1⟨rfl,O⟩;have ce:Hid (Below (w.heap.size+2) ((w.alloc (Zk #[Zs la l.length s] 34)).alloc (Zk #[Zs none 0 0,Zs none 0 0] 98)) w1):=Aa (by rw[<-ac];exact O);clear O X;generalize (w.alloc (Zk #[Zs la l.length s] 34)).alloc (Zk #[Zs none 0 0,Zs none 0 0] 98)=W2 at *;go_wp2
    go_loopw [28] (λvi wr=>∃i:Nat,i<=rows.length/\vi=Zi i/\Hid (∀j r,j<i->rows[j]? = some r->Hu l r=0)/\Hid (Below (w.heap.size+2) W2 wr)) (λvi _=>rows.length-(intOf vi).toNat)
    case atStart=>exact⟨0,XE _,rfl,Aa (λj r hj=>absurd hj (Ym _)),ce⟩
    case round=>
     obtain⟨i,hi,rfl,bh,bb⟩:=hrel;obtain⟨q0,ao,Y⟩:=a7.o wr bb.o;have a0:=bb.o.size;rw[ac] at a0
     by_cases hlt:i<rows.length
     ·obtain⟨r,hr⟩:∃r,rows[i]? = some r:=⟨_,XB hlt⟩
      obtain⟨T,U,dc,xv,er,dn,cx,bt⟩:=(HR.o.up Y).at hr;injection er with a8 _ cn;subst a8 cn;have ad:=Aa (AA2 (Zs la l.length s) xv l r wr (HL.o.up Y) bt hlen (HT.o r (XC hr)));obtain⟨xa,xc,rfl,_,_⟩:=bt;have b3:(i:Int)<(rows.length:Int):=by omega
      have bo:=Aa hr;clear hr
      by_cases hz:Hu l r=0
      ·have he:L8 (Hu l r)=Zn:=by unfold L8;rw[if_pos hz]
       rw[he] at ad
       have ci:Hid (∀j r,j<i+1->rows[j]? = some r->Hu l r=0):=Aa (λj r' hj an=>by
        by_cases e:j=i
        ·subst e;rw[bo.o] at an;injection an with an;rw[<-an];exact hz
        exact bh.o j r' (by omega) an)
       clear he hz;go_wp2_with fail;refine ad.o.mono ?_;rintro e w3⟨rfl,ak⟩;have cu:=bb.o.trans (ak.mono a0);go_wp2;exact⟨⟨i+1,by omega,by go_num,ci,Aa cu⟩,by simp[intOf];omega⟩
      have he:L8 (Hu l r)=Zf 90 (Zi (Hu l r)):=by unfold L8;rw[if_neg hz]
      rw[he] at ad
      have HE:Hid (J9 l rows=none):=Aa (Ss (by
       cases h:De l rows with
       | false=>rfl
       | true=>exact absurd ((B4.1 h).2.2.2 r (XC bo.o)) hz))
      generalize Hu l r=x at *;clear he hz;go_wp2_with fail;refine ad.o.mono ?_;rintro e w3⟨rfl,ak⟩;have cj:=Aa (AGB x w3 (HG.o.below (Ap Y ak)));go_wp2_with fail;refine cj.o.mono ?_;rintro e w4⟨rfl,bz⟩;have ay:Below w4.heap.size w4 (w4.alloc (Zk #[Zi x,Zi i] 175)):=Zal;have au:=((Ap (Ap ak bz) ay).block (w.heap.size+1) (by omega)).trans ao;obtain⟨z0,z1⟩:=Hg au;have f0:=frozen_of_row _ (w.heap.size+1) 0 _ _ au;have f1:=frozen_of_row _ (w.heap.size+1) 1 _ _ au;have bx:=Ap Y (Ap (Ap ak bz) ay);clear au;go_wp2;refine⟨Zu #[Zg #[Zs none 0 0,Zs none 0 0],Zf 173 (Zp (some ⟨w4.heap.size,0,none⟩))],by simp[results,results109,go_sem,z0,z1],?_⟩;rw[HE.o];exact⟨_,_,rfl,(bx.setCell (p:=⟨w.heap.size+1,0,none⟩) (XI _) _).setCell (p:=⟨w.heap.size+1,1,none⟩) (XI _) _⟩
     have ei:i=rows.length:=by omega
     have b3:¬(i:Int)<(rows.length:Int):=by omega
     have bl:Hid (De l rows=true):=Aa (B4.2 ⟨bn.o,c4,b7,λr hr=>by obtain⟨j,hj,rfl⟩:=Yj hr;exact bh.o j _ (by omega) (XB hj)⟩)
     obtain⟨g,o,c,eC,di,bs⟩:=wR (HL.o.up Y) c0;injection eC with ck _ cl;subst ck cl
     obtain⟨T,U,c8⟩:∃T U,ra=some ⟨T,U,none⟩:=by obtain⟨vs,da,ds,dt⟩:=HR.o;obtain⟨T,U,dc,er,_,_,_⟩:=da.cons (by omega);injection er with a8 _ _;exact⟨T,U,a8⟩
     subst c8;have bk:=Aa (Rb g o s l wr bs b4);clear ei bh bs;go_wp2_with fail;refine bk.o.mono ?_;rintro e w5⟨g5,c5,rfl,b5,a9⟩;have a4:=Aa (ACB (some ⟨T,U,none⟩) rows.length rc (w5.alloc (Zk #[Zs (some ⟨g5,0,none⟩) l.length c5,Zs none 0 0] 98)));simp only[XA,WA,Nat.reduceAdd] at a4;have ch:=Aa b5;have cf:=Aa a9;have dq:=a9.size;clear b5 a9 bk;go_wp2_with fail;refine a4.o.mono ?_;rintro e w6⟨rfl,rfl⟩;clear a4;obtain⟨dr,cp,br,bq,cr⟩:=Jl w5 (Zk #[Zs (some ⟨g5,0,none⟩) l.length c5,Zs none 0 0] 98) (Zk #[Zs (some ⟨T,U,none⟩) rows.length rc] 35) (Zk #[Zi 6] 3);go_wp2_with fail;generalize ((w5.alloc (Zk #[Zs (some ⟨g5,0,none⟩) l.length c5,Zs none 0 0] 98)).alloc (Zk #[Zs (some ⟨T,U,none⟩) rows.length rc] 35)).alloc (Zk #[Zi 6] 3)=W7 at *;have cw:W7.cell? ⟨w5.heap.size+1,0,none⟩=some (Zs (some ⟨T,U,none⟩) rows.length rc):=by simp[World.cell?,br]
     have cv:W7.cell? ⟨w5.heap.size+2,0,none⟩=some (Zi 6):=by simp[World.cell?,bq]
     obtain⟨iG,b2,ca,a2,a3⟩:=info_parts AGV;have d:=Zy b2 ca a2 a3;have ae:Hid (∀args w,(callFunc 165 args).run prog w=.ok (.enter 165 args) w):=Aa (enters_of func165 (by kernel_rfl) rfl)
     have HW:Hid (∀W,Below w5.heap.size w5 W->F7 7 Cc W (Zs (some ⟨g,o,none⟩) l.length s) l/\iJ W (Zs (some ⟨T,U,none⟩) rows.length rc) rows/\W.cell? ⟨w.heap.size,0,none⟩=some (Zs (some ⟨g,o,none⟩) l.length s)/\W.heap[w.heap.size+1]? = some (Zk #[Zs none 0 0,Zs none 0 0] 98)/\Below w.heap.size w W):=Aa (λW hW=>by have hb:=Ap cf.o hW;have bd:=Ap Y hb;exact⟨HL.o.up bd,HR.o.up bd,Ag hb q0,(hb.block (w.heap.size+1) (by omega)).trans ao,bd⟩)
     have bm:Hid (∀k,k<aF rows.length->Gr l (Dz rows k)/\1<=(Dz rows k).length/\(Dz rows k).length<=6):=Aa (λk hk=>⟨λr hr=>Mu (B4.1 bl.o).2.2.2 cd.o r (List.mem_of_mem_drop (Yk hr)),kD hk⟩);have cg:Hid (Kl l):=Aa (bn.o.kinds);clear b2 ca a2 a3 br bq q0 ao Y;refine(wpIn_wide (n:=5)).1 ?_
     refine wpIn_rangeFunc_ownG (w0:=W7) rfl (by decide) (gf:=114) (lb:=#[Zp (some ⟨w5.heap.size+1,0,none⟩),Zp (some ⟨w5.heap.size+2,0,none⟩)]) (by rfl) trivial (enters_of func114 (by kernel_rfl) rfl)
      (rS _ (by decide) (w5.heap.size+1) (w5.heap.size+2) T U rows.length rc (by omega) c9 W7 (by omega) (by omega) cw cv) KpC.t ?hKb (Y' _ _) (λ_=>rfl) (MkI l rows w5.heap.size (Zs (some ⟨g5,0,none⟩) l.length c5) w5) (λ_ _ _=>False) (MkI.own (Y9 _) (by omega)) (λ_ _ _ _ _ h _ _=>h) ⟨⟨_,cp,uW _ _⟩,cr,by omega⟩ ?a1 ?assign ?body ?done ?stop
     case hKb=>
      intro W q o1 o2 hq dm _ _;constructor
      ·unfold World.cell?;rw[XM (by show w5.heap.size+1≠q;omega)]
      unfold World.cell?;rw[XM (by show w5.heap.size+2≠q;omega)]
     case assign=>intro q x W K hK;gi_wp2;exact hK
     case stop=>rintro D c pre W _ _ h _;exact h.elim
     case body=>
      rintro q pre k W⟨⟨gv,R,⟨xs,ap,M,av⟩⟩,I,J⟩dl;simp only[X'] at ap M;have dj:=k.2;have cz:k.1<aF rows.length:=by unfold aF;omega
      have cc:aF rows.length<=10:=by unfold aF;omega
      obtain⟨az,c2,c3⟩:=bm.o k.1 cz;obtain⟨bu,bw,cq,_,_⟩:=HW.o W I;have de:=I.size;have a5:Hid (∀W',Below W.heap.size W W'->Zc 165 #[Zs (some ⟨g,o,none⟩) l.length s,ckV T U rows.length k] W' _):=Aa (λW' N=>AB7 _ _ l (Dz rows k.1) W' (bu.up N) (iJ.up (ADs bw rfl k) N) b4 c2 c3 az cg.o);have a6:Hid (∀W',Below W.heap.size W W'->W'.cell? ⟨w5.heap.size,1,none⟩=some gv):=Aa (λW' N=>Ag N (Hg R).2);have q1:W.drew.cell? ⟨w5.heap.size,1,none⟩=some gv:=(Hg R).2;have q2:W.drew.cell? ⟨w.heap.size,0,none⟩=some (Zs (some ⟨g,o,none⟩) l.length s):=cq;clear bu bw az HW bm;refine wpIn_block ?_;refine wpIn_region_any (by kernel_rfl) (Qe ?hops ?hQ _ _ _ _ ?_)
      case hops=>
       intro i o h c hc;have h:=Array.mem_of_getElem? h;simp only[List.mem_toArray,X2,List.not_mem_nil,or_false] at h
       rcases h with rfl|rfl|rfl|rfl|rfl|rfl|rfl|rfl|rfl <;> simp at hc
      case hQ=>rintro⟨a,W',h⟩;exact h
      refine wpAny_take (i:=0) (v:=Zp (some ⟨w5.heap.size,1,none⟩)) rfl (by kernel_rfl) (by kernel_rfl) (by kernel_rfl) (λ_ _ _ h=>h) (Or.inl ⟨by rfl,?t0⟩) ?_
      case t0=>(intro w;go_simp)
      refine wpAny_take (i:=3) (v:=ckV T U rows.length k) rfl (by kernel_rfl) (by kernel_rfl) (by kernel_rfl) (λ_ _ _ h=>h) (Or.inl ⟨by rfl,?t3⟩) ?_
      case t3=>(intro w;go_simp)
      refine wpAny_ready (rs:=[1,2]) (by kernel_rfl) (by simp) ?_;refine AllReady.cons rfl (λK hK=>?_) ?_
      ·go_simp
       refine hK _ _ ?_;clear hK K;refine wpAny_ready (rs:=[2]) (by kernel_rfl) (by simp) ?_;refine AllReady.cons rfl (λK hK=>?_) ?_
       ·go_simp
        refine hK _ _ ?_;clear hK K;refine wpAny_ready (rs:=[4]) (by kernel_rfl) (by simp) ?_;refine AllReady.cons rfl (λK hK=>?_) ?_
        ·refine Gc (by rfl) 165 (.tmp 54) (.tmp 55) 34 35 (by rfl) (Zs (some ⟨g,o,none⟩) l.length s) (ckV T U rows.length k) (by rfl) (by rfl) ae.o _ (a5.o _ (Y' _ _).drew) ?_
         rintro e y⟨sv,bv,rfl,L,G,P⟩;have f:Below W.heap.size W y:=Ap (Y' _ _).drew P;have b8:=f.size;obtain⟨sa,sc,ai,_⟩:=E.Ak L;obtain⟨ba,bc,ah,_⟩:=E.Ak G;subst ai ah;refine⟨_,rfl,?_⟩;have p1:=a6.o y f;have cb:(y.alloc (Zk #[Zi (Dz rows k.1).length,Zs sa l.length sc,Zs ba l.length bc] 128)).cell? ⟨w5.heap.size,1,none⟩=some gv:=Ag ((Y' y.heap.size y).alloc (Y9 _) _) p1
         try go_simp
         refine hK _ _ ?_;clear hK K;refine wpAny_ready (rs:=[5]) (by kernel_rfl) (by simp) ?_;refine AllReady.cons rfl (λK hK=>?_) ?_
         ·go_simp
          refine hK _ _ ?_;clear hK K;refine wpAny_ready (rs:=[6]) (by kernel_rfl) (by simp) ?_;refine AllReady.cons rfl (λK hK=>?_) ?_
          ·refine step_append_lies _ (by rfl) (.tmp 53) (.tmp 57) 96 (by rfl) (w5.heap.size+3) 128 iG (.agg #[Zi 0,.slice none 0 0,.slice none 0 0]) 3 56 underlying96 d.o.1 d.o.2.1 d.o.2.2.1 d.o.2.2.2 rfl (by decide) gv pre.length (xs.flatMap aG) (by rfl) ((E.Ad M f).alloc _) ⟨y.heap.size,0,none⟩ 1 1 [Zi (Dz rows k.1).length,.slice sa l.length sc,.slice ba l.length bc] (by rfl) rfl (λj u hj=>XD (heap_alloc_new _ _) j u hj) (by simp[Value.oneCell']) (by omega) (by unfold maxLen;omega) (by omega) (by simp;omega) _ rfl ?_
           intro g9 ag w9 ab aa aj am;have b:=Aa (P0 (B:=W7.heap.size) (l:=l) (rows:=rows) (pre:=pre) (k:=k) f ap M av L G ab aa R I J);obtain⟨r1,r2,_⟩:=b.o
           try go_simp
           refine hK _ _ ?_;clear hK K;refine wpAny_take (i:=7) (v:=Zp (some ⟨w5.heap.size,1,none⟩)) rfl (by kernel_rfl) (by kernel_rfl) (by kernel_rfl) (λ_ _ _ h=>h) (Or.inl ⟨by rfl,?t7⟩) ?_
           case t7=>(intro w;go_simp)
           refine wpAny_ready (rs:=[8]) (by kernel_rfl) (by simp) ?_;refine AllReady.cons rfl (λK hK=>?_) ?_
           ·go_simp
            refine hK _ _ ?_;clear hK K;refine wpAny_done (by kernel_rfl) ?_ _;exact b.o.2.2 (λ_ _ _=>False) { tmps:=#[],defers:=[] }
           exact AllReady.nil
          exact AllReady.nil
         exact AllReady.nil
        exact AllReady.nil
       exact AllReady.nil
      refine AllReady.cons rfl (λK hK=>?_) ?_
      ·go_simp
       refine hK _ _ ?_;clear hK K;refine wpAny_ready (rs:=[1,4]) (by kernel_rfl) (by simp) ?_;refine AllReady.cons rfl (λK hK=>?_) ?_
       ·go_simp
        refine hK _ _ ?_;clear hK K;refine wpAny_ready (rs:=[4]) (by kernel_rfl) (by simp) ?_;refine AllReady.cons rfl (λK hK=>?_) ?_
        ·refine Gc (by rfl) 165 (.tmp 54) (.tmp 55) 34 35 (by rfl) (Zs (some ⟨g,o,none⟩) l.length s) (ckV T U rows.length k) (by rfl) (by rfl) ae.o _ (a5.o _ (Y' _ _).drew) ?_
         rintro e y⟨sv,bv,rfl,L,G,P⟩;have f:Below W.heap.size W y:=Ap (Y' _ _).drew P;have b8:=f.size;obtain⟨sa,sc,ai,_⟩:=E.Ak L;obtain⟨ba,bc,ah,_⟩:=E.Ak G;subst ai ah;refine⟨_,rfl,?_⟩;have p1:=a6.o y f;have cb:(y.alloc (Zk #[Zi (Dz rows k.1).length,Zs sa l.length sc,Zs ba l.length bc] 128)).cell? ⟨w5.heap.size,1,none⟩=some gv:=Ag ((Y' y.heap.size y).alloc (Y9 _) _) p1
         try go_simp
         refine hK _ _ ?_;clear hK K;refine wpAny_ready (rs:=[5]) (by kernel_rfl) (by simp) ?_;refine AllReady.cons rfl (λK hK=>?_) ?_
         ·go_simp
          refine hK _ _ ?_;clear hK K;refine wpAny_ready (rs:=[6]) (by kernel_rfl) (by simp) ?_;refine AllReady.cons rfl (λK hK=>?_) ?_
          ·refine step_append_lies _ (by rfl) (.tmp 53) (.tmp 57) 96 (by rfl) (w5.heap.size+3) 128 iG (.agg #[Zi 0,.slice none 0 0,.slice none 0 0]) 3 56 underlying96 d.o.1 d.o.2.1 d.o.2.2.1 d.o.2.2.2 rfl (by decide) gv pre.length (xs.flatMap aG) (by rfl) ((E.Ad M f).alloc _) ⟨y.heap.size,0,none⟩ 1 1 [Zi (Dz rows k.1).length,.slice sa l.length sc,.slice ba l.length bc] (by rfl) rfl (λj u hj=>XD (heap_alloc_new _ _) j u hj) (by simp[Value.oneCell']) (by omega) (by unfold maxLen;omega) (by omega) (by simp;omega) _ rfl ?_
           intro g9 ag w9 ab aa aj am;have b:=Aa (P0 (B:=W7.heap.size) (l:=l) (rows:=rows) (pre:=pre) (k:=k) f ap M av L G ab aa R I J);obtain⟨r1,r2,_⟩:=b.o
           try go_simp
           refine hK _ _ ?_;clear hK K;refine wpAny_take (i:=7) (v:=Zp (some ⟨w5.heap.size,1,none⟩)) rfl (by kernel_rfl) (by kernel_rfl) (by kernel_rfl) (λ_ _ _ h=>h) (Or.inl ⟨by rfl,?t7⟩) ?_
           case t7=>(intro w;go_simp)
           refine wpAny_ready (rs:=[8]) (by kernel_rfl) (by simp) ?_;refine AllReady.cons rfl (λK hK=>?_) ?_
           ·go_simp
            refine hK _ _ ?_;clear hK K;refine wpAny_done (by kernel_rfl) ?_ _;exact b.o.2.2 (λ_ _ _=>False) { tmps:=#[],defers:=[] }
           exact AllReady.nil
          exact AllReady.nil
         exact AllReady.nil
        exact AllReady.nil
       refine AllReady.cons rfl (λK hK=>?_) ?_
       ·refine Gc (by rfl) 165 (.tmp 54) (.tmp 55) 34 35 (by rfl) (Zs (some ⟨g,o,none⟩) l.length s) (ckV T U rows.length k) (by rfl) (by rfl) ae.o _ (a5.o _ (Y' _ _).drew) ?_
        rintro e y⟨sv,bv,rfl,L,G,P⟩;have f:Below W.heap.size W y:=Ap (Y' _ _).drew P;have b8:=f.size;obtain⟨sa,sc,ai,_⟩:=E.Ak L;obtain⟨ba,bc,ah,_⟩:=E.Ak G;subst ai ah;refine⟨_,rfl,?_⟩;have p1:=a6.o y f;have cb:(y.alloc (Zk #[Zi (Dz rows k.1).length,Zs sa l.length sc,Zs ba l.length bc] 128)).cell? ⟨w5.heap.size,1,none⟩=some gv:=Ag ((Y' y.heap.size y).alloc (Y9 _) _) p1
        try go_simp
        refine hK _ _ ?_;clear hK K;refine wpAny_ready (rs:=[1,5]) (by kernel_rfl) (by simp) ?_;refine AllReady.cons rfl (λK hK=>?_) ?_
        ·go_simp
         refine hK _ _ ?_;clear hK K;refine wpAny_ready (rs:=[5]) (by kernel_rfl) (by simp) ?_;refine AllReady.cons rfl (λK hK=>?_) ?_
         ·go_simp
          refine hK _ _ ?_;clear hK K;refine wpAny_ready (rs:=[6]) (by kernel_rfl) (by simp) ?_;refine AllReady.cons rfl (λK hK=>?_) ?_
          ·refine step_append_lies _ (by rfl) (.tmp 53) (.tmp 57) 96 (by rfl) (w5.heap.size+3) 128 iG (.agg #[Zi 0,.slice none 0 0,.slice none 0 0]) 3 56 underlying96 d.o.1 d.o.2.1 d.o.2.2.1 d.o.2.2.2 rfl (by decide) gv pre.length (xs.flatMap aG) (by rfl) ((E.Ad M f).alloc _) ⟨y.heap.size,0,none⟩ 1 1 [Zi (Dz rows k.1).length,.slice sa l.length sc,.slice ba l.length bc] (by rfl) rfl (λj u hj=>XD (heap_alloc_new _ _) j u hj) (by simp[Value.oneCell']) (by omega) (by unfold maxLen;omega) (by omega) (by simp;omega) _ rfl ?_
           intro g9 ag w9 ab aa aj am;have b:=Aa (P0 (B:=W7.heap.size) (l:=l) (rows:=rows) (pre:=pre) (k:=k) f ap M av L G ab aa R I J);obtain⟨r1,r2,_⟩:=b.o
           try go_simp
           refine hK _ _ ?_;clear hK K;refine wpAny_take (i:=7) (v:=Zp (some ⟨w5.heap.size,1,none⟩)) rfl (by kernel_rfl) (by kernel_rfl) (by kernel_rfl) (λ_ _ _ h=>h) (Or.inl ⟨by rfl,?t7⟩) ?_
           case t7=>(intro w;go_simp)
           refine wpAny_ready (rs:=[8]) (by kernel_rfl) (by simp) ?_;refine AllReady.cons rfl (λK hK=>?_) ?_
           ·go_simp
            refine hK _ _ ?_;clear hK K;refine wpAny_done (by kernel_rfl) ?_ _;exact b.o.2.2 (λ_ _ _=>False) { tmps:=#[],defers:=[] }
           exact AllReady.nil
          exact AllReady.nil
         exact AllReady.nil
        refine AllReady.cons rfl (λK hK=>?_) ?_
        ·go_simp
         refine hK _ _ ?_;clear hK K;refine wpAny_ready (rs:=[1]) (by kernel_rfl) (by simp) ?_;refine AllReady.cons rfl (λK hK=>?_) ?_
         ·go_simp
          refine hK _ _ ?_;clear hK K;refine wpAny_ready (rs:=[6]) (by kernel_rfl) (by simp) ?_;refine AllReady.cons rfl (λK hK=>?_) ?_
          ·refine step_append_lies _ (by rfl) (.tmp 53) (.tmp 57) 96 (by rfl) (w5.heap.size+3) 128 iG (.agg #[Zi 0,.slice none 0 0,.slice none 0 0]) 3 56 underlying96 d.o.1 d.o.2.1 d.o.2.2.1 d.o.2.2.2 rfl (by decide) gv pre.length (xs.flatMap aG) (by rfl) ((E.Ad M f).alloc _) ⟨y.heap.size,0,none⟩ 1 1 [Zi (Dz rows k.1).length,.slice sa l.length sc,.slice ba l.length bc] (by rfl) rfl (λj u hj=>XD (heap_alloc_new _ _) j u hj) (by simp[Value.oneCell']) (by omega) (by unfold maxLen;omega) (by omega) (by simp;omega) _ rfl ?_
           intro g9 ag w9 ab aa aj am;have b:=Aa (P0 (B:=W7.heap.size) (l:=l) (rows:=rows) (pre:=pre) (k:=k) f ap M av L G ab aa R I J);obtain⟨r1,r2,_⟩:=b.o
           try go_simp
           refine hK _ _ ?_;clear hK K;refine wpAny_take (i:=7) (v:=Zp (some ⟨w5.heap.size,1,none⟩)) rfl (by kernel_rfl) (by kernel_rfl) (by kernel_rfl) (λ_ _ _ h=>h) (Or.inl ⟨by rfl,?t7⟩) ?_
           case t7=>(intro w;go_simp)
           refine wpAny_ready (rs:=[8]) (by kernel_rfl) (by simp) ?_;refine AllReady.cons rfl (λK hK=>?_) ?_
           ·go_simp
            refine hK _ _ ?_;clear hK K;refine wpAny_done (by kernel_rfl) ?_ _;exact b.o.2.2 (λ_ _ _=>False) { tmps:=#[],defers:=[] }
           exact AllReady.nil
          exact AllReady.nil
         exact AllReady.nil
        exact AllReady.nil
       exact AllReady.nil
      exact AllReady.nil
     case done=>
      rintro D ys W hD db⟨⟨gv,R,b0⟩,I,dd⟩hK;obtain⟨_,_,_,m,ct⟩:=HW.o W I;obtain⟨f0,f1⟩:=Hg R;obtain⟨z0,z1⟩:=Hg m;have y0:=frozen_of_row W (w.heap.size+1) 0 _ _ m;have y1:=frozen_of_row W (w.heap.size+1) 1 _ _ m;obtain⟨ga,gc,rfl,_⟩:=vL.slice b0.slg;gi_wp2;go_wp2;have dh:w5.heap.size+3<=D:=by omega
      have co:=E.Ac hK;have bg:W.grownBy ((W.setCell ⟨w.heap.size+1,0,none⟩ (Zs (some ⟨g5,0,none⟩) l.length c5)).setCell ⟨w.heap.size+1,1,none⟩ (Zs ga ys.length gc)) (some (w.heap.size+1)):=E.Al (E.Ar W (w.heap.size+1) 0 _) (E.Ar _ (w.heap.size+1) 1 _);have aq:=(bg.block D co (by simp;omega)).trans hK;have bi:=heap_setCell_same _ (w.heap.size+1) 1 _ _ (Zs ga ys.length gc) (heap_setCell_same W (w.heap.size+1) 0 _ _ (Zs (some ⟨g5,0,none⟩) l.length c5) m);have cs:Below w.heap.size w ((W.setCell ⟨w.heap.size+1,0,none⟩ (Zs (some ⟨g5,0,none⟩) l.length c5)).setCell ⟨w.heap.size+1,1,none⟩ (Zs ga ys.length gc)):=(ct.setCell (p:=⟨w.heap.size+1,0,none⟩) (XI _) _).setCell (p:=⟨w.heap.size+1,1,none⟩) (XI _) _;have b6:=E.Dc (E.Ad ch.o (Below.mono I (Y9 _))) (show w.heap.size+1<wr.heap.size by omega) bg;have b1:=b0.kept bg (λr e=>by injection e with e;subst e;exact⟨_,m,.inr ⟨_,rfl⟩⟩);refine⟨by simp,.inl ⟨_,_,rfl,run_takeDeferred aq,?_⟩⟩;generalize (W.setCell ⟨w.heap.size+1,0,none⟩ (Zs (some ⟨g5,0,none⟩) l.length c5)).setCell ⟨w.heap.size+1,1,none⟩ (Zs ga ys.length gc)=W9 at *;have c7:=(XM (w:=W9) (r:=D) (k:=w.heap.size+1) (o:=.deferred none) (by omega)).trans bi;obtain⟨x0,x1⟩:=Hg c7;refine⟨Zu #[Zg #[Zs (some ⟨g5,0,none⟩) l.length c5,Zs ga ys.length gc],Zn],by simp[results,results109,go_sem,x0,x1],?_⟩;rw[lG bl.o];refine⟨_,_,rfl,⟨F7.Fz (k:=7) (enc:=Cc) (λ_=>rfl) (ownsRow_putObj b6 _ aq rfl) rfl,?_⟩,cs.trans (belowK_b (w:=w) (Y9 _) W9 D _ _ (by omega) aq rfl rfl)⟩;have cy:=(b1.kept (grownBy_putObj' W9 D (.deferred none)) (λr e=>by injection e with e;subst e;exact⟨_,aq,.inl rfl⟩)).slg;have cm:(ys.map λk=>An l (Dz rows k.1))=Ay l rows:=by unfold Ay parts;rw[<-db];simp[List.map_map,ckN,Function.comp_def]
      show vL _ _ (Ay l rows);rw[<-cm];simpa only [X'] using cy
   have HE:Hid (J9 l rows=none):=Aa (Ss (by
    cases h:De l rows with
    | false=>rfl
    | true=>exact absurd ⟨(B4.1 h).2.1,(B4.1 h).2.2.1⟩ h60))
   have hY:=HY.o;have aw:Hid (∀W,Below (w.heap.size+2) ((w.alloc (Zk #[Zs la l.length s] 34)).alloc (Zk #[Zs none 0 0,Zs none 0 0] 98)) W->W.cell? ⟨w.heap.size,0,none⟩=some (Zs la l.length s)/\W.heap[w.heap.size+1]? = some (Zk #[Zs none 0 0,Zs none 0 0] 98)/\Below w.heap.size w W):=a7;have bf:rows.length<1\/60<rows.length:=by omega
   have al:(rows.length:Int)<1\/(60:Int)<(rows.length:Int):=by omega
   refine(callsIn_wide (n:=5)).1 ?_;refine callsIn_of_wp_marks func109 rfl trivial ?_ rfl;simp only[ntmps109,XT,XV,XY,Nat.reduceAdd,Nat.reduceSub,XP,XQ,XU,XR,XZ,XO];refine wpIn_wide.2 ?_;go_wp2_with fail;refine X.o.mono ?_;rintro e w1⟨rfl,O⟩;obtain⟨_,z,ax⟩:=aw.o w1 (by rw[<-ac];exact O);obtain⟨z0,z1⟩:=Hg z;have f0:=frozen_of_row w1 (w.heap.size+1) 0 _ _ z;have f1:=frozen_of_row w1 (w.heap.size+1) 1 _ _ z;have dg:=Aa z;have bj:=Aa ax;clear z ax O X a7 aw hY HY ac af HB HX h60 bf
   rcases al with al|al
   all_goals go_wp2
   all_goals
    refine⟨Zu #[Zg #[Zs none 0 0,Zs none 0 0],Zf 90 (Zi 4)],by simp[results,results109,go_sem,z0,z1],?_⟩;rw[HE.o];exact⟨_,_,rfl,(bj.o.setCell (p:=⟨w.heap.size+1,0,none⟩) (XI _) _).setCell (p:=⟨w.heap.size+1,1,none⟩) (XI _) _⟩
variable{g:Fk}{c:Aj}{r:List (List V)}{l:List Aj}{W w:Tw}{v:V}{k n:Nat}{s:E.St}{a:Array Tv}
theorem AG2{cols:List Aj}(n:pos cols c.1<cols.length)(d:∀b∈g.2.2,b.length<=1000000):∀v∈Bq cols g c,Ks v/\v.2.2.size<=maxLen:=by
 unfold Bq;rw[if_pos n];intro v a;cases hd:E.Ll (kd (cols[pos cols c.1]?.getD zC)) (g.2.2[pos cols c.1]?.getD []) with
 | none=>rw[hd] at a;simp at a
 | some m=>
   rw[hd] at a;obtain⟨_,_,l⟩:=E.l3 hd
   have j:(g.2.2[pos cols c.1]?.getD []).length<=1000000:=by
    cases hx:g.2.2[pos cols c.1]? with
    | none=>simp
    | some b=>exact d b (XC hx)
   have e:=(E.nO (k:=kd (cols[pos cols c.1]?.getD zC)) j).1;rw[<-l] at e;obtain⟨f,h,i⟩:=e v a;exact⟨⟨f,h⟩,i⟩
theorem AD7{cols l:List Aj}(h:Ew cols g l=some r)(f:∀c∈l,pos cols c.1<cols.length)(a:∀b∈g.2.2,b.length<=1000000):∀row∈r,∀v∈row,Ks v/\v.2.2.size<=maxLen:=by
 unfold Ew at h;split at h
 ·injection h with h
  subst h;intro row d v i;unfold Lh at d;obtain⟨j,_,rfl⟩:=List.mem_map.1 d;obtain⟨c,e,rfl⟩:=List.mem_map.1 i;cases hx:(Bq cols g c)[j]? with
  | none=>exact⟨AEv,XE _⟩
  | some u=>exact AG2 (f c e) a u (XC hx)
 cases h
theorem sX{cols l:List Aj}(e:∀c∈l,pos cols c.1<cols.length):∀{gs:List Fk}{acc rows:List (List V)},Fb cols l acc gs=some rows->(∀g∈gs,∀b∈g.2.2,b.length<=1000000)->(∀row∈acc,∀v∈row,Ks v/\v.2.2.size<=maxLen)->∀row∈rows,∀v∈row,Ks v/\v.2.2.size<=maxLen
 | [],acc,rows,h,_,ha=>by rw[Fb] at h;injection h with h;subst h;exact ha
 | g :: gs,acc,rows,h,hs,ha=>by
   cases hr:Ew cols g l with
   | none=>rw[Nb hr] at h;cases h
   | some r=>
     rw[Nx hr] at h;refine sX e h (λf i=>hs f (Yg _ i)) (λrow a=>?_)
     rcases List.mem_append.1 a with d|d
     ·exact ha row d
     exact AD7 hr e (hs g Yf) row d
theorem ABu{cols l:List Aj}(h:Ew cols g l=some r)(b:1<=cols.length)(c:cols.length<=8):AEE g:=by
 unfold Ew at h;split at h
 ·rename_i a
  rw[X6] at a;have a:=a.1;simp only[Gb,decide_eq_true_eq] at a;exact⟨by omega,by omega,by omega,by omega⟩
 cases h
theorem lM{cols l:List Aj}(b:1<=cols.length)(c:cols.length<=8):∀{gs:List Fk}{acc rows:List (List V)},Fb cols l acc gs=some rows->∀g∈gs,AEE g
 | [],_,_,_=>by simp
 | g :: gs,acc,rows,h=>by
   cases hr:Ew cols g l with
   | none=>rw[Nb hr] at h;cases h
   | some r=>
     rw[Nx hr] at h;intro d a
     rcases List.mem_cons.1 a with rfl|a
     ·exact ABu hr b c
     exact lM b c h d a
theorem ADP{rows:List (List V)}{f:s9}(h:J9 l rows=some f)(b:1<=l.length)(c:l.length<=8):(∀g∈f.2,AEE g)/\f.2.length<=rows.length+5:=by
 unfold J9 at h;split at h
 ·injection h with h
  subst h;refine⟨λg a=>?_,?_⟩
  ·obtain⟨p,_,rfl⟩:=List.mem_map.1 a
   refine⟨?_,?_,?_,?_⟩ <;> simp[An] <;> omega
  simp[Ay,parts,aF];omega
 cases h
theorem lR(l:List Aj):∀c∈A7 l,pos l c.1<l.length:=λc a=>by
 have b:c.1∈ids l:=by rw[<-(Gh l).1];exact List.mem_map.2 ⟨c,a,rfl⟩
 have:=List.idxOf_lt_length_of_mem b;unfold pos;simpa[ids] using this
theorem cD(l:List Aj):∀x∈A7 l,x.2.1.size<=maxLen/\x.2.2.2.2.2.2.size<=maxLen:=λx a=>by
 unfold A7 at a;obtain⟨i,_,rfl⟩:=List.mem_map.1 a;constructor
 ·show (I3 i).size<=maxLen
  have:(I3 i).size=2:=rfl;rw[this];unfold maxLen;omega
 show (ByteArray.mk #[]).size<=maxLen;exact XE _
theorem rN{cols:List Aj}{gs:List Fk}(h:Be (A7 cols) 1099511627777=false):madeB (cols,gs)=false:=by unfold madeB Lf;rw[h];rfl
theorem bL{cols:List Aj}{gs:List Fk}(h:Fb cols (A7 cols) [] gs=none):madeB (cols,gs)=false:=by unfold madeB;simp only[h,Wb]
theorem AC3{cols:List Aj}{gs:List Fk}{rows:List (List V)}(h:Fb cols (A7 cols) [] gs=some rows)(a:J9 (A7 cols) rows=none):madeB (cols,gs)=false:=by unfold madeB;simp only[h,a,Wb]
theorem wP{cols:List Aj}{gs:List Fk}{rows:List (List V)}{f:s9}{b:Bool}(c:Be (A7 cols) 1099511627777=true)(h:Fb cols (A7 cols) [] gs=some rows)(d:J9 (A7 cols) rows=some f)(a:b=true↔gs=f.2):madeB (cols,gs)=b:=by
 unfold madeB Lf;simp only[c,h,d,Bool.true_and];cases b with
 | true=>simpa using a.1 rfl
 | false=>simp;intro e;cases a.2 e
theorem AFk(cv gv:Tv)(cols:List Aj)(gs:List Fk)(w:Tw)(hF:Hm w cv gv (cols,gs))(h8:cols.length<=8)(az:∀g∈gs,∀b∈g.2.2,b.length<=1000000)(bp:gs.length<=60)(hw:Lw w)(q:Ob w):
 Zc 146 #[Zg #[cv,gv]] w λe w'=>e=Zr (Zo (madeB (cols,gs)))/\Below w.heap.size w w':=by
 have HF:=Aa hF;have au:=Aa az;have HW:=Aa hw;have HG:=Aa q;obtain⟨hC,hG⟩:=hF;obtain⟨P,R,rfl,_⟩:=hG.slice;obtain⟨N,O,rfl,_⟩:=hC.slice;have ae:Below w.heap.size w (w.alloc (Zk #[Zs N cols.length O,Zs P gs.length R] 98)):=Zal;obtain⟨f0,f1⟩:=Hg (heap_alloc_new w (Zk #[Zs N cols.length O,Zs P gs.length R] 98));have ar:=Aa (ADI (Zs N cols.length O) cols _ (hC.up ae) h8)
 have s:Hid (∀W,Below (w.heap.size+1) (w.alloc (Zk #[Zs N cols.length O,Zs P gs.length R] 98)) W->W.cell? ⟨w.heap.size,0,none⟩=some (Zs N cols.length O)/\W.cell? ⟨w.heap.size,1,none⟩=some (Zs P gs.length R)/\Below w.heap.size w W):=Aa (λW hW=>by
  have ad:Below (w.alloc (Zk #[Zs N cols.length O,Zs P gs.length R] 98)).heap.size (w.alloc (Zk #[Zs N cols.length O,Zs P gs.length R] 98)) W:=by change Below _ _ _;rw[XA];exact hW
  exact⟨Ag ad f0,Ag ad f1,Ap ae ad⟩)
 obtain⟨iS,aw,a7,U,X⟩:=info_parts eI;have t:=Zy aw a7 U X;clear hC hG az hw q aw a7 U X ae;go_enter func146,ntmps146;go_wp2_with fail;refine ar.o.mono ?_;rintro e w1⟨v1,rfl,aj,D⟩;obtain⟨pa,pc,rfl,_⟩:=E.Ak aj;have f:Below (w.heap.size+1) (w.alloc (Zk #[Zs N cols.length O,Zs P gs.length R] 98)) w1:=by change Below _ _ _ at D;rw[XA] at D;exact D
 obtain⟨q0,q1,p⟩:=s.o w1 f;have ax:=f.size;rw[XA] at ax;have ap:Hid (F7 7 Cc w1 (Zs pa cols.length pc) (A7 cols)):=Aa (F7.Fz (k:=7) (enc:=Cc) (λ_=>rfl) aj (Cx cols).symm);have y:=Aa (kR (Zs pa cols.length pc) (A7 cols) 1099511627777 w1 ap.o (by rw[Cx];omega) (cD cols) (HW.o.below p));have a8:=Aa f;have am:=Aa p;clear D f aj ar p f0 f1;cases hR:Be (A7 cols) 1099511627777 with
 | false=>rw[hR] at y;have bc:=Aa (rN (gs:=gs) hR);go_wp2_with fail;refine y.o.mono ?_;rintro e w2⟨rfl,c⟩;go_wp2;go_ret;rw[bc.o];exact⟨rfl,Ap am.o c⟩
 | true=>
   rw[hR] at y;have HR:=Aa hR;have ai:1<=cols.length:=by have:=(K5.1 hR).one;rwa[Cx] at this
   clear hR;go_wp2_with fail;refine y.o.mono ?_;rintro e w2⟨rfl,c⟩;have ac:=a8.o.trans (c.mono ax);obtain⟨q0,q1,bk⟩:=s.o w2 ac;have aq:=Aa (ap.o.up c);have bq:=c.size;go_wp2
   go_loopw [4,19] (λvo vi wr=>∃(k:Nat)(acc:List (List V)),k<=gs.length/\vi=Zi k/\acc.length<=6*k/\Hid (Fb cols (A7 cols) [] gs=Fb cols (A7 cols) acc (gs.drop k))/\Hid (Sc w2.heap.size wr vo acc)/\Hid (Below w2.heap.size w2 wr)) (λ_ vi _=>gs.length-(intOf vi).toNat)
   case atStart=>exact⟨0,[],XE _,rfl,by simp,Aa rfl,Aa (ABG _ _),Aa (Y' _ _)⟩
   case round=>
    obtain⟨k,acc,hk,rfl,bj,I,J,o⟩:=hrel;obtain⟨q0,q1,d⟩:=s.o wr (ac.trans (o.o.mono (by omega)));have a0:=o.o.size;have M:=Aa (aq.o.up o.o);have bb:=Aa (HF.o.up d)
    by_cases hlt:k<gs.length
    ·obtain⟨g,q⟩:∃g,gs[k]? = some g:=⟨_,XB hlt⟩
     have z:=Aa (Pq k _ _ (Zs pa cols.length pc) cols gs g (A7 cols) wr bb.o q M.o (by rw[Cx];exact h8) ai h8 (lR cols) (au.o g (XC q)));have an:Hid (Fb cols (A7 cols) [] gs=Fb cols (A7 cols) acc (g :: gs.drop (k+1))):=Aa (by rw[I.o,Yq hlt];rw[XB hlt] at q;injection q with q;rw[q]);have bf:(k:Int)<(gs.length:Int):=by omega
     obtain⟨vs,a3,al,a4⟩:=J.o;obtain⟨oa,oc,rfl,_⟩:=E.Ak al;have ab:=Aa (And.intro a3 (And.intro al a4));clear q I a3 al a4 J;cases i:Ew cols g (A7 cols) with
     | none=>rw[i] at z;have L:Hid (madeB (cols,gs)=false):=Aa (bL (by rw[an.o,Nb i]));clear i;go_wp2_with fail;refine z.o.mono ?_;rintro e w3⟨rfl,h⟩;go_wp2;go_ret;rw[L.o];exact⟨rfl,Ap d h⟩
     | some r=>
       rw[i] at z;obtain⟨bi,bh⟩:=ACn i;have bl:r.length<=6:=by omega
       have L:Hid (Fb cols (A7 cols) [] gs=Fb cols (A7 cols) (acc++r) (gs.drop (k+1))):=Aa (by rw[an.o,Nx i]);clear i bi bh;go_wp2_with fail;refine z.o.mono ?_;rintro e w3⟨v1,rfl,⟨us,a1,ak,a2⟩,h⟩;obtain⟨ra,rc,rfl,_⟩:=E.Ak ak;have l:=Aa (And.intro a1 (And.intro ak a2));have aa:=Aa (E.Ad ab.o.2.1 h);have br:=h.size;clear a1 ak a2;go_wp2_with (at_builtin;refine E.Ck rfl _ _ 35 rfl w2.heap.size 51 iS (.slice none 0 0) 1 24 underlying35 t.o.1 t.o.2.1 t.o.2.2.1 t.o.2.2.2 rfl (by decide) _ _ _ rfl aa.o _ _ _ _ rfl l.o.2.1 (Sc.one l.o.1 l.o.2.2) ?f1 ?f2 ?f3 ?_)
       case f1=>unfold maxLen;omega
       case f2=>omega
       case f3=>omega
       intro v2 w4 bg av;have ay:=Sc.app ab.o.1 l.o.1 aa.o (λj x r hx i=>E.Ad (ab.o.2.2 j x r hx i) h) l.o.2.2 bg av;have c:=E.Bj (o.o.trans (h.mono a0)) aa.o av (by omega);go_wp2;exact⟨⟨k+1,acc++r,by omega,by go_num,by simp;omega,L,Aa ay,Aa c⟩,by simp[intOf];omega⟩
    have ek:k=gs.length:=by omega
    have L:Hid (Fb cols (A7 cols) [] gs=some acc):=Aa (by rw[I.o,ek,List.drop_length];rfl);have bf:¬(k:Int)<(gs.length:Int):=by omega
    have bo:acc.length<=360:=by omega
    have ao:=Aa (sX (lR cols) L.o au.o (by simp));have u:=Aa (rW (Zs pa cols.length pc) _ (A7 cols) acc wr M.o J.o.slr (by rw[Cx];omega) (by omega) (cD cols) (λr i v hv=>(ao.o r i v hv).2) (λr i v hv=>(ao.o r i v hv).1) (HW.o.below d) (HG.o.below d));obtain⟨oa,oc,rfl,_⟩:=J.o.slr.slice;clear ek I;cases hm:J9 (A7 cols) acc with
    | none=>rw[hm] at u;have Y:=Aa (AC3 L.o hm);clear hm;go_wp2_with fail;refine u.o.mono ?_;rintro e w5⟨T5,v5,rfl,n⟩;have af:=(Ap d n).alloc (by have:=n.size;have:=d.size;omega) (Zk #[Zs none 0 0,Zs none 0 0] 98);go_wp2;go_ret;rw[Y.o];exact⟨rfl,af⟩
    | some f'=>rw[hm] at u;obtain⟨l',a⟩:=f';go_wp2_with fail;refine u.o.mono ?_;rintro e w5⟨bm,bn,rfl,m,n⟩;obtain⟨a5,c5,rfl,_⟩:=m.1.slice;obtain⟨a6,c6,rfl,_⟩:=m.2.slice;dsimp only at m ⊢;have G:Below w5.heap.size w5 (w5.alloc (Zk #[Zs a5 l'.length c5,Zs a6 a.length c6] 98)):=Zal;have T:=Ap (Ap d n) G;obtain⟨q0,q1,_⟩:=s.o (w5.alloc (Zk #[Zs a5 l'.length c5,Zs a6 a.length c6] 98)) ((ac.trans (o.o.mono (by omega))).trans ((Ap n G).mono (by omega)));obtain⟨x0,x1⟩:=Hg (heap_alloc_new w5 (Zk #[Zs a5 l'.length c5,Zs a6 a.length c6] 98));obtain⟨ah,ag⟩:=ADP hm (by rw[Cx];exact ai) (by rw[Cx];exact h8);dsimp only at ah ag;have ba:=Aa (zR (Zs P gs.length R) (Zs a6 a.length c6) gs a _ (HF.o.up T).2 (m.2.up G) (by omega) (by have:=ag;omega) (lM ai h8 L.o) ah);have Y:Hid (madeB (cols,gs)=Lib.allEq J7 gs a):=Aa (wP HR.o L.o hm (P5 ABk gs a));have a9:=Aa T;clear ah ag m hm G;go_wp2_with fail;refine ba.o.mono ?_;rintro e w6⟨rfl,af⟩;have bd:=Ap a9.o af;go_wp2;go_ret;rw[Y.o];exact⟨rfl,bd⟩
theorem A4{b i:Nat}{cs:Array Tv}{T:TypeId}{v:Tv}(h:W.heap[b]? = some (Zk cs T))(a:cs[i]? = some v):W.cell? ⟨b,i,none⟩=some v:=by simp[World.cell?,h,a]
def ADK(r:Option (List UInt8))(w:World)(e:Ending)(a:World):Prop:=match r with
 | none=>e=.returned (.tuple #[.string ⟨#[]⟩,.iface 90 (Zi 1)])/\Zb w a
 | some b=>e=.returned (.tuple #[.string (E.str b),.nilIface])/\Zb w a
def Fj(cols:List Aj)(k:Nat):List UInt8:=Lib.uvarint cols.length++(cols.take k).flatMap Eg
def Fl(cols:List Aj)(gs:List Fk)(k:Nat):List UInt8:=(Fj cols cols.length++Lib.uvarint gs.length)++(gs.take k).flatMap Bh
theorem xF(cols:List Aj)(gs:List Fk):Fl cols gs gs.length=Cq (cols,gs):=by unfold Fl Fj Cq;rw[Ye,Ye];simp
theorem qG{cols:List Aj}(h:cols[k]? = some c):Fj cols (k+1)=(Fj cols k++Lib.uvarint c.1.toNat)++Lib.uvarint (kd c).toNat:=by unfold Fj;rw[E.Br h];simp[Eg]
theorem qJ{cols:List Aj}{gs:List Fk}(h:gs[k]? = some g):Fl cols gs (k+1)=Fl cols gs k++Bh g:=by unfold Fl;rw[E.Br h];simp
theorem xB{cols:List Aj}(o:cols.length<=8)(h:∀c∈cols,0<=c.1/\c.1<=1099511627776/\0<=kd c/\kd c<=2)(k:Nat):(Fj cols k).length<=200:=by
 unfold Fj;have i:(Lib.uvarint cols.length).length<=10:=Lib.uvarint_length64 (by omega)
 have j:=Mp Eg 20 (l:=cols.take k) (λc f=>by obtain⟨a,b,d,e⟩:=h c (Yk f);have m:(Lib.uvarint c.1.toNat).length<=10:=Lib.uvarint_length64 (by omega);have g:(Lib.uvarint (kd c).toNat).length<=10:=Lib.uvarint_length64 (by omega);simp only[Eg,XF];omega)
 have g:(cols.take k).length<=8:=by rw[List.length_take];omega
 have n:=Yn 20 g;rw[XF];omega
theorem Xi{cols:List Aj}{gs:List Fk}(h:madeB (cols,gs)=true):Be (A7 cols) 1099511627777=true/\∃rows,Fb cols (A7 cols) [] gs=some rows:=by
 constructor
 ·cases hr:Be (A7 cols) 1099511627777 with
  | true=>rfl
  | false=>rw[rN hr] at h;cases h
 cases ha:Fb cols (A7 cols) [] gs with
 | some rows=>exact⟨rows,rfl⟩
 | none=>rw[bL ha] at h;cases h
theorem ACG{cols:List Aj}{gs:List Fk}(h:madeB (cols,gs)=true):∀c∈cols,0<=c.1/\c.1<=1099511627776/\0<=kd c/\kd c<=2:=λc e=>by
 obtain⟨d,f,a,b⟩:=Sk (show Es cols (A7 cols) from⟨(Gh cols).1.symm,(Gh cols).2.symm⟩) e;have:=Wg (K5.1 (Xi h).1) f;rwa[a,b] at this
theorem Xk{cols l:List Aj}:∀{gs:List Fk}{acc rows:List (List V)},Fb cols l acc gs=some rows->∀g∈gs,g.1<=6/\g.2.2.length=cols.length
 | [],_,_,_=>by simp
 | g :: gs,acc,rows,h=>by
   cases hr:Ew cols g l with
   | none=>rw[Nb hr] at h;cases h
   | some r=>
     rw[Nx hr] at h;intro c b
     rcases List.mem_cons.1 b with rfl|b
     ·unfold Ew at hr
      split at hr
      ·rename_i a
       rw[X6] at a;have a:=a.1;simp only[Gb,decide_eq_true_eq] at a;exact⟨a.2.2.2,a.2.1⟩
      cases hr
     exact Xk h c b
theorem AJQ(n:Nat):0<(Lib.uvarint n).length:=by rw[Lib.uvarint];split <;> simp
theorem cR(d:g.1<=6)(c:g.2.2.length<=8)(a:∀b∈g.2.2,b.length<=1000000):(Bh g).length<=9000000:=by have h:=Xz d a g.2.2.length;rw[X5] at h;have:g.2.2.length*1000010<=8*1000010:=Yn _ c;omega
theorem lH(cv gv:Tv)(cols:List Aj)(gs:List Fk)(w:Tw)(hF:Hm w cv gv (cols,gs))(h8:cols.length<=8)(ah:∀g∈gs,∀b∈g.2.2,b.length<=1000000)(bs:gs.length<=60)(q:Lw w)(I:Ob w):
 Zc 92 #[Zg #[cv,gv]] w (ADK (Jn (cols,gs)) w):=by
 have HF:=Aa hF;have bf:=Aa ah;have am:=Aa (λW(hW:Below w.heap.size w W)=>AFk cv gv cols gs W (hF.up hW) h8 ah bs (q.below hW) (I.below hW));obtain⟨hC,hG⟩:=hF;obtain⟨Y,gc,rfl,_⟩:=hG.slice;obtain⟨T,V,rfl,_⟩:=hC.slice;have n:Below w.heap.size w (w.alloc (Zk #[Zs T cols.length V,Zs Y gs.length gc] 98)):=Zal;obtain⟨f0,f1⟩:=Hg (heap_alloc_new w (Zk #[Zs T cols.length V,Zs Y gs.length gc] 98))
 have a1:Hid (∀W,Below (w.heap.size+1) (w.alloc (Zk #[Zs T cols.length V,Zs Y gs.length gc] 98)) W->W.cell? ⟨w.heap.size,0,none⟩=some (Zs T cols.length V)/\W.cell? ⟨w.heap.size,1,none⟩=some (Zs Y gs.length gc)/\Below w.heap.size w W):=Aa (λW hW=>by
  have aa:Below (w.alloc (Zk #[Zs T cols.length V,Zs Y gs.length gc] 98)).heap.size (w.alloc (Zk #[Zs T cols.length V,Zs Y gs.length gc] 98)) W:=by change Below _ _ _;rw[XA];exact hW
  exact⟨Ag aa f0,Ag aa f1,Ap n aa⟩)
 have r:=Aa (am.o _ n);clear hC hG ah q I;cases hm:madeB (cols,gs) with
 | false=>rw[hm] at r;have HE:Hid (Jn (cols,gs)=none):=Aa (by unfold Jn;rw[if_neg (by simp[hm])]);clear hm;have ak:=Aa n;clear n;go_enter func92,ntmps92;go_wp2_with fail;refine r.o.mono ?_;rintro e d⟨rfl,o⟩;go_wp2;go_ret2;rw[HE.o];exact⟨rfl,Ap ak.o o⟩
 | true=>
   rw[hm] at r;have HM:=Aa hm;have HE:Hid (Jn (cols,gs)=some (Cq (cols,gs))):=Aa (by unfold Jn;rw[if_pos hm]);clear hm;have ak:=Aa n;clear n;go_enter func92,ntmps92;go_wp2_with fail;refine r.o.mono ?_;rintro e d⟨rfl,o⟩;have s:Below (w.heap.size+1) (w.alloc (Zk #[Zs T cols.length V,Zs Y gs.length gc] 98)) d:=by change Below _ _ _ at o;rw[XA] at o;exact o
   obtain⟨q0,q1,G⟩:=a1.o d s;have bv:=s.size;rw[XA] at bv;have u:Hid (Zc 147 #[Zs none 0 0,.int .u64 cols.length] d _):=Aa (E.Dq d.heap.size 0 cols.length (by omega) (Zs none 0 0) [] d (XN _ _ _ _) (Y9 _) (by omega));go_wp2_with fail;refine u.o.mono ?_;rintro e w2⟨v2,rfl,x,ai⟩;rw[WB] at x;obtain⟨a2,c2,rfl,_⟩:=E.Ak x
   have a9:Hid (w2.ownsRow d.heap.size 5 1 (Zs a2 (Lib.uvarint cols.length).length c2) (Fj cols 0).length (Lib.byteCells (Fj cols 0))):=Aa (by
    have e0:Fj cols 0=Lib.uvarint cols.length:=by simp[Fj]
    rw[e0];simpa using x)
   have bg:=Aa ai;have al:=Aa (ACG HM.o);have bj:=Aa (Xk (Xi HM.o).2.choose_spec);have D:=Aa (xB h8 al.o);have b7:=(ai.1.cell (p:=⟨w.heap.size,0,none⟩) (by show w.heap.size<_;omega)).trans q0;have bd:=Aa q1;have z:=Aa G;clear x ai u o s q0 q1 G r am f0 f1;go_wp2
   go_loopw [4,21] (λvb vi wr=>∃k:Nat,k<=cols.length/\vi=Zi k/\Hid (wr.ownsRow d.heap.size 5 1 vb (Fj cols k).length (Lib.byteCells (Fj cols k)))/\Hid (E.Wr d.heap.size d wr)) (λ_ vi _=>cols.length-(intOf vi).toNat)
   case atStart=>exact⟨0,XE _,rfl,a9,bg⟩
   case round=>
    obtain⟨k,hk,rfl,ho,q⟩:=hrel;obtain⟨b3,b0,rfl,_⟩:=E.Ak ho.o;have t:=q.o.1.size;have f:Below w.heap.size w wr:=z.o.trans (q.o.1.mono (by omega))
    by_cases hlt:k<cols.length
    ·obtain⟨⟨c1,c2,c3,c4,c5,c6,c7⟩,hc⟩:∃c,cols[k]? = some c:=⟨_,XB hlt⟩
     obtain⟨g1,g2,g3,g4⟩:=al.o _ (XC hc);dsimp only [kd] at g1 g2 g3 g4;have m:=Aa (qG hc);obtain⟨lb,lo,b5,el,_,b4,i⟩:=(HF.o.up f).1.cons (by show 0<cols.length;omega);injection el with bp em bq;clear em;subst bp bq;obtain⟨q0,q1,q2,q3,q4,q5,q6⟩:=F8 i hc;obtain⟨n1,rfl⟩:=XW g1;obtain⟨n3,rfl⟩:=XW g3;dsimp only [kd] at m;rw[X4,X4] at m;have a:=D.o k;have bu:(k:Int)<(cols.length:Int):=by omega
     have au:(Lib.uvarint n1).length<=10:=Lib.uvarint_length64 (by omega);have l:=Aa (heap_alloc_new wr (Zk #[Zi n1,Zt c2,Zi n3,Zo c4,Zi c5,Zi c6,Zt c7] 72));have x0:(wr.alloc (Zk #[Zi n1,Zt c2,Zi n3,Zo c4,Zi c5,Zi c6,Zt c7] 72)).cell? ⟨wr.heap.size,0,none⟩=some (Zi n1):=A4 l.o rfl;have u:=Aa (E.Dq d.heap.size (Fj cols k).length n1 (by omega) _ _ _ (ho.o.alloc (Zk #[Zi n1,Zt c2,Zi n3,Zo c4,Zi c5,Zi c6,Zt c7] 72)) (by simp;omega) (by omega));have R:=Aa (q.o.alloc t (Zk #[Zi n1,Zt c2,Zi n3,Zo c4,Zi c5,Zi c6,Zt c7] 72));have O:=Aa (And.intro a au);clear i hc a au;go_wp2_with fail;refine u.o.mono ?_;rintro e w3⟨v3,rfl,ad,y⟩;obtain⟨a3,d3,rfl,_⟩:=E.Ak ad;have x2:w3.cell? ⟨wr.heap.size,2,none⟩=some (Zi n3):=A4 (E.Hw y l.o (by decide)) rfl;have ay:=Aa (E.Dq d.heap.size _ n3 (by omega) _ _ w3 ad (by have:=y.1.size;simp at this;omega) (by have:=O.o;omega));have bk:=Aa (R.o.trans y);clear ad y q0 q1 q2 q3 q4 q5 q6 x0;go_wp2_with fail;refine ay.o.mono ?_;rintro e w4⟨v4,rfl,ae,aw⟩;obtain⟨a4,d4,rfl,_⟩:=E.Ak ae
     have ba:Hid (w4.ownsRow d.heap.size 5 1 (Zs a4 ((Fj cols k).length+(Lib.uvarint n1).length+(Lib.uvarint n3).length) d4) (Fj cols (k+1)).length (Lib.byteCells (Fj cols (k+1)))):=Aa (by rw[m.o,E.Bg,E.Bg];simpa[WA] using ae)
     have bh:=Aa (bk.o.trans aw);clear ae aw;go_wp2;exact⟨⟨k+1,by omega,by go_num,ba,bh⟩,by simp[intOf];omega⟩
    have ek:k=cols.length:=by omega
    have bu:¬(k:Int)<(cols.length:Int):=by omega
    have q1:=(q.o.1.cell (p:=⟨w.heap.size,1,none⟩) (by show w.heap.size<_;omega)).trans bd.o;have a:=D.o k;have az:Hid (Zc 147 #[_,.int .u64 gs.length] wr _):=Aa (E.Dq d.heap.size (Fj cols k).length gs.length (by omega) _ _ wr ho.o (by omega) (by omega));have HK:=Aa ek;have av:(Lib.uvarint gs.length).length<=10:=Lib.uvarint_length64 (by omega);have O:=Aa (And.intro a av);clear ek a av;go_wp2_with fail;refine az.o.mono ?_;rintro e w5⟨v5,rfl,af,aj⟩;obtain⟨a5,d5,rfl,_⟩:=E.Ak af;have b8:=(aj.1.cell (p:=⟨w.heap.size,1,none⟩) (by show w.heap.size<_;omega)).trans q1
    have bb:Hid (w5.ownsRow d.heap.size 5 1 (Zs a5 ((Fj cols k).length+(Lib.uvarint gs.length).length) d5) (Fl cols gs 0).length (Lib.byteCells (Fl cols gs 0))):=Aa (by
     have e0:Fl cols gs 0=Fj cols k++Lib.uvarint gs.length:=by rw[HK.o];simp[Fl]
     rw[e0,E.Bg];simpa using af)
    have ap:=Aa (q.o.trans aj);clear af aj q1;go_wp2;have bz:=ap.o.1.size
    go_loopw [4,45] (λvb vi wr=>∃j:Nat,j<=gs.length/\vi=Zi j/\(Fl cols gs j).length<=300+j*9000000/\Hid (wr.ownsRow d.heap.size 5 1 vb (Fl cols gs j).length (Lib.byteCells (Fl cols gs j)))/\Hid (E.Wr d.heap.size d wr)) (λ_ vi _=>gs.length-(intOf vi).toNat)
    case atStart=>
     refine⟨0,XE _,rfl,?_,bb,ap⟩;have e0:Fl cols gs 0=Fj cols k++Lib.uvarint gs.length:=by rw[HK.o];simp[Fl]
     have:=O.o;rw[e0,XF];omega
    case round=>
     obtain⟨j,hj,rfl,b2,ho,q⟩:=hrel;obtain⟨b6,v,rfl,_⟩:=E.Ak ho.o;have t:=q.o.1.size;have f:Below w.heap.size w wr:=z.o.trans (q.o.1.mono (by omega))
     by_cases hlt:j<gs.length
     ·obtain⟨g,I⟩:∃g,gs[j]? = some g:=⟨_,XB hlt⟩
      obtain⟨gb,go,gd,J,L,M,N,eg,_,p0,p1,p2,aq⟩:=HF.o.2.get I;replace p0:=Ag f p0;replace p1:=Ag f p1;replace p2:=Ag f p2;injection eg with bn em bo;clear em;subst bn bo;obtain⟨ac,br⟩:=bj.o g (XC I);have ao:=Aa (bf.o g (XC I));have ar:=cR ac (by omega) ao.o;have m:=Aa (qJ (cols:=cols) I);have bt:(j:Int)<(gs.length:Int):=by omega
      have l:=Aa (heap_alloc_new wr (Zk #[Zi g.1,Zs J g.2.1.length L,Zs M g.2.2.length N] 128));have x0:(wr.alloc (Zk #[Zi g.1,Zs J g.2.1.length L,Zs M g.2.2.length N] 128)).cell? ⟨wr.heap.size,0,none⟩=some (Zi g.1):=A4 l.o rfl;have x1:(wr.alloc (Zk #[Zi g.1,Zs J g.2.1.length L,Zs M g.2.2.length N] 128)).cell? ⟨wr.heap.size,1,none⟩=some (Zs J g.2.1.length L):=A4 l.o rfl;have x2:(wr.alloc (Zk #[Zi g.1,Zs J g.2.1.length L,Zs M g.2.2.length N] 128)).cell? ⟨wr.heap.size,2,none⟩=some (Zs M g.2.2.length N):=A4 l.o rfl;have a0:=Aa (aI d.heap.size (Fl cols gs j).length _ _ g J g.2.1.length L (Zs M g.2.2.length N) w _ (ho.o.alloc (Zk #[Zi g.1,Zs J g.2.1.length L,Zs M g.2.2.length N] 128)) (by omega) (by simp;omega) (f.alloc (by omega) _) aq.2.2 ac (by omega) ao.o (by omega));have R:=Aa (q.o.alloc t (Zk #[Zi g.1,Zs J g.2.1.length L,Zs M g.2.2.length N] 128));have a6:=Aa ar;clear I aq ac br ar;go_wp2_with fail;refine a0.o.mono ?_;rintro e w7⟨v7,rfl,ag,ax⟩;obtain⟨a7,d7,rfl,_⟩:=E.Ak ag
      have bc:Hid (w7.ownsRow d.heap.size 5 1 (Zs a7 ((Fl cols gs j).length+(Bh g).length) d7) (Fl cols gs (j+1)).length (Lib.byteCells (Fl cols gs (j+1)))):=Aa (by rw[m.o,E.Bg];simpa using ag)
      have bi:=Aa (R.o.trans ax);have a8:Hid ((Fl cols gs (j+1)).length<=300+(j+1)*9000000):=Aa (by have:=a6.o;rw[m.o,XF];omega);clear ag ax;go_wp2;exact⟨⟨j+1,by omega,by go_num,a8.o,bc,bi⟩,by simp[intOf];omega⟩
     have ej:j=gs.length:=by omega
     have bt:¬(j:Int)<(gs.length:Int):=by omega
     have P:Hid (wr.ownsRow d.heap.size 5 1 (Zs b6 (Fl cols gs j).length v) (Cq (cols,gs)).length (Lib.byteCells (Cq (cols,gs)))):=Aa (by have h:=ho.o;rw[ej,xF] at h ⊢;exact h)
     have bw:0<(Cq (cols,gs)).length:=by have:=AJQ cols.length;simp only[Cq,XF];omega
     obtain⟨g8,bx,e8⟩:∃g U,(Value.slice b6 (Fl cols gs j).length v)=Zs (some ⟨g,0,none⟩) (Cq (cols,gs)).length U:=by
      rcases P.o.2 with⟨_,h0⟩|⟨g,U,b1,e,_⟩
      ·omega
      exact⟨g,U,e⟩
     injection e8 with bl X bm;subst bl bm;have an:Hid (wr.ownsRow d.heap.size 5 1 (Zs (some ⟨g8,0,none⟩) (Cq (cols,gs)).length v) (Cq (cols,gs)).length (Lib.byteCells (Cq (cols,gs)))):=Aa (by have h:=P.o;rw[X] at h;exact h);have ab:=run_convert_bytes_back wr 81 9 5 ⟨g8,0,none⟩ v (Cq (cols,gs)) underlying81 underlying5 underlying9 (λj hj=>an.o.cells rfl j _ (by simp[Lib.byteCells,hj]));rw[<-X] at ab;clear ej X P an bw;go_wp2;go_ret2;rw[HE.o];exact⟨rfl,f⟩
theorem ACm(kind:Int)(b:List UInt8)(w:Tw)(k:b.length<=1000000):
 Zc 153 #[.int .i64 kind,.string (E.str b)] w λe g=>∃a n c j,e=.returned (.tuple #[.slice a n c,j])/\E.Sl g (.slice a n c) ((E.Ll kind b).getD [])/\Zb w g:=by
 refine(E.xH kind (E.str b) w (by rw[E.Ds];exact k)).mono λe g h=>?_
 rw[E.Eo] at h;cases hd:E.Ll kind b with
 | none=>rw[hd] at h;obtain⟨rfl,d⟩:=h;exact⟨none,0,0,_,rfl,⟨none,0,rfl,by simp,λf=>absurd rfl f⟩,d⟩
 | some L=>rw[hd] at h;obtain⟨v,rfl,i,d⟩:=h;obtain⟨a,c,rfl,_⟩:=id i;exact⟨a,_,c,_,rfl,i,d⟩
def Cf(l:List Aj)(s:E.St)(k:Nat):List (List UInt8)×E.St:=Dk (l.take k) s
theorem Uc:∀(l:List Aj)(c:Aj)(s:E.St),Dk (l++[c]) s=((Dk l s).1++[(Hl (Dk l s).2).1],(Hl (Dk l s).2).2)
 | [],_,_=>rfl
 | _ :: l,c,s=>by simp only[XO,Dk,Uc l c]
theorem Pj:∀(l:List Aj)(s:E.St),(Dk l s).1.length=l.length
 | [],_=>rfl
 | _ :: l,s=>by simp[Dk,Pj l]
theorem AFu{bs:List (List UInt8)}{b:List UInt8}(h:bs.length=l.length):Ga (l++[c]) (bs++[b])=Ga l bs++[ABV c b]:=by unfold Ga;rw[List.zipWith_append h.symm];rfl
theorem Ee{most:Int}(h:s.1.length<=n):(E.Am most s).2.1.length<=n:=XX (E.F4 most s) h
theorem sR(n:Nat)(s:E.St):(E.C8 n s).1.length<=s.1.length:=by unfold E.C8;split <;> simp <;> omega
theorem Xq(h:s.1.length<=n):(Hl s).1.length<=n/\(Hl s).2.1.length<=n/\(E.Am 9223372036854775807 s).2.1.length<=n:=by have a:=Ee (most:=9223372036854775807) h;exact⟨XX (sR _ _) a,XX (E.Ji _ _) a,a⟩
theorem iU(i:Nat)(s:E.St)(lv:Tv)(l:List Aj)(w:Tw)(hr:E.Oi 179 [] w i s)(hl:∀W,w.grownBy W (some i)->F7 7 Cc W lv l)(h8:l.length<=8)(hs:s.1.length<=1000000):
 Zc 145 #[.pointer (some ⟨i,0,none⟩),lv] w λe w'=>∃sv bv,e=.returned (.agg #[.int .i64 (Cd l s).1.1,sv,bv])/\w'.ownsRow w.heap.size 186 8 sv l.length ((Cd l s).1.2.1.flatMap encS)/\w'.ownsRow w.heap.size 9 1 bv l.length ((Cd l s).1.2.2.flatMap Mc)/\E.Oi 179 [] w' i (Cd l s).2/\w.grownBy w' (some i):=by
 have HL:=Aa hl;obtain⟨la,lc,rfl,_⟩:=(hl w (E.G2 _ _)).slice;obtain⟨iS,ch,cq,a3,a5⟩:=info_parts AGG;have ag:=Zy ch cq a3 a5;obtain⟨iT,ci,cr,a4,a6⟩:=info_parts Uz;have ah:=Zy ci cr a4 a6;have cd:∀args w,(callFunc 151 args).run prog w=.ok (.enter 151 args) w:=enters_of func151 (by kernel_rfl) rfl;have br:=Aa cd;have bh:Below w.heap.size w (w.alloc (.cells #[.int .i64 0,.slice none 0 0,.slice none 0 0] 128)):=Zal;have T:=Aa (heap_alloc_new w (.cells #[.int .i64 0,.slice none 0 0,.slice none 0 0] 128));have dg:=hr.lt;have ai:Hid (Cd l s=(((E.Am 6 s).1,Ga l (Dk l (E.Am 6 s).2).1,(Dk l (E.Am 6 s).2).1),(Dk l (E.Am 6 s).2).2)):=Aa rfl;have c9:(E.Am 6 s).2.1.length<=1000000:=Ee hs;have HU:=Aa (E.Jo 179 [] i 6 s _ (hr.up bh) hs (by omega) (by omega));clear ch cq a3 a5 ci cr a4 a6 cd hl;generalize (E.Am 6 s).1=n0 at *;generalize (E.Am 6 s).2=b at *;go_enter func145,ntmps145;go_wp2_with fail;refine HU.o.mono ?_;rintro e a⟨rfl,ck,al⟩;have c8:=al.size;rw[XA] at c8;have ak:Below a.heap.size a (a.alloc (.cells #[.int .i64 n0,.slice none 0 0,.slice none 0 0] 128)):=Zal;have ct:=Aa (heap_alloc_new a (.cells #[.int .i64 n0,.slice none 0 0,.slice none 0 0] 128));have bb:=Aa ((ak.block w.heap.size (by omega)).trans ((al.block w.heap.size (by simp) (by simp;omega)).trans T.o));have b2:=Aa (ck.up ak);have bu:=Aa (E.Al (E.Cr bh (r:=some i)) (E.Al al (E.Cr ak)));clear hr ck al ak bh HU T;go_wp2
 go_loopw [16] (λvi wr=>∃k:Nat,k<=l.length/\vi=.int .i64 k/\(∃sv bv,Hid (wr.heap[a.heap.size]? = some (.cells #[.int .i64 n0,sv,bv] 128))/\Hid (wr.ownsRow (a.heap.size+1) 186 8 sv k ((Ga (l.take k) (Cf l b k).1).flatMap encS))/\Hid (wr.ownsRow (a.heap.size+1) 9 1 bv k ((Cf l b k).1.flatMap Mc)))/\Hid (wr.heap[w.heap.size]? = some (.cells #[.int .i64 0,.slice none 0 0,.slice none 0 0] 128))/\Hid (E.Oi 179 [] wr i (Cf l b k).2)/\(Cf l b k).2.1.length<=1000000/\Hid (w.grownBy wr (some i))/\a.heap.size+1<=wr.heap.size) (λvi _=>l.length-(intOf vi).toNat)
 case atStart=>exact⟨0,XE _,rfl,⟨_,_,ct,Aa (XN _ _ _ _),Aa (XN _ _ _ _)⟩,bb,b2,c9,bu,by simp⟩
 case round=>
  obtain⟨k,hk,rfl,⟨sv,bv,hg,ae,ab⟩,ac,ao,co,O,dj⟩:=hrel;obtain⟨sa,sc,rfl,_⟩:=E.Ak ae.o;obtain⟨ba,bc,rfl,_⟩:=E.Ak ab.o
  by_cases hlt:k<l.length
  ·obtain⟨⟨c1,c2,c3,c4,c5,c6,c7⟩,hc⟩:∃c,l[k]? = some c:=⟨_,XB hlt⟩
   obtain⟨lb,lo,dl,el,_,df,z⟩:=(HL.o wr O.o).cons (by omega);injection el with cx _ cy;subst cx cy;obtain⟨q0,q1,q2,q3,q4,q5,q6⟩:=F8 z hc;have cz:(k:Int)<(l.length:Int):=by omega
   have aj:Cf l b (k+1)=((Cf l b k).1++[(Hl (Cf l b k).2).1],(Hl (Cf l b k).2).2):=by unfold Cf;rw[E.Br hc,Uc]
   have cs:Hid ((Cf l b (k+1)).1=(Cf l b k).1++[(Hl (Cf l b k).2).1]):=Aa (by rw[aj]);have b8:Hid ((Cf l b (k+1)).2=(Hl (Cf l b k).2).2):=Aa (by rw[aj]);obtain⟨L,hL⟩:∃L,(E.Ll c3 (Hl (Cf l b k).2).1).getD []=L:=⟨_,rfl⟩;have b7:Hid (Ga (l.take (k+1)) (Cf l b (k+1)).1=Ga (l.take k) (Cf l b k).1++[S.Iv L]):=Aa (by rw[aj,E.Br hc,AFu (by unfold Cf;rw[Pj])];simp only[ABV];rw[<-hL];rfl);have ad:=Xq co;have bg:Hid ((Hl (Cf l b k).2).1.length<=1000000/\(Cf l b (k+1)).2.1.length<=1000000/\(E.Am 9223372036854775807 (Cf l b k).2).2.1.length<=1000000):=Aa ⟨ad.1,by rw[b8.o];exact ad.2.1,ad.2.2⟩
   have ce:L.length<=60:=by
    rw[<-hL];cases hd:E.Ll c3 (Hl (Cf l b k).2).1 with
    | none=>simp
    | some m=>obtain⟨_,_,hm⟩:=E.l3 hd;rw[Option.getD_some,hm];exact(E.nO ad.1).2
   have bi:Below wr.heap.size wr (wr.alloc (.cells #[.int .i64 c1,.string c2,.int .i64 c3,.bool c4,.int .i64 c5,.int .i64 c6,.string c7] 72)):=Zal;have bp:=Aa (heap_alloc_new wr (.cells #[.int .i64 c1,.string c2,.int .i64 c3,.bool c4,.int .i64 c5,.int .i64 c6,.string c7] 72));have cc:=Aa (E.Jo 179 [] i 9223372036854775807 (Cf l b k).2 _ (ao.o.up bi) co (by omega) (by omega));have bz:=Aa (E.Cr (r:=some i) bi);have dk:=O.o.size;clear z hc aj ad bi;go_wp2_with fail;refine cc.o.mono ?_;rintro e P⟨rfl,cl,am⟩;have bl:=Aa (E.fG 179 [] i (E.Am 9223372036854775807 (Cf l b k).2).1 _ P cl bg.o.2.2);have bs:=Aa (E.Al bz.o am);have ap:=am.size;rw[XA] at ap;have ar:=Aa ((am.block wr.heap.size (by simp) (by simp;omega)).trans bp.o);clear cl am q0 q1 q2 q3 q4 q5 q6 cc bp;go_wp2_with fail;refine bl.o.mono ?_;rintro e w5⟨rfl,cm,d⟩;have a1:E.Oi 179 [] w5 i (Cf l b (k+1)).2:=by rw[b8.o];exact cm
   have di:=d.size
   have cK:w5.cell? ⟨wr.heap.size,2,none⟩=some (.int .i64 c3):=by have h5:=(d.block wr.heap.size (by omega) (by simp;omega)).trans ar.o;simp[World.cell?,h5]
   have J:=E.Al bs.o d;have b0:=Aa ((J.block a.heap.size (by omega) (by simp;omega)).trans hg.o);have b6:=Aa ((J.block w.heap.size (by omega) (by simp;omega)).trans ac.o);have cb:=Aa (E.Dc ae.o (by omega) J);have bo:=Aa (E.Dc ab.o (by omega) J);have av:=Aa (E.Al O.o J);have ax:=Aa a1;have bq:Hid (Zc 153 #[.int .i64 c3,.string (E.str (Hl (Cf l b k).2).1)] w5 _):=Aa (ACm c3 (Hl (Cf l b k).2).1 w5 bg.o.1);rw[hL] at bq;clear hg ac ae ab O ao cm a1 d J ar bs bz bl hL;have f:(E.C8 (E.Am 9223372036854775807 (Cf l b k).2).1 (E.Am 9223372036854775807 (Cf l b k).2).2).1=(Hl (Cf l b k).2).1:=rfl;rw[f];clear f;go_wp2_with fail;refine bq.o.mono ?_;rintro e w3⟨va,vn,vc,ev,rfl,a2,y⟩;have az:=Aa a2;have a7:=Aa ((y.block a.heap.size (by omega)).trans b0.o);have U:=Aa ((y.block w.heap.size (by omega)).trans b6.o);have o:=Aa (E.Ad cb.o y);have R:=Aa (E.Ad bo.o y);have au:=Aa (E.Al av.o (E.Cr y));have aw:=Aa (ax.o.up y);have dh:=y.size;clear b0 b6 cb bo av ax a2 y cK;obtain⟨⟨s1,s2,⟨k1,n1,t1⟩,⟨k2,n2,t2⟩⟩,bk⟩:∃s,S.Iv L=s:=⟨_,rfl⟩
   have b1:Hid (∀W,Below w3.heap.size w3 W->Zc 151 #[.slice va vn vc] W λe w'=>e=.returned (.agg #[.int .i64 s1,.int .i64 s2,.int .i64 k1,.int .i64 n1,.string t1,.int .i64 k2,.int .i64 n2,.string t2])/\Below W.heap.size W w'):=Aa (λW hW=>by have X:=S.yU (.slice va vn vc) L W (az.o.up hW) ce;rw[bk] at X;exact X)
   have cw:Hid (Ga (l.take (k+1)) (Cf l b (k+1)).1=Ga (l.take k) (Cf l b k).1++[(s1,s2,(k1,n1,t1),(k2,n2,t2))]):=Aa (by rw[b7.o,bk]);have cg:a.heap.size<w3.heap.size:=by omega
   have a9:Hid (∀W,Below w3.heap.size w3 W->(W.cell? ⟨a.heap.size,0,none⟩=some (.int .i64 n0)/\W.cell? ⟨a.heap.size,1,none⟩=some (.slice sa k sc)/\W.cell? ⟨a.heap.size,2,none⟩=some (.slice ba k bc)/\W.frozen? ⟨a.heap.size,0,none⟩=false/\W.frozen? ⟨a.heap.size,1,none⟩=false/\W.frozen? ⟨a.heap.size,2,none⟩=false)):=Aa (λW hW=>J5 ((hW.block (a.heap.size) cg).trans a7.o));obtain⟨_,g1,g2,_,z1,z2⟩:=a9.o w3 (Y' _ _);clear bk g2 z2;go_wp2_with fail
   go_region_law
    (first
      | (refine I6 (by rfl) 151 (.tmp 33) 51 (by rfl) (.slice va vn vc) (by rfl) br.o _ (b1.o _ (Y' _ _).drew) ?_
         rintro e P⟨rfl,a0⟩;have aa:Below w3.heap.size w3 P:=Ap (Y' _ _).drew a0;refine⟨_,rfl,?_⟩;obtain⟨_,p1,_,_,o1,_⟩:=a9.o P aa;have da:=Ag ((Y' P.heap.size P).alloc (Y9 _) (.cells #[.int .i64 s1,.int .i64 s2,.int .i64 k1,.int .i64 n1,.string t1,.int .i64 k2,.int .i64 n2,.string t2] 186)) p1;have ap:=aa.size;have c0:P.heap.size≠a.heap.size:=(λe=>by rw[e] at ap;omega))
      | (refine step_append_lies _ (by rfl) (.tmp 32) (.tmp 35) 125 (by rfl) (a.heap.size+1) 186 iS (.agg #[.int .i64 0,.int .i64 0,.int .i64 0,.int .i64 0,.string ⟨#[]⟩,.int .i64 0,.int .i64 0,.string ⟨#[]⟩]) 8 80 underlying125 ag.o.1 ag.o.2.1 ag.o.2.2.1 ag.o.2.2.2 rfl (by decide) (.slice sa k sc) k _ (by rfl) ((E.Ad o.o aa).alloc _) ⟨P.heap.size,0,none⟩ 1 1 [.int .i64 s1,.int .i64 s2,.int .i64 k1,.int .i64 n1,.string t1,.int .i64 k2,.int .i64 n2,.string t2] (by rfl) rfl (λj u hj=>XD (heap_alloc_new _ _) j u hj) (r9 (s1,s2,(k1,n1,t1),(k2,n2,t2))) (by omega) (by unfold maxLen;omega) (by omega) (by simp;omega) _ rfl ?_
         intro g G w5 bj d cf cj;have D:Hid (some (a.heap.size)≠(Value.slice sa k sc).ownBlock):=Aa (λe=>by have:=(o.o.lt _ e.symm).1;omega);have r1:=(d.cell_far ⟨a.heap.size,1,none⟩ (by simp;omega) D.o).trans (Ag (Zal) p1);have r2:=(d.frozen_far ⟨a.heap.size,1,none⟩ (by simp;omega) D.o).trans (((Y' P.heap.size P).alloc (Y9 _) (.cells #[.int .i64 s1,.int .i64 s2,.int .i64 k1,.int .i64 n1,.string t1,.int .i64 k2,.int .i64 n2,.string t2] 186)).frozen (p:=⟨a.heap.size,1,none⟩) (by show a.heap.size<_;omega) |>.trans o1))
      | fail)
   all_goals
    have h:Below w3.heap.size w3 (P.alloc (.cells #[.int .i64 s1,.int .i64 s2,.int .i64 k1,.int .i64 n1,.string t1,.int .i64 k2,.int .i64 n2,.string t2] 186)):=Ap aa (Zal);have V:=Aa (E.Ad o.o h);have aq:=Aa (E.Ad R.o h);have af:a.heap.size+1<(P.alloc (.cells #[.int .i64 s1,.int .i64 s2,.int .i64 k1,.int .i64 n1,.string t1,.int .i64 k2,.int .i64 n2,.string t2] 186)).heap.size:=by simp;omega
    have I:=(d.block (a.heap.size) (by omega) D.o).trans ((h.block (a.heap.size) cg).trans a7.o);have Y:=(d.block w.heap.size (by omega) (λe=>by have:=(o.o.lt _ e.symm).1;omega)).trans ((h.block w.heap.size (by omega)).trans U.o);have M:=E.Ar w5 (a.heap.size) 1 (.slice (some ⟨g,0,none⟩) (k+1) G);have a8:=Aa (heap_setCell_same w5 (a.heap.size) 1 _ 128 (.slice (some ⟨g,0,none⟩) (k+1) G) I);have bd:=Aa ((M.block w.heap.size (by have:=d.size;omega) (by simp;omega)).trans Y);have ay:=Aa (bj.kept M (.inr (λe=>by have:=(bj.lt _ e).1;omega)))
    have n:=Aa ((E.C2 aq.o V.o (by decide) d).kept M (by
     cases hob:(Value.slice ba k bc).ownBlock with
     | none=>exact .inl rfl
     | some q=>exact .inr (λe=>by injection e with e;have:=(R.o.lt q hob).1;omega)))
    have bw:=Aa (E.C0 (E.Hj (E.Al au.o (E.Cr h)) V.o (by omega) d) (g:=a.heap.size) (j:=1) (by omega) (.slice (some ⟨g,0,none⟩) (k+1) G));have b3:Hid (E.Oi 179 [] (w5.setCell ⟨a.heap.size,1,none⟩ (.slice (some ⟨g,0,none⟩) (k+1) G)) i (Cf l b (k+1)).2):=Aa ((M.block i (by have:=d.size;omega) (by simp;omega)).trans ((d.block i (by omega) (λe=>by have:=(o.o.lt _ e.symm).1;omega)).trans (aw.o.up h)));have dc:a.heap.size+1<(w5.setCell ⟨a.heap.size,1,none⟩ (.slice (some ⟨g,0,none⟩) (k+1) G)).heap.size:=by have:=d.size;have:=M.size;omega
    clear I Y M V aq h af r1 r2 bj d cf cj p1 da o1 aa a0 ap c0 D;generalize w5.setCell ⟨a.heap.size,1,none⟩ (.slice (some ⟨g,0,none⟩) (k+1) G)=w6 at *;simp only[XG,XS,XK] at a8;obtain⟨_,_,de,_,_,dm⟩:=J5 a8.o;generalize cn:E.str (Hl (Cf l b k).2).1=sb at *;have cv:=Aa cn;clear cn b1 a9 a7 U o R au aw az g1 z1;have db:¬a.heap.size=w6.heap.size:=by omega
    go_wp2_with (at_builtin;refine wpList_append_own _ rfl _ _ 126 rfl (a.heap.size+1) 9 iT (.string ⟨#[]⟩) 1 16 underlying126 ah.o.1 ah.o.2.1 ah.o.2.2.1 ah.o.2.2.2 rfl (by decide) _ _ _ rfl (n.o.alloc _) ⟨w6.heap.size,0,none⟩ 1 1 [.string sb] rfl rfl (λj u hj=>XD (heap_alloc_new _ _) j u hj) (by simp[Value.oneCell']) ?d3 ?d4 ?d5 ?_)
    case d3=>unfold maxLen;omega
    case d4=>omega
    case d5=>first|omega|(simp;omega)
    intro v7 w7 an t _;obtain⟨g7,x,rfl,_,_⟩:=an.form (by omega);have h:Below w6.heap.size w6 (w6.alloc (.cells #[Zt sb] 9)):=Zal;have af:a.heap.size+1<(w6.alloc (.cells #[Zt sb] 9)).heap.size:=by simp;omega
    have D:Hid (some (a.heap.size)≠(Value.slice ba k bc).ownBlock):=Aa (λe=>by have:=(n.o.lt _ e.symm).1;omega);have I:=(t.block (a.heap.size) (by omega) D.o).trans ((h.block (a.heap.size) (by omega)).trans a8.o);have Y:=(t.block w.heap.size (by omega) (λe=>by have:=(n.o.lt _ e.symm).1;omega)).trans ((h.block w.heap.size (by omega)).trans bd.o);obtain⟨_,_,p2,_,_,o2⟩:=J5 I;have N:=E.Ar w7 (a.heap.size) 2 (.slice (some ⟨g7,0,none⟩) (k+1) x);have bt:=Aa (heap_setCell_same w7 (a.heap.size) 2 _ 128 (.slice (some ⟨g7,0,none⟩) (k+1) x) I);simp only[XG,XS,XK] at bt;have bf:=Aa ((N.block w.heap.size (by have:=t.size;omega) (by simp;omega)).trans Y);have bm:=Aa (an.kept N (.inr (λe=>by have:=(an.lt _ e).1;omega)));have b9:=Aa ((E.C2 (E.Ad ay.o h) (n.o.alloc (.cells #[Zt sb] 9)) (by decide) t).kept N (.inr (λe=>by have:=(ay.o.lt _ e).1;omega)));have bx:=Aa (E.C0 (E.Hj (E.Al bw.o (E.Cr h)) (n.o.alloc (.cells #[Zt sb] 9)) (by omega) t) (g:=a.heap.size) (j:=2) (by omega) (.slice (some ⟨g7,0,none⟩) (k+1) x));have b4:Hid (E.Oi 179 [] (w7.setCell ⟨a.heap.size,2,none⟩ (.slice (some ⟨g7,0,none⟩) (k+1) x)) i (Cf l b (k+1)).2):=Aa ((N.block i (by have:=t.size;omega) (by simp;omega)).trans ((t.block i (by omega) (λe=>by have:=(n.o.lt _ e.symm).1;omega)).trans (b3.o.up h)));have cp:a.heap.size+1<=(w7.setCell ⟨a.heap.size,2,none⟩ (.slice (some ⟨g7,0,none⟩) (k+1) x)).heap.size:=by have:=t.size;have:=N.size;omega
    clear I Y N t an h af;go_wp2;refine⟨⟨k+1,by omega,by go_num,⟨_,_,bt,Aa ?_,Aa ?_⟩,bf,b4,bg.o.2.1,bx,cp⟩,by simp[intOf];omega⟩
    ·rw[cw.o,XJ];exact b9.o
    rw[cs.o,XJ];have e:[(Hl (Cf l b k).2).1].flatMap Mc=[.string sb]:=by rw[<-cv.o];rfl
    rw[e];exact bm.o
  have ek:k=l.length:=by omega
  have cz:¬(k:Int)<(l.length:Int):=by omega
  obtain⟨g0,g1,g2,_,_,_⟩:=J5 hg.o;obtain⟨y0,y1,y2,z0,z1,z2⟩:=J5 ac.o;have f:Cf l b k=Dk l b:=by unfold Cf;rw[ek,Ye]
  have ca:Hid (wr.ownsRow (a.heap.size+1) 186 8 (.slice sa k sc) l.length ((Cd l s).1.2.1.flatMap encS)):=Aa (by have X:=ae.o;rw[f,Yd (by omega)] at X;rw[ai.o,<-ek];exact X);have bn:Hid (wr.ownsRow (a.heap.size+1) 9 1 (.slice ba k bc) l.length ((Cd l s).1.2.2.flatMap Mc)):=Aa (by have X:=ab.o;rw[f] at X;rw[ai.o,<-ek];exact X);have b5:Hid (E.Oi 179 [] wr i (Cd l s).2):=Aa (by have X:=ao.o;rw[f] at X;rw[ai.o];exact X);have cu:Hid ((Cd l s).1.1=n0):=Aa (by rw[ai.o]);have dd:=O.o.size;clear ek ae ab ao f;go_wp2;refine bodyPost_ret (v:=.agg #[.int .i64 n0,.slice sa k sc,.slice ba k bc]) (by simp[results,results145,go_sem,y0,y1,y2]) rfl ⟨_,_,by rw[cu.o],?_,?_,?_,?_⟩
  ·exact E.Ai (ABc ca.o (by omega) _ _ _) (by omega)
  ·exact E.Ai (ABc bn.o (by omega) _ _ _) (by omega)
  ·exact((E.Ar _ w.heap.size 2 _).block i (by have:=(E.Ar wr w.heap.size 0 (.int .i64 n0)).size;have:=(E.Ar (wr.setCell ⟨w.heap.size,0,none⟩ (.int .i64 n0)) w.heap.size 1 (.slice sa k sc)).size;omega) (by simp;omega)).trans (((E.Ar _ w.heap.size 1 _).block i (by have:=(E.Ar wr w.heap.size 0 (.int .i64 n0)).size;omega) (by simp;omega)).trans (((E.Ar _ w.heap.size 0 _).block i (by omega) (by simp;omega)).trans b5.o))
  exact E.C0 (E.C0 (E.C0 O.o (Y9 _) _) (Y9 _) _) (Y9 _) _
theorem aQ{most:Nat}(s:E.St):(E.Am most s).1<=most:=by
 unfold E.Am;split
 ·exact XE _
 rename_i h;simp only[E.Ra,Bool.or_eq_true,decide_eq_true_eq,not_or] at h;omega
def AIR(s:E.St):Aj×E.St:=(qN (E.Am 1099511627776 s).1 (E.Am 2 (E.Am 1099511627776 s).2).1,(E.Am 2 (E.Am 1099511627776 s).2).2)
theorem Xn:∀(k:Nat)(s:E.St),Ca (k+1) s=((Ca k s).1++[(AIR (Ca k s).2).1],(AIR (Ca k s).2).2)
 | 0,_=>rfl
 | k+1,s=>by have h:=Xn k (E.Am 2 (E.Am 1099511627776 s).2).2;rw[Ca,h];rfl
theorem Rz:∀(k:Nat)(s:E.St),(Ca k s).1.length=k
 | 0,_=>rfl
 | k+1,s=>by rw[Ca];simp[Rz k]
theorem Ql(l:List Aj):∀(k:Nat)(s:E.St),Bb l (k+1) s=((Bb l k s).1++[(Cd l (Bb l k s).2).1],(Cd l (Bb l k s).2).2)
 | 0,_=>rfl
 | k+1,s=>by have h:=Ql l k (Cd l s).2;rw[Bb,h];rfl
theorem Kr(l:List Aj):∀(k:Nat)(s:E.St),(Bb l k s).1.length=k
 | 0,_=>rfl
 | k+1,s=>by rw[Bb];simp[Kr l k]
theorem Mb:∀(l:List Aj){s:E.St}{n:Nat},s.1.length<=n->(Dk l s).2.1.length<=n/\∀b∈(Dk l s).1,b.length<=n
 | [],_,_,h=>⟨h,by simp[Dk]⟩
 | _ :: l,s,n,h=>by
   obtain⟨c,d,_⟩:=Xq h;obtain⟨e,f⟩:=Mb l d;refine⟨e,λb a=>?_⟩;simp only[Dk,X2] at a
   rcases a with rfl|a
   ·exact c
   exact f b a
theorem Qo(l:List Aj)(h:s.1.length<=n):(Cd l s).2.1.length<=n:=(Mb l (Ee h)).1
theorem uL(l:List Aj)(s:E.St):(Cd l s).1.2.1.length=l.length/\(Cd l s).1.2.2.length=l.length:=by have h:=Pj l (E.Am 6 s).2;exact⟨by simp[Cd,Ga,h],by simp[Cd,h]⟩
theorem Ii{B e z n b:Nat}{v:Tv}{xs:List Tv}(h:w.ownsRow B e z v n xs)(a:b<B)(c:w.grownBy W (some b)):W.ownsRow B e z v n xs:=E.Dc h a c
theorem y9(i:Nat)(s:List UInt8)(w:Tw)(hr:E.Oi 179 [] w i (s,false))(hs:s.length<=1000000):
 Zc 90 #[.pointer (some ⟨i,0,none⟩)] w λe w'=>∃cv gv,e=.returned (.agg #[cv,gv])/\Hm w' cv gv (G0 s).1/\E.Oi 179 [] w' i (G0 s).2/\w.grownBy w' (some i):=by
 obtain⟨cs,hX,hY,hB⟩:=Kt w (.cells #[.slice none 0 0,.slice none 0 0] 98) (.cells #[.slice none 0 0,.slice none 0 0] 98);have HU:=Aa (E.Jo 179 [] i 8 (s,false) _ (hr.up hB) hs (by omega) (by omega));have ds:=hr.lt;have dg:=aQ (most:=8) (s,false);have dm:(E.Am 8 (s,false)).2.1.length<=1000000:=Ee hs;have bd:Hid (G0 s=(((Ca (E.Am 8 (s,false)).1 (E.Am 8 (s,false)).2).1,(Rr (Ca (E.Am 8 (s,false)).1 (E.Am 8 (s,false)).2).1 (Ca (E.Am 8 (s,false)).1 (E.Am 8 (s,false)).2).2).1),(Rr (Ca (E.Am 8 (s,false)).1 (E.Am 8 (s,false)).2).1 (Ca (E.Am 8 (s,false)).1 (E.Am 8 (s,false)).2).2).2)):=Aa rfl;simp only[XL] at dg;generalize (E.Am 8 (s,false)).1=N at *;generalize (E.Am 8 (s,false)).2=J at *;obtain⟨iC,ci,cx,az,a1⟩:=info_parts Kh;have al:=Zy ci cx az a1;obtain⟨iG,cj,cy,a0,a2⟩:=info_parts AGV;have am:=Zy cj cy a0 a2;have c0:Hid (∀args w,(callFunc 144 args).run prog w=.ok (.enter 144 args) w):=Aa (enters_of func144 (by kernel_rfl) rfl);have HX:=Aa hX;have HY:=Aa hY;have HB:=Aa hB;have ao:=Aa cs;clear hX hY hB cs ci cx az a1 cj cy a0 a2 hr;go_enter func90,ntmps90;go_wp2_with fail;refine HU.o.mono ?_;rintro e w1⟨rfl,co,ae⟩;have cr:=ae.size;rw[ao.o] at cr;have a6:=Aa ((ae.block w.heap.size (by rw[ao.o];omega) (by simp;omega)).trans HX.o);have c1:=Aa ((ae.block (w.heap.size+1) (by rw[ao.o];omega) (by simp;omega)).trans HY.o);have b4:=Aa co;have bz:=Aa (E.Al (E.Cr HB.o (r:=some i)) ae);clear co ae HU HX HY HB ao;go_wp2
 go_loopw [7] (λvi wr=>∃k:Nat,k<=N/\vi=.int .i64 k/\(∃cv,Hid (wr.heap[w.heap.size+1]? = some (.cells #[cv,.slice none 0 0] 98))/\Hid (wr.ownsRow (w.heap.size+2) 72 7 cv k ((Ca k J).1.flatMap Cc)))/\Hid (wr.heap[w.heap.size]? = some (.cells #[.slice none 0 0,.slice none 0 0] 98))/\Hid (E.Oi 179 [] wr i (Ca k J).2)/\(Ca k J).2.1.length<=1000000/\Hid (w.grownBy wr (some i))/\w.heap.size+2<=wr.heap.size) (λvi _=>N-(intOf vi).toNat)
 case atStart=>exact⟨0,XE _,rfl,⟨_,c1,Aa (XN _ _ _ _)⟩,a6,b4,dm,bz,cr⟩
 case round=>
  obtain⟨k,hk,rfl,⟨cv,hf,n⟩,a,y,R,P,dp⟩:=hrel;obtain⟨U,V,rfl,_⟩:=E.Ak n.o
  by_cases hlt:k<N
  ·have dj:(k:Int)<(N:Int):=by omega
   have T:=Aa (Xn k J);have b9:=Aa (E.Jo 179 [] i 1099511627776 (Ca k J).2 wr y.o R (by omega) (by omega));have ay:(E.Am 1099511627776 (Ca k J).2).2.1.length<=1000000:=Ee R;have bg:Hid ((Ca (k+1) J).2.1.length<=1000000):=Aa (by rw[T.o];exact Ee ay);have bw:Hid ((Ca (k+1) J).1.flatMap Cc=(Ca k J).1.flatMap Cc++[.int .i64 (E.Am 1099511627776 (Ca k J).2).1,.string ⟨#[]⟩,.int .i64 (E.Am 2 (E.Am 1099511627776 (Ca k J).2).2).1,.bool false,.int .i64 0,.int .i64 0,.string ⟨#[]⟩]):=Aa (by rw[T.o,XJ];rfl);have c8:Hid ((Ca (k+1) J).2=(E.Am 2 (E.Am 1099511627776 (Ca k J).2).2).2):=Aa (by rw[T.o];rfl);generalize (E.Am 1099511627776 (Ca k J).2).1=aj at *;generalize (E.Am 1099511627776 (Ca k J).2).2=sB at *;go_wp2_with fail;refine b9.o.mono ?_;rintro e w4⟨rfl,cp,Y⟩;have dt:=Y.size;have c2:=Aa ((Y.block (w.heap.size+1) (by omega) (by simp;omega)).trans hf.o);have a7:=Aa ((Y.block w.heap.size (by omega) (by simp;omega)).trans a.o);have L:=Aa (Ii n.o (by omega) Y);have b0:=Aa (E.Al P.o Y);have O:Zb w4 w4.drew:=(Y' _ _).drew;have c9:=Aa (E.Jo 179 [] i 2 sB w4.drew (cp.up O) ay (by omega) (by omega));have a3:=Aa (E.Cr (r:=some i) O)
   have ab:Hid (∀W,w4.grownBy W (some i)->W.cell? ⟨w.heap.size+1,0,none⟩=some (.slice U k V)/\W.frozen? ⟨w.heap.size+1,0,none⟩=false/\W.heap[w.heap.size+1]? = some (.cells #[.slice U k V,.slice none 0 0] 98)):=Aa (λW hW=>by have h:=(hW.block (w.heap.size+1) (by omega) (by simp;omega)).trans c2.o;exact⟨(Hg h).1,frozen_of_row W (w.heap.size+1) 0 _ _ h,h⟩)
   obtain⟨g1,z1,_⟩:=ab.o w4 (E.G2 _ _);have b8:Hid (∀W,E.Oi 179 [] W i (E.Am 2 sB).2->E.Oi 179 [] W i (Ca (k+1) J).2):=Aa (λW h=>by rw[c8.o];exact h);generalize (E.Am 2 sB).1=ak at *;clear hf a n P y cp Y O b9;go_wp2_with fail
   go_region_law
    (first
      | (refine Gc (by rfl) 144 (.tmp 14) (.const (.int .i64 2)) 182 3 (by rfl) (.pointer (some ⟨i,0,none⟩)) (.int .i64 2) (by rfl) (by rfl) c0.o _ c9.o ?_
         rintro e w5⟨rfl,ag,aw⟩;have l:=E.Al a3.o aw;refine⟨_,rfl,?_⟩;obtain⟨p1,o1,cd⟩:=ab.o w5 l;have bq:=Ag ((Y' w5.heap.size w5).alloc (Y9 _) (.cells #[Zi aj,.string ⟨#[]⟩,Zi ak,.bool false,.int .i64 0,.int .i64 0,.string ⟨#[]⟩] 72)) p1;have bl:=l.size;have dk:w5.heap.size≠w.heap.size+1:=(λe=>by rw[e] at bl;omega))
      | (refine step_append_lies _ (by rfl) (.tmp 12) (.tmp 17) 34 (by rfl) (w.heap.size+2) 72 iC L6 7 72 underlying34 al.o.1 al.o.2.1 al.o.2.2.1 al.o.2.2.2 rfl (by decide) (.slice U k V) k _ (by rfl) ((Ii L.o (by omega) l).alloc _) ⟨w5.heap.size,0,none⟩ 1 1 [.int .i64 aj,.string ⟨#[]⟩,.int .i64 ak,.bool false,.int .i64 0,.int .i64 0,.string ⟨#[]⟩] (by rfl) rfl (λj u hj=>XD (heap_alloc_new _ _) j u hj) (by simp[Value.oneCell']) (by omega) (by unfold maxLen;omega) (by omega) (by simp;omega) _ rfl ?_
         intro g d w6 bk t cg cl;have D:Hid (some (w.heap.size+1)≠(Value.slice U k V).ownBlock):=Aa (λe=>by have:=(L.o.lt _ e.symm).1;omega);have r1:=(t.cell_far ⟨w.heap.size+1,0,none⟩ (by simp;omega) D.o).trans (Ag (Zal) p1);have r2:=(t.frozen_far ⟨w.heap.size+1,0,none⟩ (by simp;omega) D.o).trans (((Y' w5.heap.size w5).alloc (Y9 _) (.cells #[Zi aj,.string ⟨#[]⟩,Zi ak,.bool false,.int .i64 0,.int .i64 0,.string ⟨#[]⟩] 72)).frozen (p:=⟨w.heap.size+1,0,none⟩) (by show w.heap.size+1<_;omega) |>.trans o1))
      | fail)
   all_goals
    have f:Zb w5 (w5.alloc (.cells #[Zi aj,.string ⟨#[]⟩,Zi ak,.bool false,.int .i64 0,.int .i64 0,.string ⟨#[]⟩] 72)):=Zal;have ar:=Aa (E.Ad (Ii L.o (by omega) l) f);have ah:w.heap.size+2<(w5.alloc (.cells #[Zi aj,.string ⟨#[]⟩,Zi ak,.bool false,.int .i64 0,.int .i64 0,.string ⟨#[]⟩] 72)).heap.size:=by simp;omega
    have X:=(t.block (w.heap.size+1) (by omega) D.o).trans ((f.block (w.heap.size+1) (by omega)).trans cd);have ad:=(t.block w.heap.size (by omega) (λe=>by have:=(L.o.lt _ e.symm).1;omega)).trans ((f.block w.heap.size (by omega)).trans ((l.block w.heap.size (by omega) (by simp;omega)).trans a7.o));have af:=E.Ar w6 (w.heap.size+1) 0 (.slice (some ⟨g,0,none⟩) (k+1) d);have bx:=Aa (heap_setCell_same w6 (w.heap.size+1) 0 _ 98 (.slice (some ⟨g,0,none⟩) (k+1) d) X);have a9:=Aa ((af.block w.heap.size (by have:=t.size;omega) (by simp)).trans ad);have bt:Hid ((w6.setCell ⟨w.heap.size+1,0,none⟩ (.slice (some ⟨g,0,none⟩) (k+1) d)).ownsRow (w.heap.size+2) 72 7 (.slice (some ⟨g,0,none⟩) (k+1) d) (k+1) ((Ca (k+1) J).1.flatMap Cc)):=Aa (by rw[bw.o];exact bk.kept af (.inr (λe=>by have:=(bk.lt _ e).1;omega)));have b2:=Aa (E.C0 (E.Hj (E.Al b0.o (E.Al l (E.Cr f))) ar.o (by omega) t) (g:=w.heap.size+1) (j:=0) (by omega) (.slice (some ⟨g,0,none⟩) (k+1) d));have b6:=Aa (b8.o _ ((af.block i (by have:=t.size;omega) (by simp;omega)).trans ((t.block i (by omega) (λe=>by have:=(L.o.lt _ e.symm).1;omega)).trans (ag.up f))));have cw:w.heap.size+2<=(w6.setCell ⟨w.heap.size+1,0,none⟩ (.slice (some ⟨g,0,none⟩) (k+1) d)).heap.size:=by have:=t.size;have:=af.size;omega
    clear X ad af ar f ah r1 r2 bk t cg cl p1 bq o1 l aw bl dk D ag cd;simp only[XG,XK] at bx;go_wp2;exact⟨⟨k+1,by omega,by go_num,⟨_,bx,bt⟩,a9,b6,bg.o,b2,cw⟩,by simp[intOf];omega⟩
  have ek:k=N:=by omega
  have dj:¬(k:Int)<(N:Int):=by omega
  rw[<-ek] at bd;clear ek;obtain⟨cols,G⟩:∃c,(Ca k J).1=c:=⟨_,rfl⟩;obtain⟨sC,bm⟩:∃c,(Ca k J).2=c:=⟨_,rfl⟩;have dh:cols.length=k:=by rw[<-G,Rz]
  rw[G,bm] at bd;rw[bm] at R y;rw[G] at n;clear G bm;subst dh;have cb:=Aa (E.Jo 179 [] i 60 sC wr y.o R (by omega) (by omega));have hM:=aQ (most:=60) sC;have dn:(E.Am 60 sC).2.1.length<=1000000:=Ee R;simp only[XL] at hM;have c6:Hid (Rr cols sC=Bb cols (E.Am 60 sC).1 (E.Am 60 sC).2):=Aa rfl;generalize (E.Am 60 sC).1=M at *;generalize (E.Am 60 sC).2=o at *;go_wp2_with fail;refine cb.o.mono ?_;rintro e w5⟨rfl,ag,l⟩;have bl:=l.size;have c3:=Aa ((l.block (w.heap.size+1) (by omega) (by simp;omega)).trans hf.o);have a8:=Aa ((l.block w.heap.size (by omega) (by simp;omega)).trans a.o);have bs:=Aa (Ii n.o (by omega) l);have b1:=Aa (E.Al P.o l);have b5:=Aa ag;clear hf a n P y ag l cb;have cz:Hid (∀args w,(callFunc 145 args).run prog w=.ok (.enter 145 args) w):=Aa (enters_of func145 (by kernel_rfl) rfl);have cu:w.heap.size+2<=w5.heap.size:=by omega
  go_wp2
  go_loopw [23] (λvi wr=>∃j:Nat,j<=M/\vi=.int .i64 j/\(∃gv,Hid (wr.heap[w.heap.size+1]? = some (.cells #[.slice U cols.length V,gv] 98))/\Hid (Wn (w.heap.size+2) wr gv (Bb cols j o).1))/\Hid (wr.ownsRow (w.heap.size+2) 72 7 (.slice U cols.length V) cols.length (cols.flatMap Cc))/\Hid (wr.heap[w.heap.size]? = some (.cells #[.slice none 0 0,.slice none 0 0] 98))/\Hid (E.Oi 179 [] wr i (Bb cols j o).2)/\(Bb cols j o).2.1.length<=1000000/\Hid (w.grownBy wr (some i))/\w.heap.size+2<=wr.heap.size) (λvi _=>M-(intOf vi).toNat)
  case atStart=>exact⟨0,XE _,rfl,⟨_,c3,Aa (uW _ _)⟩,bs,a8,b5,dn,b1,cu⟩
  case round=>
   obtain⟨j,hj,rfl,⟨gv,hf,bj⟩,n,a,y,R,P,dp⟩:=hrel;have aa:=Kr cols j o;obtain⟨xs,aq,ai,bp⟩:=bj.o;rw[aa] at aq ai;obtain⟨xa,xc,rfl,_⟩:=E.Ak ai
   by_cases hlt:j<M
   ·have ck:(j:Int)<(M:Int):=by omega
    have T:=Aa (Ql cols j o);have ac:=Aa ai;have da:=Aa bp;have db:=Aa aq;have bg:Hid ((Bb cols (j+1) o).2.1.length<=1000000):=Aa (by rw[T.o];exact Qo cols R);have O:Zb wr wr.drew:=(Y' _ _).drew;have c5:=Aa (iU i (Bb cols j o).2 (.slice U cols.length V) cols wr.drew (y.o.up O) (λW hW=>F7.Fz (k:=7) (enc:=Cc) (λ_=>rfl) (Ii (E.Ad n.o O) (b:=i) (by omega) hW) rfl) (by omega) R);have a3:=Aa (E.Cr (r:=some i) O)
    have ab:Hid (∀W,wr.grownBy W (some i)->W.cell? ⟨w.heap.size+1,0,none⟩=some (.slice U cols.length V)/\W.cell? ⟨w.heap.size+1,1,none⟩=some (.slice xa j xc)/\W.frozen? ⟨w.heap.size+1,1,none⟩=false/\W.heap[w.heap.size+1]? = some (.cells #[.slice U cols.length V,.slice xa j xc] 98)):=Aa (λW hW=>by have h:=(hW.block (w.heap.size+1) (by omega) (by simp;omega)).trans hf.o;exact⟨(Hg h).1,(Hg h).2,frozen_of_row W (w.heap.size+1) 1 _ _ h,h⟩)
    obtain⟨g0,g1,z1,_⟩:=ab.o wr (E.G2 _ _);have b7:=Aa y.o;have dr:=Aa hf.o;have bu:=Aa n.o;have c7:=Aa a.o;have c4:=Aa P.o;clear hf bj n a y P O aq ai bp aa;go_wp2_with fail
    go_region_law
     (first
       | (refine Gc (by rfl) 145 (.tmp 27) (.tmp 29) 182 34 (by rfl) (.pointer (some ⟨i,0,none⟩)) (.slice U cols.length V) (by rfl) (by rfl) cz.o _ c5.o ?_
          rintro e w8⟨sv,bv,rfl,bn,bh,cq,ax⟩;have I:=E.Al a3.o ax;obtain⟨sa,sc,df,_⟩:=E.Ak bn;obtain⟨ba,bc,dc,_⟩:=E.Ak bh;subst df dc;refine⟨_,rfl,?_⟩;obtain⟨_,p1,o1,ce⟩:=ab.o w8 I;have bq:=Ag ((Y' w8.heap.size w8).alloc (Y9 _) (.cells #[.int .i64 (Cd cols (Bb cols j o).2).1.1,Zs sa cols.length sc,Zs ba cols.length bc] 128)) p1;have ct:=I.size;have dl:w8.heap.size≠w.heap.size+1:=(λe=>by rw[e] at ct;omega))
       | (refine step_append_lies _ (by rfl) (.tmp 26) (.tmp 31) 96 (by rfl) (w.heap.size+2) 128 iG (.agg #[.int .i64 0,.slice none 0 0,.slice none 0 0]) 3 56 underlying96 am.o.1 am.o.2.1 am.o.2.2.1 am.o.2.2.2 rfl (by decide) (.slice xa j xc) j _ (by rfl) ((Ii ac.o (by omega) I).alloc _) ⟨w8.heap.size,0,none⟩ 1 1 [.int .i64 (Cd cols (Bb cols j o).2).1.1,Zs sa cols.length sc,Zs ba cols.length bc] (by rfl) rfl (λj u hj=>XD (heap_alloc_new _ _) j u hj) (by simp[Value.oneCell']) (by omega) (by unfold maxLen;omega) (by omega) (by simp;omega) _ rfl ?_
          intro g d w9 cn m ch cm;have D:Hid (some (w.heap.size+1)≠(Value.slice xa j xc).ownBlock):=Aa (λe=>by have:=(ac.o.lt _ e.symm).1;omega);have r1:=(m.cell_far ⟨w.heap.size+1,1,none⟩ (by simp;omega) D.o).trans (Ag (Zal) p1);have r2:=(m.frozen_far ⟨w.heap.size+1,1,none⟩ (by simp;omega) D.o).trans (((Y' w8.heap.size w8).alloc (Y9 _) (.cells #[.int .i64 (Cd cols (Bb cols j o).2).1.1,Zs sa cols.length sc,Zs ba cols.length bc] 128)).frozen (p:=⟨w.heap.size+1,1,none⟩) (by show w.heap.size+1<_;omega) |>.trans o1))
       | fail)
    all_goals
     have f:Zb w8 (w8.alloc (.cells #[.int .i64 (Cd cols (Bb cols j o).2).1.1,Zs sa cols.length sc,Zs ba cols.length bc] 128)):=Zal;have ap:=Aa (E.Ad (Ii ac.o (by omega) I) f);have ah:w.heap.size+2<(w8.alloc (.cells #[.int .i64 (Cd cols (Bb cols j o).2).1.1,Zs sa cols.length sc,Zs ba cols.length bc] 128)).heap.size:=by simp;omega
     have X:=(m.block (w.heap.size+1) (by omega) D.o).trans ((f.block (w.heap.size+1) (by omega)).trans ce);have ad:=(m.block w.heap.size (by omega) (λe=>by have:=(ac.o.lt _ e.symm).1;omega)).trans ((f.block w.heap.size (by omega)).trans ((I.block w.heap.size (by omega) (by simp;omega)).trans c7.o));have z:=E.Ar w9 (w.heap.size+1) 1 (.slice (some ⟨g,0,none⟩) (j+1) d);have au:=Aa (heap_setCell_same w9 (w.heap.size+1) 1 _ 98 (.slice (some ⟨g,0,none⟩) (j+1) d) X);have an:=Aa ((z.block w.heap.size (by have:=m.size;omega) (by simp)).trans ad)
     have br:=Aa ((E.C2 (E.Ad (Ii bu.o (by omega) I) f) ap.o (by decide) m).kept z (by
      cases hob:(Value.slice U cols.length V).ownBlock with
      | none=>exact .inl rfl
      | some q=>exact .inr (λe=>by injection e with e;have:=(bu.o.lt q hob).1;omega)))
     have bf:Hid (Wn (w.heap.size+2) (w9.setCell ⟨w.heap.size+1,1,none⟩ (.slice (some ⟨g,0,none⟩) (j+1) d)) (.slice (some ⟨g,0,none⟩) (j+1) d) (Bb cols (j+1) o).1):=Aa (by
      rw[T.o];have aa:=Kr cols j o;obtain⟨dd,de⟩:=uL cols (Bb cols j o).2;have hx:U7 (w8.alloc (.cells #[.int .i64 (Cd cols (Bb cols j o).2).1.1,Zs sa cols.length sc,Zs ba cols.length bc] 128)) ((Cd cols (Bb cols j o).2).1.1,.slice sa cols.length sc,.slice ba cols.length bc) (Cd cols (Bb cols j o).2).1:=⟨rfl,by rw[dd];exact(E.Ai bn (XE _)).alloc _,by rw[de];exact(E.Ai bh (XE _)).alloc _⟩
      have cf:=Wn.app (v':=.slice (some ⟨g,0,none⟩) (j+1) d) (gs:=(Bb cols j o).1) (by rw[aa];exact db.o) (by rw[aa];exact ap.o) (λj' x g' dq di=>((da.o j' x g' dq di).other I (λr cur fr e=>by injection e with e;subst e;have h':wr.heap[i]? = some _:=b7.o;rw[h'];constructor <;> (intro h;injection h with h;injection h with _ h _;revert h;decide))).up f) hx (by rw[aa];exact cn) m
      exact cf.kept z (λr e=>by injection e with e;subst e;exact⟨_,X,.inr ⟨_,rfl⟩⟩))
     have a4:=Aa (E.C0 (E.Hj (E.Al c4.o (E.Al I (E.Cr f))) ap.o (by omega) m) (g:=w.heap.size+1) (j:=1) (by omega) (.slice (some ⟨g,0,none⟩) (j+1) d))
     have a5:Hid (E.Oi 179 [] (w9.setCell ⟨w.heap.size+1,1,none⟩ (.slice (some ⟨g,0,none⟩) (j+1) d)) i (Bb cols (j+1) o).2):=Aa (by rw[T.o];exact(z.block i (by have:=m.size;omega) (by simp;omega)).trans ((m.block i (by omega) (λe=>by have:=(ac.o.lt _ e.symm).1;omega)).trans (cq.up f)))
     have bo:w.heap.size+2<=(w9.setCell ⟨w.heap.size+1,1,none⟩ (.slice (some ⟨g,0,none⟩) (j+1) d)).heap.size:=by have:=m.size;have:=z.size;omega
     clear X ad z ap f ah r1 r2 cn m ch cm p1 bq o1 I ax ct dl D cq ce bn bh;simp only[XG,XS,XK] at au;go_wp2;exact⟨⟨j+1,by omega,by go_num,⟨_,au,bf⟩,br,an,a5,bg.o,a4,bo⟩,by simp[intOf];omega⟩
   have ej:j=M:=by omega
   have ck:¬(j:Int)<(M:Int):=by omega
   have av:Hid (G0 s=((cols,(Bb cols j o).1),(Bb cols j o).2)):=Aa (by rw[bd.o,c6.o,ej]);obtain⟨f0,f1⟩:=Hg hf.o;obtain⟨y0,y1⟩:=Hg a.o;have z0:=frozen_of_row wr w.heap.size 0 _ _ a.o;have z1:=frozen_of_row wr w.heap.size 1 _ _ a.o;have bb:=Aa a.o;have b3:=Aa bj.o;clear ej aq ai bp;go_wp2;have bi:wr.grownBy ((wr.setCell ⟨w.heap.size,0,none⟩ (.slice U cols.length V)).setCell ⟨w.heap.size,1,none⟩ (.slice xa j xc)) (some w.heap.size):=E.Al (E.Ar wr w.heap.size 0 _) (E.Ar _ w.heap.size 1 _);refine bodyPost_ret (v:=.agg #[.slice U cols.length V,.slice xa j xc]) (by simp[results,results90,go_sem,y0,y1]) rfl ⟨_,_,rfl,?_,?_,?_⟩
   ·rw[av.o]
    exact⟨F7.Fz (k:=7) (enc:=Cc) (λ_=>rfl) (E.Dc n.o (by omega) bi) rfl,(b3.o.kept bi (λr e=>by injection e with e;subst e;exact⟨_,bb.o,.inr ⟨_,rfl⟩⟩)).slg⟩
   ·rw[av.o]
    exact(bi.block i (by omega) (by simp;omega)).trans y.o
   exact E.C0 (E.C0 P.o (Y9 _) _) (Y9 _) _
def Kx(r:Option s9)(w:World)(e:Ending)(a:World):Prop:=match r with
 | none=>e=.returned (.tuple #[.agg #[.slice none 0 0,.slice none 0 0],.iface 90 (Zi 3)])/\Zb w a
 | some f=>∃b c,e=.returned (.tuple #[.agg #[b,c],.nilIface])/\Hm a b c f/\Zb w a
theorem Pn(l:List Aj):∀(k:Nat){s:E.St}{n:Nat},s.1.length<=n->(Bb l k s).2.1.length<=n/\∀g∈(Bb l k s).1,∀b∈g.2.2,b.length<=n
 | 0,_,_,h=>⟨h,by simp[Bb]⟩
 | k+1,s,n,h=>by
   obtain⟨c,d⟩:=Pn l k (Qo l h);refine⟨c,λg a=>?_⟩;simp only[Bb,X2] at a
   rcases a with rfl|a
   ·exact(Mb l (Ee h)).2
   exact d g a
theorem Ui:∀(k:Nat){s:E.St}{n:Nat},s.1.length<=n->(Ca k s).2.1.length<=n
 | 0,_,_,h=>h
 | k+1,s,n,h=>by rw[Ca];exact Ui k (Ee (Ee h))
theorem AAV(s:List UInt8):(G0 s).1.1.length<=8/\(G0 s).1.2.length<=60/\∀g∈(G0 s).1.2,∀b∈g.2.2,b.length<=s.length:=by
 have c:=aQ (most:=8) (s,false);simp only[XL] at c;refine⟨?_,?_,?_⟩
 ·show (Ca _ _).1.length<=8
  rw[Rz];exact c
 ·have a:=aQ (most:=60) (Ox s).2
  simp only[XL] at a;show (Bb _ _ _).1.length<=60;rw[Kr];exact a
 exact(Pn _ _ (Ee (Ui _ (Ee (s:=(s,false)) (Y9 _))))).2
theorem F7.far{α:Type}{k:Nat}{enc:α->List Tv}(o:∀x,∃u t,enc x=u :: t/\u≠Zs none 0 0){w W:Tw}{v:Tv}{l:List α}{n:Nat}{T:TypeId}(h:F7 k enc w v l)(G:w.heap[n]? = some (Zk #[Zs none 0 0,Zs none 0 0] T))(s:w.grownBy W (some n)):F7 k enc W v l:=by
 obtain⟨a,c,e,I,J⟩:=h;refine⟨a,c,e,I,λy=>?_⟩;obtain⟨b,off,z,g,d⟩:=J y
 have m:b≠n:=by
  rintro rfl;obtain⟨x,t,rfl⟩:=List.exists_cons_of_ne_nil y;obtain⟨u,r,D,p⟩:=o x;have f:=d 0 x rfl 0 u (by rw[D];rfl);simp only[World.cell?,G] at f
  have:u=Zs none 0 0:=by
   generalize off+0*k+0=q at f
   rcases q with _|_|q
   ·simpa using f.symm
   ·simpa using f.symm
   simp at f
  exact p this
 exact⟨b,off,z,Ya g s.size,λj x L i u p=>(s.cell_far ⟨b,off+j*k+i,none⟩ g (by simp;exact m)).trans (d j x L i u p)⟩
theorem Hm.far{w W:Tw}{v u:Tv}{f:s9}{n:Nat}{T:TypeId}(h:Hm w v u f)(a:w.heap[n]? = some (Zk #[Zs none 0 0,Zs none 0 0] T))(b:w.grownBy W (some n)):Hm W v u f:=by obtain⟨c,xs,d,e,i⟩:=h;refine⟨c.far (λx=>⟨_,_,rfl,by simp⟩) a b,xs,d.far (λx=>⟨_,_,rfl,by simp⟩) a b,e,λj x g hx hg'=>?_⟩;obtain⟨k,l,m⟩:=i j x g hx hg';exact⟨k,l.far (λx=>⟨_,_,rfl,by simp⟩) a b,m.far (λx=>⟨_,_,rfl,by simp⟩) a b⟩
theorem Vf(s:List UInt8)(w:Tw)(hs:s.length<=1000000)(hw:Lw w)(hg:Ob w):
 Zc 50 #[Zt (E.str s)] w (Kx (Kj s) w):=by
 obtain⟨V,x,ag⟩:=AAV s;have O:=Aa (λg hg b hb=>XX (ag g hg b hb) hs);have al:=Aa hw;have aj:=Aa hg;clear ag hw hg;have ae:Below w.heap.size w (w.alloc (Zk #[Zs none 0 0,Zs none 0 0] 98)):=Zal;have T:=Aa (heap_alloc_new w (Zk #[Zs none 0 0,Zs none 0 0] 98));have z:Hid (Kj s=if (G0 s).2.2=true then none else if Jn (G0 s).1=some s then some (G0 s).1 else none):=Aa rfl;obtain⟨⟨cols,gs⟩,W⟩:∃f,(G0 s).1=f:=⟨_,rfl⟩;obtain⟨st,ah⟩:∃f,(G0 s).2=f:=⟨_,rfl⟩;have R:=Aa (λrb w hr=>y9 rb s w hr hs);rw[W,ah] at R z;rw[W] at O V x;dsimp only at O V x;clear W ah;have ai:=Aa ae;clear ae;go_enter func50,ntmps50;go_wp2_with fail;refine(E.qM (E.str s) _).mono ?_;rintro e Y⟨rfl,D⟩;have an:=D.size;rw[XA] at an;have U:Below Y.heap.size Y (Y.alloc (Zk #[Zt (E.str s),Zo false] 179)):=Zal;have ac:=Aa (R.o Y.heap.size (Y.alloc (Zk #[Zt (E.str s),Zo false] 179)) (heap_alloc_new Y _));have aa:=Aa (Ap (Ap ai.o D) U);have r:=Aa (((Ap D U).block w.heap.size (by simp)).trans T.o);clear D U;go_wp2_with fail;refine ac.o.mono ?_;rintro e o⟨cv,gv,rfl,hF,X,n⟩;obtain⟨G,I,rfl,_⟩:=hF.1.slice;obtain⟨J,L,rfl,_⟩:=hF.2.slice;dsimp only at hF X ⊢;have ao:=n.size;rw[XA] at ao;have af:Below w.heap.size w o:=aa.o.grown n (by simp;omega) (λk e=>by injection e with e;omega);have t:=Aa ((n.block w.heap.size (by simp;omega) (by simp;omega)).trans r.o);have m:Below o.heap.size o (o.alloc (Zk #[Zs G cols.length I,Zs J gs.length L] 98)):=Zal;have y:=Aa (heap_alloc_new o (Zk #[Zs G cols.length I,Zs J gs.length L] 98));have c:=Aa ((m.block w.heap.size (by omega)).trans t.o);have j:=Aa (Ap af m);have ad:=Aa (E.cX 179 [] Y.heap.size st _ (X.up m));have u:=Aa (lH _ _ cols gs _ (hF.up m) V O.o x (al.o.below j.o) (aj.o.below j.o));have ak:=Aa (hF.up m);obtain⟨sr,sq⟩:=st;obtain⟨f0,f1⟩:=Hg y.o;obtain⟨y0,y1⟩:=Hg c.o;have z0:=frozen_of_row _ w.heap.size 0 _ _ c.o;have z1:=frozen_of_row _ w.heap.size 1 _ _ c.o;have M:w.heap.size<(o.alloc (Zk #[Zs G cols.length I,Zs J gs.length L] 98)).heap.size:=by simp;omega
 have N:o.heap.size<(o.alloc (Zk #[Zs G cols.length I,Zs J gs.length L] 98)).heap.size:=by simp
 have l:=Aa (And.intro M N);clear hF X n af m t r ac aa M N;cases sq with
 | true=>have P:Hid (Kj s=none):=Aa (by rw[z.o];rfl);have i:=Aa j.o;go_wp2_with fail;generalize o.alloc (Zk #[Zs G cols.length I,Zs J gs.length L] 98)=W3 at *;refine ad.o.mono ?_;rintro e w3⟨rfl,rfl⟩;go_wp2;refine bodyPost_ret (v:=Zu #[Zg #[Zs none 0 0,Zs none 0 0],Zf 90 (Zi 3)]) (by simp[results,results50,go_sem,y0,y1]) rfl ?_;rw[P.o];exact⟨rfl,(i.o.setCell (p:=⟨w.heap.size,0,none⟩) (Y9 _) _).setCell (p:=⟨w.heap.size,1,none⟩) (Y9 _) _⟩
 | false=>
   have q:Hid (Kj s=if Jn (cols,gs)=some s then some (cols,gs) else none):=Aa (by rw[z.o];rfl);clear z R;go_wp2_with fail;generalize o.alloc (Zk #[Zs G cols.length I,Zs J gs.length L] 98)=W3 at *;refine ad.o.mono ?_;rintro e w3⟨rfl,rfl⟩;cases hwr:Jn (cols,gs) with
   | none=>rw[hwr] at u q;have P:Hid (Kj s=none):=Aa (by rw[q.o];simp);clear hwr;go_wp2_with fail;refine u.o.mono ?_;rintro e w4⟨rfl,d⟩;have a:=(d.block w.heap.size l.o.1).trans c.o;have h:=(d.block o.heap.size l.o.2).trans y.o;obtain⟨y0,y1⟩:=Hg a;obtain⟨f0,f1⟩:=Hg h;have z0:=frozen_of_row _ w.heap.size 0 _ _ a;have z1:=frozen_of_row _ w.heap.size 1 _ _ a;have i:=Aa (Ap j.o d);go_wp2;refine bodyPost_ret (v:=Zu #[Zg #[Zs none 0 0,Zs none 0 0],Zf 90 (Zi 3)]) (by simp[results,results50,go_sem,y0,y1]) rfl ?_;rw[P.o];exact⟨rfl,(i.o.setCell (p:=⟨w.heap.size,0,none⟩) (Y9 _) _).setCell (p:=⟨w.heap.size,1,none⟩) (Y9 _) _⟩
   | some b=>
     rw[hwr] at u q;clear hwr
     by_cases hbs:b=s
     ·subst hbs
      have P:Hid (Kj b=some (cols,gs)):=Aa (by rw[q.o];simp);go_wp2_with fail;refine u.o.mono ?_;rintro e w4⟨rfl,d⟩;have a:=(d.block w.heap.size l.o.1).trans c.o;have h:=(d.block o.heap.size l.o.2).trans y.o;obtain⟨y0,y1⟩:=Hg a;obtain⟨f0,f1⟩:=Hg h;have z0:=frozen_of_row _ w.heap.size 0 _ _ a;have z1:=frozen_of_row _ w.heap.size 1 _ _ a;have i:=Aa (Ap j.o d);have ab:=Aa (ak.o.up d);have aq:=d.size;go_wp2;have n:w4.grownBy ((w4.setCell ⟨w.heap.size,0,none⟩ (Zs G cols.length I)).setCell ⟨w.heap.size,1,none⟩ (Zs J gs.length L)) (some w.heap.size):=E.Al (E.Ar w4 w.heap.size 0 _) (E.Ar _ w.heap.size 1 _);have am:=ab.o.far a n;refine bodyPost_ret (v:=Zu #[Zg #[Zs G cols.length I,Zs J gs.length L],Zn]) (by simp[results,results50,go_sem,y0,y1]) rfl ?_;rw[P.o];exact⟨_,_,rfl,am,(i.o.setCell (p:=⟨w.heap.size,0,none⟩) (Y9 _) _).setCell (p:=⟨w.heap.size,1,none⟩) (Y9 _) _⟩
     have P:Hid (Kj s=none):=Aa (by rw[q.o];simp[hbs])
     have ap:((E.str b).toList==(E.str s).toList)=false:=by rw[beq_eq_false_iff_ne];intro e;rw[ByteArray.toList_eq,ByteArray.toList_eq] at e;exact hbs (by simpa[E.str] using e)
     clear hbs;go_wp2_with fail;refine u.o.mono ?_;rintro e w4⟨rfl,d⟩;have a:=(d.block w.heap.size l.o.1).trans c.o;have h:=(d.block o.heap.size l.o.2).trans y.o;obtain⟨y0,y1⟩:=Hg a;obtain⟨f0,f1⟩:=Hg h;have z0:=frozen_of_row _ w.heap.size 0 _ _ a;have z1:=frozen_of_row _ w.heap.size 1 _ _ a;have i:=Aa (Ap j.o d);go_wp2;refine bodyPost_ret (v:=Zu #[Zg #[Zs none 0 0,Zs none 0 0],Zf 90 (Zi 3)]) (by simp[results,results50,go_sem,y0,y1]) rfl ?_;rw[P.o];exact⟨rfl,(i.o.setCell (p:=⟨w.heap.size,0,none⟩) (Y9 _) _).setCell (p:=⟨w.heap.size,1,none⟩) (Y9 _) _⟩
theorem AC2(n:Nat)(b:1<=n)(c:n<=6)(w:Tw):Zc 179 #[.int .u64 1,.int .u64 n] w λe a=>e=Zr (Zu #[.int .u64 0,.int .u64 n])/\a=w:=by
 obtain rfl|rfl|rfl|rfl|rfl|rfl:n=1\/n=2\/n=3\/n=4\/n=5\/n=6:=by omega
 all_goals
  go_enter func179,ntmps179;go_wp2;go_ret2;exact⟨rfl,rfl⟩
theorem AIJ(n:Nat)(c:1<=n)(d:n<=6)(w:Tw):Zc 126 #[.int .u64 1,.int .u64 n] w λe a=>e=Zr (Zu #[.int .u64 0,.int .u64 n])/\a=w:=by
 have b:Hid (∀W,Zc 179 #[.int .u64 1,.int .u64 n] W λe a=>e=Zr (Zu #[.int .u64 0,.int .u64 n])/\a=W):=λW=>AC2 n c d W
 go_enter func126,ntmps126
 go_wp2_with (first
  | (go_at_call 179;refine(b.o _).mono ?_;rintro e f⟨rfl,rfl⟩))
 go_ret2;exact⟨rfl,rfl⟩
def AHE(v:V):List Value:=[Zi v.1,Zi v.2.1,.string v.2.2]
def rep(v:V)(m:Nat):List Value:=(List.replicate m v).flatMap AHE
theorem Iy(v:V)(m:Nat):(rep v m).length=m*3:=by
 unfold rep
 induction m with
 | zero=>rfl
 | succ m ih=>rw[YH,List.flatMap_cons,XF,ih];simp[AHE];omega
theorem ABO(v:V)(m c:Nat):rep v (m+c)=rep v m++rep v c:=by unfold rep;rw[<-List.replicate_append_replicate,XJ]
theorem AEP(v:V){m c:Nat}(h:c<=m):(rep v m).take (c*3)=rep v c:=by obtain⟨d,rfl⟩:∃d,m=c+d:=⟨m-c,by omega⟩;rw[ABO,Yx (by rw[Iy];exact Y9 _),Yd (by rw[Iy];exact Y9 _)]
theorem ABb(v:V)(m:Nat):∀u∈rep v m,u.oneCell'=true:=by
 intro u a;simp only[rep,List.mem_flatMap] at a;obtain⟨x,_,b⟩:=a;simp[AHE] at b
 rcases b with rfl|rfl|rfl <;> rfl
theorem kO{P:Program}(w:Tw)(dT sT z elem:TypeId)(g o c e:Nat)(a:Addr)(d k:Nat)(b:Array Tv)(t:TypeId)(cs:List Tv)(m:Nat)(y:P.underlying dT=some (.slice elem))(p:(P.info? elem).map (·.size)=some 3)(r:w.heap[g]? = some (Zk b t (0,0)))(u:m=Nat.min d c)(x:cs.length=m*3)(h:∀j v,cs[j]? = some v->w.cell? (a.add j)=some v)(f:o+cs.length<=b.size)(q:∀v∈cs,v.oneCell'=true):
 (Builtin.copy_ #[dT,sT] z #[Zs (some ⟨g,o,none⟩) c e,Zs (some a) d k]).run P w =
   .ok (goInt m) (w.setRow g (b.toList.take o++cs++b.toList.drop (o+cs.length)).toArray):=by
 have n:=run_loadCells_list (P:=P) w a cs h;have l:=run_storeCells_at P g o t cs 0 b w r (by simpa using f) q;rw[x] at n;cases hq:P.info? elem with
 | none=>simp[hq] at p
 | some i=>
   have s:i.size=3:=by simpa[hq] using p
   simp[Builtin.copy_,run_underlying y,Builtin.lenOf,Builtin.firstCells,sizeOf,typeInfo,hq,s,<-u,n,l]
theorem AEK:(prog.info? 56).map (·.size)=some 3:=by kernel_rfl
theorem pG{p:Array Oper}{rest:List Oper}{o:Oper}{a:Act}{Q:Exit->Act->Tw->Prop}(r:o.guard=none)(d s:Operand)(J:o.op=.call { callee:=.builtin .copy,args:=#[d,s],argTypes:=#[51,51] })(g off c f:Nat)(q:Addr)(e i:Nat)(z:a.eval d=Zs (some ⟨g,off,none⟩) c f)(L:a.eval s=Zs (some q) e i)(b:Array Tv)(t:TypeId)(D:w.heap[g]? = some (Zk b t (0,0)))(cs:List Tv)(m:Nat)(G:m=Nat.min e c)(I:cs.length=m*3)(n:∀j v,cs[j]? = some v->w.cell? (q.add j)=some v)(k:off+cs.length<=b.size)(y:∀v∈cs,v.oneCell'=true)(h:∀u,u=w.setRow g (b.toList.take off++cs++b.toList.drop (off+cs.length)).toArray->wpList prog p Q rest (a.put o.dst (goInt m)) u):wpList prog p Q (o :: rest) a w:=by
 refine wpList_plain r λK hK=>?_
 have l:=kO (P:=prog) w 51 51 o.type 56 g off c f q e i b t cs m underlying51 AEK D G I n k y;unfold Oper.wp;have x:=h _ rfl;simp[execOp,J,resolve,invoke,builtin,z,L,l,Result.andThen];exact hK _ _ (by simpa using x)
def Rw(w0:World)(g n:Nat)(v:V)(m:Nat)(w:World):Prop:=∃a:Array Value,w.heap[g]? = some (.cells a 56 (0,0))/\a.size=n*3/\a.toList.take (m*3)=rep v m/\Zb w0 w
theorem Rw.step{w0 w W:Tw}{g n m c off:Nat}(f:w.heap[g]? = some (Zk a 56 (0,0)))(k:a.size=n*3)(i:a.toList.take (m*3)=rep v m)(d:Zb w0 w)(b:w0.heap.size<=g)(h:off=m*3)(j:m+c<=n)(e:W=w.setRow g (a.toList.take off++rep v c++a.toList.drop (off+(rep v c).length)).toArray):Rw w0 g n v (m+c) W:=by
 subst h;subst e;refine⟨_,setRow_heap w g _ _ _ _ f,?_,?_,below_setRow d b _⟩
 ·simp[Iy]
  omega
 rw[i,ABO];rw[Yx (by simp[Iy];omega),Yd (by simp[Iy];omega)]
theorem Rw.cells{w:Tw}{g m c:Nat}{v:V}{a:Array Tv}(e:w.heap[g]? = some (Zk a 56 (0,0)))(i:a.toList.take (m*3)=rep v m)(d:c<=m):∀j u,(rep v c)[j]? = some u->w.cell? ((⟨g,0,none⟩:Addr).add j)=some u:=by
 intro j u b
 have f:j<c*3:=by
  rcases Yc j (c*3) with h|h
  ·exact h
  rw[Yb (by rw[Iy];exact h)] at b;cases b
 rw[<-AEP v d,<-i,Yl f,Yl (by omega)] at b;rw[Addr.add_lit];simp[World.cell?,e];simpa using b
theorem AF8{B g n:Nat}{xs:List Tv}(h:w.ownsRow B 56 3 (Zs (some ⟨g,0,none⟩) n n) n xs):∃a,w.heap[g]? = some (Zk a 56 (0,0))/\a.size=n*3:=by
 obtain⟨_,⟨b,_⟩|⟨f,c,a,b,_,d,_,_,e,_⟩⟩:=h
 ·cases b
 cases b;exact⟨a,d,e⟩
theorem AFi{w0:Tw}{g:Nat}(f:w.heap[g]? = some (Zk a 56 (0,0)))(h:a.size=n*3)(d:Zb w0 w)(b:w0.heap.size<=g)(i:1<=n)(e:W=w.setRow g (a.toList.take 0++rep v 1++a.toList.drop (0+(rep v 1).length)).toArray):Rw w0 g n v 1 W:=by have:=Rw.step (m:=0) (c:=1) (v:=v) f h (by simp[rep]) d b rfl (by omega) e;simpa using this
theorem AIA(b:w.heap[n]? = some (Zk #[Zi v.1,Zi v.2.1,Zt v.2.2] 56 (0,0))):∀j u,(rep v 1)[j]? = some u->w.cell? ((⟨n,0,none⟩:Addr).add j)=some u:=by intro j u a;rw[Addr.add_lit];simp only[World.cell?,b,WB];simpa[rep,AHE] using a
theorem zA(l xc n:Nat)(v:V)(w:Tw)(N:1<=n)(h6:n<=6)(G:w.heap[l]? = some (Zk #[Zi v.1,Zi v.2.1,Zt v.2.2] 56 (0,0))):
 Zc 205 #[Zs (some ⟨l,0,none⟩) 1 xc,Zi n] w λe I=>∃v',e=Zr v'/\I.ownsRow w.heap.size 56 3 v' n (rep v n)/\Zb w I:=by
 obtain⟨iV,R,X,t,u⟩:=info_parts E.Ip;have HM:Hid (∀W,Zc 126 #[.int .u64 1,.int .u64 n] W λe I=>e=Zr (Zu #[.int .u64 0,.int .u64 n])/\I=W):=λW=>AIJ n N h6 W
 have HX:=Aa G
 have U:l<w.heap.size:=by
  rcases Yc l w.heap.size with h|h
  ·exact h
  rw[XH h] at G;cases G
 have ah:¬(n:Int)<0:=by omega
 clear G;go_enter func205,ntmps205
 go_wp2_with (first
  | (go_at_call 126;refine(HM.o _).mono ?_;rintro e w1⟨rfl,hw⟩;rw[hw];clear hw)
  | (refine wpList_make_full _ rfl _ _ 51 rfl w.heap.size 56 iV (.agg #[Zi 0,Zi 0,.string ⟨#[]⟩]) 3 underlying51 R X t .i64 .i64 _ _ n rfl rfl rfl rfl (by rw[u];omega) (by unfold maxLen;omega) (Y9 _) ?_;intro w2 r q;obtain⟨cur2,hc2,hs2⟩:=AF8 r;have g:Hid (Zb w w2):=(Y' _ w).grown q (Y9 _) (λj hj=>by cases hj);have o:=Aa ((g.o.block l U).trans HX.o);have a:=Aa (And.intro hc2 hs2);clear r q hc2 hs2)
  | (refine pG rfl _ _ rfl w.heap.size 0 n n ⟨l,0,none⟩ 1 xc rfl rfl cur2 56 a.o.1 (rep v 1) 1 (by simp[WC];omega) (by rw[Iy]) (AIA o.o) (by rw[Iy,a.o.2];omega) (ABb v 1) ?_;intro w3 s;have L:=Aa (AFi a.o.1 a.o.2 g.o (Y9 _) N s);clear s))
 clear a o g
 go_loopw [8] (λY wr=>∃m:Nat,1<=m/\m<=n/\Y=Zi m/\Hid (Rw w w.heap.size n v m wr)) (λY _=>n-(intOf Y).toNat)
 case atStart=>exact⟨1,Y9 _,N,rfl,L⟩
 case round=>
  obtain⟨m,ae,af,rfl,i⟩:=hrel
  by_cases hlt:m<n
  ·have aa:(m:Int)<(n:Int):=by omega
   have ad:(0:Int)<=(m:Int):=by omega
   have ag:¬n=m:=by omega
   obtain⟨b,y,z,D,x⟩:=i.o;obtain⟨c,p⟩:∃c,c=Nat.min m (n-m):=⟨_,rfl⟩;have O:c<=m:=by rw[p];exact Nat.min_le_left _ _
   have ac:c<=n-m:=by rw[p];exact Nat.min_le_right _ _
   have ab:0<c:=by rw[p];simp[WC];split <;> omega
   have d:=Zy y z D x;have J:=Aa p;clear y z D x i p;go_wp2;have f:=kO (P:=prog) wr.drew 51 51 3 56 w.heap.size (m*3) (n-m) (n-m) ⟨w.heap.size,0,none⟩ m n b 56 (rep v c) c underlying51 AEK d.o.1 J.o (Iy v c) (Rw.cells (w:=wr.drew) d.o.1 d.o.2.2.1 O) (by rw[Iy,d.o.2.1];omega) (ABb v c);obtain⟨w5,k⟩:∃w5,w5=wr.drew.setRow w.heap.size (b.toList.take (m*3)++rep v c++b.toList.drop (m*3+(rep v c).length)).toArray:=⟨_,rfl⟩;rw[<-k] at f;simp only[goInt] at f;have M:=Aa k;clear k
   go_region
   go_wp2
   go_roundw
   case rel=>exact⟨m+c,by omega,by omega,by simp,Rw.step (w:=wr.drew) d.o.1 d.o.2.1 d.o.2.2.1 d.o.2.2.2.drew (Y9 _) rfl (by omega) M.o⟩
   case measure=>simp[intOf];omega
  have T:m=n:=by omega
  subst T;go_wp2;go_ret;obtain⟨b,y,z,D,x⟩:=i.o;exact⟨_,rfl,⟨Iy v m,.inr ⟨w.heap.size,m,b,rfl,Y9 _,y,Y9 _,by unfold maxLen;omega,z,D⟩⟩,x⟩
theorem Sf(n:Nat)(sv q:Tv)(y m:To)(D z p o:Nat)(c1:Int)(r:Tb)(s:Int)(t:Bool)(a b:Int)(c:Tb)(w:Tw)(I:1<=n)(J:n<=6)(es:sv=Zs y D z)(G:q=Zs m p o):
 Zc 152 #[Zg #[Zi n,sv,q],Zg #[Zi c1,Zt r,Zi s,Zo t,Zi a,Zi b,Zt c]] w λe d=>∃v',e=Zr v'/\d.ownsRow w.heap.size 56 3 v' n (rep (a,b,c) n)/\Zb w d:=by
 subst es G
 have l:Hid (∀W f k,Zb w W->W.heap[f]? = some (Zk #[Zi a,Zi b,Zt c] 56 (0,0))->Zc 205 #[Zs (some ⟨f,0,none⟩) 1 k,Zi n] W λe d=>∃v',e=Zr v'/\d.ownsRow w.heap.size 56 3 v' n (rep (a,b,c) n)/\Zb w d):=by intro W f k x M;refine(zA f k n (a,b,c) W I J M).mono ?_;rintro e d⟨v',rfl,L,h⟩;exact⟨v',rfl,E.Ai L x.size,Ap x h⟩
 obtain⟨_,_,_,v,u⟩:=Jl w (Zk #[Zi n,Zs y D z,Zs m p o] 128) (Zk #[Zi c1,Zt r,Zi s,Zo t,Zi a,Zi b,Zt c] 72) (Zk #[Zi a,Zi b,Zt c] 56);have g:=Aa (l.o _ (w.heap.size+2) 1 u v);clear v u l;go_enter func152,ntmps152;go_wp2_with (go_at_call 205;refine g.o.mono ?_;rintro e O⟨N,rfl,j,i⟩);go_ret;exact⟨_,rfl,j,i⟩
theorem ABF{cols:List Aj}{id:Int}(h:¬pos cols id<cols.length):cM cols id = -1:=by unfold cM;rw[if_neg h]
theorem AC1(D:Tv)(G:To)(J I:Nat)(cols:List Aj)(n:Nat)(t:To)(v u:Nat)(p:To)(r q:Nat)(c1:Int)(j:Tb)(k:Int)(l:Bool)(c d:Int)(f:Tb)(w:Tw)(O:F7 7 Cc w D cols)(h1:1<=cols.length)(h8:cols.length<=8)(hp:¬pos cols c1<cols.length)(P:1<=n)(R:n<=6):
 Zc 97 #[Zg #[D,Zs G J I],Zg #[Zi n,Zs t v u,Zs p r q],Zg #[Zi c1,Zt j,Zi k,Zo l,Zi c,Zi d,Zt f]] w
  λe m=>∃v',e=Zr v'/\m.ownsRow w.heap.size 56 3 v' n (rep (c,d,f) n)/\Zb w m:=by
 have y:=Aa (λW s=>U9 D (Zs G J I) cols c1 j k l c d f W (O.up s) h1 h8);rw[ABF hp] at y;obtain⟨g,o,cc,rfl,aa,ab,h⟩:=O.cons (by omega);obtain⟨U,hX,V,X,L⟩:=Jl w (Zk #[Zs (some ⟨g,o,none⟩) cols.length cc,Zs G J I] 98) (Zk #[Zi n,Zs t v u,Zs p r q] 128) (Zk #[Zi c1,Zt j,Zi k,Zo l,Zi c,Zi d,Zt f] 72);have z:=Aa (y.o _ L)
 have HD:Hid (∀W,Zb w W->Zc 152 #[Zg #[Zi n,Zs t v u,Zs p r q],Zg #[Zi c1,Zt j,Zi k,Zo l,Zi c,Zi d,Zt f]] W λe m=>∃v',e=Zr v'/\m.ownsRow w.heap.size 56 3 v' n (rep (c,d,f) n)/\Zb w m):=by intro W s;refine(Sf n _ _ t p v u r q c1 j k l c d f W P R rfl rfl).mono ?_;rintro e m⟨v',rfl,ho,M⟩;exact⟨v',rfl,E.Ai ho s.size,Ap s M⟩
 obtain⟨Y,y1,y2,_,_,_⟩:=J5 V;have b:=Zy Y y1 y2 X;have HB:=Aa L;clear hX V X L Y y1 y2 h U y O;go_enter func97,ntmps97;go_wp2_with fail;refine z.o.mono ?_;rintro e i⟨rfl,a⟩;have q0:=Ag a b.o.1;have q1:=Ag a b.o.2.1;have q2:=Ag a b.o.2.2.1;have z0:i.cell? ⟨w.heap.size+1+1,0,none⟩=some (Zi c1):=Ag a (by simp only[World.cell?,b.o.2.2.2];rfl);have z1:i.cell? ⟨w.heap.size+1+1,1,none⟩=some (Zt j):=Ag a (by simp only[World.cell?,b.o.2.2.2];rfl);have z2:i.cell? ⟨w.heap.size+1+1,2,none⟩=some (Zi k):=Ag a (by simp only[World.cell?,b.o.2.2.2];rfl);have z3:i.cell? ⟨w.heap.size+1+1,3,none⟩=some (Zo l):=Ag a (by simp only[World.cell?,b.o.2.2.2];rfl);have z4:i.cell? ⟨w.heap.size+1+1,4,none⟩=some (Zi c):=Ag a (by simp only[World.cell?,b.o.2.2.2];rfl);have z5:i.cell? ⟨w.heap.size+1+1,5,none⟩=some (Zi d):=Ag a (by simp only[World.cell?,b.o.2.2.2];rfl);have z6:i.cell? ⟨w.heap.size+1+1,6,none⟩=some (Zt f):=Ag a (by simp only[World.cell?,b.o.2.2.2];rfl);have x:=Aa (Ap HB.o a);go_wp2_with (go_at_call 152;refine(HD.o _ x.o).mono ?_;rintro e w2⟨v2,rfl,T,N⟩);go_ret;exact⟨_,rfl,T,N⟩
