import Derived.Test.YtcfgbbpgoailaaaGreatDoorFX2
set_option maxHeartbeats 0
set_option maxRecDepth 100000
open Nat renaming le_refl->Y',le_add_right->XE,zero_le->XF,le_succ->XP,le_trans->XV,zero_add->WL,add_assoc->WS,min_def->WU
open List renaming getElem?_eq_getElem->XA,mem_of_getElem?->XD,length_append->XH,cons_append->XJ,setIfInBounds_toArray->XK,getElem?_append_right->XL,getElem?_append_left->XM,length_cons->XN,flatMap_append->XQ,nil_append->XR,set_cons_zero->XS,length_take->XW,length_nil->XZ,length_map->X2,append_toArray->X4,set_cons_succ->X6,size_toArray->X',push_toArray->WA,getElem?_map->WC,mem_cons->WD,append_nil->WI,length_replicate->WJ,not_mem_nil->WM
open Go.RowKit.Below renaming refl->XB,heap_alloc->WH
open Go.World renaming size_alloc->XC,news_of_block->XG,ownsRow_nil->XO,putObj_heap_other->XU
open Array renaming getElem?_eq_none->XI,replicate_succ->XX,replicate_zero->XY
open Int renaming cast_ofNat_Int->XT,toNat_natCast->WB,eq_ofNat_of_zero_le->WG,natCast_zero->WO,add_zero->WT
open Bool renaming and_eq_true->WE,false_eq_true->WK,or_eq_true->WQ,and_false->WR
open Option renaming getD_some->WN
namespace Go.Proofs.YtcfgbbpgoailaaaGreatDoor
open Tryz RowKit Extern.Stop Stop Extern Shelf Joins Lib
open Go.Sort (grow)
def Ob(w:World):Prop:=w.cell? ⟨0,0,none⟩=some (.iface 180 (.agg #[.pointer (some ⟨11,31,none⟩)]))
theorem Ob.lt{w:Tw}(h:Ob w):0<w.heap.size:=by
 rcases Yc 0 w.heap.size with a|a
 ·exact a
 unfold Ob at h;simp[World.cell?,XI a] at h
theorem Ob.below{w W:Tw}(h:Ob w)(a:Zb w W):Ob W:=(a.cell (p:=⟨0,0,none⟩) h.lt).trans h
theorem AKk(t:Addr)(w:Tw):(ReflectliteValue.unpack (Zf 86 (Zp (some t)))).run prog w
 = .ok (Zg #[Zp (some ⟨11,86,none⟩),Zp (some ⟨w.heap.size,0,none⟩),.int .u64 150]) (w.alloc (Zk #[Zp (some t)] 86)):=by kernel_rfl
theorem ALw(a:Addr)(w:Tw):(ReflectliteValue.methodAny (ReflectliteValue.valueError "reflectlite.Value.Type" 0) (λt _ _ _=>ReflectliteType.toType t) #[Zg #[Zp (some ⟨11,86,none⟩),Zp (some a),.int .u64 150]]).run prog w
 = .ok (Zf 180 (Zg #[Zp (some ⟨11,86,none⟩)])) w:=by kernel_rfl
theorem AKe(h:Tv)(w:Tw):(Go.method 544 180 (Zg #[h]) "Kind").run prog w=.ok (346,h) w:=by kernel_rfl
theorem ALp(w:Tw):((ReflectliteType.abiMethod λt=>(λa:Nat=>Value.int IntKind.u8 (a:Int)) <$> Rtype.kind t) #[Zp (some ⟨11,86,none⟩)]).run prog w=.ok (.int .u8 22) w:=by kernel_rfl
theorem AMB(w:Tw):((ReflectliteType.abiMethod λt=>(λa:Nat=>Value.int IntKind.u8 (a:Int)) <$> Rtype.kind t) #[Zp (some ⟨11,47,none⟩)]).run prog w=.ok (.int .u8 2) w:=by kernel_rfl
theorem AKa(a:Addr)(w:Tw):(ReflectliteValue.parts (Zg #[Zp (some ⟨11,86,none⟩),Zp (some a),.int .u64 150])).run prog w=.ok (some (86,a,150)) w:=by kernel_rfl
theorem ALW(a p:Addr)(W:Tw)(b:W.cell? a=some (Zp (some p))):
 (ReflectliteValue.method (ReflectliteValue.valueError "reflectlite.Value.IsNil" 0) ReflectliteValue.isNil #[Zg #[Zp (some ⟨11,86,none⟩),Zp (some a),.int .u64 150]]).run prog W=.ok (Zo false) W:=by
 rw[Lib.rl_method];simp only[Sem.run_bind,AKa,Result.andThen];simp[ReflectliteValue.isNil,loadVar,isAgg,underlying,underlying86,b,Result.andThen]
theorem AKd(h:Tv)(w:Tw):(Go.method 544 180 (Zg #[h]) "Elem").run prog w=.ok (359,Zg #[h]) w:=by kernel_rfl
theorem AH8(h:Tv)(w:Tw):(Go.method 544 180 (Zg #[h]) "Implements").run prog w=.ok (360,Zg #[h]) w:=by kernel_rfl
theorem AHv(h:Tv)(w:Tw):(Go.method 544 180 (Zg #[h]) "AssignableTo").run prog w=.ok (357,Zg #[h]) w:=by kernel_rfl
theorem ALn(w:Tw):(ReflectliteType.method ReflectliteType.elem #[Zg #[Zp (some ⟨11,86,none⟩)]]).run prog w=.ok (Zf 180 (Zg #[Zp (some ⟨11,47,none⟩)])) w:=by kernel_rfl
theorem AJw(w:Tw):(ReflectliteType.relation "Implements" ReflectliteType.implements_ #[Zg #[Zp (some ⟨11,47,none⟩)],Zf 180 (Zg #[Zp (some ⟨11,31,none⟩)])]).run prog w=.ok (Zo true) w:=by kernel_rfl
theorem ALe(v:Tv)(w:Tw):(ReflectliteType.typeOf #[Zf 47 v]).run prog w=.ok (Zf 180 (Zg #[Zp (some ⟨11,47,none⟩)])) w:=by kernel_rfl
theorem AJR(w:Tw):(ReflectliteType.relation "AssignableTo" ReflectliteType.assignableTo #[Zg #[Zp (some ⟨11,47,none⟩)],Zf 180 (Zg #[Zp (some ⟨11,47,none⟩)])]).run prog w=.ok (Zo true) w:=by kernel_rfl
theorem ALF(x:Int)(w:Tw):(ReflectliteValue.unpack (Zf 47 (Zi x))).run prog w
 = .ok (Zg #[Zp (some ⟨11,47,none⟩),Zp (some ⟨w.heap.size,0,none⟩),.int .u64 130]) (w.alloc (Zk #[Zi x] 47)):=by kernel_rfl
theorem AKs(w:Tw):(Rtype.elem? 86).run prog w=.ok (some 47) w:=by kernel_rfl
theorem AMe(p:Addr)(w:Tw):(ReflectliteValue.mk 47 p ReflectliteValue.flagAddr).run prog w=.ok (Zg #[Zp (some ⟨11,47,none⟩),Zp (some p),.int .u64 386]) w:=by kernel_rfl
theorem ALV(a p:Addr)(W:Tw)(b:W.cell? a=some (Zp (some p))):
 (ReflectliteValue.method (ReflectliteValue.valueError "reflectlite.Value.Elem" 0) ReflectliteValue.elem #[Zg #[Zp (some ⟨11,86,none⟩),Zp (some a),.int .u64 150]]).run prog W
   = .ok (Zg #[Zp (some ⟨11,47,none⟩),Zp (some p),.int .u64 386]) W:=by
 rw[Lib.rl_method];simp only[Sem.run_bind,AKa,Result.andThen];simp[ReflectliteValue.elem,loadVar,isAgg,underlying,underlying86,b,Result.andThen,AKs,AMe]
theorem ALE{m:Array Tv->Type}(a b:Tv)(c:(v x:Tv)->m #[v,x])(d:(x:Array Tv)->m x):ReflectliteValue.set.match_3 m #[a,b] c d=c a b:=rfl
theorem ALX(a:Addr)(w:Tw):(ReflectliteValue.parts (Zg #[Zp (some ⟨11,47,none⟩),Zp (some a),.int .u64 386])).run prog w=.ok (some (47,a,386)) w:=by kernel_rfl
theorem ALs(a:Addr)(w:Tw):(ReflectliteValue.parts (Zg #[Zp (some ⟨11,47,none⟩),Zp (some a),.int .u64 130])).run prog w=.ok (some (47,a,130)) w:=by kernel_rfl
theorem ALS(w:Tw):(Rtype.directlyAssignable 47 47).run prog w=.ok true w:=by kernel_rfl
theorem AMU(a b:Addr)(x:Int)(c:Tv)(W:Tw)(d:W.cell? b=some (Zi x))(f:W.cell? a=some c)(e:W.frozen? a=false):
 (ReflectliteValue.set #[Zg #[Zp (some ⟨11,47,none⟩),Zp (some a),.int .u64 386],Zg #[Zp (some ⟨11,47,none⟩),Zp (some b),.int .u64 130]]).run prog W
   = .ok (Zu #[]) (W.setCell a (Zi x)):=by
 delta ReflectliteValue.set
 rw[ALE];simp only[Sem.run_bind,ALX,ALs,Result.andThen];simp[ReflectliteValue.flagAddr,loadVar,isAgg,underlying,underlying47,d,Result.andThen,ALS,storeVar,Value.cells,storeCells,Addr.add];rw[run_store prog W a _ _ (by rfl)];simp[f,e]
theorem AL6(x:Int)(t:Addr)(d:Tv)(w:Tw)(e:Ob w)(b:w.cell? t=some d)(f:w.frozen? t=false):
 Zc 21 #[Zf 47 (Zi x),Zf 86 (Zp (some t))] w λj z=>j=Zr (Zo true)/\z=((((w.alloc (Zk #[Zp (some t)] 86)).alloc (Zk #[Zp (some ⟨11,86,none⟩),Zp (some ⟨w.heap.size,0,none⟩),.int .u64 150] 117)).alloc (Zk #[Zp (some ⟨11,86,none⟩),Zp (some ⟨w.heap.size,0,none⟩),.int .u64 150] 117)).alloc (Zk #[Zi x] 47)).setCell t (Zi x):=by
 have J:=@run_callFunc_extern prog 41 _ (λargs=>ReflectliteValue.unpack (args.getD 0 (Zu #[]))) func41 (by kernel_rfl) (by kernel_rfl) (by kernel_rfl) (by kernel_rfl);have L:=@run_callFunc_extern prog 42 _ (ReflectliteValue.methodAny (ReflectliteValue.valueError "reflectlite.Value.Type" 0) (λt _ _ _=>ReflectliteType.toType t)) func42 (by kernel_rfl) (by kernel_rfl) (by kernel_rfl) (by kernel_rfl);have M:=@run_callFunc_extern prog 43 _ (ReflectliteValue.method (ReflectliteValue.valueError "reflectlite.Value.IsNil" 0) ReflectliteValue.isNil) func43 (by kernel_rfl) (by kernel_rfl) (by kernel_rfl) (by kernel_rfl);have n:=@run_callFunc_extern prog 346 _ (ReflectliteType.abiMethod λt=>do pure (.int .u8 (<-Rtype.kind t))) func346 (by kernel_rfl) (by kernel_rfl) (by kernel_rfl) (by kernel_rfl);have p:=@run_callFunc_extern prog 359 _ (ReflectliteType.method ReflectliteType.elem) func359 (by kernel_rfl) (by kernel_rfl) (by kernel_rfl) (by kernel_rfl);have q:=@run_callFunc_extern prog 360 _ (ReflectliteType.relation "Implements" ReflectliteType.implements_) func360 (by kernel_rfl) (by kernel_rfl) (by kernel_rfl) (by kernel_rfl);have k:=@run_callFunc_extern prog 78 _ ReflectliteType.typeOf func78 (by kernel_rfl) (by kernel_rfl) (by kernel_rfl) (by kernel_rfl);have o:=@run_callFunc_extern prog 357 _ (ReflectliteType.relation "AssignableTo" ReflectliteType.assignableTo) func357 (by kernel_rfl) (by kernel_rfl) (by kernel_rfl) (by kernel_rfl);have l:=@run_callFunc_extern prog 79 _ (ReflectliteValue.method (ReflectliteValue.valueError "reflectlite.Value.Elem" 0) ReflectliteValue.elem) func79 (by kernel_rfl) (by kernel_rfl) (by kernel_rfl) (by kernel_rfl);have m:=@run_callFunc_extern prog 80 _ ReflectliteValue.set func80 (by kernel_rfl) (by kernel_rfl) (by kernel_rfl) (by kernel_rfl);have U:=ALe;have N:=AHv;have g:=AJR;have y:=ALF;have G:=AKk;have I:=ALw;have R:=AKe;have O:=AKd;have P:=AH8;have v:=ALp;have u:=AMB;have i:=ALn;have s:=AJw;have T:=ALW ⟨w.heap.size,0,none⟩ t ((w.alloc (Zk #[Zp (some t)] 86)).alloc (Zk #[Zp (some ⟨11,86,none⟩),Zp (some ⟨w.heap.size,0,none⟩),.int .u64 150] 117)) (by simp);have a:0<w.heap.size:=e.lt;have e:w.cell? ⟨0,0,none⟩=some (Zf 180 (Zg #[Zp (some ⟨11,31,none⟩)])):=e
 have r:((w.alloc (Zk #[Zp (some t)] 86)).alloc (Zk #[Zp (some ⟨11,86,none⟩),Zp (some ⟨w.heap.size,0,none⟩),.int .u64 150] 117)).cell? ⟨0,0,none⟩=some (Zf 180 (Zg #[Zp (some ⟨11,31,none⟩)])):=by rw[Yh _ _ ⟨0,0,none⟩ (by rw[XC];exact Nat.lt_succ_of_lt a),Yh _ _ ⟨0,0,none⟩ a];exact e
 have c:t.block<w.heap.size:=by
  rcases Yc t.block w.heap.size with h|h
  ·exact h
  simp[World.cell?,XI h] at b
 have D:=ALV ⟨w.heap.size,0,none⟩ t (((w.alloc (Zk #[Zp (some t)] 86)).alloc (Zk #[Zp (some ⟨11,86,none⟩),Zp (some ⟨w.heap.size,0,none⟩),.int .u64 150] 117)).alloc (Zk #[Zp (some ⟨11,86,none⟩),Zp (some ⟨w.heap.size,0,none⟩),.int .u64 150] 117)) (by rw[Yh _ _ ⟨w.heap.size,0,none⟩ (by simp;omega)];simp)
 have st:=AMU t ⟨w.heap.size+1+1+1,0,none⟩ x d ((((w.alloc (Zk #[Zp (some t)] 86)).alloc (Zk #[Zp (some ⟨11,86,none⟩),Zp (some ⟨w.heap.size,0,none⟩),.int .u64 150] 117)).alloc (Zk #[Zp (some ⟨11,86,none⟩),Zp (some ⟨w.heap.size,0,none⟩),.int .u64 150] 117)).alloc (Zk #[Zi x] 47))
  (by rw[World.cell?_alloc_at _ _ _ _ (by simp)];rfl)
  (by rw[Yh _ _ t (by simp;omega),Yh _ _ t (by simp;omega),Yh _ _ t (by simp;omega),Yh _ _ t c];exact b)
  (by rw[Yt _ _ t (by simp;omega),Yt _ _ t (by simp;omega),Yt _ _ t (by simp;omega),Yt _ _ t (Nat.ne_of_lt c)];exact f)
 go_enter func21,ntmps21;go_wp2;refine wp_loop_rounds 1 ?_;rw[rounds_succ];go_wp2;go_ret;exact⟨rfl,rfl⟩
theorem ALd(x:Int)(w:Tw)(g:Ob w):Zc 10 #[Zf 47 (Zi x)] w λe b=>e=Zr (Zi x)/\Zb w b:=by
 have i:Hid (∀W t,Ob W->W.cell? t=some (Zi 0)->W.frozen? t=false->w.heap.size<=t.block->Zb w W->Zc 21 #[Zf 47 (Zi x),Zf 86 (Zp (some t))] W λe b=>e=Zr (Zo true)/\b.cell? t=some (Zi x)/\Zb w b):=by
  intro W t k c l m a
  have f:t.block<W.heap.size:=by
   rcases Yc t.block W.heap.size with h|h
   ·exact h
   simp[World.cell?,XI h] at c
  refine(AL6 x t _ W k c l).mono ?_;rintro e b⟨rfl,rfl⟩;refine⟨rfl,?_,?_⟩
  ·refine World.cell?_setCell_same _ _ _ (u:=Zi 0) ?_
   rw[Yh _ _ t (by simp;omega),Yh _ _ t (by simp;omega),Yh _ _ t (by simp;omega),Yh _ _ t f];exact c
  exact((((a.alloc (by have:=a.size;omega) _).alloc (by have:=a.size;simp;omega) _).alloc (by have:=a.size;simp;omega) _).alloc (by have:=a.size;simp;omega) _).setCell m _
 have j:Hid (∀o,Ob (w.alloc o)):=λo=>g.below Zal
 clear g;go_enter func10,ntmps10
 go_wp2_with (first
  | (go_at_call 21;refine(i.o _ ⟨w.heap.size,0,none⟩ (j.o _) (by simp) (by simp) (Y' _) Zal).mono ?_;rintro e p⟨rfl,n,d⟩))
 go_ret;exact⟨rfl,d⟩
namespace F
variable{l:List Aj}
attribute [local go_sem] Oper.semAt_some
def gK(r:Option s9)(w:World)(e:Ending)(a:World):Prop:=match r with
 | none=>∃T v,e=.returned (.tuple #[.agg #[.slice none 0 0,.slice none 0 0],.iface T v])/\Zb w a
 | some f=>∃b c,e=.returned (.tuple #[.agg #[b,c],.nilIface])/\Hm a b c f/\Zb w a
theorem Ss{rows:List (List V)}(h:De l rows=false):J9 l rows=none:=by unfold J9;rw[Y9 (by simp[h])]
theorem lG{rows:List (List V)}(h:De l rows=true):J9 l rows=some (l,Ay l rows):=by unfold J9;rw[Yaa h]
theorem AGV:(prog.info? 160).map (λi=>(i.zero,i.size,i.bytes))=some (some (Zg #[Zi 0,Zs none 0 0,Zs none 0 0]),3,56):=by kernel_rfl
theorem rW(lv rv:Tv)(l:List Aj)(rows:List (List V))(w:Tw)(hl:F7 7 Cc w lv l)(hr:iJ w rv rows)(hlen:l.length<=1000)(dp:rows.length<=100000)(b9:∀x∈l,x.2.1.size<=maxLen/\x.2.2.2.2.2.2.size<=maxLen)(ht:∀r∈rows,∀v∈r,v.2.2.size<=maxLen)(bp:K9 rows)(hw:Lw w)(hg:Ob w):
 Zc 87 #[lv,rv] w (gK (J9 l rows) w):=by
 have HL:=Aa hl;have HR:=Aa hr;have HT:=Aa ht;have cd:=Aa bp;have HG:=Aa hg;obtain⟨la,s,rfl,dk⟩:=hl.slice;obtain⟨ra,rc,rfl,c9⟩:=hr.slice;obtain⟨ac,hX,hY,hB⟩:=Kt w (Zk #[Zs la l.length s] 33) (Zk #[Zs none 0 0,Zs none 0 0] 105);have c1:((w.alloc (Zk #[Zs la l.length s] 33)).alloc (Zk #[Zs none 0 0,Zs none 0 0] 105)).cell? ⟨w.heap.size,0,none⟩=some (Zs la l.length s):=by simp[World.cell?,hX]
 have X:=Aa (kR (Zs la l.length s) l 1099511627777 _ (hl.up hB) hlen b9 (hw.below hB));have HX:=Aa hX;have HY:=Aa hY;have HB:=Aa hB;have af:=Aa ac;clear hl hr ht bp hw hg b9 hX hY hB ac;cases hR:Be l 1099511627777 with
 | false=>rw[hR] at X;have HE:Hid (J9 l rows=none):=Aa (Ss (by unfold De Lf;rw[hR];rfl));obtain⟨y0,y1⟩:=Hg HY.o;refine callsIn_wide (n:=5).1 ?_;refine callsIn_of_wp_marks func87 rfl trivial ?_ rfl;simp only[ntmps87,X',XN,XZ,Nat.reduceAdd,Nat.reduceSub,XX,XY,WA,X4,XR,XJ];refine wpIn_wide.2 ?_;go_wp2_with fail;refine X.o.mono ?_;rintro e w1⟨rfl,O⟩;have z:=(O.block (w.heap.size+1) (by have:=af.o;omega)).trans HY.o;obtain⟨z0,z1⟩:=Hg z;have f0:=Yab w1 (w.heap.size+1) 0 _ _ z;have f1:=Yab w1 (w.heap.size+1) 1 _ _ z;go_wp2;refine⟨Zu #[Zg #[Zs none 0 0,Zs none 0 0],Zf 47 (Zi 1)],by simp[results,results87,go_sem,z0,z1],?_⟩;rw[HE.o];exact⟨_,_,rfl,((Ap HB.o O).setCell (p:=⟨w.heap.size+1,0,none⟩) (XP _) _).setCell (p:=⟨w.heap.size+1,1,none⟩) (XP _) _⟩
 | true=>
   rw[hR] at X;have ar:=K5.1 hR;have c0:=ar.one;have b4:=ar.eight;have bn:=Aa ar;clear ar c1
   have a7:Hid (∀W,Below (w.heap.size+2) ((w.alloc (Zk #[Zs la l.length s] 33)).alloc (Zk #[Zs none 0 0,Zs none 0 0] 105)) W->W.cell? ⟨w.heap.size,0,none⟩=some (Zs la l.length s)/\W.heap[w.heap.size+1]? = some (Zk #[Zs none 0 0,Zs none 0 0] 105)/\Below w.heap.size w W):=Aa (λW hW=>by
    have N:Below ((w.alloc (Zk #[Zs la l.length s] 33)).alloc (Zk #[Zs none 0 0,Zs none 0 0] 105)).heap.size ((w.alloc (Zk #[Zs la l.length s] 33)).alloc (Zk #[Zs none 0 0,Zs none 0 0] 105)) W:=by rw[af.o];exact hW
    have hc:((w.alloc (Zk #[Zs la l.length s] 33)).alloc (Zk #[Zs none 0 0,Zs none 0 0] 105)).cell? ⟨w.heap.size,0,none⟩=some (Zs la l.length s):=by simp[World.cell?,HX.o]
    exact⟨Ag N hc,(N.block (w.heap.size+1) (by rw[af.o];omega)).trans HY.o,Ap HB.o N⟩)
   have ac:=af.o
   by_cases h60:1<=rows.length/\rows.length<=60
   ·obtain⟨c4,b7⟩:=h60
    have df:¬(rows.length:Int)<1:=by omega
    have c6:¬(60:Int)<(rows.length:Int):=by omega
    refine(callsIn_wide (n:=5)).1 ?_;refine callsIn_of_wp_marks func87 rfl trivial ?_ rfl;simp only[ntmps87,X',XN,XZ,Nat.reduceAdd,Nat.reduceSub,XX,XY,WA,X4,XR,XJ];refine wpIn_wide.2 ?_;go_wp2_with fail;refine X.o.mono ?_;rintro e w1⟨rfl,O⟩;have ce:Hid (Below (w.heap.size+2) ((w.alloc (Zk #[Zs la l.length s] 33)).alloc (Zk #[Zs none 0 0,Zs none 0 0] 105)) w1):=Aa (by rw[<-ac];exact O);clear O X;generalize (w.alloc (Zk #[Zs la l.length s] 33)).alloc (Zk #[Zs none 0 0,Zs none 0 0] 105)=W2 at *;go_wp2
    go_loopw [28] (λvi wr=>∃i:Nat,i<=rows.length/\vi=Zi i/\Hid (∀j r,j<i->rows[j]? = some r->Hu l r=0)/\Hid (Below (w.heap.size+2) W2 wr)) (λvi _=>rows.length-(intOf vi).toNat)
    case atStart=>exact⟨0,XF _,rfl,Aa (λj r hj=>absurd hj (Yn _)),ce⟩
    case round=>
     obtain⟨i,hi,rfl,bh,bb⟩:=hrel;obtain⟨q0,ao,Y⟩:=a7.o wr bb.o;have a0:=bb.o.size;rw[ac] at a0
     by_cases hlt:i<rows.length
     ·obtain⟨r,hr⟩:∃r,rows[i]? = some r:=⟨_,XA hlt⟩
      obtain⟨T,U,dc,xv,er,dn,cx,bt⟩:=(HR.o.up Y).at hr;injection er with a8 _ cn;subst a8 cn;have ad:=Aa (AA2 (Zs la l.length s) xv l r wr (HL.o.up Y) bt hlen (HT.o r (XD hr)));obtain⟨xa,xc,rfl,_,_⟩:=bt;have b3:(i:Int)<(rows.length:Int):=by omega
      have bo:=Aa hr;clear hr
      by_cases hz:Hu l r=0
      ·have he:L8 (Hu l r)=Zn:=by unfold L8;rw[Yaa hz]
       rw[he] at ad
       have ci:Hid (∀j r,j<i+1->rows[j]? = some r->Hu l r=0):=Aa (λj r' hj an=>by
        by_cases e:j=i
        ·subst e;rw[bo.o] at an;injection an with an;rw[<-an];exact hz
        exact bh.o j r' (by omega) an)
       clear he hz;go_wp2_with fail;refine ad.o.mono ?_;rintro e w3⟨rfl,ak⟩;have cu:=bb.o.trans (ak.mono a0);go_wp2;exact⟨⟨i+1,by omega,by go_num,ci,Aa cu⟩,by simp[intOf];omega⟩
      have he:L8 (Hu l r)=Zf 47 (Zi (Hu l r)):=by unfold L8;rw[Y9 hz]
      rw[he] at ad
      have HE:Hid (J9 l rows=none):=Aa (Ss (by
       cases h:De l rows with
       | false=>rfl
       | true=>exact absurd ((B4.1 h).2.2.2 r (XD bo.o)) hz))
      generalize Hu l r=x at *;clear he hz;go_wp2_with fail;refine ad.o.mono ?_;rintro e w3⟨rfl,ak⟩;have cj:=Aa (ALd x w3 (HG.o.below (Ap Y ak)));go_wp2_with fail;refine cj.o.mono ?_;rintro e w4⟨rfl,bz⟩;have ay:Below w4.heap.size w4 (w4.alloc (Zk #[Zi x,Zi i] 178)):=Zal;have au:=((Ap (Ap ak bz) ay).block (w.heap.size+1) (by omega)).trans ao;obtain⟨z0,z1⟩:=Hg au;have f0:=Yab _ (w.heap.size+1) 0 _ _ au;have f1:=Yab _ (w.heap.size+1) 1 _ _ au;have bx:=Ap Y (Ap (Ap ak bz) ay);clear au;go_wp2;refine⟨Zu #[Zg #[Zs none 0 0,Zs none 0 0],Zf 176 (Zp (some ⟨w4.heap.size,0,none⟩))],by simp[results,results87,go_sem,z0,z1],?_⟩;rw[HE.o];exact⟨_,_,rfl,(bx.setCell (p:=⟨w.heap.size+1,0,none⟩) (XP _) _).setCell (p:=⟨w.heap.size+1,1,none⟩) (XP _) _⟩
     have ei:i=rows.length:=by omega
     have b3:¬(i:Int)<(rows.length:Int):=by omega
     have bl:Hid (De l rows=true):=Aa (B4.2 ⟨bn.o,c4,b7,λr hr=>by obtain⟨j,hj,rfl⟩:=Yk hr;exact bh.o j _ (by omega) (XA hj)⟩)
     obtain⟨g,o,c,eC,di,bs⟩:=wR (HL.o.up Y) c0;injection eC with ck _ cl;subst ck cl
     obtain⟨T,U,c8⟩:∃T U,ra=some ⟨T,U,none⟩:=by obtain⟨vs,da,ds,dt⟩:=HR.o;obtain⟨T,U,dc,er,_,_,_⟩:=da.cons (by omega);injection er with a8 _ _;exact⟨T,U,a8⟩
     subst c8;have bk:=Aa (Rb g o s l wr bs b4);clear ei bh bs;go_wp2_with fail;refine bk.o.mono ?_;rintro e w5⟨g5,c5,rfl,b5,a9⟩;have a4:=Aa (ACB (some ⟨T,U,none⟩) rows.length rc (w5.alloc (Zk #[Zs (some ⟨g5,0,none⟩) l.length c5,Zs none 0 0] 105)));simp only[XC,WS,Nat.reduceAdd] at a4;have ch:=Aa b5;have cf:=Aa a9;have dq:=a9.size;clear b5 a9 bk;go_wp2_with fail;refine a4.o.mono ?_;rintro e w6⟨rfl,rfl⟩;clear a4;obtain⟨dr,cp,br,bq,cr⟩:=Jl w5 (Zk #[Zs (some ⟨g5,0,none⟩) l.length c5,Zs none 0 0] 105) (Zk #[Zs (some ⟨T,U,none⟩) rows.length rc] 34) (Zk #[Zi 6] 3);go_wp2_with fail;generalize ((w5.alloc (Zk #[Zs (some ⟨g5,0,none⟩) l.length c5,Zs none 0 0] 105)).alloc (Zk #[Zs (some ⟨T,U,none⟩) rows.length rc] 34)).alloc (Zk #[Zi 6] 3)=W7 at *;have cw:W7.cell? ⟨w5.heap.size+1,0,none⟩=some (Zs (some ⟨T,U,none⟩) rows.length rc):=by simp[World.cell?,br]
     have cv:W7.cell? ⟨w5.heap.size+2,0,none⟩=some (Zi 6):=by simp[World.cell?,bq]
     obtain⟨iG,b2,ca,a2,a3⟩:=info_parts AGV;have d:=Zy b2 ca a2 a3;have ae:Hid (∀args w,(callFunc 144 args).run prog w=.ok (.enter 144 args) w):=Aa (enters_of func144 (by kernel_rfl) rfl)
     have HW:Hid (∀W,Below w5.heap.size w5 W->F7 7 Cc W (Zs (some ⟨g,o,none⟩) l.length s) l/\iJ W (Zs (some ⟨T,U,none⟩) rows.length rc) rows/\W.cell? ⟨w.heap.size,0,none⟩=some (Zs (some ⟨g,o,none⟩) l.length s)/\W.heap[w.heap.size+1]? = some (Zk #[Zs none 0 0,Zs none 0 0] 105)/\Below w.heap.size w W):=Aa (λW hW=>by have hb:=Ap cf.o hW;have bd:=Ap Y hb;exact⟨HL.o.up bd,HR.o.up bd,Ag hb q0,(hb.block (w.heap.size+1) (by omega)).trans ao,bd⟩)
     have bm:Hid (∀k,k<aF rows.length->Gr l (Dz rows k)/\1<=(Dz rows k).length/\(Dz rows k).length<=6):=Aa (λk hk=>⟨λr hr=>Mu (B4.1 bl.o).2.2.2 cd.o r (List.mem_of_mem_drop (Yl hr)),kD hk⟩);have cg:Hid (Kl l):=Aa (bn.o.kinds);clear b2 ca a2 a3 br bq q0 ao Y;refine(wpIn_wide (n:=5)).1 ?_
     refine wpIn_rangeFunc_ownG (w0:=W7) rfl (by decide) (gf:=96) (lb:=#[Zp (some ⟨w5.heap.size+1,0,none⟩),Zp (some ⟨w5.heap.size+2,0,none⟩)]) (by rfl) trivial (enters_of func96 (by kernel_rfl) rfl)
      (rS _ (by decide) (w5.heap.size+1) (w5.heap.size+2) T U rows.length rc (by omega) c9 W7 (by omega) (by omega) cw cv) KpC.t ?hKb (XB _ _) (λ_=>rfl) (MkI l rows w5.heap.size (Zs (some ⟨g5,0,none⟩) l.length c5) w5) (λ_ _ _=>False) (MkI.own (Y' _) (by omega)) (λ_ _ _ _ _ h _ _=>h) ⟨⟨_,cp,uW _ _⟩,cr,by omega⟩ ?a1 ?assign ?body ?done ?stop
     case hKb=>
      intro W q o1 o2 hq dm _ _;constructor
      ·unfold World.cell?;rw[XU (by show w5.heap.size+1≠q;omega)]
      unfold World.cell?;rw[XU (by show w5.heap.size+2≠q;omega)]
     case assign=>intro q x W K hK;gi_wp2;exact hK
     case stop=>rintro D c pre W _ _ h _;exact h.elim
     case body=>
      rintro q pre k W⟨⟨gv,R,⟨xs,ap,M,av⟩⟩,I,J⟩dl;simp only[X2] at ap M;have dj:=k.2;have cz:k.1<aF rows.length:=by unfold aF;omega
      have cc:aF rows.length<=10:=by unfold aF;omega
      obtain⟨az,c2,c3⟩:=bm.o k.1 cz;obtain⟨bu,bw,cq,_,_⟩:=HW.o W I;have de:=I.size;have a5:Hid (∀W',Below W.heap.size W W'->Zc 144 #[Zs (some ⟨g,o,none⟩) l.length s,ckV T U rows.length k] W' _):=Aa (λW' N=>AB7 _ _ l (Dz rows k.1) W' (bu.up N) (iJ.up (ADs bw rfl k) N) b4 c2 c3 az cg.o);have a6:Hid (∀W',Below W.heap.size W W'->W'.cell? ⟨w5.heap.size,1,none⟩=some gv):=Aa (λW' N=>Ag N (Hg R).2);have q1:W.drew.cell? ⟨w5.heap.size,1,none⟩=some gv:=(Hg R).2;have q2:W.drew.cell? ⟨w.heap.size,0,none⟩=some (Zs (some ⟨g,o,none⟩) l.length s):=cq;clear bu bw az HW bm;refine wpIn_block ?_;refine wpIn_region_any (by kernel_rfl) (Qe ?hops ?hQ _ _ _ _ ?_)
      case hops=>
       intro i o h c hc;have h:=Array.mem_of_getElem? h;simp only[List.mem_toArray,WD,WM,or_false] at h
       rcases h with rfl|rfl|rfl|rfl|rfl|rfl|rfl|rfl|rfl <;> simp at hc
      case hQ=>rintro⟨a,W',h⟩;exact h
      refine wpAny_take (i:=0) (v:=Zp (some ⟨w5.heap.size,1,none⟩)) rfl (by kernel_rfl) (by kernel_rfl) (by kernel_rfl) (λ_ _ _ h=>h) (Or.inl ⟨by rfl,?t0⟩) ?_
      case t0=>(intro w;go_simp)
      refine wpAny_take (i:=3) (v:=ckV T U rows.length k) rfl (by kernel_rfl) (by kernel_rfl) (by kernel_rfl) (λ_ _ _ h=>h) (Or.inl ⟨by rfl,?t3⟩) ?_
      case t3=>(intro w;go_simp)
      refine wpAny_ready (rs:=[1,2]) (by kernel_rfl) (by simp) ?_;refine AllReady.cons rfl (λK hK=>?_) ?_
      ·go_simp
       refine hK _ _ ?_;clear hK K;refine wpAny_ready (rs:=[2]) (by kernel_rfl) (by simp) ?_;refine AllReady.cons rfl (λK hK=>?_) ?_
       ·go_simp
        refine hK _ _ ?_;clear hK K;refine wpAny_ready (rs:=[4]) (by kernel_rfl) (by simp) ?_;refine AllReady.cons rfl (λK hK=>?_) ?_
        ·refine Gc (by rfl) 144 (.tmp 54) (.tmp 55) 33 34 (by rfl) (Zs (some ⟨g,o,none⟩) l.length s) (ckV T U rows.length k) (by rfl) (by rfl) ae.o _ (a5.o _ (XB _ _).drew) ?_
         rintro e y⟨sv,bv,rfl,L,G,P⟩;have f:Below W.heap.size W y:=Ap (XB _ _).drew P;have b8:=f.size;obtain⟨sa,sc,ai,_⟩:=E.Ak L;obtain⟨ba,bc,ah,_⟩:=E.Ak G;subst ai ah;refine⟨_,rfl,?_⟩;have p1:=a6.o y f;have cb:(y.alloc (Zk #[Zi (Dz rows k.1).length,Zs sa l.length sc,Zs ba l.length bc] 160)).cell? ⟨w5.heap.size,1,none⟩=some gv:=Ag ((XB y.heap.size y).alloc (Y' _) _) p1
         try go_simp
         refine hK _ _ ?_;clear hK K;refine wpAny_ready (rs:=[5]) (by kernel_rfl) (by simp) ?_;refine AllReady.cons rfl (λK hK=>?_) ?_
         ·go_simp
          refine hK _ _ ?_;clear hK K;refine wpAny_ready (rs:=[6]) (by kernel_rfl) (by simp) ?_;refine AllReady.cons rfl (λK hK=>?_) ?_
          ·refine step_append_lies _ (by rfl) (.tmp 53) (.tmp 57) 103 (by rfl) (w5.heap.size+3) 160 iG (.agg #[Zi 0,.slice none 0 0,.slice none 0 0]) 3 56 underlying103 d.o.1 d.o.2.1 d.o.2.2.1 d.o.2.2.2 rfl (by decide) gv pre.length (xs.flatMap aG) (by rfl) ((E.Ad M f).alloc _) ⟨y.heap.size,0,none⟩ 1 1 [Zi (Dz rows k.1).length,.slice sa l.length sc,.slice ba l.length bc] (by rfl) rfl (λj u hj=>XG (Y8 _ _) j u hj) (by simp[Value.oneCell']) (by omega) (by unfold maxLen;omega) (by omega) (by simp;omega) _ rfl ?_
           intro g9 ag w9 ab aa aj am;have b:=Aa (P0 (B:=W7.heap.size) (l:=l) (rows:=rows) (pre:=pre) (k:=k) f ap M av L G ab aa R I J);obtain⟨r1,r2,_⟩:=b.o
           try go_simp
           refine hK _ _ ?_;clear hK K;refine wpAny_take (i:=7) (v:=Zp (some ⟨w5.heap.size,1,none⟩)) rfl (by kernel_rfl) (by kernel_rfl) (by kernel_rfl) (λ_ _ _ h=>h) (Or.inl ⟨by rfl,?t7⟩) ?_
           case t7=>(intro w;go_simp)
           refine wpAny_ready (rs:=[8]) (by kernel_rfl) (by simp) ?_;refine AllReady.cons rfl (λK hK=>?_) ?_
           ·go_simp
            refine hK _ _ ?_;clear hK K;refine wpAny_done (by kernel_rfl) ?_ _;exact b.o.2.2 (λ_ _ _=>False) { tmps:=#[],defers:=[] }
           exact AllReady.nil
          exact AllReady.nil
         exact AllReady.nil
        exact AllReady.nil
       exact AllReady.nil
      refine AllReady.cons rfl (λK hK=>?_) ?_
      ·go_simp
       refine hK _ _ ?_;clear hK K;refine wpAny_ready (rs:=[1,4]) (by kernel_rfl) (by simp) ?_;refine AllReady.cons rfl (λK hK=>?_) ?_
       ·go_simp
        refine hK _ _ ?_;clear hK K;refine wpAny_ready (rs:=[4]) (by kernel_rfl) (by simp) ?_;refine AllReady.cons rfl (λK hK=>?_) ?_
        ·refine Gc (by rfl) 144 (.tmp 54) (.tmp 55) 33 34 (by rfl) (Zs (some ⟨g,o,none⟩) l.length s) (ckV T U rows.length k) (by rfl) (by rfl) ae.o _ (a5.o _ (XB _ _).drew) ?_
         rintro e y⟨sv,bv,rfl,L,G,P⟩;have f:Below W.heap.size W y:=Ap (XB _ _).drew P;have b8:=f.size;obtain⟨sa,sc,ai,_⟩:=E.Ak L;obtain⟨ba,bc,ah,_⟩:=E.Ak G;subst ai ah;refine⟨_,rfl,?_⟩;have p1:=a6.o y f;have cb:(y.alloc (Zk #[Zi (Dz rows k.1).length,Zs sa l.length sc,Zs ba l.length bc] 160)).cell? ⟨w5.heap.size,1,none⟩=some gv:=Ag ((XB y.heap.size y).alloc (Y' _) _) p1
         try go_simp
         refine hK _ _ ?_;clear hK K;refine wpAny_ready (rs:=[5]) (by kernel_rfl) (by simp) ?_;refine AllReady.cons rfl (λK hK=>?_) ?_
         ·go_simp
          refine hK _ _ ?_;clear hK K;refine wpAny_ready (rs:=[6]) (by kernel_rfl) (by simp) ?_;refine AllReady.cons rfl (λK hK=>?_) ?_
          ·refine step_append_lies _ (by rfl) (.tmp 53) (.tmp 57) 103 (by rfl) (w5.heap.size+3) 160 iG (.agg #[Zi 0,.slice none 0 0,.slice none 0 0]) 3 56 underlying103 d.o.1 d.o.2.1 d.o.2.2.1 d.o.2.2.2 rfl (by decide) gv pre.length (xs.flatMap aG) (by rfl) ((E.Ad M f).alloc _) ⟨y.heap.size,0,none⟩ 1 1 [Zi (Dz rows k.1).length,.slice sa l.length sc,.slice ba l.length bc] (by rfl) rfl (λj u hj=>XG (Y8 _ _) j u hj) (by simp[Value.oneCell']) (by omega) (by unfold maxLen;omega) (by omega) (by simp;omega) _ rfl ?_
           intro g9 ag w9 ab aa aj am;have b:=Aa (P0 (B:=W7.heap.size) (l:=l) (rows:=rows) (pre:=pre) (k:=k) f ap M av L G ab aa R I J);obtain⟨r1,r2,_⟩:=b.o
           try go_simp
           refine hK _ _ ?_;clear hK K;refine wpAny_take (i:=7) (v:=Zp (some ⟨w5.heap.size,1,none⟩)) rfl (by kernel_rfl) (by kernel_rfl) (by kernel_rfl) (λ_ _ _ h=>h) (Or.inl ⟨by rfl,?t7⟩) ?_
           case t7=>(intro w;go_simp)
           refine wpAny_ready (rs:=[8]) (by kernel_rfl) (by simp) ?_;refine AllReady.cons rfl (λK hK=>?_) ?_
           ·go_simp
            refine hK _ _ ?_;clear hK K;refine wpAny_done (by kernel_rfl) ?_ _;exact b.o.2.2 (λ_ _ _=>False) { tmps:=#[],defers:=[] }
           exact AllReady.nil
          exact AllReady.nil
         exact AllReady.nil
        exact AllReady.nil
       refine AllReady.cons rfl (λK hK=>?_) ?_
       ·refine Gc (by rfl) 144 (.tmp 54) (.tmp 55) 33 34 (by rfl) (Zs (some ⟨g,o,none⟩) l.length s) (ckV T U rows.length k) (by rfl) (by rfl) ae.o _ (a5.o _ (XB _ _).drew) ?_
        rintro e y⟨sv,bv,rfl,L,G,P⟩;have f:Below W.heap.size W y:=Ap (XB _ _).drew P;have b8:=f.size;obtain⟨sa,sc,ai,_⟩:=E.Ak L;obtain⟨ba,bc,ah,_⟩:=E.Ak G;subst ai ah;refine⟨_,rfl,?_⟩;have p1:=a6.o y f;have cb:(y.alloc (Zk #[Zi (Dz rows k.1).length,Zs sa l.length sc,Zs ba l.length bc] 160)).cell? ⟨w5.heap.size,1,none⟩=some gv:=Ag ((XB y.heap.size y).alloc (Y' _) _) p1
        try go_simp
        refine hK _ _ ?_;clear hK K;refine wpAny_ready (rs:=[1,5]) (by kernel_rfl) (by simp) ?_;refine AllReady.cons rfl (λK hK=>?_) ?_
        ·go_simp
         refine hK _ _ ?_;clear hK K;refine wpAny_ready (rs:=[5]) (by kernel_rfl) (by simp) ?_;refine AllReady.cons rfl (λK hK=>?_) ?_
         ·go_simp
          refine hK _ _ ?_;clear hK K;refine wpAny_ready (rs:=[6]) (by kernel_rfl) (by simp) ?_;refine AllReady.cons rfl (λK hK=>?_) ?_
          ·refine step_append_lies _ (by rfl) (.tmp 53) (.tmp 57) 103 (by rfl) (w5.heap.size+3) 160 iG (.agg #[Zi 0,.slice none 0 0,.slice none 0 0]) 3 56 underlying103 d.o.1 d.o.2.1 d.o.2.2.1 d.o.2.2.2 rfl (by decide) gv pre.length (xs.flatMap aG) (by rfl) ((E.Ad M f).alloc _) ⟨y.heap.size,0,none⟩ 1 1 [Zi (Dz rows k.1).length,.slice sa l.length sc,.slice ba l.length bc] (by rfl) rfl (λj u hj=>XG (Y8 _ _) j u hj) (by simp[Value.oneCell']) (by omega) (by unfold maxLen;omega) (by omega) (by simp;omega) _ rfl ?_
           intro g9 ag w9 ab aa aj am;have b:=Aa (P0 (B:=W7.heap.size) (l:=l) (rows:=rows) (pre:=pre) (k:=k) f ap M av L G ab aa R I J);obtain⟨r1,r2,_⟩:=b.o
           try go_simp
           refine hK _ _ ?_;clear hK K;refine wpAny_take (i:=7) (v:=Zp (some ⟨w5.heap.size,1,none⟩)) rfl (by kernel_rfl) (by kernel_rfl) (by kernel_rfl) (λ_ _ _ h=>h) (Or.inl ⟨by rfl,?t7⟩) ?_
           case t7=>(intro w;go_simp)
           refine wpAny_ready (rs:=[8]) (by kernel_rfl) (by simp) ?_;refine AllReady.cons rfl (λK hK=>?_) ?_
           ·go_simp
            refine hK _ _ ?_;clear hK K;refine wpAny_done (by kernel_rfl) ?_ _;exact b.o.2.2 (λ_ _ _=>False) { tmps:=#[],defers:=[] }
           exact AllReady.nil
          exact AllReady.nil
         exact AllReady.nil
        refine AllReady.cons rfl (λK hK=>?_) ?_
        ·go_simp
         refine hK _ _ ?_;clear hK K;refine wpAny_ready (rs:=[1]) (by kernel_rfl) (by simp) ?_;refine AllReady.cons rfl (λK hK=>?_) ?_
         ·go_simp
          refine hK _ _ ?_;clear hK K;refine wpAny_ready (rs:=[6]) (by kernel_rfl) (by simp) ?_;refine AllReady.cons rfl (λK hK=>?_) ?_
          ·refine step_append_lies _ (by rfl) (.tmp 53) (.tmp 57) 103 (by rfl) (w5.heap.size+3) 160 iG (.agg #[Zi 0,.slice none 0 0,.slice none 0 0]) 3 56 underlying103 d.o.1 d.o.2.1 d.o.2.2.1 d.o.2.2.2 rfl (by decide) gv pre.length (xs.flatMap aG) (by rfl) ((E.Ad M f).alloc _) ⟨y.heap.size,0,none⟩ 1 1 [Zi (Dz rows k.1).length,.slice sa l.length sc,.slice ba l.length bc] (by rfl) rfl (λj u hj=>XG (Y8 _ _) j u hj) (by simp[Value.oneCell']) (by omega) (by unfold maxLen;omega) (by omega) (by simp;omega) _ rfl ?_
           intro g9 ag w9 ab aa aj am;have b:=Aa (P0 (B:=W7.heap.size) (l:=l) (rows:=rows) (pre:=pre) (k:=k) f ap M av L G ab aa R I J);obtain⟨r1,r2,_⟩:=b.o
           try go_simp
           refine hK _ _ ?_;clear hK K;refine wpAny_take (i:=7) (v:=Zp (some ⟨w5.heap.size,1,none⟩)) rfl (by kernel_rfl) (by kernel_rfl) (by kernel_rfl) (λ_ _ _ h=>h) (Or.inl ⟨by rfl,?t7⟩) ?_
           case t7=>(intro w;go_simp)
           refine wpAny_ready (rs:=[8]) (by kernel_rfl) (by simp) ?_;refine AllReady.cons rfl (λK hK=>?_) ?_
           ·go_simp
            refine hK _ _ ?_;clear hK K;refine wpAny_done (by kernel_rfl) ?_ _;exact b.o.2.2 (λ_ _ _=>False) { tmps:=#[],defers:=[] }
           exact AllReady.nil
          exact AllReady.nil
         exact AllReady.nil
        exact AllReady.nil
       exact AllReady.nil
      exact AllReady.nil
     case done=>
      rintro D ys W hD db⟨⟨gv,R,b0⟩,I,dd⟩hK;obtain⟨_,_,_,m,ct⟩:=HW.o W I;obtain⟨f0,f1⟩:=Hg R;obtain⟨z0,z1⟩:=Hg m;have y0:=Yab W (w.heap.size+1) 0 _ _ m;have y1:=Yab W (w.heap.size+1) 1 _ _ m;obtain⟨ga,gc,rfl,_⟩:=vL.slice b0.slg;gi_wp2;go_wp2;have dh:w5.heap.size+3<=D:=by omega
      have co:=E.Ac hK;have bg:W.grownBy ((W.setCell ⟨w.heap.size+1,0,none⟩ (Zs (some ⟨g5,0,none⟩) l.length c5)).setCell ⟨w.heap.size+1,1,none⟩ (Zs ga ys.length gc)) (some (w.heap.size+1)):=E.Al (E.Ar W (w.heap.size+1) 0 _) (E.Ar _ (w.heap.size+1) 1 _);have aq:=(bg.block D co (by simp;omega)).trans hK;have bi:=heap_setCell_same _ (w.heap.size+1) 1 _ _ (Zs ga ys.length gc) (heap_setCell_same W (w.heap.size+1) 0 _ _ (Zs (some ⟨g5,0,none⟩) l.length c5) m);have cs:Below w.heap.size w ((W.setCell ⟨w.heap.size+1,0,none⟩ (Zs (some ⟨g5,0,none⟩) l.length c5)).setCell ⟨w.heap.size+1,1,none⟩ (Zs ga ys.length gc)):=(ct.setCell (p:=⟨w.heap.size+1,0,none⟩) (XP _) _).setCell (p:=⟨w.heap.size+1,1,none⟩) (XP _) _;have b6:=E.Dc (E.Ad ch.o (Below.mono I (Y' _))) (show w.heap.size+1<wr.heap.size by omega) bg;have b1:=b0.kept bg (λr e=>by injection e with e;subst e;exact⟨_,m,.inr ⟨_,rfl⟩⟩);refine⟨by simp,.inl ⟨_,_,rfl,run_takeDeferred aq,?_⟩⟩;generalize (W.setCell ⟨w.heap.size+1,0,none⟩ (Zs (some ⟨g5,0,none⟩) l.length c5)).setCell ⟨w.heap.size+1,1,none⟩ (Zs ga ys.length gc)=W9 at *;have c7:=(XU (w:=W9) (r:=D) (k:=w.heap.size+1) (o:=.deferred none) (by omega)).trans bi;obtain⟨x0,x1⟩:=Hg c7;refine⟨Zu #[Zg #[Zs (some ⟨g5,0,none⟩) l.length c5,Zs ga ys.length gc],Zn],by simp[results,results87,go_sem,x0,x1],?_⟩;rw[lG bl.o];refine⟨_,_,rfl,⟨F7.Fz (k:=7) (enc:=Cc) (λ_=>rfl) (ownsRow_putObj b6 _ aq rfl) rfl,?_⟩,cs.trans (belowK_b (w:=w) (Y' _) W9 D _ _ (by omega) aq rfl rfl)⟩;have cy:=(b1.kept (grownBy_putObj' W9 D (.deferred none)) (λr e=>by injection e with e;subst e;exact⟨_,aq,.inl rfl⟩)).slg;have cm:(ys.map λk=>An l (Dz rows k.1))=Ay l rows:=by unfold Ay parts;rw[<-db];simp[List.map_map,ckN,Function.comp_def]
      show vL _ _ (Ay l rows);rw[<-cm];simpa only [X2] using cy
   have HE:Hid (J9 l rows=none):=Aa (Ss (by
    cases h:De l rows with
    | false=>rfl
    | true=>exact absurd ⟨(B4.1 h).2.1,(B4.1 h).2.2.1⟩ h60))
   have hY:=HY.o;have aw:Hid (∀W,Below (w.heap.size+2) ((w.alloc (Zk #[Zs la l.length s] 33)).alloc (Zk #[Zs none 0 0,Zs none 0 0] 105)) W->W.cell? ⟨w.heap.size,0,none⟩=some (Zs la l.length s)/\W.heap[w.heap.size+1]? = some (Zk #[Zs none 0 0,Zs none 0 0] 105)/\Below w.heap.size w W):=a7;have bf:rows.length<1\/60<rows.length:=by omega
   have al:(rows.length:Int)<1\/(60:Int)<(rows.length:Int):=by omega
   refine(callsIn_wide (n:=5)).1 ?_;refine callsIn_of_wp_marks func87 rfl trivial ?_ rfl;simp only[ntmps87,X',XN,XZ,Nat.reduceAdd,Nat.reduceSub,XX,XY,WA,X4,XR,XJ];refine wpIn_wide.2 ?_;go_wp2_with fail;refine X.o.mono ?_;rintro e w1⟨rfl,O⟩;obtain⟨_,z,ax⟩:=aw.o w1 (by rw[<-ac];exact O);obtain⟨z0,z1⟩:=Hg z;have f0:=Yab w1 (w.heap.size+1) 0 _ _ z;have f1:=Yab w1 (w.heap.size+1) 1 _ _ z;have dg:=Aa z;have bj:=Aa ax;clear z ax O X a7 aw hY HY ac af HB HX h60 bf
   rcases al with al|al
   all_goals go_wp2
   all_goals
    refine⟨Zu #[Zg #[Zs none 0 0,Zs none 0 0],Zf 47 (Zi 4)],by simp[results,results87,go_sem,z0,z1],?_⟩;rw[HE.o];exact⟨_,_,rfl,(bj.o.setCell (p:=⟨w.heap.size+1,0,none⟩) (XP _) _).setCell (p:=⟨w.heap.size+1,1,none⟩) (XP _) _⟩
variable{g:Fk}{c:Aj}{r:List (List V)}{l:List Aj}{W w:Tw}{v:Tv}{I k n:Nat}{s:E.St}{a:Array Tv}
theorem AG2{cols:List Aj}(n:pos cols c.1<cols.length)(d:∀b∈g.2.2,b.length<=1000000):∀v∈Bq cols g c,Ks v/\v.2.2.size<=maxLen:=by
 unfold Bq;rw[Yaa n];intro v a;cases hd:E.Ll (kd (cols[pos cols c.1]?.getD zC)) (g.2.2[pos cols c.1]?.getD []) with
 | none=>rw[hd] at a;simp at a
 | some m=>
   rw[hd] at a;obtain⟨_,_,l⟩:=E.l3 hd
   have j:(g.2.2[pos cols c.1]?.getD []).length<=1000000:=by
    cases hx:g.2.2[pos cols c.1]? with
    | none=>simp
    | some b=>exact d b (XD hx)
   have e:=(E.nO (k:=kd (cols[pos cols c.1]?.getD zC)) j).1;rw[<-l] at e;obtain⟨f,h,i⟩:=e v a;exact⟨⟨f,h⟩,i⟩
theorem AD7{cols l:List Aj}(h:Ew cols g l=some r)(f:∀c∈l,pos cols c.1<cols.length)(a:∀b∈g.2.2,b.length<=1000000):∀row∈r,∀v∈row,Ks v/\v.2.2.size<=maxLen:=by
 unfold Ew at h;split at h
 ·injection h with h
  subst h;intro row d v i;unfold Lh at d;obtain⟨j,_,rfl⟩:=List.mem_map.1 d;obtain⟨c,e,rfl⟩:=List.mem_map.1 i;cases hx:(Bq cols g c)[j]? with
  | none=>exact⟨AEv,XF _⟩
  | some u=>exact AG2 (f c e) a u (XD hx)
 cases h
theorem sX{cols l:List Aj}(e:∀c∈l,pos cols c.1<cols.length):∀{gs:List Fk}{acc rows:List (List V)},Fb cols l acc gs=some rows->(∀g∈gs,∀b∈g.2.2,b.length<=1000000)->(∀row∈acc,∀v∈row,Ks v/\v.2.2.size<=maxLen)->∀row∈rows,∀v∈row,Ks v/\v.2.2.size<=maxLen
 | [],acc,rows,h,_,ha=>by rw[Fb] at h;injection h with h;subst h;exact ha
 | g :: gs,acc,rows,h,hs,ha=>by
   cases hr:Ew cols g l with
   | none=>rw[Nb hr] at h;cases h
   | some r=>
     rw[Nx hr] at h;refine sX e h (λf i=>hs f (Yg _ i)) (λrow a=>?_)
     rcases List.mem_append.1 a with d|d
     ·exact ha row d
     exact AD7 hr e (hs g Ye) row d
theorem ABu{cols l:List Aj}(h:Ew cols g l=some r)(b:1<=cols.length)(c:cols.length<=8):AEE g:=by
 unfold Ew at h;split at h
 ·rename_i a
  rw[WE] at a;have a:=a.1;simp only[Gb,decide_eq_true_eq] at a;exact⟨by omega,by omega,by omega,by omega⟩
 cases h
theorem lM{cols l:List Aj}(b:1<=cols.length)(c:cols.length<=8):∀{gs:List Fk}{acc rows:List (List V)},Fb cols l acc gs=some rows->∀g∈gs,AEE g
 | [],_,_,_=>by simp
 | g :: gs,acc,rows,h=>by
   cases hr:Ew cols g l with
   | none=>rw[Nb hr] at h;cases h
   | some r=>
     rw[Nx hr] at h;intro d a
     rcases List.mem_cons.1 a with rfl|a
     ·exact ABu hr b c
     exact lM b c h d a
theorem ADP{rows:List (List V)}{f:s9}(h:J9 l rows=some f)(b:1<=l.length)(c:l.length<=8):(∀g∈f.2,AEE g)/\f.2.length<=rows.length+5:=by
 unfold J9 at h;split at h
 ·injection h with h
  subst h;refine⟨λg a=>?_,?_⟩
  ·obtain⟨p,_,rfl⟩:=List.mem_map.1 a
   refine⟨?_,?_,?_,?_⟩ <;> simp[An] <;> omega
  simp[Ay,parts,aF];omega
 cases h
theorem lR(l:List Aj):∀c∈A7 l,pos l c.1<l.length:=λc a=>by
 have b:c.1∈ids l:=by rw[<-(Gh l).1];exact List.mem_map.2 ⟨c,a,rfl⟩
 have:=List.idxOf_lt_length_of_mem b;unfold pos;simpa[ids] using this
theorem cD(l:List Aj):∀x∈A7 l,x.2.1.size<=maxLen/\x.2.2.2.2.2.2.size<=maxLen:=λx a=>by
 unfold A7 at a;obtain⟨i,_,rfl⟩:=List.mem_map.1 a;constructor
 ·show (I3 i).size<=maxLen
  have:(I3 i).size=2:=rfl;rw[this];unfold maxLen;omega
 show (ByteArray.mk #[]).size<=maxLen;exact XF _
theorem rN{cols:List Aj}{gs:List Fk}(h:Be (A7 cols) 1099511627777=false):madeB (cols,gs)=false:=by unfold madeB Lf;rw[h];rfl
theorem bL{cols:List Aj}{gs:List Fk}(h:Fb cols (A7 cols) [] gs=none):madeB (cols,gs)=false:=by unfold madeB;simp only[h,WR]
theorem AC3{cols:List Aj}{gs:List Fk}{rows:List (List V)}(h:Fb cols (A7 cols) [] gs=some rows)(a:J9 (A7 cols) rows=none):madeB (cols,gs)=false:=by unfold madeB;simp only[h,a,WR]
theorem wP{cols:List Aj}{gs:List Fk}{rows:List (List V)}{f:s9}{b:Bool}(c:Be (A7 cols) 1099511627777=true)(h:Fb cols (A7 cols) [] gs=some rows)(d:J9 (A7 cols) rows=some f)(a:b=true↔gs=f.2):madeB (cols,gs)=b:=by
 unfold madeB Lf;simp only[c,h,d,Bool.true_and];cases b with
 | true=>simpa using a.1 rfl
 | false=>simp;intro e;cases a.2 e
theorem AFk(cv gv:Tv)(cols:List Aj)(gs:List Fk)(w:Tw)(hF:Hm w cv gv (cols,gs))(h8:cols.length<=8)(az:∀g∈gs,∀b∈g.2.2,b.length<=1000000)(bp:gs.length<=60)(hw:Lw w)(q:Ob w):
 Zc 145 #[Zg #[cv,gv]] w λe w'=>e=Zr (Zo (madeB (cols,gs)))/\Below w.heap.size w w':=by
 have HF:=Aa hF;have au:=Aa az;have HW:=Aa hw;have HG:=Aa q;obtain⟨hC,hG⟩:=hF;obtain⟨P,R,rfl,_⟩:=hG.slice;obtain⟨N,O,rfl,_⟩:=hC.slice;have ae:Below w.heap.size w (w.alloc (Zk #[Zs N cols.length O,Zs P gs.length R] 105)):=Zal;obtain⟨f0,f1⟩:=Hg (Y8 w (Zk #[Zs N cols.length O,Zs P gs.length R] 105));have ar:=Aa (ADI (Zs N cols.length O) cols _ (hC.up ae) h8)
 have s:Hid (∀W,Below (w.heap.size+1) (w.alloc (Zk #[Zs N cols.length O,Zs P gs.length R] 105)) W->W.cell? ⟨w.heap.size,0,none⟩=some (Zs N cols.length O)/\W.cell? ⟨w.heap.size,1,none⟩=some (Zs P gs.length R)/\Below w.heap.size w W):=Aa (λW hW=>by
  have ad:Below (w.alloc (Zk #[Zs N cols.length O,Zs P gs.length R] 105)).heap.size (w.alloc (Zk #[Zs N cols.length O,Zs P gs.length R] 105)) W:=by change Below _ _ _;rw[XC];exact hW
  exact⟨Ag ad f0,Ag ad f1,Ap ae ad⟩)
 obtain⟨iS,aw,a7,U,X⟩:=info_parts eI;have t:=Zy aw a7 U X;clear hC hG az hw q aw a7 U X ae;go_enter func145,ntmps145;go_wp2_with fail;refine ar.o.mono ?_;rintro e w1⟨v1,rfl,aj,D⟩;obtain⟨pa,pc,rfl,_⟩:=E.Ak aj;have f:Below (w.heap.size+1) (w.alloc (Zk #[Zs N cols.length O,Zs P gs.length R] 105)) w1:=by change Below _ _ _ at D;rw[XC] at D;exact D
 obtain⟨q0,q1,p⟩:=s.o w1 f;have ax:=f.size;rw[XC] at ax;have ap:Hid (F7 7 Cc w1 (Zs pa cols.length pc) (A7 cols)):=Aa (F7.Fz (k:=7) (enc:=Cc) (λ_=>rfl) aj (Cx cols).symm);have y:=Aa (kR (Zs pa cols.length pc) (A7 cols) 1099511627777 w1 ap.o (by rw[Cx];omega) (cD cols) (HW.o.below p));have a8:=Aa f;have am:=Aa p;clear D f aj ar p f0 f1;cases hR:Be (A7 cols) 1099511627777 with
 | false=>rw[hR] at y;have bc:=Aa (rN (gs:=gs) hR);go_wp2_with fail;refine y.o.mono ?_;rintro e w2⟨rfl,c⟩;go_wp2;go_ret;rw[bc.o];exact⟨rfl,Ap am.o c⟩
 | true=>
   rw[hR] at y;have HR:=Aa hR;have ai:1<=cols.length:=by have:=(K5.1 hR).one;rwa[Cx] at this
   clear hR;go_wp2_with fail;refine y.o.mono ?_;rintro e w2⟨rfl,c⟩;have ac:=a8.o.trans (c.mono ax);obtain⟨q0,q1,bk⟩:=s.o w2 ac;have aq:=Aa (ap.o.up c);have bq:=c.size;go_wp2
   go_loopw [4,19] (λvo vi wr=>∃(k:Nat)(acc:List (List V)),k<=gs.length/\vi=Zi k/\acc.length<=6*k/\Hid (Fb cols (A7 cols) [] gs=Fb cols (A7 cols) acc (gs.drop k))/\Hid (Sc w2.heap.size wr vo acc)/\Hid (Below w2.heap.size w2 wr)) (λ_ vi _=>gs.length-(intOf vi).toNat)
   case atStart=>exact⟨0,[],XF _,rfl,by simp,Aa rfl,Aa (ABG _ _),Aa (XB _ _)⟩
   case round=>
    obtain⟨k,acc,hk,rfl,bj,I,J,o⟩:=hrel;obtain⟨q0,q1,d⟩:=s.o wr (ac.trans (o.o.mono (by omega)));have a0:=o.o.size;have M:=Aa (aq.o.up o.o);have bb:=Aa (HF.o.up d)
    by_cases hlt:k<gs.length
    ·obtain⟨g,q⟩:∃g,gs[k]? = some g:=⟨_,XA hlt⟩
     have z:=Aa (Pq k _ _ (Zs pa cols.length pc) cols gs g (A7 cols) wr bb.o q M.o (by rw[Cx];exact h8) ai h8 (lR cols) (au.o g (XD q)));have an:Hid (Fb cols (A7 cols) [] gs=Fb cols (A7 cols) acc (g :: gs.drop (k+1))):=Aa (by rw[I.o,Yq hlt];rw[XA hlt] at q;injection q with q;rw[q]);have bf:(k:Int)<(gs.length:Int):=by omega
     obtain⟨vs,a3,al,a4⟩:=J.o;obtain⟨oa,oc,rfl,_⟩:=E.Ak al;have ab:=Aa (Yad a3 (Yad al a4));clear q I a3 al a4 J;cases i:Ew cols g (A7 cols) with
     | none=>rw[i] at z;have L:Hid (madeB (cols,gs)=false):=Aa (bL (by rw[an.o,Nb i]));clear i;go_wp2_with fail;refine z.o.mono ?_;rintro e w3⟨rfl,h⟩;go_wp2;go_ret;rw[L.o];exact⟨rfl,Ap d h⟩
     | some r=>
       rw[i] at z;obtain⟨bi,bh⟩:=ACn i;have bl:r.length<=6:=by omega
       have L:Hid (Fb cols (A7 cols) [] gs=Fb cols (A7 cols) (acc++r) (gs.drop (k+1))):=Aa (by rw[an.o,Nx i]);clear i bi bh;go_wp2_with fail;refine z.o.mono ?_;rintro e w3⟨v1,rfl,⟨us,a1,ak,a2⟩,h⟩;obtain⟨ra,rc,rfl,_⟩:=E.Ak ak;have l:=Aa (Yad a1 (Yad ak a2));have aa:=Aa (E.Ad ab.o.2.1 h);have br:=h.size;clear a1 ak a2;go_wp2_with (at_builtin;refine E.Ck rfl _ _ 34 rfl w2.heap.size 62 iS (.slice none 0 0) 1 24 underlying34 t.o.1 t.o.2.1 t.o.2.2.1 t.o.2.2.2 rfl (by decide) _ _ _ rfl aa.o _ _ _ _ rfl l.o.2.1 (Sc.one l.o.1 l.o.2.2) ?f1 ?f2 ?f3 ?_)
       case f1=>unfold maxLen;omega
       case f2=>omega
       case f3=>omega
       intro v2 w4 bg av;have ay:=Sc.app ab.o.1 l.o.1 aa.o (λj x r hx i=>E.Ad (ab.o.2.2 j x r hx i) h) l.o.2.2 bg av;have c:=E.Bj (o.o.trans (h.mono a0)) aa.o av (by omega);go_wp2;exact⟨⟨k+1,acc++r,by omega,by go_num,by simp;omega,L,Aa ay,Aa c⟩,by simp[intOf];omega⟩
    have ek:k=gs.length:=by omega
    have L:Hid (Fb cols (A7 cols) [] gs=some acc):=Aa (by rw[I.o,ek,List.drop_length];rfl);have bf:¬(k:Int)<(gs.length:Int):=by omega
    have bo:acc.length<=360:=by omega
    have ao:=Aa (sX (lR cols) L.o au.o (by simp));have u:=Aa (rW (Zs pa cols.length pc) _ (A7 cols) acc wr M.o J.o.slr (by rw[Cx];omega) (by omega) (cD cols) (λr i v hv=>(ao.o r i v hv).2) (λr i v hv=>(ao.o r i v hv).1) (HW.o.below d) (HG.o.below d));obtain⟨oa,oc,rfl,_⟩:=J.o.slr.slice;clear ek I;cases hm:J9 (A7 cols) acc with
    | none=>rw[hm] at u;have Y:=Aa (AC3 L.o hm);clear hm;go_wp2_with fail;refine u.o.mono ?_;rintro e w5⟨T5,v5,rfl,n⟩;have af:=(Ap d n).alloc (by have:=n.size;have:=d.size;omega) (Zk #[Zs none 0 0,Zs none 0 0] 105);go_wp2;go_ret;rw[Y.o];exact⟨rfl,af⟩
    | some f'=>rw[hm] at u;obtain⟨l',a⟩:=f';go_wp2_with fail;refine u.o.mono ?_;rintro e w5⟨bm,bn,rfl,m,n⟩;obtain⟨a5,c5,rfl,_⟩:=m.1.slice;obtain⟨a6,c6,rfl,_⟩:=m.2.slice;dsimp only at m ⊢;have G:Below w5.heap.size w5 (w5.alloc (Zk #[Zs a5 l'.length c5,Zs a6 a.length c6] 105)):=Zal;have T:=Ap (Ap d n) G;obtain⟨q0,q1,_⟩:=s.o (w5.alloc (Zk #[Zs a5 l'.length c5,Zs a6 a.length c6] 105)) ((ac.trans (o.o.mono (by omega))).trans ((Ap n G).mono (by omega)));obtain⟨x0,x1⟩:=Hg (Y8 w5 (Zk #[Zs a5 l'.length c5,Zs a6 a.length c6] 105));obtain⟨ah,ag⟩:=ADP hm (by rw[Cx];exact ai) (by rw[Cx];exact h8);dsimp only at ah ag;have ba:=Aa (zR (Zs P gs.length R) (Zs a6 a.length c6) gs a _ (HF.o.up T).2 (m.2.up G) (by omega) (by have:=ag;omega) (lM ai h8 L.o) ah);have Y:Hid (madeB (cols,gs)=Lib.allEq J7 gs a):=Aa (wP HR.o L.o hm (P5 ABk gs a));have a9:=Aa T;clear ah ag m hm G;go_wp2_with fail;refine ba.o.mono ?_;rintro e w6⟨rfl,af⟩;have bd:=Ap a9.o af;go_wp2;go_ret;rw[Y.o];exact⟨rfl,bd⟩
theorem A4{b i:Nat}{cs:Array Tv}{T:TypeId}(h:W.heap[b]? = some (Zk cs T))(a:cs[i]? = some v):W.cell? ⟨b,i,none⟩=some v:=by simp[World.cell?,h,a]
def ADK(r:Option (List UInt8))(w:World)(e:Ending)(a:World):Prop:=match r with
 | none=>e=.returned (.tuple #[.string ⟨#[]⟩,.iface 47 (Zi 1)])/\Zb w a
 | some b=>e=.returned (.tuple #[.string (E.str b),.nilIface])/\Zb w a
def Fj(cols:List Aj)(k:Nat):List UInt8:=Lib.uvarint cols.length++(cols.take k).flatMap Eg
def Fl(cols:List Aj)(gs:List Fk)(k:Nat):List UInt8:=(Fj cols cols.length++Lib.uvarint gs.length)++(gs.take k).flatMap Bh
theorem xF(cols:List Aj)(gs:List Fk):Fl cols gs gs.length=Cq (cols,gs):=by unfold Fl Fj Cq;rw[Yf,Yf];simp
theorem qG{cols:List Aj}(h:cols[k]? = some c):Fj cols (k+1)=(Fj cols k++Lib.uvarint c.1.toNat)++Lib.uvarint (kd c).toNat:=by unfold Fj;rw[E.Br h];simp[Eg]
theorem qJ{cols:List Aj}{gs:List Fk}(h:gs[k]? = some g):Fl cols gs (k+1)=Fl cols gs k++Bh g:=by unfold Fl;rw[E.Br h];simp
theorem xB{cols:List Aj}(o:cols.length<=8)(h:∀c∈cols,0<=c.1/\c.1<=1099511627776/\0<=kd c/\kd c<=2)(k:Nat):(Fj cols k).length<=200:=by
 unfold Fj;have i:(Lib.uvarint cols.length).length<=10:=Lib.uvarint_length64 (by omega)
 have j:=Mp Eg 20 (l:=cols.take k) (λc f=>by obtain⟨a,b,d,e⟩:=h c (Yl f);have m:(Lib.uvarint c.1.toNat).length<=10:=Lib.uvarint_length64 (by omega);have g:(Lib.uvarint (kd c).toNat).length<=10:=Lib.uvarint_length64 (by omega);simp only[Eg,XH];omega)
 have g:(cols.take k).length<=8:=by rw[XW];omega
 have n:=Yo 20 g;rw[XH];omega
theorem Xi{cols:List Aj}{gs:List Fk}(h:madeB (cols,gs)=true):Be (A7 cols) 1099511627777=true/\∃rows,Fb cols (A7 cols) [] gs=some rows:=by
 constructor
 ·cases hr:Be (A7 cols) 1099511627777 with
  | true=>rfl
  | false=>rw[rN hr] at h;cases h
 cases ha:Fb cols (A7 cols) [] gs with
 | some rows=>exact⟨rows,rfl⟩
 | none=>rw[bL ha] at h;cases h
theorem ACG{cols:List Aj}{gs:List Fk}(h:madeB (cols,gs)=true):∀c∈cols,0<=c.1/\c.1<=1099511627776/\0<=kd c/\kd c<=2:=λc e=>by
 obtain⟨d,f,a,b⟩:=Sk (show Es cols (A7 cols) from⟨(Gh cols).1.symm,(Gh cols).2.symm⟩) e;have:=Wg (K5.1 (Xi h).1) f;rwa[a,b] at this
theorem Xk{cols l:List Aj}:∀{gs:List Fk}{acc rows:List (List V)},Fb cols l acc gs=some rows->∀g∈gs,g.1<=6/\g.2.2.length=cols.length
 | [],_,_,_=>by simp
 | g :: gs,acc,rows,h=>by
   cases hr:Ew cols g l with
   | none=>rw[Nb hr] at h;cases h
   | some r=>
     rw[Nx hr] at h;intro c b
     rcases List.mem_cons.1 b with rfl|b
     ·unfold Ew at hr
      split at hr
      ·rename_i a
       rw[WE] at a;have a:=a.1;simp only[Gb,decide_eq_true_eq] at a;exact⟨a.2.2.2,a.2.1⟩
      cases hr
     exact Xk h c b
theorem AJQ(n:Nat):0<(Lib.uvarint n).length:=by rw[Lib.uvarint];split <;> simp
theorem cR(d:g.1<=6)(c:g.2.2.length<=8)(a:∀b∈g.2.2,b.length<=1000000):(Bh g).length<=9000000:=by have h:=Xz d a g.2.2.length;rw[X5] at h;have:g.2.2.length*1000010<=8*1000010:=Yo _ c;omega
theorem lH(cv gv:Tv)(cols:List Aj)(gs:List Fk)(w:Tw)(hF:Hm w cv gv (cols,gs))(h8:cols.length<=8)(ah:∀g∈gs,∀b∈g.2.2,b.length<=1000000)(bs:gs.length<=60)(q:Lw w)(I:Ob w):
 Zc 88 #[Zg #[cv,gv]] w (ADK (Jn (cols,gs)) w):=by
 have HF:=Aa hF;have bf:=Aa ah;have am:=Aa (λW(hW:Below w.heap.size w W)=>AFk cv gv cols gs W (hF.up hW) h8 ah bs (q.below hW) (I.below hW));obtain⟨hC,hG⟩:=hF;obtain⟨Y,gc,rfl,_⟩:=hG.slice;obtain⟨T,V,rfl,_⟩:=hC.slice;have n:Below w.heap.size w (w.alloc (Zk #[Zs T cols.length V,Zs Y gs.length gc] 105)):=Zal;obtain⟨f0,f1⟩:=Hg (Y8 w (Zk #[Zs T cols.length V,Zs Y gs.length gc] 105))
 have a1:Hid (∀W,Below (w.heap.size+1) (w.alloc (Zk #[Zs T cols.length V,Zs Y gs.length gc] 105)) W->W.cell? ⟨w.heap.size,0,none⟩=some (Zs T cols.length V)/\W.cell? ⟨w.heap.size,1,none⟩=some (Zs Y gs.length gc)/\Below w.heap.size w W):=Aa (λW hW=>by
  have aa:Below (w.alloc (Zk #[Zs T cols.length V,Zs Y gs.length gc] 105)).heap.size (w.alloc (Zk #[Zs T cols.length V,Zs Y gs.length gc] 105)) W:=by change Below _ _ _;rw[XC];exact hW
  exact⟨Ag aa f0,Ag aa f1,Ap n aa⟩)
 have r:=Aa (am.o _ n);clear hC hG ah q I;cases hm:madeB (cols,gs) with
 | false=>rw[hm] at r;have HE:Hid (Jn (cols,gs)=none):=Aa (by unfold Jn;rw[Y9 (by simp[hm])]);clear hm;have ak:=Aa n;clear n;go_enter func88,ntmps88;go_wp2_with fail;refine r.o.mono ?_;rintro e d⟨rfl,o⟩;go_wp2;go_ret2;rw[HE.o];exact⟨rfl,Ap ak.o o⟩
 | true=>
   rw[hm] at r;have HM:=Aa hm;have HE:Hid (Jn (cols,gs)=some (Cq (cols,gs))):=Aa (by unfold Jn;rw[Yaa hm]);clear hm;have ak:=Aa n;clear n;go_enter func88,ntmps88;go_wp2_with fail;refine r.o.mono ?_;rintro e d⟨rfl,o⟩;have s:Below (w.heap.size+1) (w.alloc (Zk #[Zs T cols.length V,Zs Y gs.length gc] 105)) d:=by change Below _ _ _ at o;rw[XC] at o;exact o
   obtain⟨q0,q1,G⟩:=a1.o d s;have bv:=s.size;rw[XC] at bv;have u:Hid (Zc 146 #[Zs none 0 0,.int .u64 cols.length] d _):=Aa (E.Dq d.heap.size 0 cols.length (by omega) (Zs none 0 0) [] d (XO _ _ _ _) (Y' _) (by omega));go_wp2_with fail;refine u.o.mono ?_;rintro e w2⟨v2,rfl,x,ai⟩;rw[WL] at x;obtain⟨a2,c2,rfl,_⟩:=E.Ak x
   have a9:Hid (w2.ownsRow d.heap.size 5 1 (Zs a2 (Lib.uvarint cols.length).length c2) (Fj cols 0).length (Lib.byteCells (Fj cols 0))):=Aa (by
    have e0:Fj cols 0=Lib.uvarint cols.length:=by simp[Fj]
    rw[e0];simpa using x)
   have bg:=Aa ai;have al:=Aa (ACG HM.o);have bj:=Aa (Xk (Xi HM.o).2.choose_spec);have D:=Aa (xB h8 al.o);have b7:=(ai.1.cell (p:=⟨w.heap.size,0,none⟩) (by show w.heap.size<_;omega)).trans q0;have bd:=Aa q1;have z:=Aa G;clear x ai u o s q0 q1 G r am f0 f1;go_wp2
   go_loopw [4,21] (λvb vi wr=>∃k:Nat,k<=cols.length/\vi=Zi k/\Hid (wr.ownsRow d.heap.size 5 1 vb (Fj cols k).length (Lib.byteCells (Fj cols k)))/\Hid (E.Wr d.heap.size d wr)) (λ_ vi _=>cols.length-(intOf vi).toNat)
   case atStart=>exact⟨0,XF _,rfl,a9,bg⟩
   case round=>
    obtain⟨k,hk,rfl,ho,q⟩:=hrel;obtain⟨b3,b0,rfl,_⟩:=E.Ak ho.o;have t:=q.o.1.size;have f:Below w.heap.size w wr:=z.o.trans (q.o.1.mono (by omega))
    by_cases hlt:k<cols.length
    ·obtain⟨⟨c1,c2,c3,c4,c5,c6,c7⟩,hc⟩:∃c,cols[k]? = some c:=⟨_,XA hlt⟩
     obtain⟨g1,g2,g3,g4⟩:=al.o _ (XD hc);dsimp only [kd] at g1 g2 g3 g4;have m:=Aa (qG hc);obtain⟨lb,lo,b5,el,_,b4,i⟩:=(HF.o.up f).1.cons (by show 0<cols.length;omega);injection el with bp em bq;clear em;subst bp bq;obtain⟨q0,q1,q2,q3,q4,q5,q6⟩:=F8 i hc;obtain⟨n1,rfl⟩:=WG g1;obtain⟨n3,rfl⟩:=WG g3;dsimp only [kd] at m;rw[WB,WB] at m;have a:=D.o k;have bu:(k:Int)<(cols.length:Int):=by omega
     have au:(Lib.uvarint n1).length<=10:=Lib.uvarint_length64 (by omega);have l:=Aa (Y8 wr (Zk #[Zi n1,Zt c2,Zi n3,Zo c4,Zi c5,Zi c6,Zt c7] 60));have x0:(wr.alloc (Zk #[Zi n1,Zt c2,Zi n3,Zo c4,Zi c5,Zi c6,Zt c7] 60)).cell? ⟨wr.heap.size,0,none⟩=some (Zi n1):=A4 l.o rfl;have u:=Aa (E.Dq d.heap.size (Fj cols k).length n1 (by omega) _ _ _ (ho.o.alloc (Zk #[Zi n1,Zt c2,Zi n3,Zo c4,Zi c5,Zi c6,Zt c7] 60)) (by simp;omega) (by omega));have R:=Aa (q.o.alloc t (Zk #[Zi n1,Zt c2,Zi n3,Zo c4,Zi c5,Zi c6,Zt c7] 60));have O:=Aa (Yad a au);clear i hc a au;go_wp2_with fail;refine u.o.mono ?_;rintro e w3⟨v3,rfl,ad,y⟩;obtain⟨a3,d3,rfl,_⟩:=E.Ak ad;have x2:w3.cell? ⟨wr.heap.size,2,none⟩=some (Zi n3):=A4 (E.Hw y l.o (by decide)) rfl;have ay:=Aa (E.Dq d.heap.size _ n3 (by omega) _ _ w3 ad (by have:=y.1.size;simp at this;omega) (by have:=O.o;omega));have bk:=Aa (R.o.trans y);clear ad y q0 q1 q2 q3 q4 q5 q6 x0;go_wp2_with fail;refine ay.o.mono ?_;rintro e w4⟨v4,rfl,ae,aw⟩;obtain⟨a4,d4,rfl,_⟩:=E.Ak ae
     have ba:Hid (w4.ownsRow d.heap.size 5 1 (Zs a4 ((Fj cols k).length+(Lib.uvarint n1).length+(Lib.uvarint n3).length) d4) (Fj cols (k+1)).length (Lib.byteCells (Fj cols (k+1)))):=Aa (by rw[m.o,E.Bg,E.Bg];simpa[WS] using ae)
     have bh:=Aa (bk.o.trans aw);clear ae aw;go_wp2;exact⟨⟨k+1,by omega,by go_num,ba,bh⟩,by simp[intOf];omega⟩
    have ek:k=cols.length:=by omega
    have bu:¬(k:Int)<(cols.length:Int):=by omega
    have q1:=(q.o.1.cell (p:=⟨w.heap.size,1,none⟩) (by show w.heap.size<_;omega)).trans bd.o;have a:=D.o k;have az:Hid (Zc 146 #[_,.int .u64 gs.length] wr _):=Aa (E.Dq d.heap.size (Fj cols k).length gs.length (by omega) _ _ wr ho.o (by omega) (by omega));have HK:=Aa ek;have av:(Lib.uvarint gs.length).length<=10:=Lib.uvarint_length64 (by omega);have O:=Aa (Yad a av);clear ek a av;go_wp2_with fail;refine az.o.mono ?_;rintro e w5⟨v5,rfl,af,aj⟩;obtain⟨a5,d5,rfl,_⟩:=E.Ak af;have b8:=(aj.1.cell (p:=⟨w.heap.size,1,none⟩) (by show w.heap.size<_;omega)).trans q1
    have bb:Hid (w5.ownsRow d.heap.size 5 1 (Zs a5 ((Fj cols k).length+(Lib.uvarint gs.length).length) d5) (Fl cols gs 0).length (Lib.byteCells (Fl cols gs 0))):=Aa (by
     have e0:Fl cols gs 0=Fj cols k++Lib.uvarint gs.length:=by rw[HK.o];simp[Fl]
     rw[e0,E.Bg];simpa using af)
    have ap:=Aa (q.o.trans aj);clear af aj q1;go_wp2;have bz:=ap.o.1.size
    go_loopw [4,45] (λvb vi wr=>∃j:Nat,j<=gs.length/\vi=Zi j/\(Fl cols gs j).length<=300+j*9000000/\Hid (wr.ownsRow d.heap.size 5 1 vb (Fl cols gs j).length (Lib.byteCells (Fl cols gs j)))/\Hid (E.Wr d.heap.size d wr)) (λ_ vi _=>gs.length-(intOf vi).toNat)
    case atStart=>
     refine⟨0,XF _,rfl,?_,bb,ap⟩;have e0:Fl cols gs 0=Fj cols k++Lib.uvarint gs.length:=by rw[HK.o];simp[Fl]
     have:=O.o;rw[e0,XH];omega
    case round=>
     obtain⟨j,hj,rfl,b2,ho,q⟩:=hrel;obtain⟨b6,v,rfl,_⟩:=E.Ak ho.o;have t:=q.o.1.size;have f:Below w.heap.size w wr:=z.o.trans (q.o.1.mono (by omega))
     by_cases hlt:j<gs.length
     ·obtain⟨g,I⟩:∃g,gs[j]? = some g:=⟨_,XA hlt⟩
      obtain⟨gb,go,gd,J,L,M,N,eg,_,p0,p1,p2,aq⟩:=HF.o.2.get I;replace p0:=Ag f p0;replace p1:=Ag f p1;replace p2:=Ag f p2;injection eg with bn em bo;clear em;subst bn bo;obtain⟨ac,br⟩:=bj.o g (XD I);have ao:=Aa (bf.o g (XD I));have ar:=cR ac (by omega) ao.o;have m:=Aa (qJ (cols:=cols) I);have bt:(j:Int)<(gs.length:Int):=by omega
      have l:=Aa (Y8 wr (Zk #[Zi g.1,Zs J g.2.1.length L,Zs M g.2.2.length N] 160));have x0:(wr.alloc (Zk #[Zi g.1,Zs J g.2.1.length L,Zs M g.2.2.length N] 160)).cell? ⟨wr.heap.size,0,none⟩=some (Zi g.1):=A4 l.o rfl;have x1:(wr.alloc (Zk #[Zi g.1,Zs J g.2.1.length L,Zs M g.2.2.length N] 160)).cell? ⟨wr.heap.size,1,none⟩=some (Zs J g.2.1.length L):=A4 l.o rfl;have x2:(wr.alloc (Zk #[Zi g.1,Zs J g.2.1.length L,Zs M g.2.2.length N] 160)).cell? ⟨wr.heap.size,2,none⟩=some (Zs M g.2.2.length N):=A4 l.o rfl;have a0:=Aa (aI d.heap.size (Fl cols gs j).length _ _ g J g.2.1.length L (Zs M g.2.2.length N) w _ (ho.o.alloc (Zk #[Zi g.1,Zs J g.2.1.length L,Zs M g.2.2.length N] 160)) (by omega) (by simp;omega) (f.alloc (by omega) _) aq.2.2 ac (by omega) ao.o (by omega));have R:=Aa (q.o.alloc t (Zk #[Zi g.1,Zs J g.2.1.length L,Zs M g.2.2.length N] 160));have a6:=Aa ar;clear I aq ac br ar;go_wp2_with fail;refine a0.o.mono ?_;rintro e w7⟨v7,rfl,ag,ax⟩;obtain⟨a7,d7,rfl,_⟩:=E.Ak ag
      have bc:Hid (w7.ownsRow d.heap.size 5 1 (Zs a7 ((Fl cols gs j).length+(Bh g).length) d7) (Fl cols gs (j+1)).length (Lib.byteCells (Fl cols gs (j+1)))):=Aa (by rw[m.o,E.Bg];simpa using ag)
      have bi:=Aa (R.o.trans ax);have a8:Hid ((Fl cols gs (j+1)).length<=300+(j+1)*9000000):=Aa (by have:=a6.o;rw[m.o,XH];omega);clear ag ax;go_wp2;exact⟨⟨j+1,by omega,by go_num,a8.o,bc,bi⟩,by simp[intOf];omega⟩
     have ej:j=gs.length:=by omega
     have bt:¬(j:Int)<(gs.length:Int):=by omega
     have P:Hid (wr.ownsRow d.heap.size 5 1 (Zs b6 (Fl cols gs j).length v) (Cq (cols,gs)).length (Lib.byteCells (Cq (cols,gs)))):=Aa (by have h:=ho.o;rw[ej,xF] at h ⊢;exact h)
     have bw:0<(Cq (cols,gs)).length:=by have:=AJQ cols.length;simp only[Cq,XH];omega
     obtain⟨g8,bx,e8⟩:∃g U,(Value.slice b6 (Fl cols gs j).length v)=Zs (some ⟨g,0,none⟩) (Cq (cols,gs)).length U:=by
      rcases P.o.2 with⟨_,h0⟩|⟨g,U,b1,e,_⟩
      ·omega
      exact⟨g,U,e⟩
     injection e8 with bl X bm;subst bl bm;have an:Hid (wr.ownsRow d.heap.size 5 1 (Zs (some ⟨g8,0,none⟩) (Cq (cols,gs)).length v) (Cq (cols,gs)).length (Lib.byteCells (Cq (cols,gs)))):=Aa (by have h:=P.o;rw[X] at h;exact h);have ab:=run_convert_bytes_back wr 70 9 5 ⟨g8,0,none⟩ v (Cq (cols,gs)) underlying70 underlying5 underlying9 (λj hj=>an.o.cells rfl j _ (by simp[Lib.byteCells,hj]));rw[<-X] at ab;clear ej X P an bw;go_wp2;go_ret2;rw[HE.o];exact⟨rfl,f⟩
theorem ACm(kind:Int)(b:List UInt8)(w:Tw)(k:b.length<=1000000):
 Zc 169 #[.int .i64 kind,.string (E.str b)] w λe g=>∃a n c j,e=.returned (.tuple #[.slice a n c,j])/\E.Sl g (.slice a n c) ((E.Ll kind b).getD [])/\Zb w g:=by
 refine(E.xH kind (E.str b) w (by rw[E.Ds];exact k)).mono λe g h=>?_
 rw[E.Eo] at h;cases hd:E.Ll kind b with
 | none=>rw[hd] at h;obtain⟨rfl,d⟩:=h;exact⟨none,0,0,_,rfl,⟨none,0,rfl,by simp,λf=>absurd rfl f⟩,d⟩
 | some L=>rw[hd] at h;obtain⟨v,rfl,i,d⟩:=h;obtain⟨a,c,rfl,_⟩:=id i;exact⟨a,_,c,_,rfl,i,d⟩
def Cf(l:List Aj)(s:E.St)(k:Nat):List (List UInt8)×E.St:=Dk (l.take k) s
theorem Uc:∀(l:List Aj)(c:Aj)(s:E.St),Dk (l++[c]) s=((Dk l s).1++[(Hl (Dk l s).2).1],(Hl (Dk l s).2).2)
 | [],_,_=>rfl
 | _ :: l,c,s=>by simp only[XJ,Dk,Uc l c]
theorem Pj:∀(l:List Aj)(s:E.St),(Dk l s).1.length=l.length
 | [],_=>rfl
 | _ :: l,s=>by simp[Dk,Pj l]
theorem AFu{bs:List (List UInt8)}{b:List UInt8}(h:bs.length=l.length):Ga (l++[c]) (bs++[b])=Ga l bs++[ABV c b]:=by unfold Ga;rw[List.zipWith_append h.symm];rfl
theorem Ee{most:Int}(h:s.1.length<=n):(E.Am most s).2.1.length<=n:=XV (E.F4 most s) h
theorem sR(n:Nat)(s:E.St):(E.C8 n s).1.length<=s.1.length:=by unfold E.C8;split <;> simp <;> omega
theorem Xq(h:s.1.length<=n):(Hl s).1.length<=n/\(Hl s).2.1.length<=n/\(E.Am 9223372036854775807 s).2.1.length<=n:=by have a:=Ee (most:=9223372036854775807) h;exact⟨XV (sR _ _) a,XV (E.Ji _ _) a,a⟩
theorem iU(i:Nat)(s:E.St)(lv:Tv)(l:List Aj)(w:Tw)(hr:E.Oi 225 [] w i s)(hl:∀W,w.grownBy W (some i)->F7 7 Cc W lv l)(h8:l.length<=8)(hs:s.1.length<=1000000):
 Zc 164 #[.pointer (some ⟨i,0,none⟩),lv] w λe w'=>∃sv bv,e=.returned (.agg #[.int .i64 (Cd l s).1.1,sv,bv])/\w'.ownsRow w.heap.size 231 8 sv l.length ((Cd l s).1.2.1.flatMap encS)/\w'.ownsRow w.heap.size 9 1 bv l.length ((Cd l s).1.2.2.flatMap Mc)/\E.Oi 225 [] w' i (Cd l s).2/\w.grownBy w' (some i):=by
 have HL:=Aa hl;obtain⟨la,lc,rfl,_⟩:=(hl w (E.G2 _ _)).slice;obtain⟨iS,ch,cq,a3,a5⟩:=info_parts AGG;have ag:=Zy ch cq a3 a5;obtain⟨iT,ci,cr,a4,a6⟩:=info_parts Uz;have ah:=Zy ci cr a4 a6;have cd:∀args w,(callFunc 167 args).run prog w=.ok (.enter 167 args) w:=enters_of func167 (by kernel_rfl) rfl;have br:=Aa cd;have bh:Below w.heap.size w (w.alloc (.cells #[.int .i64 0,.slice none 0 0,.slice none 0 0] 160)):=Zal;have T:=Aa (Y8 w (.cells #[.int .i64 0,.slice none 0 0,.slice none 0 0] 160));have dg:=hr.lt;have ai:Hid (Cd l s=(((E.Am 6 s).1,Ga l (Dk l (E.Am 6 s).2).1,(Dk l (E.Am 6 s).2).1),(Dk l (E.Am 6 s).2).2)):=Aa rfl;have c9:(E.Am 6 s).2.1.length<=1000000:=Ee hs;have HU:=Aa (E.Jo 225 [] i 6 s _ (hr.up bh) hs (by omega) (by omega));clear ch cq a3 a5 ci cr a4 a6 cd hl;generalize (E.Am 6 s).1=n0 at *;generalize (E.Am 6 s).2=b at *;go_enter func164,ntmps164;go_wp2_with fail;refine HU.o.mono ?_;rintro e a⟨rfl,ck,al⟩;have c8:=al.size;rw[XC] at c8;have ak:Below a.heap.size a (a.alloc (.cells #[.int .i64 n0,.slice none 0 0,.slice none 0 0] 160)):=Zal;have ct:=Aa (Y8 a (.cells #[.int .i64 n0,.slice none 0 0,.slice none 0 0] 160));have bb:=Aa ((ak.block w.heap.size (by omega)).trans ((al.block w.heap.size (by simp) (by simp;omega)).trans T.o));have b2:=Aa (ck.up ak);have bu:=Aa (E.Al (E.Cr bh (r:=some i)) (E.Al al (E.Cr ak)));clear hr ck al ak bh HU T;go_wp2
 go_loopw [16] (λvi wr=>∃k:Nat,k<=l.length/\vi=.int .i64 k/\(∃sv bv,Hid (wr.heap[a.heap.size]? = some (.cells #[.int .i64 n0,sv,bv] 160))/\Hid (wr.ownsRow (a.heap.size+1) 231 8 sv k ((Ga (l.take k) (Cf l b k).1).flatMap encS))/\Hid (wr.ownsRow (a.heap.size+1) 9 1 bv k ((Cf l b k).1.flatMap Mc)))/\Hid (wr.heap[w.heap.size]? = some (.cells #[.int .i64 0,.slice none 0 0,.slice none 0 0] 160))/\Hid (E.Oi 225 [] wr i (Cf l b k).2)/\(Cf l b k).2.1.length<=1000000/\Hid (w.grownBy wr (some i))/\a.heap.size+1<=wr.heap.size) (λvi _=>l.length-(intOf vi).toNat)
 case atStart=>exact⟨0,XF _,rfl,⟨_,_,ct,Aa (XO _ _ _ _),Aa (XO _ _ _ _)⟩,bb,b2,c9,bu,by simp⟩
 case round=>
  obtain⟨k,hk,rfl,⟨sv,bv,hg,ae,ab⟩,ac,ao,co,O,dj⟩:=hrel;obtain⟨sa,sc,rfl,_⟩:=E.Ak ae.o;obtain⟨ba,bc,rfl,_⟩:=E.Ak ab.o
  by_cases hlt:k<l.length
  ·obtain⟨⟨c1,c2,c3,c4,c5,c6,c7⟩,hc⟩:∃c,l[k]? = some c:=⟨_,XA hlt⟩
   obtain⟨lb,lo,dl,el,_,df,z⟩:=(HL.o wr O.o).cons (by omega);injection el with cx _ cy;subst cx cy;obtain⟨q0,q1,q2,q3,q4,q5,q6⟩:=F8 z hc;have cz:(k:Int)<(l.length:Int):=by omega
   have aj:Cf l b (k+1)=((Cf l b k).1++[(Hl (Cf l b k).2).1],(Hl (Cf l b k).2).2):=by unfold Cf;rw[E.Br hc,Uc]
   have cs:Hid ((Cf l b (k+1)).1=(Cf l b k).1++[(Hl (Cf l b k).2).1]):=Aa (by rw[aj]);have b8:Hid ((Cf l b (k+1)).2=(Hl (Cf l b k).2).2):=Aa (by rw[aj]);obtain⟨L,hL⟩:∃L,(E.Ll c3 (Hl (Cf l b k).2).1).getD []=L:=⟨_,rfl⟩;have b7:Hid (Ga (l.take (k+1)) (Cf l b (k+1)).1=Ga (l.take k) (Cf l b k).1++[S.Iv L]):=Aa (by rw[aj,E.Br hc,AFu (by unfold Cf;rw[Pj])];simp only[ABV];rw[<-hL];rfl);have ad:=Xq co;have bg:Hid ((Hl (Cf l b k).2).1.length<=1000000/\(Cf l b (k+1)).2.1.length<=1000000/\(E.Am 9223372036854775807 (Cf l b k).2).2.1.length<=1000000):=Aa ⟨ad.1,by rw[b8.o];exact ad.2.1,ad.2.2⟩
   have ce:L.length<=60:=by
    rw[<-hL];cases hd:E.Ll c3 (Hl (Cf l b k).2).1 with
    | none=>simp
    | some m=>obtain⟨_,_,hm⟩:=E.l3 hd;rw[WN,hm];exact(E.nO ad.1).2
   have bi:Below wr.heap.size wr (wr.alloc (.cells #[.int .i64 c1,.string c2,.int .i64 c3,.bool c4,.int .i64 c5,.int .i64 c6,.string c7] 60)):=Zal;have bp:=Aa (Y8 wr (.cells #[.int .i64 c1,.string c2,.int .i64 c3,.bool c4,.int .i64 c5,.int .i64 c6,.string c7] 60));have cc:=Aa (E.Jo 225 [] i 9223372036854775807 (Cf l b k).2 _ (ao.o.up bi) co (by omega) (by omega));have bz:=Aa (E.Cr (r:=some i) bi);have dk:=O.o.size;clear z hc aj ad bi;go_wp2_with fail;refine cc.o.mono ?_;rintro e P⟨rfl,cl,am⟩;have bl:=Aa (E.fG 225 [] i (E.Am 9223372036854775807 (Cf l b k).2).1 _ P cl bg.o.2.2);have bs:=Aa (E.Al bz.o am);have ap:=am.size;rw[XC] at ap;have ar:=Aa ((am.block wr.heap.size (by simp) (by simp;omega)).trans bp.o);clear cl am q0 q1 q2 q3 q4 q5 q6 cc bp;go_wp2_with fail;refine bl.o.mono ?_;rintro e w5⟨rfl,cm,d⟩;have a1:E.Oi 225 [] w5 i (Cf l b (k+1)).2:=by rw[b8.o];exact cm
   have di:=d.size
   have cK:w5.cell? ⟨wr.heap.size,2,none⟩=some (.int .i64 c3):=by have h5:=(d.block wr.heap.size (by omega) (by simp;omega)).trans ar.o;simp[World.cell?,h5]
   have J:=E.Al bs.o d;have b0:=Aa ((J.block a.heap.size (by omega) (by simp;omega)).trans hg.o);have b6:=Aa ((J.block w.heap.size (by omega) (by simp;omega)).trans ac.o);have cb:=Aa (E.Dc ae.o (by omega) J);have bo:=Aa (E.Dc ab.o (by omega) J);have av:=Aa (E.Al O.o J);have ax:=Aa a1;have bq:Hid (Zc 169 #[.int .i64 c3,.string (E.str (Hl (Cf l b k).2).1)] w5 _):=Aa (ACm c3 (Hl (Cf l b k).2).1 w5 bg.o.1);rw[hL] at bq;clear hg ac ae ab O ao cm a1 d J ar bs bz bl hL;have f:(E.C8 (E.Am 9223372036854775807 (Cf l b k).2).1 (E.Am 9223372036854775807 (Cf l b k).2).2).1=(Hl (Cf l b k).2).1:=rfl;rw[f];clear f;go_wp2_with fail;refine bq.o.mono ?_;rintro e w3⟨va,vn,vc,ev,rfl,a2,y⟩;have az:=Aa a2;have a7:=Aa ((y.block a.heap.size (by omega)).trans b0.o);have U:=Aa ((y.block w.heap.size (by omega)).trans b6.o);have o:=Aa (E.Ad cb.o y);have R:=Aa (E.Ad bo.o y);have au:=Aa (E.Al av.o (E.Cr y));have aw:=Aa (ax.o.up y);have dh:=y.size;clear b0 b6 cb bo av ax a2 y cK;obtain⟨⟨s1,s2,⟨k1,n1,t1⟩,⟨k2,n2,t2⟩⟩,bk⟩:∃s,S.Iv L=s:=⟨_,rfl⟩
   have b1:Hid (∀W,Below w3.heap.size w3 W->Zc 167 #[.slice va vn vc] W λe w'=>e=.returned (.agg #[.int .i64 s1,.int .i64 s2,.int .i64 k1,.int .i64 n1,.string t1,.int .i64 k2,.int .i64 n2,.string t2])/\Below W.heap.size W w'):=Aa (λW hW=>by have X:=S.yU (.slice va vn vc) L W (az.o.up hW) ce;rw[bk] at X;exact X)
   have cw:Hid (Ga (l.take (k+1)) (Cf l b (k+1)).1=Ga (l.take k) (Cf l b k).1++[(s1,s2,(k1,n1,t1),(k2,n2,t2))]):=Aa (by rw[b7.o,bk]);have cg:a.heap.size<w3.heap.size:=by omega
   have a9:Hid (∀W,Below w3.heap.size w3 W->(W.cell? ⟨a.heap.size,0,none⟩=some (.int .i64 n0)/\W.cell? ⟨a.heap.size,1,none⟩=some (.slice sa k sc)/\W.cell? ⟨a.heap.size,2,none⟩=some (.slice ba k bc)/\W.frozen? ⟨a.heap.size,0,none⟩=false/\W.frozen? ⟨a.heap.size,1,none⟩=false/\W.frozen? ⟨a.heap.size,2,none⟩=false)):=Aa (λW hW=>J5 ((hW.block (a.heap.size) cg).trans a7.o));obtain⟨_,g1,g2,_,z1,z2⟩:=a9.o w3 (XB _ _);clear bk g2 z2;go_wp2_with fail
   go_region_law
    (first
      | (refine I6 (by rfl) 167 (.tmp 33) 62 (by rfl) (.slice va vn vc) (by rfl) br.o _ (b1.o _ (XB _ _).drew) ?_
         rintro e P⟨rfl,a0⟩;have aa:Below w3.heap.size w3 P:=Ap (XB _ _).drew a0;refine⟨_,rfl,?_⟩;obtain⟨_,p1,_,_,o1,_⟩:=a9.o P aa;have da:=Ag ((XB P.heap.size P).alloc (Y' _) (.cells #[.int .i64 s1,.int .i64 s2,.int .i64 k1,.int .i64 n1,.string t1,.int .i64 k2,.int .i64 n2,.string t2] 231)) p1;have ap:=aa.size;have c0:P.heap.size≠a.heap.size:=(λe=>by rw[e] at ap;omega))
      | (refine step_append_lies _ (by rfl) (.tmp 32) (.tmp 35) 157 (by rfl) (a.heap.size+1) 231 iS (.agg #[.int .i64 0,.int .i64 0,.int .i64 0,.int .i64 0,.string ⟨#[]⟩,.int .i64 0,.int .i64 0,.string ⟨#[]⟩]) 8 80 underlying157 ag.o.1 ag.o.2.1 ag.o.2.2.1 ag.o.2.2.2 rfl (by decide) (.slice sa k sc) k _ (by rfl) ((E.Ad o.o aa).alloc _) ⟨P.heap.size,0,none⟩ 1 1 [.int .i64 s1,.int .i64 s2,.int .i64 k1,.int .i64 n1,.string t1,.int .i64 k2,.int .i64 n2,.string t2] (by rfl) rfl (λj u hj=>XG (Y8 _ _) j u hj) (r9 (s1,s2,(k1,n1,t1),(k2,n2,t2))) (by omega) (by unfold maxLen;omega) (by omega) (by simp;omega) _ rfl ?_
         intro g G w5 bj d cf cj;have D:Hid (some (a.heap.size)≠(Value.slice sa k sc).ownBlock):=Aa (λe=>by have:=(o.o.lt _ e.symm).1;omega);have r1:=(d.cell_far ⟨a.heap.size,1,none⟩ (by simp;omega) D.o).trans (Ag Zal p1);have r2:=(d.frozen_far ⟨a.heap.size,1,none⟩ (by simp;omega) D.o).trans (((XB P.heap.size P).alloc (Y' _) (.cells #[.int .i64 s1,.int .i64 s2,.int .i64 k1,.int .i64 n1,.string t1,.int .i64 k2,.int .i64 n2,.string t2] 231)).frozen (p:=⟨a.heap.size,1,none⟩) (by show a.heap.size<_;omega) |>.trans o1))
      | fail)
   all_goals
    have h:Below w3.heap.size w3 (P.alloc (.cells #[.int .i64 s1,.int .i64 s2,.int .i64 k1,.int .i64 n1,.string t1,.int .i64 k2,.int .i64 n2,.string t2] 231)):=Ap aa Zal;have V:=Aa (E.Ad o.o h);have aq:=Aa (E.Ad R.o h);have af:a.heap.size+1<(P.alloc (.cells #[.int .i64 s1,.int .i64 s2,.int .i64 k1,.int .i64 n1,.string t1,.int .i64 k2,.int .i64 n2,.string t2] 231)).heap.size:=by simp;omega
    have I:=(d.block (a.heap.size) (by omega) D.o).trans ((h.block (a.heap.size) cg).trans a7.o);have Y:=(d.block w.heap.size (by omega) (λe=>by have:=(o.o.lt _ e.symm).1;omega)).trans ((h.block w.heap.size (by omega)).trans U.o);have M:=E.Ar w5 (a.heap.size) 1 (.slice (some ⟨g,0,none⟩) (k+1) G);have a8:=Aa (heap_setCell_same w5 (a.heap.size) 1 _ 160 (.slice (some ⟨g,0,none⟩) (k+1) G) I);have bd:=Aa ((M.block w.heap.size (by have:=d.size;omega) (by simp;omega)).trans Y);have ay:=Aa (bj.kept M (.inr (λe=>by have:=(bj.lt _ e).1;omega)))
    have n:=Aa ((E.C2 aq.o V.o (by decide) d).kept M (by
     cases hob:(Value.slice ba k bc).ownBlock with
     | none=>exact .inl rfl
     | some q=>exact .inr (λe=>by injection e with e;have:=(R.o.lt q hob).1;omega)))
    have bw:=Aa (E.C0 (E.Hj (E.Al au.o (E.Cr h)) V.o (by omega) d) (g:=a.heap.size) (j:=1) (by omega) (.slice (some ⟨g,0,none⟩) (k+1) G));have b3:Hid (E.Oi 225 [] (w5.setCell ⟨a.heap.size,1,none⟩ (.slice (some ⟨g,0,none⟩) (k+1) G)) i (Cf l b (k+1)).2):=Aa ((M.block i (by have:=d.size;omega) (by simp;omega)).trans ((d.block i (by omega) (λe=>by have:=(o.o.lt _ e.symm).1;omega)).trans (aw.o.up h)));have dc:a.heap.size+1<(w5.setCell ⟨a.heap.size,1,none⟩ (.slice (some ⟨g,0,none⟩) (k+1) G)).heap.size:=by have:=d.size;have:=M.size;omega
    clear I Y M V aq h af r1 r2 bj d cf cj p1 da o1 aa a0 ap c0 D;generalize w5.setCell ⟨a.heap.size,1,none⟩ (.slice (some ⟨g,0,none⟩) (k+1) G)=w6 at *;simp only[XK,X6,XS] at a8;obtain⟨_,_,de,_,_,dm⟩:=J5 a8.o;generalize cn:E.str (Hl (Cf l b k).2).1=sb at *;have cv:=Aa cn;clear cn b1 a9 a7 U o R au aw az g1 z1;have db:¬a.heap.size=w6.heap.size:=by omega
    go_wp2_with (at_builtin;refine wpList_append_own _ rfl _ _ 158 rfl (a.heap.size+1) 9 iT (.string ⟨#[]⟩) 1 16 underlying158 ah.o.1 ah.o.2.1 ah.o.2.2.1 ah.o.2.2.2 rfl (by decide) _ _ _ rfl (n.o.alloc _) ⟨w6.heap.size,0,none⟩ 1 1 [.string sb] rfl rfl (λj u hj=>XG (Y8 _ _) j u hj) (by simp[Value.oneCell']) ?d3 ?d4 ?d5 ?_)
    case d3=>unfold maxLen;omega
    case d4=>omega
    case d5=>first|omega|(simp;omega)
    intro v7 w7 an t _;obtain⟨g7,x,rfl,_,_⟩:=an.form (by omega);have h:Below w6.heap.size w6 (w6.alloc (.cells #[Zt sb] 9)):=Zal;have af:a.heap.size+1<(w6.alloc (.cells #[Zt sb] 9)).heap.size:=by simp;omega
    have D:Hid (some (a.heap.size)≠(Value.slice ba k bc).ownBlock):=Aa (λe=>by have:=(n.o.lt _ e.symm).1;omega);have I:=(t.block (a.heap.size) (by omega) D.o).trans ((h.block (a.heap.size) (by omega)).trans a8.o);have Y:=(t.block w.heap.size (by omega) (λe=>by have:=(n.o.lt _ e.symm).1;omega)).trans ((h.block w.heap.size (by omega)).trans bd.o);obtain⟨_,_,p2,_,_,o2⟩:=J5 I;have N:=E.Ar w7 (a.heap.size) 2 (.slice (some ⟨g7,0,none⟩) (k+1) x);have bt:=Aa (heap_setCell_same w7 (a.heap.size) 2 _ 160 (.slice (some ⟨g7,0,none⟩) (k+1) x) I);simp only[XK,X6,XS] at bt;have bf:=Aa ((N.block w.heap.size (by have:=t.size;omega) (by simp;omega)).trans Y);have bm:=Aa (an.kept N (.inr (λe=>by have:=(an.lt _ e).1;omega)));have b9:=Aa ((E.C2 (E.Ad ay.o h) (n.o.alloc (.cells #[Zt sb] 9)) (by decide) t).kept N (.inr (λe=>by have:=(ay.o.lt _ e).1;omega)));have bx:=Aa (E.C0 (E.Hj (E.Al bw.o (E.Cr h)) (n.o.alloc (.cells #[Zt sb] 9)) (by omega) t) (g:=a.heap.size) (j:=2) (by omega) (.slice (some ⟨g7,0,none⟩) (k+1) x));have b4:Hid (E.Oi 225 [] (w7.setCell ⟨a.heap.size,2,none⟩ (.slice (some ⟨g7,0,none⟩) (k+1) x)) i (Cf l b (k+1)).2):=Aa ((N.block i (by have:=t.size;omega) (by simp;omega)).trans ((t.block i (by omega) (λe=>by have:=(n.o.lt _ e.symm).1;omega)).trans (b3.o.up h)));have cp:a.heap.size+1<=(w7.setCell ⟨a.heap.size,2,none⟩ (.slice (some ⟨g7,0,none⟩) (k+1) x)).heap.size:=by have:=t.size;have:=N.size;omega
    clear I Y N t an h af;go_wp2;refine⟨⟨k+1,by omega,by go_num,⟨_,_,bt,Aa ?_,Aa ?_⟩,bf,b4,bg.o.2.1,bx,cp⟩,by simp[intOf];omega⟩
    ·rw[cw.o,XQ];exact b9.o
    rw[cs.o,XQ];have e:[(Hl (Cf l b k).2).1].flatMap Mc=[.string sb]:=by rw[<-cv.o];rfl
    rw[e];exact bm.o
  have ek:k=l.length:=by omega
  have cz:¬(k:Int)<(l.length:Int):=by omega
  obtain⟨g0,g1,g2,_,_,_⟩:=J5 hg.o;obtain⟨y0,y1,y2,z0,z1,z2⟩:=J5 ac.o;have f:Cf l b k=Dk l b:=by unfold Cf;rw[ek,Yf]
  have ca:Hid (wr.ownsRow (a.heap.size+1) 231 8 (.slice sa k sc) l.length ((Cd l s).1.2.1.flatMap encS)):=Aa (by have X:=ae.o;rw[f,Yd (by omega)] at X;rw[ai.o,<-ek];exact X);have bn:Hid (wr.ownsRow (a.heap.size+1) 9 1 (.slice ba k bc) l.length ((Cd l s).1.2.2.flatMap Mc)):=Aa (by have X:=ab.o;rw[f] at X;rw[ai.o,<-ek];exact X);have b5:Hid (E.Oi 225 [] wr i (Cd l s).2):=Aa (by have X:=ao.o;rw[f] at X;rw[ai.o];exact X);have cu:Hid ((Cd l s).1.1=n0):=Aa (by rw[ai.o]);have dd:=O.o.size;clear ek ae ab ao f;go_wp2;refine bodyPost_ret (v:=.agg #[.int .i64 n0,.slice sa k sc,.slice ba k bc]) (by simp[results,results164,go_sem,y0,y1,y2]) rfl ⟨_,_,by rw[cu.o],?_,?_,?_,?_⟩
  ·exact E.Ai (ABc ca.o (by omega) _ _ _) (by omega)
  ·exact E.Ai (ABc bn.o (by omega) _ _ _) (by omega)
  ·exact((E.Ar _ w.heap.size 2 _).block i (by have:=(E.Ar wr w.heap.size 0 (.int .i64 n0)).size;have:=(E.Ar (wr.setCell ⟨w.heap.size,0,none⟩ (.int .i64 n0)) w.heap.size 1 (.slice sa k sc)).size;omega) (by simp;omega)).trans (((E.Ar _ w.heap.size 1 _).block i (by have:=(E.Ar wr w.heap.size 0 (.int .i64 n0)).size;omega) (by simp;omega)).trans (((E.Ar _ w.heap.size 0 _).block i (by omega) (by simp;omega)).trans b5.o))
  exact E.C0 (E.C0 (E.C0 O.o (Y' _) _) (Y' _) _) (Y' _) _
theorem aQ{most:Nat}(s:E.St):(E.Am most s).1<=most:=by
 unfold E.Am;split
 ·exact XF _
 rename_i h;simp only[E.Ra,WQ,decide_eq_true_eq,not_or] at h;omega
def AIR(s:E.St):Aj×E.St:=(qN (E.Am 1099511627776 s).1 (E.Am 2 (E.Am 1099511627776 s).2).1,(E.Am 2 (E.Am 1099511627776 s).2).2)
theorem Xn:∀(k:Nat)(s:E.St),Ca (k+1) s=((Ca k s).1++[(AIR (Ca k s).2).1],(AIR (Ca k s).2).2)
 | 0,_=>rfl
 | k+1,s=>by have h:=Xn k (E.Am 2 (E.Am 1099511627776 s).2).2;rw[Ca,h];rfl
theorem Rz:∀(k:Nat)(s:E.St),(Ca k s).1.length=k
 | 0,_=>rfl
 | k+1,s=>by rw[Ca];simp[Rz k]
theorem Ql(l:List Aj):∀(k:Nat)(s:E.St),Bb l (k+1) s=((Bb l k s).1++[(Cd l (Bb l k s).2).1],(Cd l (Bb l k s).2).2)
 | 0,_=>rfl
 | k+1,s=>by have h:=Ql l k (Cd l s).2;rw[Bb,h];rfl
theorem Kr(l:List Aj):∀(k:Nat)(s:E.St),(Bb l k s).1.length=k
 | 0,_=>rfl
 | k+1,s=>by rw[Bb];simp[Kr l k]
theorem Mb:∀(l:List Aj){s:E.St}{n:Nat},s.1.length<=n->(Dk l s).2.1.length<=n/\∀b∈(Dk l s).1,b.length<=n
 | [],_,_,h=>⟨h,by simp[Dk]⟩
 | _ :: l,s,n,h=>by
   obtain⟨c,d,_⟩:=Xq h;obtain⟨e,f⟩:=Mb l d;refine⟨e,λb a=>?_⟩;simp only[Dk,WD] at a
   rcases a with rfl|a
   ·exact c
   exact f b a
theorem Qo(l:List Aj)(h:s.1.length<=n):(Cd l s).2.1.length<=n:=(Mb l (Ee h)).1
theorem uL(l:List Aj)(s:E.St):(Cd l s).1.2.1.length=l.length/\(Cd l s).1.2.2.length=l.length:=by have h:=Pj l (E.Am 6 s).2;exact⟨by simp[Cd,Ga,h],by simp[Cd,h]⟩
theorem Ii{B e z n b:Nat}{xs:List Tv}(h:w.ownsRow B e z v n xs)(a:b<B)(c:w.grownBy W (some b)):W.ownsRow B e z v n xs:=E.Dc h a c
theorem y9(i:Nat)(s:List UInt8)(w:Tw)(hr:E.Oi 225 [] w i (s,false))(hs:s.length<=1000000):
 Zc 110 #[.pointer (some ⟨i,0,none⟩)] w λe w'=>∃cv gv,e=.returned (.agg #[cv,gv])/\Hm w' cv gv (G0 s).1/\E.Oi 225 [] w' i (G0 s).2/\w.grownBy w' (some i):=by
 obtain⟨cs,hX,hY,hB⟩:=Kt w (.cells #[.slice none 0 0,.slice none 0 0] 105) (.cells #[.slice none 0 0,.slice none 0 0] 105);have HU:=Aa (E.Jo 225 [] i 8 (s,false) _ (hr.up hB) hs (by omega) (by omega));have ds:=hr.lt;have dg:=aQ (most:=8) (s,false);have dm:(E.Am 8 (s,false)).2.1.length<=1000000:=Ee hs;have bd:Hid (G0 s=(((Ca (E.Am 8 (s,false)).1 (E.Am 8 (s,false)).2).1,(Rr (Ca (E.Am 8 (s,false)).1 (E.Am 8 (s,false)).2).1 (Ca (E.Am 8 (s,false)).1 (E.Am 8 (s,false)).2).2).1),(Rr (Ca (E.Am 8 (s,false)).1 (E.Am 8 (s,false)).2).1 (Ca (E.Am 8 (s,false)).1 (E.Am 8 (s,false)).2).2).2)):=Aa rfl;simp only[XT] at dg;generalize (E.Am 8 (s,false)).1=N at *;generalize (E.Am 8 (s,false)).2=J at *;obtain⟨iC,ci,cx,az,a1⟩:=info_parts Kh;have al:=Zy ci cx az a1;obtain⟨iG,cj,cy,a0,a2⟩:=info_parts AGV;have am:=Zy cj cy a0 a2;have c0:Hid (∀args w,(callFunc 163 args).run prog w=.ok (.enter 163 args) w):=Aa (enters_of func163 (by kernel_rfl) rfl);have HX:=Aa hX;have HY:=Aa hY;have HB:=Aa hB;have ao:=Aa cs;clear hX hY hB cs ci cx az a1 cj cy a0 a2 hr;go_enter func110,ntmps110;go_wp2_with fail;refine HU.o.mono ?_;rintro e w1⟨rfl,co,ae⟩;have cr:=ae.size;rw[ao.o] at cr;have a6:=Aa ((ae.block w.heap.size (by rw[ao.o];omega) (by simp;omega)).trans HX.o);have c1:=Aa ((ae.block (w.heap.size+1) (by rw[ao.o];omega) (by simp;omega)).trans HY.o);have b4:=Aa co;have bz:=Aa (E.Al (E.Cr HB.o (r:=some i)) ae);clear co ae HU HX HY HB ao;go_wp2
 go_loopw [7] (λvi wr=>∃k:Nat,k<=N/\vi=.int .i64 k/\(∃cv,Hid (wr.heap[w.heap.size+1]? = some (.cells #[cv,.slice none 0 0] 105))/\Hid (wr.ownsRow (w.heap.size+2) 60 7 cv k ((Ca k J).1.flatMap Cc)))/\Hid (wr.heap[w.heap.size]? = some (.cells #[.slice none 0 0,.slice none 0 0] 105))/\Hid (E.Oi 225 [] wr i (Ca k J).2)/\(Ca k J).2.1.length<=1000000/\Hid (w.grownBy wr (some i))/\w.heap.size+2<=wr.heap.size) (λvi _=>N-(intOf vi).toNat)
 case atStart=>exact⟨0,XF _,rfl,⟨_,c1,Aa (XO _ _ _ _)⟩,a6,b4,dm,bz,cr⟩
 case round=>
  obtain⟨k,hk,rfl,⟨cv,hf,n⟩,a,y,R,P,dp⟩:=hrel;obtain⟨U,V,rfl,_⟩:=E.Ak n.o
  by_cases hlt:k<N
  ·have dj:(k:Int)<(N:Int):=by omega
   have T:=Aa (Xn k J);have b9:=Aa (E.Jo 225 [] i 1099511627776 (Ca k J).2 wr y.o R (by omega) (by omega));have ay:(E.Am 1099511627776 (Ca k J).2).2.1.length<=1000000:=Ee R;have bg:Hid ((Ca (k+1) J).2.1.length<=1000000):=Aa (by rw[T.o];exact Ee ay);have bw:Hid ((Ca (k+1) J).1.flatMap Cc=(Ca k J).1.flatMap Cc++[.int .i64 (E.Am 1099511627776 (Ca k J).2).1,.string ⟨#[]⟩,.int .i64 (E.Am 2 (E.Am 1099511627776 (Ca k J).2).2).1,.bool false,.int .i64 0,.int .i64 0,.string ⟨#[]⟩]):=Aa (by rw[T.o,XQ];rfl);have c8:Hid ((Ca (k+1) J).2=(E.Am 2 (E.Am 1099511627776 (Ca k J).2).2).2):=Aa (by rw[T.o];rfl);generalize (E.Am 1099511627776 (Ca k J).2).1=aj at *;generalize (E.Am 1099511627776 (Ca k J).2).2=sB at *;go_wp2_with fail;refine b9.o.mono ?_;rintro e w4⟨rfl,cp,Y⟩;have dt:=Y.size;have c2:=Aa ((Y.block (w.heap.size+1) (by omega) (by simp;omega)).trans hf.o);have a7:=Aa ((Y.block w.heap.size (by omega) (by simp;omega)).trans a.o);have L:=Aa (Ii n.o (by omega) Y);have b0:=Aa (E.Al P.o Y);have O:Zb w4 w4.drew:=(XB _ _).drew;have c9:=Aa (E.Jo 225 [] i 2 sB w4.drew (cp.up O) ay (by omega) (by omega));have a3:=Aa (E.Cr (r:=some i) O)
   have ab:Hid (∀W,w4.grownBy W (some i)->W.cell? ⟨w.heap.size+1,0,none⟩=some (.slice U k V)/\W.frozen? ⟨w.heap.size+1,0,none⟩=false/\W.heap[w.heap.size+1]? = some (.cells #[.slice U k V,.slice none 0 0] 105)):=Aa (λW hW=>by have h:=(hW.block (w.heap.size+1) (by omega) (by simp;omega)).trans c2.o;exact⟨(Hg h).1,Yab W (w.heap.size+1) 0 _ _ h,h⟩)
   obtain⟨g1,z1,_⟩:=ab.o w4 (E.G2 _ _);have b8:Hid (∀W,E.Oi 225 [] W i (E.Am 2 sB).2->E.Oi 225 [] W i (Ca (k+1) J).2):=Aa (λW h=>by rw[c8.o];exact h);generalize (E.Am 2 sB).1=ak at *;clear hf a n P y cp Y O b9;go_wp2_with fail
   go_region_law
    (first
      | (refine Gc (by rfl) 163 (.tmp 14) (.const (.int .i64 2)) 228 3 (by rfl) (.pointer (some ⟨i,0,none⟩)) (.int .i64 2) (by rfl) (by rfl) c0.o _ c9.o ?_
         rintro e w5⟨rfl,ag,aw⟩;have l:=E.Al a3.o aw;refine⟨_,rfl,?_⟩;obtain⟨p1,o1,cd⟩:=ab.o w5 l;have bq:=Ag ((XB w5.heap.size w5).alloc (Y' _) (.cells #[Zi aj,.string ⟨#[]⟩,Zi ak,.bool false,.int .i64 0,.int .i64 0,.string ⟨#[]⟩] 60)) p1;have bl:=l.size;have dk:w5.heap.size≠w.heap.size+1:=(λe=>by rw[e] at bl;omega))
      | (refine step_append_lies _ (by rfl) (.tmp 12) (.tmp 17) 33 (by rfl) (w.heap.size+2) 60 iC L6 7 72 underlying33 al.o.1 al.o.2.1 al.o.2.2.1 al.o.2.2.2 rfl (by decide) (.slice U k V) k _ (by rfl) ((Ii L.o (by omega) l).alloc _) ⟨w5.heap.size,0,none⟩ 1 1 [.int .i64 aj,.string ⟨#[]⟩,.int .i64 ak,.bool false,.int .i64 0,.int .i64 0,.string ⟨#[]⟩] (by rfl) rfl (λj u hj=>XG (Y8 _ _) j u hj) (by simp[Value.oneCell']) (by omega) (by unfold maxLen;omega) (by omega) (by simp;omega) _ rfl ?_
         intro g d w6 bk t cg cl;have D:Hid (some (w.heap.size+1)≠(Value.slice U k V).ownBlock):=Aa (λe=>by have:=(L.o.lt _ e.symm).1;omega);have r1:=(t.cell_far ⟨w.heap.size+1,0,none⟩ (by simp;omega) D.o).trans (Ag Zal p1);have r2:=(t.frozen_far ⟨w.heap.size+1,0,none⟩ (by simp;omega) D.o).trans (((XB w5.heap.size w5).alloc (Y' _) (.cells #[Zi aj,.string ⟨#[]⟩,Zi ak,.bool false,.int .i64 0,.int .i64 0,.string ⟨#[]⟩] 60)).frozen (p:=⟨w.heap.size+1,0,none⟩) (by show w.heap.size+1<_;omega) |>.trans o1))
      | fail)
   all_goals
    have f:Zb w5 (w5.alloc (.cells #[Zi aj,.string ⟨#[]⟩,Zi ak,.bool false,.int .i64 0,.int .i64 0,.string ⟨#[]⟩] 60)):=Zal;have ar:=Aa (E.Ad (Ii L.o (by omega) l) f);have ah:w.heap.size+2<(w5.alloc (.cells #[Zi aj,.string ⟨#[]⟩,Zi ak,.bool false,.int .i64 0,.int .i64 0,.string ⟨#[]⟩] 60)).heap.size:=by simp;omega
    have X:=(t.block (w.heap.size+1) (by omega) D.o).trans ((f.block (w.heap.size+1) (by omega)).trans cd);have ad:=(t.block w.heap.size (by omega) (λe=>by have:=(L.o.lt _ e.symm).1;omega)).trans ((f.block w.heap.size (by omega)).trans ((l.block w.heap.size (by omega) (by simp;omega)).trans a7.o));have af:=E.Ar w6 (w.heap.size+1) 0 (.slice (some ⟨g,0,none⟩) (k+1) d);have bx:=Aa (heap_setCell_same w6 (w.heap.size+1) 0 _ 105 (.slice (some ⟨g,0,none⟩) (k+1) d) X);have a9:=Aa ((af.block w.heap.size (by have:=t.size;omega) (by simp)).trans ad);have bt:Hid ((w6.setCell ⟨w.heap.size+1,0,none⟩ (.slice (some ⟨g,0,none⟩) (k+1) d)).ownsRow (w.heap.size+2) 60 7 (.slice (some ⟨g,0,none⟩) (k+1) d) (k+1) ((Ca (k+1) J).1.flatMap Cc)):=Aa (by rw[bw.o];exact bk.kept af (.inr (λe=>by have:=(bk.lt _ e).1;omega)));have b2:=Aa (E.C0 (E.Hj (E.Al b0.o (E.Al l (E.Cr f))) ar.o (by omega) t) (g:=w.heap.size+1) (j:=0) (by omega) (.slice (some ⟨g,0,none⟩) (k+1) d));have b6:=Aa (b8.o _ ((af.block i (by have:=t.size;omega) (by simp;omega)).trans ((t.block i (by omega) (λe=>by have:=(L.o.lt _ e.symm).1;omega)).trans (ag.up f))));have cw:w.heap.size+2<=(w6.setCell ⟨w.heap.size+1,0,none⟩ (.slice (some ⟨g,0,none⟩) (k+1) d)).heap.size:=by have:=t.size;have:=af.size;omega
    clear X ad af ar f ah r1 r2 bk t cg cl p1 bq o1 l aw bl dk D ag cd;simp only[XK,XS] at bx;go_wp2;exact⟨⟨k+1,by omega,by go_num,⟨_,bx,bt⟩,a9,b6,bg.o,b2,cw⟩,by simp[intOf];omega⟩
  have ek:k=N:=by omega
  have dj:¬(k:Int)<(N:Int):=by omega
  rw[<-ek] at bd;clear ek;obtain⟨cols,G⟩:∃c,(Ca k J).1=c:=⟨_,rfl⟩;obtain⟨sC,bm⟩:∃c,(Ca k J).2=c:=⟨_,rfl⟩;have dh:cols.length=k:=by rw[<-G,Rz]
  rw[G,bm] at bd;rw[bm] at R y;rw[G] at n;clear G bm;subst dh;have cb:=Aa (E.Jo 225 [] i 60 sC wr y.o R (by omega) (by omega));have hM:=aQ (most:=60) sC;have dn:(E.Am 60 sC).2.1.length<=1000000:=Ee R;simp only[XT] at hM;have c6:Hid (Rr cols sC=Bb cols (E.Am 60 sC).1 (E.Am 60 sC).2):=Aa rfl;generalize (E.Am 60 sC).1=M at *;generalize (E.Am 60 sC).2=o at *;go_wp2_with fail;refine cb.o.mono ?_;rintro e w5⟨rfl,ag,l⟩;have bl:=l.size;have c3:=Aa ((l.block (w.heap.size+1) (by omega) (by simp;omega)).trans hf.o);have a8:=Aa ((l.block w.heap.size (by omega) (by simp;omega)).trans a.o);have bs:=Aa (Ii n.o (by omega) l);have b1:=Aa (E.Al P.o l);have b5:=Aa ag;clear hf a n P y ag l cb;have cz:Hid (∀args w,(callFunc 164 args).run prog w=.ok (.enter 164 args) w):=Aa (enters_of func164 (by kernel_rfl) rfl);have cu:w.heap.size+2<=w5.heap.size:=by omega
  go_wp2
  go_loopw [23] (λvi wr=>∃j:Nat,j<=M/\vi=.int .i64 j/\(∃gv,Hid (wr.heap[w.heap.size+1]? = some (.cells #[.slice U cols.length V,gv] 105))/\Hid (Wn (w.heap.size+2) wr gv (Bb cols j o).1))/\Hid (wr.ownsRow (w.heap.size+2) 60 7 (.slice U cols.length V) cols.length (cols.flatMap Cc))/\Hid (wr.heap[w.heap.size]? = some (.cells #[.slice none 0 0,.slice none 0 0] 105))/\Hid (E.Oi 225 [] wr i (Bb cols j o).2)/\(Bb cols j o).2.1.length<=1000000/\Hid (w.grownBy wr (some i))/\w.heap.size+2<=wr.heap.size) (λvi _=>M-(intOf vi).toNat)
  case atStart=>exact⟨0,XF _,rfl,⟨_,c3,Aa (uW _ _)⟩,bs,a8,b5,dn,b1,cu⟩
  case round=>
   obtain⟨j,hj,rfl,⟨gv,hf,bj⟩,n,a,y,R,P,dp⟩:=hrel;have aa:=Kr cols j o;obtain⟨xs,aq,ai,bp⟩:=bj.o;rw[aa] at aq ai;obtain⟨xa,xc,rfl,_⟩:=E.Ak ai
   by_cases hlt:j<M
   ·have ck:(j:Int)<(M:Int):=by omega
    have T:=Aa (Ql cols j o);have ac:=Aa ai;have da:=Aa bp;have db:=Aa aq;have bg:Hid ((Bb cols (j+1) o).2.1.length<=1000000):=Aa (by rw[T.o];exact Qo cols R);have O:Zb wr wr.drew:=(XB _ _).drew;have c5:=Aa (iU i (Bb cols j o).2 (.slice U cols.length V) cols wr.drew (y.o.up O) (λW hW=>F7.Fz (k:=7) (enc:=Cc) (λ_=>rfl) (Ii (E.Ad n.o O) (b:=i) (by omega) hW) rfl) (by omega) R);have a3:=Aa (E.Cr (r:=some i) O)
    have ab:Hid (∀W,wr.grownBy W (some i)->W.cell? ⟨w.heap.size+1,0,none⟩=some (.slice U cols.length V)/\W.cell? ⟨w.heap.size+1,1,none⟩=some (.slice xa j xc)/\W.frozen? ⟨w.heap.size+1,1,none⟩=false/\W.heap[w.heap.size+1]? = some (.cells #[.slice U cols.length V,.slice xa j xc] 105)):=Aa (λW hW=>by have h:=(hW.block (w.heap.size+1) (by omega) (by simp;omega)).trans hf.o;exact⟨(Hg h).1,(Hg h).2,Yab W (w.heap.size+1) 1 _ _ h,h⟩)
    obtain⟨g0,g1,z1,_⟩:=ab.o wr (E.G2 _ _);have b7:=Aa y.o;have dr:=Aa hf.o;have bu:=Aa n.o;have c7:=Aa a.o;have c4:=Aa P.o;clear hf bj n a y P O aq ai bp aa;go_wp2_with fail
    go_region_law
     (first
       | (refine Gc (by rfl) 164 (.tmp 27) (.tmp 29) 228 33 (by rfl) (.pointer (some ⟨i,0,none⟩)) (.slice U cols.length V) (by rfl) (by rfl) cz.o _ c5.o ?_
          rintro e w8⟨sv,bv,rfl,bn,bh,cq,ax⟩;have I:=E.Al a3.o ax;obtain⟨sa,sc,df,_⟩:=E.Ak bn;obtain⟨ba,bc,dc,_⟩:=E.Ak bh;subst df dc;refine⟨_,rfl,?_⟩;obtain⟨_,p1,o1,ce⟩:=ab.o w8 I;have bq:=Ag ((XB w8.heap.size w8).alloc (Y' _) (.cells #[.int .i64 (Cd cols (Bb cols j o).2).1.1,Zs sa cols.length sc,Zs ba cols.length bc] 160)) p1;have ct:=I.size;have dl:w8.heap.size≠w.heap.size+1:=(λe=>by rw[e] at ct;omega))
       | (refine step_append_lies _ (by rfl) (.tmp 26) (.tmp 31) 103 (by rfl) (w.heap.size+2) 160 iG (.agg #[.int .i64 0,.slice none 0 0,.slice none 0 0]) 3 56 underlying103 am.o.1 am.o.2.1 am.o.2.2.1 am.o.2.2.2 rfl (by decide) (.slice xa j xc) j _ (by rfl) ((Ii ac.o (by omega) I).alloc _) ⟨w8.heap.size,0,none⟩ 1 1 [.int .i64 (Cd cols (Bb cols j o).2).1.1,Zs sa cols.length sc,Zs ba cols.length bc] (by rfl) rfl (λj u hj=>XG (Y8 _ _) j u hj) (by simp[Value.oneCell']) (by omega) (by unfold maxLen;omega) (by omega) (by simp;omega) _ rfl ?_
          intro g d w9 cn m ch cm;have D:Hid (some (w.heap.size+1)≠(Value.slice xa j xc).ownBlock):=Aa (λe=>by have:=(ac.o.lt _ e.symm).1;omega);have r1:=(m.cell_far ⟨w.heap.size+1,1,none⟩ (by simp;omega) D.o).trans (Ag Zal p1);have r2:=(m.frozen_far ⟨w.heap.size+1,1,none⟩ (by simp;omega) D.o).trans (((XB w8.heap.size w8).alloc (Y' _) (.cells #[.int .i64 (Cd cols (Bb cols j o).2).1.1,Zs sa cols.length sc,Zs ba cols.length bc] 160)).frozen (p:=⟨w.heap.size+1,1,none⟩) (by show w.heap.size+1<_;omega) |>.trans o1))
       | fail)
    all_goals
     have f:Zb w8 (w8.alloc (.cells #[.int .i64 (Cd cols (Bb cols j o).2).1.1,Zs sa cols.length sc,Zs ba cols.length bc] 160)):=Zal;have ap:=Aa (E.Ad (Ii ac.o (by omega) I) f);have ah:w.heap.size+2<(w8.alloc (.cells #[.int .i64 (Cd cols (Bb cols j o).2).1.1,Zs sa cols.length sc,Zs ba cols.length bc] 160)).heap.size:=by simp;omega
     have X:=(m.block (w.heap.size+1) (by omega) D.o).trans ((f.block (w.heap.size+1) (by omega)).trans ce);have ad:=(m.block w.heap.size (by omega) (λe=>by have:=(ac.o.lt _ e.symm).1;omega)).trans ((f.block w.heap.size (by omega)).trans ((I.block w.heap.size (by omega) (by simp;omega)).trans c7.o));have z:=E.Ar w9 (w.heap.size+1) 1 (.slice (some ⟨g,0,none⟩) (j+1) d);have au:=Aa (heap_setCell_same w9 (w.heap.size+1) 1 _ 105 (.slice (some ⟨g,0,none⟩) (j+1) d) X);have an:=Aa ((z.block w.heap.size (by have:=m.size;omega) (by simp)).trans ad)
     have br:=Aa ((E.C2 (E.Ad (Ii bu.o (by omega) I) f) ap.o (by decide) m).kept z (by
      cases hob:(Value.slice U cols.length V).ownBlock with
      | none=>exact .inl rfl
      | some q=>exact .inr (λe=>by injection e with e;have:=(bu.o.lt q hob).1;omega)))
     have bf:Hid (Wn (w.heap.size+2) (w9.setCell ⟨w.heap.size+1,1,none⟩ (.slice (some ⟨g,0,none⟩) (j+1) d)) (.slice (some ⟨g,0,none⟩) (j+1) d) (Bb cols (j+1) o).1):=Aa (by
      rw[T.o];have aa:=Kr cols j o;obtain⟨dd,de⟩:=uL cols (Bb cols j o).2;have hx:U7 (w8.alloc (.cells #[.int .i64 (Cd cols (Bb cols j o).2).1.1,Zs sa cols.length sc,Zs ba cols.length bc] 160)) ((Cd cols (Bb cols j o).2).1.1,.slice sa cols.length sc,.slice ba cols.length bc) (Cd cols (Bb cols j o).2).1:=⟨rfl,by rw[dd];exact(E.Ai bn (XF _)).alloc _,by rw[de];exact(E.Ai bh (XF _)).alloc _⟩
      have cf:=Wn.app (v':=.slice (some ⟨g,0,none⟩) (j+1) d) (gs:=(Bb cols j o).1) (by rw[aa];exact db.o) (by rw[aa];exact ap.o) (λj' x g' dq di=>((da.o j' x g' dq di).other I (λr cur fr e=>by injection e with e;subst e;have h':wr.heap[i]? = some _:=b7.o;rw[h'];constructor <;> (intro h;injection h with h;injection h with _ h _;revert h;decide))).up f) hx (by rw[aa];exact cn) m
      exact cf.kept z (λr e=>by injection e with e;subst e;exact⟨_,X,.inr ⟨_,rfl⟩⟩))
     have a4:=Aa (E.C0 (E.Hj (E.Al c4.o (E.Al I (E.Cr f))) ap.o (by omega) m) (g:=w.heap.size+1) (j:=1) (by omega) (.slice (some ⟨g,0,none⟩) (j+1) d))
     have a5:Hid (E.Oi 225 [] (w9.setCell ⟨w.heap.size+1,1,none⟩ (.slice (some ⟨g,0,none⟩) (j+1) d)) i (Bb cols (j+1) o).2):=Aa (by rw[T.o];exact(z.block i (by have:=m.size;omega) (by simp;omega)).trans ((m.block i (by omega) (λe=>by have:=(ac.o.lt _ e.symm).1;omega)).trans (cq.up f)))
     have bo:w.heap.size+2<=(w9.setCell ⟨w.heap.size+1,1,none⟩ (.slice (some ⟨g,0,none⟩) (j+1) d)).heap.size:=by have:=m.size;have:=z.size;omega
     clear X ad z ap f ah r1 r2 cn m ch cm p1 bq o1 I ax ct dl D cq ce bn bh;simp only[XK,X6,XS] at au;go_wp2;exact⟨⟨j+1,by omega,by go_num,⟨_,au,bf⟩,br,an,a5,bg.o,a4,bo⟩,by simp[intOf];omega⟩
   have ej:j=M:=by omega
   have ck:¬(j:Int)<(M:Int):=by omega
   have av:Hid (G0 s=((cols,(Bb cols j o).1),(Bb cols j o).2)):=Aa (by rw[bd.o,c6.o,ej]);obtain⟨f0,f1⟩:=Hg hf.o;obtain⟨y0,y1⟩:=Hg a.o;have z0:=Yab wr w.heap.size 0 _ _ a.o;have z1:=Yab wr w.heap.size 1 _ _ a.o;have bb:=Aa a.o;have b3:=Aa bj.o;clear ej aq ai bp;go_wp2;have bi:wr.grownBy ((wr.setCell ⟨w.heap.size,0,none⟩ (.slice U cols.length V)).setCell ⟨w.heap.size,1,none⟩ (.slice xa j xc)) (some w.heap.size):=E.Al (E.Ar wr w.heap.size 0 _) (E.Ar _ w.heap.size 1 _);refine bodyPost_ret (v:=.agg #[.slice U cols.length V,.slice xa j xc]) (by simp[results,results110,go_sem,y0,y1]) rfl ⟨_,_,rfl,?_,?_,?_⟩
   ·rw[av.o]
    exact⟨F7.Fz (k:=7) (enc:=Cc) (λ_=>rfl) (E.Dc n.o (by omega) bi) rfl,(b3.o.kept bi (λr e=>by injection e with e;subst e;exact⟨_,bb.o,.inr ⟨_,rfl⟩⟩)).slg⟩
   ·rw[av.o]
    exact(bi.block i (by omega) (by simp;omega)).trans y.o
   exact E.C0 (E.C0 P.o (Y' _) _) (Y' _) _
def Kx(r:Option s9)(w:World)(e:Ending)(a:World):Prop:=match r with
 | none=>e=.returned (.tuple #[.agg #[.slice none 0 0,.slice none 0 0],.iface 47 (Zi 3)])/\Zb w a
 | some f=>∃b c,e=.returned (.tuple #[.agg #[b,c],.nilIface])/\Hm a b c f/\Zb w a
theorem Pn(l:List Aj):∀(k:Nat){s:E.St}{n:Nat},s.1.length<=n->(Bb l k s).2.1.length<=n/\∀g∈(Bb l k s).1,∀b∈g.2.2,b.length<=n
 | 0,_,_,h=>⟨h,by simp[Bb]⟩
 | k+1,s,n,h=>by
   obtain⟨c,d⟩:=Pn l k (Qo l h);refine⟨c,λg a=>?_⟩;simp only[Bb,WD] at a
   rcases a with rfl|a
   ·exact(Mb l (Ee h)).2
   exact d g a
theorem Ui:∀(k:Nat){s:E.St}{n:Nat},s.1.length<=n->(Ca k s).2.1.length<=n
 | 0,_,_,h=>h
 | k+1,s,n,h=>by rw[Ca];exact Ui k (Ee (Ee h))
theorem AAV(s:List UInt8):(G0 s).1.1.length<=8/\(G0 s).1.2.length<=60/\∀g∈(G0 s).1.2,∀b∈g.2.2,b.length<=s.length:=by
 have c:=aQ (most:=8) (s,false);simp only[XT] at c;refine⟨?_,?_,?_⟩
 ·show (Ca _ _).1.length<=8
  rw[Rz];exact c
 ·have a:=aQ (most:=60) (Ox s).2
  simp only[XT] at a;show (Bb _ _ _).1.length<=60;rw[Kr];exact a
 exact(Pn _ _ (Ee (Ui _ (Ee (s:=(s,false)) (Y' _))))).2
theorem F7.far{α:Type}{k:Nat}{enc:α->List Tv}(o:∀x,∃u t,enc x=u :: t/\u≠Zs none 0 0){w W:Tw}{v:Tv}{l:List α}{n:Nat}{T:TypeId}(h:F7 k enc w v l)(G:w.heap[n]? = some (Zk #[Zs none 0 0,Zs none 0 0] T))(s:w.grownBy W (some n)):F7 k enc W v l:=by
 obtain⟨a,c,e,I,J⟩:=h;refine⟨a,c,e,I,λy=>?_⟩;obtain⟨b,off,z,g,d⟩:=J y
 have m:b≠n:=by
  rintro rfl;obtain⟨x,t,rfl⟩:=List.exists_cons_of_ne_nil y;obtain⟨u,r,D,p⟩:=o x;have f:=d 0 x rfl 0 u (by rw[D];rfl);simp only[World.cell?,G] at f
  have:u=Zs none 0 0:=by
   generalize off+0*k+0=q at f
   rcases q with _|_|q
   ·simpa using f.symm
   ·simpa using f.symm
   simp at f
  exact p this
 exact⟨b,off,z,Ya g s.size,λj x L i u p=>(s.cell_far ⟨b,off+j*k+i,none⟩ g (by simp;exact m)).trans (d j x L i u p)⟩
theorem Hm.far{w W:Tw}{v u:Tv}{f:s9}{n:Nat}{T:TypeId}(h:Hm w v u f)(a:w.heap[n]? = some (Zk #[Zs none 0 0,Zs none 0 0] T))(b:w.grownBy W (some n)):Hm W v u f:=by obtain⟨c,xs,d,e,i⟩:=h;refine⟨c.far (λx=>⟨_,_,rfl,by simp⟩) a b,xs,d.far (λx=>⟨_,_,rfl,by simp⟩) a b,e,λj x g hx hg'=>?_⟩;obtain⟨k,l,m⟩:=i j x g hx hg';exact⟨k,l.far (λx=>⟨_,_,rfl,by simp⟩) a b,m.far (λx=>⟨_,_,rfl,by simp⟩) a b⟩
theorem Vf(s:List UInt8)(w:Tw)(hs:s.length<=1000000)(hw:Lw w)(hg:Ob w):
 Zc 67 #[Zt (E.str s)] w (Kx (Kj s) w):=by
 obtain⟨V,x,ag⟩:=AAV s;have O:=Aa (λg hg b hb=>XV (ag g hg b hb) hs);have al:=Aa hw;have aj:=Aa hg;clear ag hw hg;have ae:Below w.heap.size w (w.alloc (Zk #[Zs none 0 0,Zs none 0 0] 105)):=Zal;have T:=Aa (Y8 w (Zk #[Zs none 0 0,Zs none 0 0] 105));have z:Hid (Kj s=if (G0 s).2.2=true then none else if Jn (G0 s).1=some s then some (G0 s).1 else none):=Aa rfl;obtain⟨⟨cols,gs⟩,W⟩:∃f,(G0 s).1=f:=⟨_,rfl⟩;obtain⟨st,ah⟩:∃f,(G0 s).2=f:=⟨_,rfl⟩;have R:=Aa (λrb w hr=>y9 rb s w hr hs);rw[W,ah] at R z;rw[W] at O V x;dsimp only at O V x;clear W ah;have ai:=Aa ae;clear ae;go_enter func67,ntmps67;go_wp2_with fail;refine(E.qM (E.str s) _).mono ?_;rintro e Y⟨rfl,D⟩;have an:=D.size;rw[XC] at an;have U:Below Y.heap.size Y (Y.alloc (Zk #[Zt (E.str s),Zo false] 225)):=Zal;have ac:=Aa (R.o Y.heap.size (Y.alloc (Zk #[Zt (E.str s),Zo false] 225)) (Y8 Y _));have aa:=Aa (Ap (Ap ai.o D) U);have r:=Aa (((Ap D U).block w.heap.size (by simp)).trans T.o);clear D U;go_wp2_with fail;refine ac.o.mono ?_;rintro e o⟨cv,gv,rfl,hF,X,n⟩;obtain⟨G,I,rfl,_⟩:=hF.1.slice;obtain⟨J,L,rfl,_⟩:=hF.2.slice;dsimp only at hF X ⊢;have ao:=n.size;rw[XC] at ao;have af:Below w.heap.size w o:=aa.o.grown n (by simp;omega) (λk e=>by injection e with e;omega);have t:=Aa ((n.block w.heap.size (by simp;omega) (by simp;omega)).trans r.o);have m:Below o.heap.size o (o.alloc (Zk #[Zs G cols.length I,Zs J gs.length L] 105)):=Zal;have y:=Aa (Y8 o (Zk #[Zs G cols.length I,Zs J gs.length L] 105));have c:=Aa ((m.block w.heap.size (by omega)).trans t.o);have j:=Aa (Ap af m);have ad:=Aa (E.cX 225 [] Y.heap.size st _ (X.up m));have u:=Aa (lH _ _ cols gs _ (hF.up m) V O.o x (al.o.below j.o) (aj.o.below j.o));have ak:=Aa (hF.up m);obtain⟨sr,sq⟩:=st;obtain⟨f0,f1⟩:=Hg y.o;obtain⟨y0,y1⟩:=Hg c.o;have z0:=Yab _ w.heap.size 0 _ _ c.o;have z1:=Yab _ w.heap.size 1 _ _ c.o;have M:w.heap.size<(o.alloc (Zk #[Zs G cols.length I,Zs J gs.length L] 105)).heap.size:=by simp;omega
 have N:o.heap.size<(o.alloc (Zk #[Zs G cols.length I,Zs J gs.length L] 105)).heap.size:=by simp
 have l:=Aa (Yad M N);clear hF X n af m t r ac aa M N;cases sq with
 | true=>have P:Hid (Kj s=none):=Aa (by rw[z.o];rfl);have i:=Aa j.o;go_wp2_with fail;generalize o.alloc (Zk #[Zs G cols.length I,Zs J gs.length L] 105)=W3 at *;refine ad.o.mono ?_;rintro e w3⟨rfl,rfl⟩;go_wp2;refine bodyPost_ret (v:=Zu #[Zg #[Zs none 0 0,Zs none 0 0],Zf 47 (Zi 3)]) (by simp[results,results67,go_sem,y0,y1]) rfl ?_;rw[P.o];exact⟨rfl,(i.o.setCell (p:=⟨w.heap.size,0,none⟩) (Y' _) _).setCell (p:=⟨w.heap.size,1,none⟩) (Y' _) _⟩
 | false=>
   have q:Hid (Kj s=if Jn (cols,gs)=some s then some (cols,gs) else none):=Aa (by rw[z.o];rfl);clear z R;go_wp2_with fail;generalize o.alloc (Zk #[Zs G cols.length I,Zs J gs.length L] 105)=W3 at *;refine ad.o.mono ?_;rintro e w3⟨rfl,rfl⟩;cases hwr:Jn (cols,gs) with
   | none=>rw[hwr] at u q;have P:Hid (Kj s=none):=Aa (by rw[q.o];simp);clear hwr;go_wp2_with fail;refine u.o.mono ?_;rintro e w4⟨rfl,d⟩;have a:=(d.block w.heap.size l.o.1).trans c.o;have h:=(d.block o.heap.size l.o.2).trans y.o;obtain⟨y0,y1⟩:=Hg a;obtain⟨f0,f1⟩:=Hg h;have z0:=Yab _ w.heap.size 0 _ _ a;have z1:=Yab _ w.heap.size 1 _ _ a;have i:=Aa (Ap j.o d);go_wp2;refine bodyPost_ret (v:=Zu #[Zg #[Zs none 0 0,Zs none 0 0],Zf 47 (Zi 3)]) (by simp[results,results67,go_sem,y0,y1]) rfl ?_;rw[P.o];exact⟨rfl,(i.o.setCell (p:=⟨w.heap.size,0,none⟩) (Y' _) _).setCell (p:=⟨w.heap.size,1,none⟩) (Y' _) _⟩
   | some b=>
     rw[hwr] at u q;clear hwr
     by_cases hbs:b=s
     ·subst hbs
      have P:Hid (Kj b=some (cols,gs)):=Aa (by rw[q.o];simp);go_wp2_with fail;refine u.o.mono ?_;rintro e w4⟨rfl,d⟩;have a:=(d.block w.heap.size l.o.1).trans c.o;have h:=(d.block o.heap.size l.o.2).trans y.o;obtain⟨y0,y1⟩:=Hg a;obtain⟨f0,f1⟩:=Hg h;have z0:=Yab _ w.heap.size 0 _ _ a;have z1:=Yab _ w.heap.size 1 _ _ a;have i:=Aa (Ap j.o d);have ab:=Aa (ak.o.up d);have aq:=d.size;go_wp2;have n:w4.grownBy ((w4.setCell ⟨w.heap.size,0,none⟩ (Zs G cols.length I)).setCell ⟨w.heap.size,1,none⟩ (Zs J gs.length L)) (some w.heap.size):=E.Al (E.Ar w4 w.heap.size 0 _) (E.Ar _ w.heap.size 1 _);have am:=ab.o.far a n;refine bodyPost_ret (v:=Zu #[Zg #[Zs G cols.length I,Zs J gs.length L],Zn]) (by simp[results,results67,go_sem,y0,y1]) rfl ?_;rw[P.o];exact⟨_,_,rfl,am,(i.o.setCell (p:=⟨w.heap.size,0,none⟩) (Y' _) _).setCell (p:=⟨w.heap.size,1,none⟩) (Y' _) _⟩
     have P:Hid (Kj s=none):=Aa (by rw[q.o];simp[hbs])
     have ap:((E.str b).toList==(E.str s).toList)=false:=by rw[beq_eq_false_iff_ne];intro e;rw[ByteArray.toList_eq,ByteArray.toList_eq] at e;exact hbs (by simpa[E.str] using e)
     clear hbs;go_wp2_with fail;refine u.o.mono ?_;rintro e w4⟨rfl,d⟩;have a:=(d.block w.heap.size l.o.1).trans c.o;have h:=(d.block o.heap.size l.o.2).trans y.o;obtain⟨y0,y1⟩:=Hg a;obtain⟨f0,f1⟩:=Hg h;have z0:=Yab _ w.heap.size 0 _ _ a;have z1:=Yab _ w.heap.size 1 _ _ a;have i:=Aa (Ap j.o d);go_wp2;refine bodyPost_ret (v:=Zu #[Zg #[Zs none 0 0,Zs none 0 0],Zf 47 (Zi 3)]) (by simp[results,results67,go_sem,y0,y1]) rfl ?_;rw[P.o];exact⟨rfl,(i.o.setCell (p:=⟨w.heap.size,0,none⟩) (Y' _) _).setCell (p:=⟨w.heap.size,1,none⟩) (Y' _) _⟩
theorem AC2(n:Nat)(b:1<=n)(c:n<=6)(w:Tw):Zc 174 #[.int .u64 1,.int .u64 n] w λe a=>e=Zr (Zu #[.int .u64 0,.int .u64 n])/\a=w:=by
 obtain rfl|rfl|rfl|rfl|rfl|rfl:n=1\/n=2\/n=3\/n=4\/n=5\/n=6:=by omega
 all_goals
  go_enter func174,ntmps174;go_wp2;go_ret2;exact⟨rfl,rfl⟩
theorem AIJ(n:Nat)(c:1<=n)(d:n<=6)(w:Tw):Zc 120 #[.int .u64 1,.int .u64 n] w λe a=>e=Zr (Zu #[.int .u64 0,.int .u64 n])/\a=w:=by
 have b:Hid (∀W,Zc 174 #[.int .u64 1,.int .u64 n] W λe a=>e=Zr (Zu #[.int .u64 0,.int .u64 n])/\a=W):=λW=>AC2 n c d W
 go_enter func120,ntmps120
 go_wp2_with (first
  | (go_at_call 174;refine(b.o _).mono ?_;rintro e f⟨rfl,rfl⟩))
 go_ret2;exact⟨rfl,rfl⟩
def AHE(v:V):List Value:=[Zi v.1,Zi v.2.1,.string v.2.2]
def rep(v:V)(m:Nat):List Value:=(List.replicate m v).flatMap AHE
theorem Iy(v:V)(m:Nat):(rep v m).length=m*3:=by
 unfold rep
 induction m with
 | zero=>rfl
 | succ m ih=>rw[YI,List.flatMap_cons,XH,ih];simp[AHE];omega
theorem ABO(v:V)(m c:Nat):rep v (m+c)=rep v m++rep v c:=by unfold rep;rw[<-List.replicate_append_replicate,XQ]
theorem AEP(v:V){m c:Nat}(h:c<=m):(rep v m).take (c*3)=rep v c:=by obtain⟨d,rfl⟩:∃d,m=c+d:=⟨m-c,by omega⟩;rw[ABO,Yy (by rw[Iy];exact Y' _),Yd (by rw[Iy];exact Y' _)]
theorem ABb(v:V)(m:Nat):∀u∈rep v m,u.oneCell'=true:=by
 intro u a;simp only[rep,List.mem_flatMap] at a;obtain⟨x,_,b⟩:=a;simp[AHE] at b
 rcases b with rfl|rfl|rfl <;> rfl
theorem kO{P:Program}(w:Tw)(dT sT z elem:TypeId)(g o c e:Nat)(a:Addr)(d k:Nat)(b:Array Tv)(t:TypeId)(cs:List Tv)(m:Nat)(y:P.underlying dT=some (.slice elem))(p:(P.info? elem).map (·.size)=some 3)(r:w.heap[g]? = some (Zk b t (0,0)))(u:m=Nat.min d c)(x:cs.length=m*3)(h:∀j v,cs[j]? = some v->w.cell? (a.add j)=some v)(f:o+cs.length<=b.size)(q:∀v∈cs,v.oneCell'=true):
 (Builtin.copy_ #[dT,sT] z #[Zs (some ⟨g,o,none⟩) c e,Zs (some a) d k]).run P w =
   .ok (goInt m) (w.setRow g (b.toList.take o++cs++b.toList.drop (o+cs.length)).toArray):=by
 have n:=run_loadCells_list (P:=P) w a cs h;have l:=run_storeCells_at P g o t cs 0 b w r (by simpa using f) q;rw[x] at n;cases hq:P.info? elem with
 | none=>simp[hq] at p
 | some i=>
   have s:i.size=3:=by simpa[hq] using p
   simp[Builtin.copy_,run_underlying y,Builtin.lenOf,Builtin.firstCells,sizeOf,typeInfo,hq,s,<-u,n,l]
theorem AEK:(prog.info? 56).map (·.size)=some 3:=by kernel_rfl
theorem pG{p:Array Oper}{rest:List Oper}{o:Oper}{a:Act}{Q:Exit->Act->Tw->Prop}(r:o.guard=none)(d s:Operand)(J:o.op=.call { callee:=.builtin .copy,args:=#[d,s],argTypes:=#[62,62] })(g off c f:Nat)(q:Addr)(e i:Nat)(z:a.eval d=Zs (some ⟨g,off,none⟩) c f)(L:a.eval s=Zs (some q) e i)(b:Array Tv)(t:TypeId)(D:w.heap[g]? = some (Zk b t (0,0)))(cs:List Tv)(m:Nat)(G:m=Nat.min e c)(I:cs.length=m*3)(n:∀j v,cs[j]? = some v->w.cell? (q.add j)=some v)(k:off+cs.length<=b.size)(y:∀v∈cs,v.oneCell'=true)(h:∀u,u=w.setRow g (b.toList.take off++cs++b.toList.drop (off+cs.length)).toArray->wpList prog p Q rest (a.put o.dst (goInt m)) u):wpList prog p Q (o :: rest) a w:=by
 refine wpList_plain r λK hK=>?_
 have l:=kO (P:=prog) w 62 62 o.type 56 g off c f q e i b t cs m underlying62 AEK D G I n k y;unfold Oper.wp;have x:=h _ rfl;simp[execOp,J,resolve,invoke,builtin,z,L,l,Result.andThen];exact hK _ _ (by simpa using x)
def Rw(w0:World)(g n:Nat)(v:V)(m:Nat)(w:World):Prop:=∃a:Array Value,w.heap[g]? = some (.cells a 56 (0,0))/\a.size=n*3/\a.toList.take (m*3)=rep v m/\Zb w0 w
theorem Rw.step{w0 w W:Tw}{g n m c off:Nat}{v:V}(f:w.heap[g]? = some (Zk a 56 (0,0)))(k:a.size=n*3)(i:a.toList.take (m*3)=rep v m)(d:Zb w0 w)(b:w0.heap.size<=g)(h:off=m*3)(j:m+c<=n)(e:W=w.setRow g (a.toList.take off++rep v c++a.toList.drop (off+(rep v c).length)).toArray):Rw w0 g n v (m+c) W:=by
 subst h;subst e;refine⟨_,setRow_heap w g _ _ _ _ f,?_,?_,below_setRow d b _⟩
 ·simp[Iy]
  omega
 rw[i,ABO];rw[Yy (by simp[Iy];omega),Yd (by simp[Iy];omega)]
theorem Rw.cells{w:Tw}{g m c:Nat}{v:V}{a:Array Tv}(e:w.heap[g]? = some (Zk a 56 (0,0)))(i:a.toList.take (m*3)=rep v m)(d:c<=m):∀j u,(rep v c)[j]? = some u->w.cell? ((⟨g,0,none⟩:Addr).add j)=some u:=by
 intro j u b
 have f:j<c*3:=by
  rcases Yc j (c*3) with h|h
  ·exact h
  rw[Yb (by rw[Iy];exact h)] at b;cases b
 rw[<-AEP v d,<-i,Ym f,Ym (by omega)] at b;rw[Addr.add_lit];simp[World.cell?,e];simpa using b
theorem AF8{B g n:Nat}{xs:List Tv}(h:w.ownsRow B 56 3 (Zs (some ⟨g,0,none⟩) n n) n xs):∃a,w.heap[g]? = some (Zk a 56 (0,0))/\a.size=n*3:=by
 obtain⟨_,⟨b,_⟩|⟨f,c,a,b,_,d,_,_,e,_⟩⟩:=h
 ·cases b
 cases b;exact⟨a,d,e⟩
theorem AFi{w0:Tw}{g:Nat}{v:V}(f:w.heap[g]? = some (Zk a 56 (0,0)))(h:a.size=n*3)(d:Zb w0 w)(b:w0.heap.size<=g)(i:1<=n)(e:W=w.setRow g (a.toList.take 0++rep v 1++a.toList.drop (0+(rep v 1).length)).toArray):Rw w0 g n v 1 W:=by have:=Rw.step (m:=0) (c:=1) (v:=v) f h (by simp[rep]) d b rfl (by omega) e;simpa using this
theorem AIA{v:V}(b:w.heap[n]? = some (Zk #[Zi v.1,Zi v.2.1,Zt v.2.2] 56 (0,0))):∀j u,(rep v 1)[j]? = some u->w.cell? ((⟨n,0,none⟩:Addr).add j)=some u:=by intro j u a;rw[Addr.add_lit];simp only[World.cell?,b,WL];simpa[rep,AHE] using a
theorem zA(l xc n:Nat)(v:V)(w:Tw)(N:1<=n)(h6:n<=6)(G:w.heap[l]? = some (Zk #[Zi v.1,Zi v.2.1,Zt v.2.2] 56 (0,0))):
 Zc 208 #[Zs (some ⟨l,0,none⟩) 1 xc,Zi n] w λe I=>∃v',e=Zr v'/\I.ownsRow w.heap.size 56 3 v' n (rep v n)/\Zb w I:=by
 obtain⟨iV,R,X,t,u⟩:=info_parts E.Ip;have HM:Hid (∀W,Zc 120 #[.int .u64 1,.int .u64 n] W λe I=>e=Zr (Zu #[.int .u64 0,.int .u64 n])/\I=W):=λW=>AIJ n N h6 W
 have HX:=Aa G
 have U:l<w.heap.size:=by
  rcases Yc l w.heap.size with h|h
  ·exact h
  rw[XI h] at G;cases G
 have ah:¬(n:Int)<0:=by omega
 clear G;go_enter func208,ntmps208
 go_wp2_with (first
  | (go_at_call 120;refine(HM.o _).mono ?_;rintro e w1⟨rfl,hw⟩;rw[hw];clear hw)
  | (refine wpList_make_full _ rfl _ _ 62 rfl w.heap.size 56 iV (.agg #[Zi 0,Zi 0,.string ⟨#[]⟩]) 3 underlying62 R X t .i64 .i64 _ _ n rfl rfl rfl rfl (by rw[u];omega) (by unfold maxLen;omega) (Y' _) ?_;intro w2 r q;obtain⟨cur2,hc2,hs2⟩:=AF8 r;have g:Hid (Zb w w2):=(XB _ w).grown q (Y' _) (λj hj=>by cases hj);have o:=Aa ((g.o.block l U).trans HX.o);have a:=Aa (Yad hc2 hs2);clear r q hc2 hs2)
  | (refine pG rfl _ _ rfl w.heap.size 0 n n ⟨l,0,none⟩ 1 xc rfl rfl cur2 56 a.o.1 (rep v 1) 1 (by simp[WU];omega) (by rw[Iy]) (AIA o.o) (by rw[Iy,a.o.2];omega) (ABb v 1) ?_;intro w3 s;have L:=Aa (AFi a.o.1 a.o.2 g.o (Y' _) N s);clear s))
 clear a o g
 go_loopw [8] (λY wr=>∃m:Nat,1<=m/\m<=n/\Y=Zi m/\Hid (Rw w w.heap.size n v m wr)) (λY _=>n-(intOf Y).toNat)
 case atStart=>exact⟨1,Y' _,N,rfl,L⟩
 case round=>
  obtain⟨m,ae,af,rfl,i⟩:=hrel
  by_cases hlt:m<n
  ·have aa:(m:Int)<(n:Int):=by omega
   have ad:(0:Int)<=(m:Int):=by omega
   have ag:¬n=m:=by omega
   obtain⟨b,y,z,D,x⟩:=i.o;obtain⟨c,p⟩:∃c,c=Nat.min m (n-m):=⟨_,rfl⟩;have O:c<=m:=by rw[p];exact Nat.min_le_left _ _
   have ac:c<=n-m:=by rw[p];exact Nat.min_le_right _ _
   have ab:0<c:=by rw[p];simp[WU];split <;> omega
   have d:=Zy y z D x;have J:=Aa p;clear y z D x i p;go_wp2;have f:=kO (P:=prog) wr.drew 62 62 3 56 w.heap.size (m*3) (n-m) (n-m) ⟨w.heap.size,0,none⟩ m n b 56 (rep v c) c underlying62 AEK d.o.1 J.o (Iy v c) (Rw.cells (w:=wr.drew) d.o.1 d.o.2.2.1 O) (by rw[Iy,d.o.2.1];omega) (ABb v c);obtain⟨w5,k⟩:∃w5,w5=wr.drew.setRow w.heap.size (b.toList.take (m*3)++rep v c++b.toList.drop (m*3+(rep v c).length)).toArray:=⟨_,rfl⟩;rw[<-k] at f;simp only[goInt] at f;have M:=Aa k;clear k
   go_region
   go_wp2
   go_roundw
   case rel=>exact⟨m+c,by omega,by omega,by simp,Rw.step (w:=wr.drew) d.o.1 d.o.2.1 d.o.2.2.1 d.o.2.2.2.drew (Y' _) rfl (by omega) M.o⟩
   case measure=>simp[intOf];omega
  have T:m=n:=by omega
  subst T;go_wp2;go_ret;obtain⟨b,y,z,D,x⟩:=i.o;exact⟨_,rfl,⟨Iy v m,.inr ⟨w.heap.size,m,b,rfl,Y' _,y,Y' _,by unfold maxLen;omega,z,D⟩⟩,x⟩
theorem Sf(n:Nat)(sv q:Tv)(y m:To)(D z p o:Nat)(c1:Int)(r:Tb)(s:Int)(t:Bool)(a b:Int)(c:Tb)(w:Tw)(I:1<=n)(J:n<=6)(es:sv=Zs y D z)(G:q=Zs m p o):
 Zc 168 #[Zg #[Zi n,sv,q],Zg #[Zi c1,Zt r,Zi s,Zo t,Zi a,Zi b,Zt c]] w λe d=>∃v',e=Zr v'/\d.ownsRow w.heap.size 56 3 v' n (rep (a,b,c) n)/\Zb w d:=by
 subst es G
 have l:Hid (∀W f k,Zb w W->W.heap[f]? = some (Zk #[Zi a,Zi b,Zt c] 56 (0,0))->Zc 208 #[Zs (some ⟨f,0,none⟩) 1 k,Zi n] W λe d=>∃v',e=Zr v'/\d.ownsRow w.heap.size 56 3 v' n (rep (a,b,c) n)/\Zb w d):=by intro W f k x M;refine(zA f k n (a,b,c) W I J M).mono ?_;rintro e d⟨v',rfl,L,h⟩;exact⟨v',rfl,E.Ai L x.size,Ap x h⟩
 obtain⟨_,_,_,v,u⟩:=Jl w (Zk #[Zi n,Zs y D z,Zs m p o] 160) (Zk #[Zi c1,Zt r,Zi s,Zo t,Zi a,Zi b,Zt c] 60) (Zk #[Zi a,Zi b,Zt c] 56);have g:=Aa (l.o _ (w.heap.size+2) 1 u v);clear v u l;go_enter func168,ntmps168;go_wp2_with (go_at_call 208;refine g.o.mono ?_;rintro e O⟨N,rfl,j,i⟩);go_ret;exact⟨_,rfl,j,i⟩
theorem ABF{cols:List Aj}{id:Int}(h:¬pos cols id<cols.length):cM cols id = -1:=by unfold cM;rw[Y9 h]
theorem AC1(D:Tv)(G:To)(J I:Nat)(cols:List Aj)(n:Nat)(t:To)(v u:Nat)(p:To)(r q:Nat)(c1:Int)(j:Tb)(k:Int)(l:Bool)(c d:Int)(f:Tb)(w:Tw)(O:F7 7 Cc w D cols)(h1:1<=cols.length)(h8:cols.length<=8)(hp:¬pos cols c1<cols.length)(P:1<=n)(R:n<=6):
 Zc 116 #[Zg #[D,Zs G J I],Zg #[Zi n,Zs t v u,Zs p r q],Zg #[Zi c1,Zt j,Zi k,Zo l,Zi c,Zi d,Zt f]] w
  λe m=>∃v',e=Zr v'/\m.ownsRow w.heap.size 56 3 v' n (rep (c,d,f) n)/\Zb w m:=by
 have y:=Aa (λW s=>U9 D (Zs G J I) cols c1 j k l c d f W (O.up s) h1 h8);rw[ABF hp] at y;obtain⟨g,o,cc,rfl,aa,ab,h⟩:=O.cons (by omega);obtain⟨U,hX,V,X,L⟩:=Jl w (Zk #[Zs (some ⟨g,o,none⟩) cols.length cc,Zs G J I] 105) (Zk #[Zi n,Zs t v u,Zs p r q] 160) (Zk #[Zi c1,Zt j,Zi k,Zo l,Zi c,Zi d,Zt f] 60);have z:=Aa (y.o _ L)
 have HD:Hid (∀W,Zb w W->Zc 168 #[Zg #[Zi n,Zs t v u,Zs p r q],Zg #[Zi c1,Zt j,Zi k,Zo l,Zi c,Zi d,Zt f]] W λe m=>∃v',e=Zr v'/\m.ownsRow w.heap.size 56 3 v' n (rep (c,d,f) n)/\Zb w m):=by intro W s;refine(Sf n _ _ t p v u r q c1 j k l c d f W P R rfl rfl).mono ?_;rintro e m⟨v',rfl,ho,M⟩;exact⟨v',rfl,E.Ai ho s.size,Ap s M⟩
 obtain⟨Y,y1,y2,_,_,_⟩:=J5 V;have b:=Zy Y y1 y2 X;have HB:=Aa L;clear hX V X L Y y1 y2 h U y O;go_enter func116,ntmps116;go_wp2_with fail;refine z.o.mono ?_;rintro e i⟨rfl,a⟩;have q0:=Ag a b.o.1;have q1:=Ag a b.o.2.1;have q2:=Ag a b.o.2.2.1;have z0:i.cell? ⟨w.heap.size+1+1,0,none⟩=some (Zi c1):=Ag a (by simp only[World.cell?,b.o.2.2.2];rfl);have z1:i.cell? ⟨w.heap.size+1+1,1,none⟩=some (Zt j):=Ag a (by simp only[World.cell?,b.o.2.2.2];rfl);have z2:i.cell? ⟨w.heap.size+1+1,2,none⟩=some (Zi k):=Ag a (by simp only[World.cell?,b.o.2.2.2];rfl);have z3:i.cell? ⟨w.heap.size+1+1,3,none⟩=some (Zo l):=Ag a (by simp only[World.cell?,b.o.2.2.2];rfl);have z4:i.cell? ⟨w.heap.size+1+1,4,none⟩=some (Zi c):=Ag a (by simp only[World.cell?,b.o.2.2.2];rfl);have z5:i.cell? ⟨w.heap.size+1+1,5,none⟩=some (Zi d):=Ag a (by simp only[World.cell?,b.o.2.2.2];rfl);have z6:i.cell? ⟨w.heap.size+1+1,6,none⟩=some (Zt f):=Ag a (by simp only[World.cell?,b.o.2.2.2];rfl);have x:=Aa (Ap HB.o a);go_wp2_with (go_at_call 168;refine(HD.o _ x.o).mono ?_;rintro e w2⟨v2,rfl,T,N⟩);go_ret;exact⟨_,rfl,T,N⟩
theorem xR{cols:List Aj}{st:List S.St}{bs:List (List UInt8)}(h:¬pos cols c.1<cols.length):Bq cols (n,st,bs) c=List.replicate n (bP c):=by unfold Bq;rw[Y9 h]
theorem wW(j:Tv)(o:To)(q p:Nat)(cols:List Aj)(n:Nat)(x:To)(z y:Nat)(k:To)(m l:Nat)(st:List S.St)(bs:List (List UInt8))(c1:Int)(a:Tb)(d:Int)(f:Bool)(g h:Int)(i:Tb)(w:Tw)(J:F7 7 Cc w j cols)(s:F7 1 Mc w (Zs k m l) bs)(G:1<=cols.length)(I:cols.length<=8)(r:bs.length=cols.length)(v:∀b∈bs,b.length<=1000000)(t:1<=n)(u:n<=6):
 Zc 116 #[Zg #[j,Zs o q p],Zg #[Zi n,Zs x z y,Zs k m l],Zg #[Zi c1,Zt a,Zi d,Zo f,Zi g,Zi h,Zt i]] w
  λe D=>∃v',e=Zr v'/\D.ownsRow w.heap.size 56 3 v' (Bq cols (n,st,bs) (c1,a,d,f,g,h,i)).length (E.A1 (Bq cols (n,st,bs) (c1,a,d,f,g,h,i)))/\Zb w D:=by
 by_cases hp:pos cols c1<cols.length
 ·rw[kK (n:=n) (st:=st) (c:=(c1,a,d,f,g,h,i)) hp]
  exact Lb j o q p cols n x z y _ bs c1 a d f g h i w J s G I r hp v
 rw[xR (n:=n) (st:=st) (bs:=bs) (c:=(c1,a,d,f,g,h,i)) hp];refine(AC1 j o q p cols n x z y k m l c1 a d f g h i w J G I hp t u).mono ?_;rintro e D⟨v',rfl,M,L⟩;refine⟨v',rfl,?_,L⟩;rw[WJ];exact M
def yF(I:Nat)(w:World)(v:Value)(rows:List (List V)):Prop:=∃a:List Value,a.length=rows.length/\w.ownsRow 0 62 1 v rows.length a/\∀(j:Nat)x r,a[j]? = some x->rows[j]? = some r->w.ownsRow I 56 3 x r.length (E.A1 r)
theorem yF.o{rows:List (List V)}(h:yF I w v rows):Sc 0 w v rows:=by obtain⟨f,a,b,c⟩:=h;exact⟨f,a,b,λj x r e d=>E.Ai (c j x r e d) (XF _)⟩
theorem yF.low{I I':Nat}{rows:List (List V)}(h:yF I w v rows)(d:I'<=I):yF I' w v rows:=by obtain⟨g,a,b,c⟩:=h;exact⟨g,a,b,λj x r f e=>E.Ai (c j x r f e) d⟩
theorem yF.up{rows:List (List V)}(h:yF I w v rows)(a:Zb w W):yF I W v rows:=by obtain⟨g,b,c,d⟩:=h;exact⟨g,b,E.Ad c a,λj x r f e=>E.Ad (d j x r f e) a⟩
def l4(r:Option (List (List V)))(w:World)(e:Ending)(a:World):Prop:=match r with
 | none=>e=.returned (.tuple #[.slice none 0 0,.iface 47 (Zi 2)])/\Zb w a
 | some rows=>∃v',e=.returned (.tuple #[v',.nilIface])/\yF w.heap.size a v' rows/\Zb w a
theorem RI.AIj{B R I:Nat}{X:List Tv}{L:List (List V)}(h:RI B R W X L)(a:I<=B):yF I W (Zs (some ⟨R,0,none⟩) L.length L.length) L :=
 ⟨X,h.len,E.Ai h.row (XF _),λj x r c b=>E.Ai (h.each j x r c b) a⟩
theorem AFP(k:Nat)(cv gv lv:Tv)(cols:List Aj)(gs:List Fk)(g:Fk)(d:List Aj)(w:Tw)(hF:Hm w cv gv (cols,gs))(hk:gs[k]? = some g)(hn:F7 7 Cc w lv d)(cx:d.length<=8)(h1:1<=cols.length)(h8:cols.length<=8)(bx:∀b∈g.2.2,b.length<=1000000):
 Zc 69 #[Zg #[cv,gv],Zi k,lv] w (l4 (Ew cols g d) w):=by
 obtain⟨n,st,bs⟩:=g;obtain⟨hC,hG⟩:=hF;have HA:=Aa (λW hW=>nL k cv gv cols gs (n,st,bs) W (hC.up hW) (hG.up hW) hk);have HC:=Aa hC;have HN:=Aa hn;obtain⟨ga,gc,rfl,_⟩:=hG.slice;obtain⟨la,lc,rfl,_⟩:=hn.slice;obtain⟨ca,cc,rfl,_⟩:=hC.slice;have a0:Below w.heap.size w (w.alloc (Zk #[Zs ca cols.length cc,Zs ga gs.length gc] 105)):=Zal;have aa:=Aa (HA.o _ a0);have hX:=Y8 w (Zk #[Zs ca cols.length cc,Zs ga gs.length gc] 105);obtain⟨f0,f1⟩:=Hg hX;have a9:Hid (∀W,Below (w.alloc (Zk #[Zs ca cols.length cc,Zs ga gs.length gc] 105)).heap.size (w.alloc (Zk #[Zs ca cols.length cc,Zs ga gs.length gc] 105)) W->W.cell? ⟨w.heap.size,0,none⟩=some (Zs ca cols.length cc)/\W.cell? ⟨w.heap.size,1,none⟩=some (Zs ga gs.length gc)):=Aa (λW hW=>⟨Ag hW f0,Ag hW f1⟩);have N:=Aa a0;clear hC hG hn HA a0 hX f0 f1;cases hw:Gb cols (n,st,bs) with
 | false=>have HR:Hid (Ew cols (n,st,bs) d=none):=Aa (by unfold Ew;rw[hw];rfl);simp only[hw] at aa;go_enter func69,ntmps69;go_wp2_with fail;refine aa.o.mono ?_;rintro e t⟨sv,bv,rfl,ag,R,s⟩;obtain⟨sa,sc,rfl,_⟩:=ag.slice;obtain⟨ba,bc,rfl,_⟩:=R.slice;clear ag R;go_wp2;go_ret2;rw[HR.o];exact⟨rfl,(Ap N.o s).alloc (Ap N.o s).size _⟩
 | true=>
   simp only[hw] at aa;have cq:st.length=cols.length/\bs.length=cols.length/\1<=n/\n<=6:=by simpa[Gb] using hw
   obtain⟨ak,bn,bt,ck⟩:=cq;have b2:=Aa bn;have HW:=Aa hw;have b9:=Aa bx;obtain⟨iS,bo,bz,ar,av⟩:=info_parts eI;have ah:=Zy bo bz ar av;obtain⟨iV,bp,b0,au,aw⟩:=info_parts E.Ip;have ai:=Zy bp b0 au aw;clear hw bx bn ak bo bz ar av bp b0 au aw hk;go_enter func69,ntmps69;go_wp2_with fail;refine aa.o.mono ?_;rintro e t⟨sv,bv,rfl,ag,R,s⟩;have a7:=Aa (R.up s);obtain⟨sa,sc,rfl,_⟩:=ag.slice;obtain⟨ba,bc,rfl,_⟩:=R.slice;clear ag R;have cy:¬(n:Int)<0:=by omega
   have bw:=s.size;simp only[XC] at bw;go_wp2_with (refine wpList_make_full _ rfl _ _ 34 rfl (t.heap.size+1) 62 iS (.slice none 0 0) 1 underlying34 ah.o.1 ah.o.2.1 ah.o.2.2.1 .i64 .i64 _ _ n rfl rfl rfl rfl ?m1 ?m2 ?m3 ?_)
   case m1=>rw[ah.o.2.2.2];omega
   case m2=>unfold maxLen;omega
   case m3=>simp
   intro w3 bu T;have bl:=Y8 t (Zk #[Zi n,Zs sa st.length sc,Zs ba bs.length bc] 160);obtain⟨g0,g1,g2,_,_,_⟩:=J5 bl;have aq:Below (t.heap.size+1) (t.alloc (Zk #[Zi n,Zs sa st.length sc,Zs ba bs.length bc] 160)) w3:=⟨T.os,T.tape,T.output,T.size,λk hk=>T.block k (by simp;omega) (by simp)⟩;have J:Below w.heap.size w (t.alloc (Zk #[Zi n,Zs sa st.length sc,Zs ba bs.length bc] 160)):=(Ap N.o s).alloc (Ap N.o s).size _;have af:Below t.heap.size t (t.alloc (Zk #[Zi n,Zs sa st.length sc,Zs ba bs.length bc] 160)):=Zal
   have bb:Hid (∀W,Below (t.heap.size+1) w3 W->(W.cell? ⟨w.heap.size,0,none⟩=some (Zs ca cols.length cc)/\W.cell? ⟨w.heap.size,1,none⟩=some (Zs ga gs.length gc))/\(W.cell? ⟨t.heap.size,0,none⟩=some (Zi n)/\W.cell? ⟨t.heap.size,1,none⟩=some (Zs sa st.length sc)/\W.cell? ⟨t.heap.size,2,none⟩=some (Zs ba bs.length bc))/\F7 7 Cc W (Zs ca cols.length cc) cols/\F7 7 Cc W (Zs la d.length lc) d/\F7 1 Mc W (Zs ba bs.length bc) bs/\Below w.heap.size w W):=Aa (λW hW=>by
    have y:Below (t.alloc (Zk #[Zi n,Zs sa st.length sc,Zs ba bs.length bc] 160)).heap.size (t.alloc (Zk #[Zi n,Zs sa st.length sc,Zs ba bs.length bc] 160)) W:=by change Below _ _ _;rw[XC];exact aq.trans hW
    exact⟨a9.o W (Ap (Ap s af) y),⟨Ag y g0,Ag y g1,Ag y g2⟩,HC.o.up (Ap J y),HN.o.up (Ap J y),a7.o.up (Ap af y),Ap J y⟩)
   have b5:Hid (RI (t.heap.size+1) (t.heap.size+1) w3 (List.replicate n (Zs none 0 0)) (Jm (Bq cols (n,st,bs)) d n 0 0)):=Aa (by rw[kG];refine AAq ?_;rw[<-AFW];exact bu)
   have b3:Hid (w.heap.size<=t.heap.size):=Aa (Ap N.o s).size;clear bu T bl g0 g1 g2 aq J af a9 HC HN a7 N aa bw;generalize hR:t.heap.size=gb at *;clear hR s;go_wp2
   go_loopw [30] (λvi wr=>∃j:Nat,j<=d.length/\vi=Zi j/\Hid (∀c∈d.take j,(Bq cols (n,st,bs) c).length=n)/\(∃vs,Hid (RI (gb+1) (gb+1) wr vs (Jm (Bq cols (n,st,bs)) d n j 0)))/\Hid (Below (gb+1) w3 wr)) (λvi _=>d.length-(intOf vi).toNat)
   case atStart=>exact⟨0,XF _,rfl,Aa (by simp),⟨_,b5⟩,Aa (XB _ _)⟩
   case round=>
    obtain⟨j,hj,rfl,ae,⟨vs,ad⟩,a3⟩:=hrel
    by_cases hlt:j<d.length
    ·obtain⟨⟨c1,c2,c3,c4,c5,c6,c7⟩,hc⟩:∃c,d[j]? = some c:=⟨_,XA hlt⟩
     obtain⟨⟨f0,f1⟩,⟨g0,g1,g2⟩,bk,bm,bj,aj⟩:=bb.o wr a3.o;obtain⟨lb,lo,da,el,_,ct,M⟩:=bm.cons (by omega);injection el with ce _ cf;subst ce cf;obtain⟨q0,q1,q2,q3,q4,q5,q6⟩:=F8 M hc;have o:Below wr.heap.size wr (wr.alloc (Zk #[Zi c1,Zt c2,Zi c3,Zo c4,Zi c5,Zi c6,Zt c7] 60)):=Zal;replace f0:=Ag o f0;replace f1:=Ag o f1;replace g0:=Ag o g0;replace g1:=Ag o g1;replace g2:=Ag o g2;have HV:=Aa (wW (Zs ca cols.length cc) ga gs.length gc cols n sa st.length sc ba bs.length bc st bs c1 c2 c3 c4 c5 c6 c7 _ (bk.up o) (bj.up o) h1 h8 b2.o b9.o bt ck);have bf:=Aa (XD hc);have a8:=Aa hc;have bq:(j:Int)<(d.length:Int):=by omega
     have b4:Hid (Bq cols (n,st,bs) (c1,c2,c3,c4,c5,c6,c7)=Bq cols (n,st,bs) (c1,c2,c3,c4,c5,c6,c7)):=Aa rfl;generalize hL:Bq cols (n,st,bs) (c1,c2,c3,c4,c5,c6,c7)=L at HV;have HL:=Aa hL;clear hL b4 bk bm bj M hc
     by_cases hlen:L.length=n
     ·rw[hlen] at HV
      have al:=Aa hlen;clear hlen;go_wp2_with fail;refine HV.o.mono ?_;rintro e w5⟨v5,rfl,D,h⟩;obtain⟨va,vc,rfl,cp⟩:=E.Ak D;have co:=h.size;simp only[XC] at co;have ci:=(ad.o.row.lt (gb+1) rfl).2
      have b1:Hid (Apt (Zs va n vc) vs):=Aa (λi u hu q hq hv=>by obtain⟨m,hm⟩:∃m,(Jm (Bq cols (n,st,bs)) d n j 0)[i]? = some m:=⟨_,XA (by rw[<-ad.o.len];exact Ax hu)⟩;have a1:=((ad.o.each i u m hu hm).lt q hq).2;have a2:=(D.lt q hv).1;simp only[XC] at a2;omega)
      have bh:=Aa (ad.o.kept (Ap o h));have a5:=Aa (a3.o.trans ((Ap o h).mono (YF ci)));have b6:Hid (w5.ownsRow (wr.heap.size+1) 56 3 (Zs va n vc) n (E.A1 L)):=Aa (by simpa only [XC] using D);clear D h o f0 f1 g0 g1 g2 q0 q1 q2 q3 q4 q5 q6 aj;go_wp2
      go_loopw [46] (λvi wi=>∃i:Nat,i<=n/\vi=Zi i/\(∃us,Hid (RI (gb+1) (gb+1) wi us (Jm (Bq cols (n,st,bs)) d n j i))/\Hid (Apt (Zs va n vc) us))/\Hid (wi.ownsRow (wr.heap.size+1) 56 3 (Zs va n vc) n (E.A1 L))/\Hid (Below (gb+1) w3 wi)) (λvi _=>n-(intOf vi).toNat)
      case atStart=>exact⟨0,XF _,rfl,⟨vs,bh,b1⟩,b6,a5⟩
      case round=>
       obtain⟨i,hi,rfl,⟨us,f,bi⟩,O,h⟩:=hrel
       by_cases hlt2:i<n
       ·have G:=AA9 (Bq cols (n,st,bs)) d (j:=j) hlt2
        obtain⟨l,hl⟩:∃l,(Jm (Bq cols (n,st,bs)) d n j i)[i]? = some l:=⟨_,G⟩;have bd:Hid (l=(d.take j).map λc=>(Bq cols (n,st,bs) c)[i]?.getD zV):=Aa (by rw[hl] at G;injection G);have cu:l.length<=8:=by rw[bd.o];simp;omega
        obtain⟨v,hv⟩:∃v,us[i]? = some v:=⟨_,XA (by rw[f.o.len,Ka];exact hlt2)⟩;obtain⟨s0,s1,s2,s3,a,c,rfl⟩:=f.o.AIM hv hl;have ao:=Aa (f.o.each i _ l hv hl);obtain⟨q,az,e5,cn,c0⟩:=O.o.form (by omega);injection e5 with cb _ cd;subst cb cd;obtain⟨⟨U,V,X⟩,hx⟩:=E.Hk (l:=L) (k:=i) (by rw[al.o];exact hlt2);obtain⟨t0,t1,t2⟩:=E.Hr hx;have y0:wr.cell? ⟨q,i*3,none⟩=some (Zi U):=(O.o.cellAt _ (by omega)).trans t0;have y1:wr.cell? ⟨q,i*3+1,none⟩=some (Zi V):=(O.o.cellAt _ (by omega)).trans t1;have y2:wr.cell? ⟨q,i*3+2,none⟩=some (Zt X):=(O.o.cellAt _ (by omega)).trans t2;have HX:=Aa hx;have ac:=Aa hv;have ax:=Aa hl;have cj:(i:Int)<(n:Int):=by omega
        have c8:=h.o.size;clear t0 t1 t2 hx hv hl G;have P:Below wr.heap.size wr (wr.alloc (Zk #[Zi U,Zi V,Zt X] 56)):=Zal;have an:=Aa (f.o.kept P);obtain⟨x0,x1,x2⟩:=E.Ei (Y8 wr (Zk #[Zi U,Zi V,Zt X] 56));have am:=Aa (E.Ad O.o P);have a6:=Aa (h.o.trans (P.mono (YF s2)));have c9:wr.heap.size<(wr.alloc (Zk #[Zi U,Zi V,Zt X] 56)).heap.size:=by simp
        have bg:=Aa (f.o.ne ac.o ax.o);have ay:Hid (∀q,(Value.slice a l.length c).ownBlock=some q->q<wr.heap.size):=Aa (λq hq=>(ao.o.lt q hq).2);go_wp2_with fail;replace s0:=Ag P s0;replace s1:=(P.frozen (p:=⟨gb+1,i,none⟩) s2).trans s1;replace s2:gb+1<(wr.alloc (Zk #[Zi U,Zi V,Zt X] 56)).heap.size:=by simp;omega
        clear P y0 y1 y2 ao f O h cn;generalize wr.alloc (Zk #[Zi U,Zi V,Zt X] 56)=Wb at *;generalize wr.heap.size=xb at *;have r:Hid (∀Y,Below Wb.heap.size Wb (Wb.drew.alloc Y)):=Aa (λY=>(XB _ _).drew.alloc (Y' _) _);have ab:=Aa (an.o.each i _ l ac.o ax.o);have bt:Wb.heap.size≠gb+1:=by omega
        have cw:Wb.heap.size≠xb:=by omega
        go_region_law
         (first
           | (refine step_append_lies _ (by rfl) (.tmp 56) (.tmp 58) 62 (by rfl) (gb+1) 56 iV (.agg #[Zi 0,Zi 0,.string ⟨#[]⟩]) 3 32 underlying62 ai.o.1 ai.o.2.1 ai.o.2.2.1 ai.o.2.2.2 rfl (by decide) (.slice a l.length c) l.length (E.A1 l) (by rfl) (E.Ad ab.o (r.o _)) ⟨Wb.heap.size,0,none⟩ 1 1 [Zi U,Zi V,.string X] (by rfl) rfl (λj u hj=>XG (Y8 _ _) j u hj) (E.Hf [(U,V,X)]) (by omega) (by unfold maxLen;omega) (by omega) (by simp;omega) _ rfl ?_
              intro g az w6 cl z ap cr;have p0:=(z.cell_far ⟨gb+1,i,none⟩ (by simp;omega) bg.o).trans (Ag (r.o _) s0);have p1:=(z.cell_far ⟨xb,0,none⟩ (by simp;omega) (λe=>YG _ (ay.o _ e.symm))).trans (Ag (r.o _) x0);have p2:=(z.cell_far ⟨xb,1,none⟩ (by simp;omega) (λe=>YG _ (ay.o _ e.symm))).trans (Ag (r.o _) x1);have p3:=(z.cell_far ⟨xb,2,none⟩ (by simp;omega) (λe=>YG _ (ay.o _ e.symm))).trans (Ag (r.o _) x2);have p4:=(z.frozen_far ⟨gb+1,i,none⟩ (by simp;omega) bg.o).trans (((r.o _).frozen (p:=⟨gb+1,i,none⟩) s2).trans s1))
           | fail)
        all_goals
         go_wp2;have ak:=(an.o.kept (r.o (Zk #[Zi U,Zi V,Zt X] 56))).step (x:=(U,V,X)) ac.o ax.o cl z (ap.imp_right (λe=>Nat.le_of_eq e.symm));have br:=pU (Bq cols (n,st,bs)) (x:=(U,V,X)) hlt2 a8.o (by rw[HL.o];exact HX.o);rw[<-bd.o] at br;rw[br] at ak;have cz:=(am.o.lt q rfl).1;have cm:=((E.Ad am.o (r.o (Zk #[Zi U,Zi V,Zt X] 56))).kept z (.inr (λe=>bi.o i _ ac.o q e.symm rfl))).kept (E.Ar w6 (gb+1) i (Zs (some ⟨g,0,none⟩) (l.length+1) az)) (.inr (λe=>by simp[Value.ownBlock] at e;omega));have cg:=(E.Bj (a6.o.trans ((r.o (Zk #[Zi U,Zi V,Zt X] 56)).mono (YF s2))) (E.Ad ab.o (r.o _)) z (by simp;omega)).setCell (p:=⟨gb+1,i,none⟩) (Y' _) (Zs (some ⟨g,0,none⟩) (l.length+1) az);exact⟨⟨i+1,by omega,by go_num,⟨_,Aa ak,Aa (bi.o.step (H:=Wb.heap.size+1) ac.o (ap.imp_right (λe=>by rw[e];simp)) (λq' e=>by simp[Value.ownBlock] at e;omega))⟩,Aa cm,Aa cg⟩,by simp[intOf];omega⟩
       have cj:¬(i:Int)<(n:Int):=by omega
       have ei:i=n:=by omega
       have b8:Hid (RI (gb+1) (gb+1) wr us (Jm (Bq cols (n,st,bs)) d n (j+1) 0)):=Aa (by rw[<-mJ,<-ei];rw[ei] at f ⊢;exact f.o)
       have a4:Hid (∀c∈d.take (j+1),(Bq cols (n,st,bs) c).length=n):=Aa (by
        intro c hc;rw[E.Br a8.o,List.mem_append,List.mem_singleton] at hc
        rcases hc with hc|rfl
        ·exact ae.o c hc
        rw[HL.o];exact al.o)
       clear ei;go_wp2;exact⟨⟨j+1,by omega,by go_num,a4,⟨us,b8⟩,h⟩,by simp[intOf];omega⟩
     have cs:((L.length:Int)==(n:Int))=false:=by simp;omega
     have HR:Hid (Ew cols (n,st,bs) d=none):=Aa (tF bf.o (by rw[HL.o];exact hlen));clear hlen;go_wp2_with fail;refine HV.o.mono ?_;rintro e w5⟨v5,rfl,D,h⟩;obtain⟨va,vc,rfl,cp⟩:=E.Ak D;have ch:=Ap (Ap aj o) h;clear D;go_wp2;go_ret2;rw[HR.o];exact⟨rfl,ch⟩
    have bq:¬(j:Int)<(d.length:Int):=by omega
    have ej:j=d.length:=by omega
    have HR:Hid (Ew cols (n,st,bs) d=some (Lh cols (n,st,bs) d)):=Aa (mC HW.o (λc hc=>by rw[ej,Yf] at ae;exact ae.o c hc))
    have b7:Hid (yF w.heap.size wr (Zs (some ⟨gb+1,0,none⟩) n n) (Lh cols (n,st,bs) d)):=Aa (by have hm:=uC cols (n,st,bs) d;simp only at hm;rw[<-hm];have h3:=ad.o;rw[ej] at h3;have h4:=h3.AIj (I:=w.heap.size) (by have:=b3.o;omega);rwa[Ka] at h4)
    have aj:=(bb.o wr a3.o).2.2.2.2.2;clear ej;go_wp2;go_ret2;rw[HR.o];exact⟨_,rfl,b7.o,aj⟩
end F
namespace S
def O9(c:Int)(a b:V):Bool:=Vq c a.1 a.2.1 a.2.2 b.1 b.2.1 b.2.2==1
def E0(c:Int)(s:St)(v:V):Bool :=
 if c=7 then decide (0<s.2.1) else if c=8 then decide (s.2.1<s.1) else if c=1 then O9 4 s.2.2.1 v && O9 6 s.2.2.2 v else if c=2 then O9 2 s.2.2.1 v || O9 2 s.2.2.2 v else if c=3\/c=4 then O9 c s.2.2.1 v else if c=5\/c=6 then O9 c s.2.2.2 v else false
theorem Qh(c a n1 b n2:Int)(t1 t2:Tb)(w:Tw):
 Zc 243 #[Zi c,Zg #[Zi a,Zi n1,Zt t1],Zg #[Zi b,Zi n2,Zt t2]] w λe d=>e=Zr (Zo (O9 c (a,n1,t1) (b,n2,t2)))/\Zb w d:=AH7 c a n1 b n2 t1 t2 w
theorem Se{a b:Bool}(h:a=b):Ending.returned (Zo a)=Zr (Zo b):=by rw[h]
theorem Kz{w W:Tw}{X Y:Obj}(a:Below ((w.alloc X).alloc Y).heap.size ((w.alloc X).alloc Y) W):Zb w W:=Below.Ap (Gj w X Y) a
theorem Qq(c c1 o b n1:Int)(t1:Tb)(d f:Int)(g:Tb)(k n:Int)(t:Tb)(w:Tw):
 Zc 203 #[Zi c,Zg #[Zi c1,Zi o,Zi b,Zi n1,Zt t1,Zi d,Zi f,Zt g],Zg #[Zi k,Zi n,Zt t]] w
  λe D=>e=Zr (Zo (E0 c (c1,o,(b,n1,t1),(d,f,g)) (k,n,t)))/\Zb w D:=by
 have i:Hid (E0 c (c1,o,(b,n1,t1),(d,f,g)) (k,n,t)=if c=7 then decide (0<o) else if c=8 then decide (o<c1) else if c=1 then O9 4 (b,n1,t1) (k,n,t) && O9 6 (d,f,g) (k,n,t) else if c=2 then O9 2 (b,n1,t1) (k,n,t) || O9 2 (d,f,g) (k,n,t) else if c=3\/c=4 then O9 c (b,n1,t1) (k,n,t) else if c=5\/c=6 then O9 c (d,f,g) (k,n,t) else false):=rfl;generalize E0 c (c1,o,(b,n1,t1),(d,f,g)) (k,n,t)=r at *
 by_cases h7:c=7
 ·subst h7
  have h:Hid (decide (0<o)=r):=Aa (by rw[i.o,Yaa rfl]);clear i;go_enter func203,ntmps203;go_wp2;go_ret;exact⟨Se h.o,Gj _ _ _⟩
 by_cases h8:c=8
 ·subst h8
  have h:Hid (decide (o<c1)=r):=Aa (by rw[i.o,Y9 (by omega),Yaa rfl]);clear i h7;go_enter func203,ntmps203;go_wp2;go_ret;exact⟨Se h.o,Gj _ _ _⟩
 by_cases h1:c=1
 ·subst h1
  have h:Hid ((O9 4 (b,n1,t1) (k,n,t) && O9 6 (d,f,g) (k,n,t))=r):=Aa (by rw[i.o,Y9 (by omega),Y9 (by omega),Yaa rfl]);clear i h7 h8;have l:=Aa (Qh 4 b n1 k n t1 t);have s:=Aa (Qh 6 d f k n g t);generalize O9 4 (b,n1,t1) (k,n,t)=x at *;generalize O9 6 (d,f,g) (k,n,t)=y at *;cases x
  ·go_enter func203,ntmps203
   go_wp2_with fail;refine(l.o _).mono ?_;rintro e q⟨rfl,a⟩;go_wp2;go_ret;exact⟨Se h.o,Kz a⟩
  go_enter func203,ntmps203;go_wp2_with fail;refine(l.o _).mono ?_;rintro e q⟨rfl,a⟩;obtain⟨u,v⟩:=Qv a;have z:w.heap.size<w.heap.size+1+1:=by omega
  go_wp2_with fail;refine(s.o _).mono ?_;rintro e G⟨rfl,p⟩;go_wp2;go_ret;exact⟨Se h.o,Below.Ap (Kz a) p⟩
 by_cases h2:c=2
 ·subst h2
  have h:Hid ((O9 2 (b,n1,t1) (k,n,t) || O9 2 (d,f,g) (k,n,t))=r):=Aa (by rw[i.o,Y9 (by omega),Y9 (by omega),Y9 (by omega),Yaa rfl]);clear i h7 h8 h1;have l:=Aa (Qh 2 b n1 k n t1 t);have s:=Aa (Qh 2 d f k n g t);generalize O9 2 (b,n1,t1) (k,n,t)=x at *;generalize O9 2 (d,f,g) (k,n,t)=y at *;cases x
  ·go_enter func203,ntmps203
   go_wp2_with fail;refine(l.o _).mono ?_;rintro e q⟨rfl,a⟩;obtain⟨u,v⟩:=Qv a;have z:w.heap.size<w.heap.size+1+1:=by omega
   go_wp2_with fail;refine(s.o _).mono ?_;rintro e G⟨rfl,p⟩;go_wp2;go_ret;exact⟨Se h.o,Below.Ap (Kz a) p⟩
  go_enter func203,ntmps203;go_wp2_with fail;refine(l.o _).mono ?_;rintro e q⟨rfl,a⟩;go_wp2;go_ret;exact⟨Se h.o,Kz a⟩
 by_cases j:c=3\/c=4
 ·have h:Hid (O9 c (b,n1,t1) (k,n,t)=r):=Aa (by rw[i.o,Y9 h7,Y9 h8,Y9 h1,Y9 h2,Yaa j])
  clear i h7 h8 h1 h2;have l:=Aa (Qh c b n1 k n t1 t);generalize O9 c (b,n1,t1) (k,n,t)=x at *
  rcases j with rfl|rfl
  all_goals
   go_enter func203,ntmps203;go_wp2_with fail;refine(l.o _).mono ?_;rintro e q⟨rfl,a⟩;go_wp2;go_ret;exact⟨Se h.o,Kz a⟩
 by_cases m:c=5\/c=6
 ·have h:Hid (O9 c (d,f,g) (k,n,t)=r):=Aa (by rw[i.o,Y9 h7,Y9 h8,Y9 h1,Y9 h2,Y9 j,Yaa m])
  clear i h7 h8 h1 h2 j;have l:=Aa (Qh c d f k n g t);generalize O9 c (d,f,g) (k,n,t)=x at *
  rcases m with rfl|rfl
  all_goals
   go_enter func203,ntmps203;go_wp2_with fail;refine(l.o _).mono ?_;rintro e q⟨rfl,a⟩;go_wp2;go_ret;exact⟨Se h.o,Kz a⟩
 have h:Hid (false=r):=Aa (by rw[i.o,Y9 h7,Y9 h8,Y9 h1,Y9 h2,Y9 j,Y9 m]);clear i;have O:(c==7)=false:=by simpa using h7
 have P:(c==8)=false:=by simpa using h8
 have I:(c==1)=false:=by simpa using h1
 have J:(c==2)=false:=by simpa using h2
 have b3:(c==3)=false:=by simp;omega
 have L:(c==4)=false:=by simp;omega
 have M:(c==5)=false:=by simp;omega
 have N:(c==6)=false:=by simp;omega
 clear h7 h8 h1 h2 j m;go_enter func203,ntmps203;go_wp2;go_ret;exact⟨Se h.o,Gj _ _ _⟩
def AE2:List Int:=[0,2,1,6,5,4,3,8,7]
def Lp(w:World):Prop:=Lib.TabIs prog w "millpond/stats.opposites" .i64 AE2
theorem iO:prog.globalNamed "millpond/stats.opposites"=some 4:=by kernel_rfl
theorem Lp.below{w W:Tw}(h:Lp w)(a:Zb w W):Lp W:=Lib.tabBelow_of_tabIs h W a
def Pw(c:Int):Int:=if c=1 then 2 else if c=2 then 1 else if c=3 then 6 else if c=4 then 5 else if c=5 then 4 else if c=6 then 3 else if c=7 then 8 else if c=8 then 7 else 0
theorem o9(c:Int)(w:Tw)(a:Lp w):
 Zc 242 #[Zi c] w λe f=>e=Zr (Zi (Pw c))/\f=w:=by
 by_cases h0:c<0
 ·have d:Hid (0=Pw c):=Aa (by unfold Pw;simp only[show ¬c=1 by omega,show ¬c=2 by omega,show ¬c=3 by omega,show ¬c=4 by omega,show ¬c=5 by omega,show ¬c=6 by omega,show ¬c=7 by omega,show ¬c=8 by omega,if_false])
  clear a;go_enter func242,ntmps242;go_wp2;go_ret;exact⟨Bd d.o,rfl⟩
 by_cases h9:9<=c
 ·have d:Hid (0=Pw c):=Aa (by unfold Pw;simp only[show ¬c=1 by omega,show ¬c=2 by omega,show ¬c=3 by omega,show ¬c=4 by omega,show ¬c=5 by omega,show ¬c=6 by omega,show ¬c=7 by omega,show ¬c=8 by omega,if_false])
  clear a;go_enter func242,ntmps242;go_wp2;go_ret;exact⟨Bd d.o,rfl⟩
 rcases (show c=0\/c=1\/c=2\/c=3\/c=4\/c=5\/c=6\/c=7\/c=8 by omega) with rfl|rfl|rfl|rfl|rfl|rfl|rfl|rfl|rfl
 ·have b:w.cell? ⟨4,0,none⟩=some (Zi 0):=a.cell iO 0 (by decide)
  clear a h0 h9;go_enter func242,ntmps242;go_wp2;go_ret;exact⟨Bd (by decide),rfl⟩
 ·have b:w.cell? ⟨4,1,none⟩=some (Zi 2):=a.cell iO 1 (by decide)
  clear a h0 h9;go_enter func242,ntmps242;go_wp2;go_ret;exact⟨Bd (by decide),rfl⟩
 ·have b:w.cell? ⟨4,2,none⟩=some (Zi 1):=a.cell iO 2 (by decide)
  clear a h0 h9;go_enter func242,ntmps242;go_wp2;go_ret;exact⟨Bd (by decide),rfl⟩
 ·have b:w.cell? ⟨4,3,none⟩=some (Zi 6):=a.cell iO 3 (by decide)
  clear a h0 h9;go_enter func242,ntmps242;go_wp2;go_ret;exact⟨Bd (by decide),rfl⟩
 ·have b:w.cell? ⟨4,4,none⟩=some (Zi 5):=a.cell iO 4 (by decide)
  clear a h0 h9;go_enter func242,ntmps242;go_wp2;go_ret;exact⟨Bd (by decide),rfl⟩
 ·have b:w.cell? ⟨4,5,none⟩=some (Zi 4):=a.cell iO 5 (by decide)
  clear a h0 h9;go_enter func242,ntmps242;go_wp2;go_ret;exact⟨Bd (by decide),rfl⟩
 ·have b:w.cell? ⟨4,6,none⟩=some (Zi 3):=a.cell iO 6 (by decide)
  clear a h0 h9;go_enter func242,ntmps242;go_wp2;go_ret;exact⟨Bd (by decide),rfl⟩
 ·have b:w.cell? ⟨4,7,none⟩=some (Zi 8):=a.cell iO 7 (by decide)
  clear a h0 h9;go_enter func242,ntmps242;go_wp2;go_ret;exact⟨Bd (by decide),rfl⟩
 have b:w.cell? ⟨4,8,none⟩=some (Zi 7):=a.cell iO 8 (by decide);clear a h0 h9;go_enter func242,ntmps242;go_wp2;go_ret;exact⟨Bd (by decide),rfl⟩
variable{c k n:Int}{i j:Nat}{P:Tb->Prop}
theorem Ab{p:Prop}(h:p):Hid p:=h
theorem Below.up{a b c:Tw}(h:Zb a b)(k:Zb b c):Zb a c:=h.trans (k.mono h.size)
def Wk(n:Int):Int:=if n = -1 then -1 else 1-n
def Su(a b:Int):Int:=if a=0\/b=0 then 0 else min a b
def orJ(a b:Int):Int:=if a=1\/b=1 then 1 else min a b
theorem nj1(h:(n == -1)=true):-1=Wk n:=by simp at h;simp[Wk,h]
theorem nj2(h:(n == -1)=false):1-n=Wk n:=by simp at h;simp[Wk,h]
theorem AHu(n:Int)(b : -1<=n)(c:n<=1)(w:Tw):
 Zc 212 #[Zi n] w λe a=>e=Zr (Zi (Wk n))/\a=w:=by
 go_enter func212,ntmps212;go_wp2
 all_goals go_ret
 ·exact⟨Bd (nj1 ‹_›),rfl⟩
 exact⟨Bd (nj2 ‹_›),rfl⟩
theorem AHo(a b:Int)(w:Tw):
 Zc 213 #[Zi a,Zi b] w λe h=>e=Zr (Zi (Su a b))/\h=w:=by
 have c:Hid (Su a b=if a=0\/b=0 then 0 else min a b):=rfl
 by_cases h1:a=0
 ·have d:Hid (0=Su a b):=Ab (by rw[c.o,Yaa (.inl h1)])
  have g:(a==0)=true:=by simpa using h1
  clear h1 c;go_enter func213,ntmps213;go_wp2;go_ret;exact⟨Bd d.o,rfl⟩
 by_cases h2:b=0
 ·have d:Hid (0=Su a b):=Ab (by rw[c.o,Yaa (.inr h2)])
  have g:(a==0)=false:=by simpa using h1
  have f:(b==0)=true:=by simpa using h2
  clear h1 h2 c;go_enter func213,ntmps213;go_wp2;go_ret;exact⟨Bd d.o,rfl⟩
 have d:Hid (min a b=Su a b):=Ab (by rw[c.o,Y9 (by omega)]);have g:(a==0)=false:=by simpa using h1
 have f:(b==0)=false:=by simpa using h2
 clear h1 h2 c;go_enter func213,ntmps213;go_wp2;go_ret;exact⟨Bd d.o,rfl⟩
theorem AHi(a b:Int)(w:Tw):
 Zc 214 #[Zi a,Zi b] w λe h=>e=Zr (Zi (orJ a b))/\h=w:=by
 have c:Hid (orJ a b=if a=1\/b=1 then 1 else min a b):=rfl
 by_cases h1:a=1
 ·have d:Hid (1=orJ a b):=Ab (by rw[c.o,Yaa (.inl h1)])
  have g:(a==1)=true:=by simpa using h1
  clear h1 c;go_enter func214,ntmps214;go_wp2;go_ret;exact⟨Bd d.o,rfl⟩
 by_cases h2:b=1
 ·have d:Hid (1=orJ a b):=Ab (by rw[c.o,Yaa (.inr h2)])
  have g:(a==1)=false:=by simpa using h1
  have f:(b==1)=true:=by simpa using h2
  clear h1 h2 c;go_enter func214,ntmps214;go_wp2;go_ret;exact⟨Bd d.o,rfl⟩
 have d:Hid (min a b=orJ a b):=Ab (by rw[c.o,Y9 (by omega)]);have g:(a==1)=false:=by simpa using h1
 have f:(b==1)=false:=by simpa using h2
 clear h1 h2 c;go_enter func214,ntmps214;go_wp2;go_ret;exact⟨Bd d.o,rfl⟩
structure Nd where
 c:Int
 Bl:ByteArray
 k:Int
 n:Int
 t:ByteArray
abbrev CT:=Deep.BT Nd
variable{l r:CT}
def Gy(w:World):CT->Value->Prop
 | .nil,v=>v=.pointer none
 | .node _ _ ⟨c,Bl,k,n,t⟩ l r,v=>∃b a d,v=.pointer (some ⟨b,0,none⟩)/\w.heap[b]? = some (.cells #[Zi c,.string Bl,Zi k,Zi n,.string t,a,d] 140)/\(1<=c/\c<=11)/\Gy w l a/\Gy w r d
theorem Gy.up{w W:Tw}(c:Zb w W):∀{T:CT}{v:Tv},Gy w T v->Gy W T v
 | .nil,_,h=>h
 | .node _ _ ⟨_,_,_,_,_⟩ _ _,_,⟨b,pl,pr,e,hh,hcd,hl,hr⟩=>⟨b,pl,pr,e,by
    rw[c.block b (by
     rcases Yc b w.heap.size with a|a
     ·exact a
     rw[XI a] at hh;cases hh)]
    exact hh,hcd,Gy.up c hl,Gy.up c hr⟩
theorem cell_of_heap{w:Tw}{b:Nat}{cs:Array Tv}{t:TypeId}(h:w.heap[b]? = some (Zk cs t))(i:Nat):w.cell? ⟨b,i,none⟩=cs[i]? := by
 simp[World.cell?,h]
def C9:CT->Int->Bool
 | .nil,_=>true
 | .node _ _ _ l r,o=>decide (0<=o) && (C9 l (o-1) && C9 r (o-1))
theorem Rc:∀(T:CT)(v:Tv)(o:Int)(w:Tw),Gy w T v -> -1<=o->o<=1000 ->
 Zc 107 #[v,Zi o] w λe s=>e=Zr (Zo (C9 T o))/\s=w
 | .nil,v,o,w,h,h1,h2=>by obtain rfl:v=Zp none:=h;have d:Hid (true=C9 .nil o):=rfl;go_enter func107,ntmps107;go_wp2;go_ret;exact⟨Af d.o,rfl⟩
 | .node a0 o0 ⟨c,Bl,k,n,t⟩ l r,v,o,w,h,h1,h2=>by
   obtain⟨b,p,q,rfl,m,_,g,i⟩:=h;have y:w.cell? ⟨b,5,none⟩=some p:=cell_of_heap m 5;have z:w.cell? ⟨b,6,none⟩=some q:=cell_of_heap m 6;clear m
   by_cases ho:0<=o
   ·have a:=Rc l p (o-1) w g (by omega) (by omega)
    have f:=Rc r q (o-1) w i (by omega) (by omega);cases el:C9 l (o-1)
    ·rw[el] at a
     have d:Hid (false=C9 (.node a0 o0 ⟨c,Bl,k,n,t⟩ l r) o):=Ab (by simp[C9,el]);have j:=Ab a;clear a f el g i;go_enter func107,ntmps107;go_wp2_with (go_at_call 107;refine j.o.mono ?_;rintro e u⟨rfl,rfl⟩);go_ret;exact⟨Af d.o,rfl⟩
    rw[el] at a;have d:Hid (C9 r (o-1)=C9 (.node a0 o0 ⟨c,Bl,k,n,t⟩ l r) o):=Ab (by simp[C9,el,ho]);have j:=Ab a;have IR:=Ab f;clear a f el g i;generalize C9 r (o-1)=x at *;go_enter func107,ntmps107;go_wp2_with fail;refine j.o.mono ?_;rintro e u⟨rfl,rfl⟩;go_wp2_with fail;refine IR.o.mono ?_;rintro e D⟨rfl,rfl⟩;go_wp2;go_ret;exact⟨Af d.o,rfl⟩
   have d:Hid (false=C9 (.node a0 o0 ⟨c,Bl,k,n,t⟩ l r) o):=Ab (by simp[C9,ho]);clear g i;go_enter func107,ntmps107;go_wp2;go_ret;exact⟨Af d.o,rfl⟩
theorem AEX(p:Addr)(w:Tw):
 CallsD prog 249 #[Zp (some p)] .returning w λe c d=>e=Zr (Zu #[])/\c=.returning/\d=w:=by
 refine callsD_of_wpS func249 rfl λa cs b=>?_
 apply wpS_seq;apply wpS_region;simp[wpOpsS,go_sem,recoverD,b,ntmps249,Exit.thenS];refine wpS_cond (t:=false) (by simp[Act.eval,Array.replicate]) ?_;simp only[WK,if_false];refine wpS_of_wp (wp_skip ?_);cases a
 simp_all [bodyPostS,results,results249]
def Io(a b:ByteArray->Int)(gt:ByteArray->ByteArray):CT->Int
 | .nil=>1
 | .node _ _ ⟨c,Bl,k,n,t⟩ l r=>if c=7 then gG (a Bl==0) else if c=8 then gG (a Bl != 0) else if c=11 then Wk (Io a b gt l) else if c=9 then Su (Io a b gt l) (Io a b gt r) else if c=10 then orJ (Io a b gt l) (Io a b gt r) else Vq c (a Bl) (b Bl) (gt Bl) k n t
theorem Vk(b:Bool):-1<=gG b/\gG b<=1:=by cases b <;> simp[gG]
theorem ACo(c a n1:Int)(t1:Tb)(b n2:Int)(t2:Tb):-1<=Vq c a n1 t1 b n2 t2/\Vq c a n1 t1 b n2 t2<=1:=by
 unfold Vq;split
 ·omega
 exact Vk _
theorem Kw(a b:Tb->Int)(gt:Tb->Tb):∀T:CT,-1<=Io a b gt T/\Io a b gt T<=1
 | .nil=>by simp[Io]
 | .node a0 o0 ⟨c,Bl,k,n,t⟩ l r=>by
   have d:=Kw a b gt l;have e:=Kw a b gt r;unfold Io;split
   ·exact Vk _
   split
   ·exact Vk _
   split
   ·unfold Wk;split <;> omega
   split
   ·unfold Su;split <;> omega
   split
   ·unfold orJ;split <;> omega
   exact ACo _ _ _ _ _ _ _
theorem e7{a b:Tb->Int}{gt:Tb->Tb}{Bl:Tb}{t:Tb}(h:c=7):gG (a Bl==0)=Io a b gt (.node i j ⟨c,Bl,k,n,t⟩ l r):=by rw[Io,Yaa h]
theorem e8{a b:Tb->Int}{gt:Tb->Tb}{Bl:Tb}{t:Tb}(h:c=8):gG (a Bl != 0)=Io a b gt (.node i j ⟨c,Bl,k,n,t⟩ l r):=by rw[Io,Y9 (by omega),Yaa h]
theorem e11{a b:Tb->Int}{gt:Tb->Tb}{Bl:Tb}{t:Tb}(h:c=11):Wk (Io a b gt l)=Io a b gt (.node i j ⟨c,Bl,k,n,t⟩ l r):=by rw[Io,Y9 (by omega),Y9 (by omega),Yaa h]
theorem e9{a b:Tb->Int}{gt:Tb->Tb}{Bl:Tb}{t:Tb}(h:c=9):Su (Io a b gt l) (Io a b gt r)=Io a b gt (.node i j ⟨c,Bl,k,n,t⟩ l r):=by rw[Io,Y9 (by omega),Y9 (by omega),Y9 (by omega),Yaa h]
theorem e10{a b:Tb->Int}{gt:Tb->Tb}{Bl:Tb}{t:Tb}(h:c=10):orJ (Io a b gt l) (Io a b gt r)=Io a b gt (.node i j ⟨c,Bl,k,n,t⟩ l r):=by rw[Io,Y9 (by omega),Y9 (by omega),Y9 (by omega),Y9 (by omega),Yaa h]
theorem e0{a b:Tb->Int}{gt:Tb->Tb}{Bl:Tb}{t:Tb}(h:¬c=7/\¬c=8/\¬c=11/\¬c=9/\¬c=10):Vq c (a Bl) (b Bl) (gt Bl) k n t=Io a b gt (.node i j ⟨c,Bl,k,n,t⟩ l r):=by rw[Io,Y9 (by omega),Y9 (by omega),Y9 (by omega),Y9 (by omega),Y9 (by omega)]
theorem fld(k n:Int)(t:Tb)(W:Tw):(Instr.field 56 (Zg #[Zi k,Zi n,Zt t]) 0).run prog W=.ok (Zi k) W:=by kernel_rfl
theorem Uh(T:CT)(v:Tv)(w:Tw)(h:Gy w T v):
 Zc 64 #[v] w λe a=>e=Zr (Zo (C9 T 24))/\a=w:=by
 have H1:=Ab (Rc T v 24 w h (by omega) (by omega));clear h;generalize C9 T 24=b at *;go_enter func64,ntmps64;go_wp2_with fail;refine H1.o.mono ?_;rintro e c⟨rfl,rfl⟩;go_wp2;go_ret;exact⟨rfl,rfl⟩
def dR(P:ByteArray->Prop)(a:Value)(b c:ByteArray->Int)(gt:ByteArray->ByteArray)(w:World):Prop :=
 ∀(W:World)(s:ByteArray),P s->Zb w W->Zc 211 #[a,.string s] W λe d=>e=.returned (.agg #[Zi (b s),Zi (c s),.string (gt s)])/\Zb W d
theorem dR.up{P:Tb->Prop}{v:Tv}{b c:Tb->Int}{gt:Tb->Tb}{w W:Tw}(h:dR P v b c gt w)(e:Zb w W):dR P v b c gt W :=
 λd s f a=>h d s f (Below.up e a)
def Kg(P:ByteArray->Prop):CT->Prop
 | .nil=>True
 | .node _ _ ⟨c,Bl,_,_,_⟩ l r=>if c=11 then Kg P l else if c=9\/c=10 then Kg P l/\Kg P r else P Bl
theorem Kg.Bl{P:Tb->Prop}{i j:Nat}{c:Int}{Bl:Tb}{k n:Int}{t:Tb}{l r:CT}(h:Kg P (.node i j ⟨c,Bl,k,n,t⟩ l r))(a:¬(c=9\/c=10\/c=11)):P Bl:=by simp only[Kg] at h;rwa[Y9 (by omega),Y9 (by omega)] at h
theorem Kg.left{Bl:Tb}{t:Tb}(h:Kg P (.node i j ⟨c,Bl,k,n,t⟩ l r))(a:c=9\/c=10\/c=11):Kg P l:=by
 simp only[Kg] at h
 by_cases h11:c=11
 ·rwa[Yaa h11] at h
 rw[Y9 h11,Yaa (by omega)] at h;exact h.1
theorem Kg.right{Bl:Tb}{t:Tb}(h:Kg P (.node i j ⟨c,Bl,k,n,t⟩ l r))(a:c=9\/c=10):Kg P r:=by simp only[Kg] at h;rw[Y9 (by omega),Yaa a] at h;exact h.2
theorem R9(P:ByteArray->Prop)(j:Value)(a f:ByteArray->Int)(gt:ByteArray->ByteArray):∀(T:CT)(v:Value)(w:World),Gy w T v->Kg P T->dR P j a f gt w ->
 Zc 170 #[v,j] w λe w'=>e=.returned (.int .i64 (Io a f gt T))/\Zb w w'
 | .nil,v,w,h,_,_=>by obtain rfl:v=.pointer none:=h;have o:Hid (1=Io a f gt .nil):=rfl;go_enter func170,ntmps170;go_wp2;go_ret;exact⟨Bd o.o,XB _ _⟩
 | .node u y ⟨c,Bl,k,n,t⟩ l r,v,w,h,ha,hg=>by
   obtain⟨b,V,X,rfl,R,_,hl,hr⟩:=h;have c0:w.cell? ⟨b,0,none⟩=some (.int .i64 c):=cell_of_heap R 0;have c1:w.cell? ⟨b,1,none⟩=some (.string Bl):=cell_of_heap R 1;have c2:w.cell? ⟨b,2,none⟩=some (.int .i64 k):=cell_of_heap R 2;have c3:w.cell? ⟨b,3,none⟩=some (.int .i64 n):=cell_of_heap R 3;have c4:w.cell? ⟨b,4,none⟩=some (.string t):=cell_of_heap R 4;have c5:w.cell? ⟨b,5,none⟩=some V:=cell_of_heap R 5;have c6:w.cell? ⟨b,6,none⟩=some X:=cell_of_heap R 6;clear R;have s:Hid (¬(c=9\/c=10\/c=11)->∀W,Zb w W->Zc 211 #[j,.string Bl] W λe w'=>e=.returned (.agg #[.int .i64 (a Bl),.int .i64 (f Bl),.string (gt Bl)])/\Zb W w'):=λhc W hb=>hg W Bl (ha.Bl hc) hb
   have q:Hid ((c=9\/c=10\/c=11)->∀W,Zb w W->Zc 170 #[V,j] W λe w'=>e=.returned (.int .i64 (Io a f gt l))/\Zb W w'):=λhc W hb=>R9 P j a f gt l V W (hl.up hb) (ha.left hc) (hg.up hb)
   have IR:Hid ((c=9\/c=10)->∀W,Zb w W->Zc 170 #[X,j] W λe w'=>e=.returned (.int .i64 (Io a f gt r))/\Zb W w'):=λhc W hb=>R9 P j a f gt r X W (hr.up hb) (ha.right hc) (hg.up hb)
   have Y:=Kw a f gt l;have rr:=Kw a f gt r;clear hl hr hg ha
   by_cases h7:c=7
   ·have o:Hid (gG (a Bl==0)=Io a f gt (.node u y ⟨c,Bl,k,n,t⟩ l r)):=e7 h7
    replace s:=Ab (s.o (by omega));subst h7;clear q IR;generalize Io a f gt (.node u y ⟨7,Bl,k,n,t⟩ l r)=ee at *;generalize a Bl=M,f Bl=N,gt Bl=O at *;clear Y rr;have aa:=fld M N O;go_enter func170,ntmps170;go_wp2_with fail;refine(s.o _ (XB _ _)).mono ?_;rintro e w1⟨rfl,I⟩;go_wp2_with (go_at_call 210;refine(Jc _ _).mono ?_;rintro e w2⟨rfl,rfl⟩);go_ret;exact⟨Bd o.o,I⟩
   by_cases h8:c=8
   ·have o:Hid (gG (a Bl != 0)=Io a f gt (.node u y ⟨c,Bl,k,n,t⟩ l r)):=e8 h8
    replace s:=Ab (s.o (by omega));subst h8;clear q IR h7;generalize Io a f gt (.node u y ⟨8,Bl,k,n,t⟩ l r)=ee at *;generalize a Bl=M,f Bl=N,gt Bl=O at *;clear Y rr;have aa:=fld M N O;go_enter func170,ntmps170;go_wp2_with fail;refine(s.o _ (XB _ _)).mono ?_;rintro e w1⟨rfl,I⟩;go_wp2_with (go_at_call 210;refine(Jc _ _).mono ?_;rintro e w2⟨rfl,rfl⟩);go_ret;exact⟨Bd o.o,I⟩
   by_cases h11:c=11
   ·have o:Hid (Wk (Io a f gt l)=Io a f gt (.node u y ⟨c,Bl,k,n,t⟩ l r)):=e11 h11
    replace q:=Ab (q.o (by omega));subst h11;clear s IR h7 h8 rr;generalize Io a f gt (.node u y ⟨11,Bl,k,n,t⟩ l r)=ee at *;generalize Io a f gt l=x at *;go_enter func170,ntmps170;go_wp2_with fail;refine(q.o _ (XB _ _)).mono ?_;rintro e w1⟨rfl,I⟩;go_wp2_with (go_at_call 212;refine(AHu _ Y.1 Y.2 _).mono ?_;rintro e w2⟨rfl,rfl⟩);go_ret;exact⟨Bd o.o,I⟩
   by_cases h9:c=9
   ·have o:Hid (Su (Io a f gt l) (Io a f gt r)=Io a f gt (.node u y ⟨c,Bl,k,n,t⟩ l r)):=e9 h9
    replace q:=Ab (q.o (by omega));replace IR:=Ab (IR.o (by omega));subst h9;clear s h7 h8 h11 Y rr;generalize Io a f gt (.node u y ⟨9,Bl,k,n,t⟩ l r)=ee at *;generalize Io a f gt l=x,Io a f gt r=G at *;go_enter func170,ntmps170;go_wp2_with fail;replace c0:=cell_regrown c0;replace c5:=cell_regrown c5;replace c6:=cell_regrown c6;clear c1 c2 c3 c4;have z:Hid (∀d i,Zc 170 #[V,j] (grow (redrawn w d) i) λe g=>e=.returned (.int .i64 x)/\∃p:Regrown,g=grow (redrawn w p.d) p.os):=λd i=>Calls.regrown_of (q.o _ (below_regrown w d i))
    have D:Hid (∀d i,Zc 170 #[X,j] (grow (redrawn w d) i) λe g=>e=.returned (.int .i64 G)/\∃p:Regrown,g=grow (redrawn w p.d) p.os):=λd i=>Calls.regrown_of (IR.o _ (below_regrown w d i))
    have U:Hid (∀d i,Zc 213 #[.int .i64 x,.int .i64 G] (grow (redrawn w d) i) λe g=>e=.returned (.int .i64 (Su x G))/\∃p:Regrown,g=grow (redrawn w p.d) p.os):=λd i=>(AHo x G _).mono λ_ _⟨he,hw⟩=>⟨he,⟨⟨d,i⟩,hw⟩⟩
    refine wp_region_quiet_below (by kernel_rfl) (by kernel_rfl) ?_
    repeat (go_big_quiet_step (first
     | (go_at_call_of 170 (#[V,j]:Array Value);exact z.o _ _)
     | (go_at_call_of 170 (#[X,j]:Array Value);exact D.o _ _)
     | (go_at_call_of 213 (#[.int .i64 x,.int .i64 G]:Array Value);exact U.o _ _)))
    refine wpQuiet_nil ?_;intro _ J;obtain⟨⟨dq,L⟩,m⟩:=J;subst m;go_wp2;go_ret;exact⟨Bd o.o,below_regrown w dq L⟩
   by_cases h10:c=10
   ·have o:Hid (orJ (Io a f gt l) (Io a f gt r)=Io a f gt (.node u y ⟨c,Bl,k,n,t⟩ l r)):=e10 h10
    replace q:=Ab (q.o (by omega));replace IR:=Ab (IR.o (by omega));subst h10;clear s h7 h8 h11 h9 Y rr;generalize Io a f gt (.node u y ⟨10,Bl,k,n,t⟩ l r)=ee at *;generalize Io a f gt l=x,Io a f gt r=G at *;go_enter func170,ntmps170;go_wp2_with fail;replace c0:=cell_regrown c0;replace c5:=cell_regrown c5;replace c6:=cell_regrown c6;clear c1 c2 c3 c4;have z:Hid (∀d i,Zc 170 #[V,j] (grow (redrawn w d) i) λe g=>e=.returned (.int .i64 x)/\∃p:Regrown,g=grow (redrawn w p.d) p.os):=λd i=>Calls.regrown_of (q.o _ (below_regrown w d i))
    have D:Hid (∀d i,Zc 170 #[X,j] (grow (redrawn w d) i) λe g=>e=.returned (.int .i64 G)/\∃p:Regrown,g=grow (redrawn w p.d) p.os):=λd i=>Calls.regrown_of (IR.o _ (below_regrown w d i))
    have U:Hid (∀d i,Zc 214 #[.int .i64 x,.int .i64 G] (grow (redrawn w d) i) λe g=>e=.returned (.int .i64 (orJ x G))/\∃p:Regrown,g=grow (redrawn w p.d) p.os):=λd i=>(AHi x G _).mono λ_ _⟨he,hw⟩=>⟨he,⟨⟨d,i⟩,hw⟩⟩
    refine wp_region_quiet_below (by kernel_rfl) (by kernel_rfl) ?_
    repeat (go_big_quiet_step (first
     | (go_at_call_of 170 (#[V,j]:Array Value);exact z.o _ _)
     | (go_at_call_of 170 (#[X,j]:Array Value);exact D.o _ _)
     | (go_at_call_of 214 (#[.int .i64 x,.int .i64 G]:Array Value);exact U.o _ _)))
    refine wpQuiet_nil ?_;intro _ J;obtain⟨⟨dq,L⟩,m⟩:=J;subst m;go_wp2;go_ret;exact⟨Bd o.o,below_regrown w dq L⟩
   have o:Hid (Vq c (a Bl) (f Bl) (gt Bl) k n t=Io a f gt (.node u y ⟨c,Bl,k,n,t⟩ l r)):=e0 ⟨h7,h8,h11,h9,h10⟩;replace s:=Ab (s.o (by omega));have b7:(c==7)=false:=by simpa using h7
   have b8:(c==8)=false:=by simpa using h8
   have ac:(c==11)=false:=by simpa using h11
   have b9:(c==9)=false:=by simpa using h9
   have ab:(c==10)=false:=by simpa using h10
   clear q IR h7 h8 h11 h9 h10 Y rr;generalize Io a f gt (.node u y ⟨c,Bl,k,n,t⟩ l r)=ee at *;generalize a Bl=M,f Bl=N,gt Bl=O at *;go_enter func170,ntmps170;go_wp2_with fail;replace c0:=cell_regrown c0;replace c1:=cell_regrown c1;replace c2:=cell_regrown c2;replace c3:=cell_regrown c3;replace c4:=cell_regrown c4;clear c5 c6;have z:Hid (∀d i,Zc 211 #[j,.string Bl] (grow (redrawn w d) i) λe g=>e=.returned (.agg #[.int .i64 M,.int .i64 N,.string O])/\∃p:Regrown,g=grow (redrawn w p.d) p.os):=λd i=>Calls.regrown_of (s.o _ (below_regrown w d i))
   have D:Hid (∀d i,Zc 215 #[.int .i64 c,.agg #[.int .i64 M,.int .i64 N,.string O],.agg #[.int .i64 k,.int .i64 n,.string t]] (grow (redrawn w d) i) λe g=>e=.returned (.int .i64 (Vq c M N O k n t))/\∃p:Regrown,g=grow (redrawn w p.d) p.os):=λd i=>Calls.regrown_of (AEl c M N k n O t _)
   refine wp_region_quiet_below (by kernel_rfl) (by kernel_rfl) ?_
   repeat (go_big_quiet_step (first
    | (go_at_call_of 211 (#[j,.string Bl]:Array Value);exact z.o _ _)
    | (go_at_call_of 215 (#[.int .i64 c,.agg #[.int .i64 M,.int .i64 N,.string O],.agg #[.int .i64 k,.int .i64 n,.string t]]:Array Value);exact D.o _ _)))
   refine wpQuiet_nil ?_;intro _ J;obtain⟨⟨dq,L⟩,m⟩:=J;subst m;go_wp2;go_ret;exact⟨Bd o.o,below_regrown w dq L⟩
theorem AAk(P:Tb->Prop)(c:Tv)(a b:Tb->Int)(gt:Tb->Tb)(T:CT)(v:Tv)(w:Tw)(h:Gy w T v)(g:Kg P T)(j:dR P c a b gt w)(i:C9 T 24=true):
 Zc 117 #[v,c] w λe f=>e=Zr (Zi (Io a b gt T))/\Zb w f:=by
 have H1:Hid (Zc 64 #[v] w λe f=>e=Zr (Zo true)/\f=w):=by have:=Uh T v w h;rw[i] at this;exact this
 have H2:=Ab (R9 P c a b gt T v w h g j);generalize Io a b gt T=k at *;clear h j i g;go_enter func117,ntmps117;go_wp2_with fail;refine H1.o.mono ?_;rintro e l⟨rfl,rfl⟩;go_wp2_with fail;refine H2.o.mono ?_;rintro e m⟨rfl,d⟩;go_wp2;go_ret;exact⟨rfl,d⟩
theorem ABs(p:Addr)(w:Tw):
 CallsD prog 244 #[Zp (some p)] .returning w λe c d=>e=Zr (Zu #[])/\c=.returning/\d=w:=by
 refine callsD_of_wpS func244 rfl λa cs b=>?_
 apply wpS_seq;apply wpS_region;simp[wpOpsS,go_sem,recoverD,b,ntmps244,Exit.thenS];refine wpS_cond (t:=false) (by simp[Act.eval,Array.replicate]) ?_;simp only[WK,if_false];refine wpS_of_wp (wp_skip ?_);cases a
 simp_all [bodyPostS,results,results244]
theorem r8(pa l o:Tv)(gs:Tb->St)(s:Tb)(w:Tw)(j:∀(W:Tw)(s:Tb),Zb w W->Zc 113 #[Zt s,pa,l,o] W λe h=>e=Zr (Zg (E6 (gs s)))/\Zb W h):
 Zc 204 #[.func (.func 113) #[] #[pa,l,o],Zt s] w λe h=>e=Zr (Zg (E6 (gs s)))/\Zb w h:=by
 have d:=Ab (λW G=>j W s G);clear j;have I:∀(i:Fn)(first b:Array Tv)(w:Tw),(Instr.makeFunc i first b).run prog w=.ok (.func i first b) w:=λ_ _ _ _=>rfl
 generalize gs s=st at *;obtain⟨sc,sm,⟨sk,sn,M⟩,⟨J,L,p⟩⟩:=st;unfold E6 at d ⊢;simp only at d ⊢
 go_enter_defers func204,ntmps204
 go_wp2_with fail;refine(d.o _ Zal).mono ?_;rintro e q⟨rfl,a⟩;have g:Nq q w.heap.size F6:=Nq.up (Y8 _ _) a;obtain⟨c0,c1,u,v,x,y,z,D⟩:=Nq.cells (c:=0) (m:=0) (k:=0) (n:=0) (t:=⟨#[]⟩) (k':=0) (n':=0) (t':=⟨#[]⟩) g;obtain⟨O,P,R,T,U,V,X,Y⟩:=g.free;have r:Hid (Zb w q):=((XB _ w).alloc (Y' _) _).trans (a.mono (by simp));clear a g;go_wp2;refine leaves_cons (f:=244) (args:=#[Zp (some ⟨w.heap.size,0,none⟩)]) (by simp) (by simp[go_sem]) ?_;refine(ABs ⟨w.heap.size,0,none⟩ _).mono ?_;rintro e u' N⟨rfl,rfl,rfl⟩;simp[Leaves,settle,results,results204,go_sem,c0,c1,u,v,x,y,z,D];exact b8c r.o (Y' _) _ _ _ _ _ _ _ _
end S
namespace F
def Rf(l:List Aj)(s:ByteArray):Prop:=0<=Ce l s
theorem V5(k p:Nat)(cv gv:Tv)(cols:List Aj)(gs:List Fk)(g:Fk)(st:S.St)(c1:Int)(I:Tb)(J:Int)(L:Bool)(M N:Int)(O:Tb)(w:Tw)(y:Hm w cv gv (cols,gs))(hk:gs[k]? = some g)(h1:1<=cols.length)(h8:cols.length<=8)(ab:Gb cols g=true)(hp:cM cols c1=p)(aa:g.2.1[p]? = some st):
 Zc 114 #[Zg #[cv,gv],Zi k,Zg #[Zi c1,Zt I,Zi J,Zo L,Zi M,Zi N,Zt O]] w λe w'=>e=Zr (Zg (S.E6 st))/\Zb w w':=by
 have s:=Aa (λW(hW:Zb w W)=>nL k cv gv cols gs g W (y.up hW).1 (y.up hW).2 hk);have t:=Aa (λW(hW:Zb w W)=>U9 cv gv cols c1 I J L M N O W (y.up hW).1 h1 h8);obtain⟨ga,gc,rfl,_⟩:=y.2.slice;obtain⟨ca,cc,rfl,_⟩:=y.1.slice;dsimp only at s t ⊢;rw[ab] at s;rw[hp] at t;clear y ab;obtain⟨s1,s2,⟨k1,n1,t1⟩,⟨k2,n2,t2⟩⟩:=st;obtain⟨u,P,l,R,U⟩:=Jl w (Zk #[Zs ca cols.length cc,Zs ga gs.length gc] 105) (Zk #[Zi c1,Zt I,Zi J,Zo L,Zi M,Zi N,Zt O] 60) (Zk #[Zi 0,Zi 0,Zi 0,Zi 0,Zt ⟨#[]⟩,Zi 0,Zi 0,Zt ⟨#[]⟩] 231);have HA:=Aa P;have HB:=Aa l;have G:=Aa R;have z:=Aa U;have af:=Aa u;have f:=Aa aa;clear P l R U u aa;go_enter func114,ntmps114;go_wp2_with fail;generalize ((w.alloc (Zk #[Zs ca cols.length cc,Zs ga gs.length gc] 105)).alloc (Zk #[Zi c1,Zt I,Zi J,Zo L,Zi M,Zi N,Zt O] 60)).alloc (Zk #[Zi 0,Zi 0,Zi 0,Zi 0,Zt ⟨#[]⟩,Zi 0,Zi 0,Zt ⟨#[]⟩] 231)=W3 at *;refine(s.o W3 z.o).mono ?_;rintro e h⟨sv,bv,rfl,x,Y,V⟩;obtain⟨n,o,rfl,_⟩:=x.slice;obtain⟨i,j,rfl,_⟩:=Y.slice;have u:=af.o;have X:Zb h (h.alloc (Zk #[Zi g.1,Zs n g.2.1.length o,Zs i g.2.2.length j] 160)):=Zal;have d:=Ap V X;have P:=(d.block w.heap.size (by omega)).trans HA.o;have l:=(d.block (w.heap.size+1) (by omega)).trans HB.o;have ad:=Aa ((d.block (w.heap.size+2) (by omega)).trans G.o);obtain⟨f0,f1⟩:=Hg P;have x0:(h.alloc (Zk #[Zi g.1,Zs n g.2.1.length o,Zs i g.2.2.length j] 160)).cell? ⟨w.heap.size+1,0,none⟩=some (Zi c1):=A4 l rfl;have x1:(h.alloc (Zk #[Zi g.1,Zs n g.2.1.length o,Zs i g.2.2.length j] 160)).cell? ⟨w.heap.size+1,1,none⟩=some (Zt I):=A4 l rfl;have x2:(h.alloc (Zk #[Zi g.1,Zs n g.2.1.length o,Zs i g.2.2.length j] 160)).cell? ⟨w.heap.size+1,2,none⟩=some (Zi J):=A4 l rfl;have x3:(h.alloc (Zk #[Zi g.1,Zs n g.2.1.length o,Zs i g.2.2.length j] 160)).cell? ⟨w.heap.size+1,3,none⟩=some (Zo L):=A4 l rfl;have x4:(h.alloc (Zk #[Zi g.1,Zs n g.2.1.length o,Zs i g.2.2.length j] 160)).cell? ⟨w.heap.size+1,4,none⟩=some (Zi M):=A4 l rfl;have x5:(h.alloc (Zk #[Zi g.1,Zs n g.2.1.length o,Zs i g.2.2.length j] 160)).cell? ⟨w.heap.size+1,5,none⟩=some (Zi N):=A4 l rfl;have x6:(h.alloc (Zk #[Zi g.1,Zs n g.2.1.length o,Zs i g.2.2.length j] 160)).cell? ⟨w.heap.size+1,6,none⟩=some (Zt O):=A4 l rfl;have ae:=Aa (Y8 h (Zk #[Zi g.1,Zs n g.2.1.length o,Zs i g.2.2.length j] 160));have ag:=Aa (x.up d);have D:=Aa (Ap z.o d);have am:=d.size;have ak:h.heap.size<(h.alloc (Zk #[Zi g.1,Zs n g.2.1.length o,Zs i g.2.2.length j] 160)).heap.size:=by simp
 clear x Y V X d P l HA HB G;go_wp2_with fail;generalize h.alloc (Zk #[Zi g.1,Zs n g.2.1.length o,Zs i g.2.2.length j] 160)=W5 at *;refine(t.o W5 D.o).mono ?_;rintro e c⟨rfl,m⟩;have aj:=Ax f.o;obtain⟨q,r,an,es,_,_,a⟩:=(ag.o.up m).cons (by omega);injection es with ah _ ai;subst ah ai;have y0:c.cell? ⟨q,r+p*8,none⟩=some (Zi s1):=a p _ f.o 0 _ rfl;have y1:c.cell? ⟨q,r+p*8+1,none⟩=some (Zi s2):=a p _ f.o 1 _ rfl;have y2:c.cell? ⟨q,r+p*8+2,none⟩=some (Zi k1):=a p _ f.o 2 _ rfl;have y3:c.cell? ⟨q,r+p*8+3,none⟩=some (Zi n1):=a p _ f.o 3 _ rfl;have y4:c.cell? ⟨q,r+p*8+4,none⟩=some (Zt t1):=a p _ f.o 4 _ rfl;have y5:c.cell? ⟨q,r+p*8+5,none⟩=some (Zi k2):=a p _ f.o 5 _ rfl;have y6:c.cell? ⟨q,r+p*8+6,none⟩=some (Zi n2):=a p _ f.o 6 _ rfl;have y7:c.cell? ⟨q,r+p*8+7,none⟩=some (Zt t2):=a p _ f.o 7 _ rfl;have b:=(m.block (w.heap.size+2) (by omega)).trans ad.o;have T:=(m.block h.heap.size ak).trans ae.o;obtain⟨_,g1,_⟩:=J5 T;have al:(p:Int)<(g.2.1.length:Int):=by omega
 have r0:c.cell? ⟨w.heap.size+2,0,none⟩=some (Zi 0):=A4 b rfl;have r1:c.cell? ⟨w.heap.size+2,1,none⟩=some (Zi 0):=A4 b rfl;have r2:c.cell? ⟨w.heap.size+2,2,none⟩=some (Zi 0):=A4 b rfl;have r3:c.cell? ⟨w.heap.size+2,3,none⟩=some (Zi 0):=A4 b rfl;have r4:c.cell? ⟨w.heap.size+2,4,none⟩=some (Zt ⟨#[]⟩):=A4 b rfl;have r5:c.cell? ⟨w.heap.size+2,5,none⟩=some (Zi 0):=A4 b rfl;have r6:c.cell? ⟨w.heap.size+2,6,none⟩=some (Zi 0):=A4 b rfl;have r7:c.cell? ⟨w.heap.size+2,7,none⟩=some (Zt ⟨#[]⟩):=A4 b rfl;have z0:=Yab c (w.heap.size+2) 0 _ _ b;have z1:=Yab c (w.heap.size+2) 1 _ _ b;have z2:=Yab c (w.heap.size+2) 2 _ _ b;have z3:=Yab c (w.heap.size+2) 3 _ _ b;have z4:=Yab c (w.heap.size+2) 4 _ _ b;have z5:=Yab c (w.heap.size+2) 5 _ _ b;have z6:=Yab c (w.heap.size+2) 6 _ _ b;have z7:=Yab c (w.heap.size+2) 7 _ _ b;have ac:=Aa (Ap D.o m);clear a b T m x0 x1 x2 x3 x4 x5 x6 f0 f1 aj;go_wp2;refine bodyPost_ret (v:=Zg #[Zi s1,Zi s2,Zi k1,Zi n1,Zt t1,Zi k2,Zi n2,Zt t2]) (by simp[results,results114,go_sem,r0,r1,r2,r3,r4,r5,r6,r7]) rfl ⟨rfl,?_⟩;exact(((((((ac.o.setCell (p:=⟨w.heap.size+2,0,none⟩) (XE _ _) _).setCell (p:=⟨w.heap.size+2,1,none⟩) (XE _ _) _).setCell (p:=⟨w.heap.size+2,2,none⟩) (XE _ _) _).setCell (p:=⟨w.heap.size+2,3,none⟩) (XE _ _) _).setCell (p:=⟨w.heap.size+2,4,none⟩) (XE _ _) _).setCell (p:=⟨w.heap.size+2,5,none⟩) (XE _ _) _).setCell (p:=⟨w.heap.size+2,6,none⟩) (XE _ _) _).setCell (p:=⟨w.heap.size+2,7,none⟩) (XE _ _) _
end F
namespace S
variable{i j:Nat}{c k n:Int}{l r:CT}
def gU(a:Value)(gs:ByteArray->St)(w:World):Prop :=
 ∀(W:World)(s:ByteArray),Zb w W->Zc 204 #[a,.string s] W λe b=>e=.returned (.agg (E6 (gs s)))/\Zb W b
theorem gU.up{v:Tv}{gs:Tb->St}{w W:Tw}(h:gU v gs w)(c:Zb w W):gU v gs W :=
 λb s a=>h b s (Below.up c a)
def Bp(gs:ByteArray->St):Bool->CT->Bool
 | b,.nil=>!b
 | b,.node _ _ ⟨c,Bl,k,n,t⟩ l r=>if c=9 then (if b then Bp gs b l || Bp gs b r else Bp gs b l && Bp gs b r) else if c=10 then (if b then Bp gs b l && Bp gs b r else Bp gs b l || Bp gs b r) else if c=11 then Bp gs (!b) l else E0 (if b then Pw c else c) (gs Bl) (k,n,t)
theorem m9f{gs:Tb->St}{Bl:Tb}{t:Tb}(h:c=9):(Bp gs false l && Bp gs false r)=Bp gs false (.node i j ⟨c,Bl,k,n,t⟩ l r):=by rw[Bp,Yaa h];rfl
theorem m9t{gs:Tb->St}{Bl:Tb}{t:Tb}(h:c=9):(Bp gs true l || Bp gs true r)=Bp gs true (.node i j ⟨c,Bl,k,n,t⟩ l r):=by rw[Bp,Yaa h];rfl
theorem AJv{gs:Tb->St}{Bl:Tb}{t:Tb}(h:c=10):(Bp gs false l || Bp gs false r)=Bp gs false (.node i j ⟨c,Bl,k,n,t⟩ l r):=by rw[Bp,Y9 (by omega),Yaa h];rfl
theorem AJu{gs:Tb->St}{Bl:Tb}{t:Tb}(h:c=10):(Bp gs true l && Bp gs true r)=Bp gs true (.node i j ⟨c,Bl,k,n,t⟩ l r):=by rw[Bp,Y9 (by omega),Yaa h];rfl
theorem AKD{gs:Tb->St}{Bl:Tb}{t:Tb}(h:c=11):Bp gs true l=Bp gs false (.node i j ⟨c,Bl,k,n,t⟩ l r):=by rw[Bp,Y9 (by omega),Y9 (by omega),Yaa h];rfl
theorem AJz{gs:Tb->St}{Bl:Tb}{t:Tb}(h:c=11):Bp gs false l=Bp gs true (.node i j ⟨c,Bl,k,n,t⟩ l r):=by rw[Bp,Y9 (by omega),Y9 (by omega),Yaa h];rfl
theorem m0f{gs:Tb->St}{Bl:Tb}{t:Tb}(h:¬c=9/\¬c=10/\¬c=11):E0 c (gs Bl) (k,n,t)=Bp gs false (.node i j ⟨c,Bl,k,n,t⟩ l r):=by rw[Bp,Y9 h.1,Y9 h.2.1,Y9 h.2.2];rfl
theorem m0t{gs:Tb->St}{Bl:Tb}{t:Tb}(h:¬c=9/\¬c=10/\¬c=11):E0 (Pw c) (gs Bl) (k,n,t)=Bp gs true (.node i j ⟨c,Bl,k,n,t⟩ l r):=by rw[Bp,Y9 h.1,Y9 h.2.1,Y9 h.2.2];rfl
theorem AAU(s:Value)(gs:ByteArray->St)(m o:Nat)(c:Int)(Bl:ByteArray)(k n:Int)(t:ByteArray)(l r:CT)(b:Nat)(V R:Value)(w:World)(u:w.heap[b]? = some (.cells #[.int .i64 c,.string Bl,.int .i64 k,.int .i64 n,.string t,V,R] 140))(hg:gU s gs w)(ho:Lp w)(hl:∀W,Zb w W->Zc 165 #[V,s] W λe q=>e=.returned (.bool (Bp gs false l))/\Zb W q)(hr:∀W,Zb w W->Zc 165 #[R,s] W λe q=>e=.returned (.bool (Bp gs false r))/\Zb W q)(hn:∀W,Zb w W->Zc 202 #[V,s] W λe q=>e=.returned (.bool (Bp gs true l))/\Zb W q):
 Zc 165 #[.pointer (some ⟨b,0,none⟩),s] w λe q=>e=.returned (.bool (Bp gs false (.node m o ⟨c,Bl,k,n,t⟩ l r)))/\Zb w q:=by
 have c0:w.cell? ⟨b,0,none⟩=some (.int .i64 c):=cell_of_heap u 0;have c1:w.cell? ⟨b,1,none⟩=some (.string Bl):=cell_of_heap u 1;have c2:w.cell? ⟨b,2,none⟩=some (.int .i64 k):=cell_of_heap u 2;have c3:w.cell? ⟨b,3,none⟩=some (.int .i64 n):=cell_of_heap u 3;have c4:w.cell? ⟨b,4,none⟩=some (.string t):=cell_of_heap u 4;have c5:w.cell? ⟨b,5,none⟩=some V:=cell_of_heap u 5;have N:w.cell? ⟨b,6,none⟩=some R:=cell_of_heap u 6;have O:b<w.heap.size:=block_lt_of_cell c0;have z:Hid (∀W,Zb w W->Zc 204 #[s,.string Bl] W λe q=>e=.returned (.agg (E6 (gs Bl)))/\Zb W q):=λW hb=>hg W Bl hb
 have HO:=Ab ho;have y:=Ab hl;have IR:=Ab hr;have T:=Ab hn;clear u hg ho hl hr hn
 by_cases h9:c=9
 ·have j:Hid ((Bp gs false l && Bp gs false r)=Bp gs false (.node m o ⟨c,Bl,k,n,t⟩ l r)):=m9f h9
  subst h9;clear z HO T;generalize Bp gs false (.node m o ⟨9,Bl,k,n,t⟩ l r)=ee at *;generalize Bp gs false l=U at *;generalize Bp gs false r=er at *;cases hel:U
  ·subst hel
   go_enter func165,ntmps165;go_wp2_with fail;refine(y.o _ (XB _ _)).mono ?_;rintro e M⟨rfl,a⟩;go_wp2;go_ret;exact⟨Af j.o,a⟩
  subst hel;go_enter func165,ntmps165;go_wp2_with fail;refine(y.o _ (XB _ _)).mono ?_;rintro e M⟨rfl,a⟩;replace N:M.cell? ⟨b,6,none⟩=some R:=(a.cell (p:=⟨b,6,none⟩) O).trans N;go_wp2_with fail;refine(IR.o _ a).mono ?_;rintro e w2⟨rfl,v⟩;go_wp2;go_ret;exact⟨Af j.o,Below.up a v⟩
 by_cases h10:c=10
 ·have j:Hid ((Bp gs false l || Bp gs false r)=Bp gs false (.node m o ⟨c,Bl,k,n,t⟩ l r)):=AJv h10
  subst h10;clear z HO T;generalize Bp gs false (.node m o ⟨10,Bl,k,n,t⟩ l r)=ee at *;generalize Bp gs false l=U at *;generalize Bp gs false r=er at *;cases hel:U
  ·subst hel
   go_enter func165,ntmps165;go_wp2_with fail;refine(y.o _ (XB _ _)).mono ?_;rintro e M⟨rfl,a⟩;replace N:M.cell? ⟨b,6,none⟩=some R:=(a.cell (p:=⟨b,6,none⟩) O).trans N;go_wp2_with fail;refine(IR.o _ a).mono ?_;rintro e w2⟨rfl,v⟩;go_wp2;go_ret;exact⟨Af j.o,Below.up a v⟩
  subst hel;go_enter func165,ntmps165;go_wp2_with fail;refine(y.o _ (XB _ _)).mono ?_;rintro e M⟨rfl,a⟩;go_wp2;go_ret;exact⟨Af j.o,a⟩
 by_cases h11:c=11
 ·have j:Hid (Bp gs true l=Bp gs false (.node m o ⟨c,Bl,k,n,t⟩ l r)):=AKD h11
  subst h11;clear z HO y IR;generalize Bp gs false (.node m o ⟨11,Bl,k,n,t⟩ l r)=ee at *;generalize Bp gs true l=U at *;go_enter func165,ntmps165;go_wp2_with fail;refine(T.o _ (XB _ _)).mono ?_;rintro e M⟨rfl,a⟩;go_wp2;go_ret;exact⟨Af j.o,a⟩
 have j:Hid (E0 c (gs Bl) (k,n,t)=Bp gs false (.node m o ⟨c,Bl,k,n,t⟩ l r)):=m0f ⟨h9,h10,h11⟩;have b9:(c==9)=false:=by simpa using h9
 have ac:(c==10)=false:=by simpa using h10
 have ad:(c==11)=false:=by simpa using h11
 clear y IR T h9 h10 h11;generalize Bp gs false (.node m o ⟨c,Bl,k,n,t⟩ l r)=ee at *;generalize gs Bl=st at *;obtain⟨G,J,⟨I,L,i⟩,⟨g,h,f⟩⟩:=st;unfold E6 at z;simp only at z;have X:Hid (∀d D,Zc 204 #[s,.string Bl] (grow (redrawn w d) D) λe x=>e=.returned (.agg #[.int .i64 G,.int .i64 J,.int .i64 I,.int .i64 L,.string i,.int .i64 g,.int .i64 h,.string f])/\∃p:Regrown,x=grow (redrawn w p.d) p.os):=λd D=>Calls.regrown_of (z.o _ (below_regrown w d D))
 have Y:Hid (∀d D,Zc 203 #[.int .i64 c,.agg #[.int .i64 G,.int .i64 J,.int .i64 I,.int .i64 L,.string i,.int .i64 g,.int .i64 h,.string f],.agg #[.int .i64 k,.int .i64 n,.string t]] (grow (redrawn w d) D) λe x=>e=.returned (.bool (E0 c (G,J,(I,L,i),(g,h,f)) (k,n,t)))/\∃p:Regrown,x=grow (redrawn w p.d) p.os):=λd D=>Calls.regrown_of (Qq c G J I L i g h f k n t _)
 generalize E0 c (G,J,(I,L,i),(g,h,f)) (k,n,t)=mc at *;go_enter func165,ntmps165;go_wp2_with fail;replace c0:=cell_regrown c0;replace c1:=cell_regrown c1;replace c2:=cell_regrown c2;replace c3:=cell_regrown c3;replace c4:=cell_regrown c4;clear c5 N;refine wp_region_quiet_below (by kernel_rfl) (by kernel_rfl) ?_
 repeat (go_big_quiet_step (first
  | (go_at_call_of 204 (#[s,.string Bl]:Array Value);exact X.o _ _)
  | (go_at_call_of 203 (#[.int .i64 c,.agg #[.int .i64 G,.int .i64 J,.int .i64 I,.int .i64 L,.string i,.int .i64 g,.int .i64 h,.string f],.agg #[.int .i64 k,.int .i64 n,.string t]]:Array Value);exact Y.o _ _)))
 refine wpQuiet_nil ?_;intro _ aa;obtain⟨⟨dq,ab⟩,P⟩:=aa;subst P;go_wp2;go_ret;exact⟨Af j.o,below_regrown w dq ab⟩
theorem ADJ(b:Tv)(gs:Tb->St)(w:Tw):
 Zc 165 #[Zp none,b] w λe c=>e=Zr (Zo (Bp gs false .nil))/\Zb w c:=by
 have a:Hid (true=Bp gs false .nil):=rfl;go_enter func165,ntmps165;go_wp2;go_ret;exact⟨Af a.o,XB _ _⟩
theorem zJ(v:Value)(gs:ByteArray->St)(q s:Nat)(c:Int)(Bl:ByteArray)(k n:Int)(t:ByteArray)(l r:CT)(b:Nat)(X R:Value)(w:World)(x:w.heap[b]? = some (.cells #[.int .i64 c,.string Bl,.int .i64 k,.int .i64 n,.string t,X,R] 140))(hg:gU v gs w)(ho:Lp w)(hl:∀W,Zb w W->Zc 202 #[X,v] W λe u=>e=.returned (.bool (Bp gs true l))/\Zb W u)(hr:∀W,Zb w W->Zc 202 #[R,v] W λe u=>e=.returned (.bool (Bp gs true r))/\Zb W u)(hn:∀W,Zb w W->Zc 165 #[X,v] W λe u=>e=.returned (.bool (Bp gs false l))/\Zb W u):
 Zc 202 #[.pointer (some ⟨b,0,none⟩),v] w λe u=>e=.returned (.bool (Bp gs true (.node q s ⟨c,Bl,k,n,t⟩ l r)))/\Zb w u:=by
 have c0:w.cell? ⟨b,0,none⟩=some (.int .i64 c):=cell_of_heap x 0;have c1:w.cell? ⟨b,1,none⟩=some (.string Bl):=cell_of_heap x 1;have c2:w.cell? ⟨b,2,none⟩=some (.int .i64 k):=cell_of_heap x 2;have c3:w.cell? ⟨b,3,none⟩=some (.int .i64 n):=cell_of_heap x 3;have c4:w.cell? ⟨b,4,none⟩=some (.string t):=cell_of_heap x 4;have c5:w.cell? ⟨b,5,none⟩=some X:=cell_of_heap x 5;have N:w.cell? ⟨b,6,none⟩=some R:=cell_of_heap x 6;have O:b<w.heap.size:=block_lt_of_cell c0;have D:Hid (∀W,Zb w W->Zc 204 #[v,.string Bl] W λe u=>e=.returned (.agg (E6 (gs Bl)))/\Zb W u):=λW hb=>hg W Bl hb
 have T:=Ab ho;have z:=Ab hl;have IR:=Ab hr;have U:=Ab hn;clear x hg ho hl hr hn
 by_cases h9:c=9
 ·have o:Hid ((Bp gs true l || Bp gs true r)=Bp gs true (.node q s ⟨c,Bl,k,n,t⟩ l r)):=m9t h9
  subst h9;clear D T U;generalize Bp gs true (.node q s ⟨9,Bl,k,n,t⟩ l r)=ee at *;generalize Bp gs true l=V at *;generalize Bp gs true r=er at *;cases hel:V
  ·subst hel
   go_enter func202,ntmps202;go_wp2_with fail;refine(z.o _ (XB _ _)).mono ?_;rintro e M⟨rfl,a⟩;replace N:M.cell? ⟨b,6,none⟩=some R:=(a.cell (p:=⟨b,6,none⟩) O).trans N;go_wp2_with fail;refine(IR.o _ a).mono ?_;rintro e w2⟨rfl,y⟩;go_wp2;go_ret;exact⟨Af o.o,Below.up a y⟩
  subst hel;go_enter func202,ntmps202;go_wp2_with fail;refine(z.o _ (XB _ _)).mono ?_;rintro e M⟨rfl,a⟩;go_wp2;go_ret;exact⟨Af o.o,a⟩
 by_cases h10:c=10
 ·have o:Hid ((Bp gs true l && Bp gs true r)=Bp gs true (.node q s ⟨c,Bl,k,n,t⟩ l r)):=AJu h10
  subst h10;clear D T U;generalize Bp gs true (.node q s ⟨10,Bl,k,n,t⟩ l r)=ee at *;generalize Bp gs true l=V at *;generalize Bp gs true r=er at *;cases hel:V
  ·subst hel
   go_enter func202,ntmps202;go_wp2_with fail;refine(z.o _ (XB _ _)).mono ?_;rintro e M⟨rfl,a⟩;go_wp2;go_ret;exact⟨Af o.o,a⟩
  subst hel;go_enter func202,ntmps202;go_wp2_with fail;refine(z.o _ (XB _ _)).mono ?_;rintro e M⟨rfl,a⟩;replace N:M.cell? ⟨b,6,none⟩=some R:=(a.cell (p:=⟨b,6,none⟩) O).trans N;go_wp2_with fail;refine(IR.o _ a).mono ?_;rintro e w2⟨rfl,y⟩;go_wp2;go_ret;exact⟨Af o.o,Below.up a y⟩
 by_cases h11:c=11
 ·have o:Hid (Bp gs false l=Bp gs true (.node q s ⟨c,Bl,k,n,t⟩ l r)):=AJz h11
  subst h11;clear D T z IR;generalize Bp gs true (.node q s ⟨11,Bl,k,n,t⟩ l r)=ee at *;generalize Bp gs false l=V at *;go_enter func202,ntmps202;go_wp2_with fail;refine(U.o _ (XB _ _)).mono ?_;rintro e M⟨rfl,a⟩;go_wp2;go_ret;exact⟨Af o.o,a⟩
 have o:Hid (E0 (Pw c) (gs Bl) (k,n,t)=Bp gs true (.node q s ⟨c,Bl,k,n,t⟩ l r)):=m0t ⟨h9,h10,h11⟩;have b9:(c==9)=false:=by simpa using h9
 have ae:(c==10)=false:=by simpa using h10
 have af:(c==11)=false:=by simpa using h11
 clear z IR U h9 h10 h11;generalize Bp gs true (.node q s ⟨c,Bl,k,n,t⟩ l r)=ee at *;generalize gs Bl=st at *;obtain⟨G,J,⟨I,L,i⟩,⟨g,h,f⟩⟩:=st;unfold E6 at D;simp only at D;have Y:Hid (∀d j,Zc 242 #[.int .i64 c] (grow (redrawn w d) j) λe m=>e=.returned (.int .i64 (Pw c))/\∃p:Regrown,m=grow (redrawn w p.d) p.os):=λd j=>(o9 c _ (T.o.below (below_regrown w d j))).mono λ_ _⟨he,hw⟩=>⟨he,⟨⟨d,j⟩,hw⟩⟩
 have aa:Hid (∀d j,Zc 204 #[v,.string Bl] (grow (redrawn w d) j) λe m=>e=.returned (.agg #[.int .i64 G,.int .i64 J,.int .i64 I,.int .i64 L,.string i,.int .i64 g,.int .i64 h,.string f])/\∃p:Regrown,m=grow (redrawn w p.d) p.os):=λd j=>Calls.regrown_of (D.o _ (below_regrown w d j))
 have ab:Hid (∀d j,Zc 203 #[.int .i64 (Pw c),.agg #[.int .i64 G,.int .i64 J,.int .i64 I,.int .i64 L,.string i,.int .i64 g,.int .i64 h,.string f],.agg #[.int .i64 k,.int .i64 n,.string t]] (grow (redrawn w d) j) λe m=>e=.returned (.bool (E0 (Pw c) (G,J,(I,L,i),(g,h,f)) (k,n,t)))/\∃p:Regrown,m=grow (redrawn w p.d) p.os):=λd j=>Calls.regrown_of (Qq (Pw c) G J I L i g h f k n t _)
 generalize Pw c=oc at *;generalize E0 oc (G,J,(I,L,i),(g,h,f)) (k,n,t)=mc at *;go_enter func202,ntmps202;go_wp2_with fail;replace c0:=cell_regrown c0;replace c1:=cell_regrown c1;replace c2:=cell_regrown c2;replace c3:=cell_regrown c3;replace c4:=cell_regrown c4;clear c5 N;refine wp_region_quiet_below (by kernel_rfl) (by kernel_rfl) ?_
 repeat (go_big_quiet_step (first
  | (go_at_call_of 242 (#[.int .i64 c]:Array Value);exact Y.o _ _)
  | (go_at_call_of 204 (#[v,.string Bl]:Array Value);exact aa.o _ _)
  | (go_at_call_of 203 (#[.int .i64 oc,.agg #[.int .i64 G,.int .i64 J,.int .i64 I,.int .i64 L,.string i,.int .i64 g,.int .i64 h,.string f],.agg #[.int .i64 k,.int .i64 n,.string t]]:Array Value);exact ab.o _ _)))
 refine wpQuiet_nil ?_;intro _ ac;obtain⟨⟨dq,ad⟩,P⟩:=ac;subst P;go_wp2;go_ret;exact⟨Af o.o,below_regrown w dq ad⟩
theorem ADf(b:Tv)(gs:Tb->St)(w:Tw):
 Zc 202 #[Zp none,b] w λe c=>e=Zr (Zo (Bp gs true .nil))/\Zb w c:=by
 have a:Hid (false=Bp gs true .nil):=rfl;go_enter func202,ntmps202;go_wp2;go_ret;exact⟨Af a.o,XB _ _⟩
theorem gR(d:Tv)(gs:Tb->St):∀(T:CT)(v:Tv)(w:Tw),Gy w T v->gU d gs w->Lp w ->
 (Zc 165 #[v,d] w λe j=>e=Zr (Zo (Bp gs false T))/\Zb w j)/\(Zc 202 #[v,d] w λe j=>e=Zr (Zo (Bp gs true T))/\Zb w j)
 | .nil,v,w,h,_,_=>by obtain rfl:v=Zp none:=h;exact⟨ADJ d gs w,ADf d gs w⟩
 | .node a0 o0 ⟨c,Bl,k,n,t⟩ l r,v,w,h,hg,ho=>by
   obtain⟨b,g,i,rfl,m,_,o,p⟩:=h;have f:=λW a=>gR d gs l g W (o.up a) (hg.up a) (ho.below a)
   have IR:=λW a=>gR d gs r i W (p.up a) (hg.up a) (ho.below a)
   exact⟨AAU d gs a0 o0 c Bl k n t l r b g i w m hg ho (λW a=>(f W a).1) (λW a=>(IR W a).1) (λW a=>(f W a).2),
    zJ d gs a0 o0 c Bl k n t l r b g i w m hg ho (λW a=>(f W a).2) (λW a=>(IR W a).2) (λW a=>(f W a).1)⟩
theorem AG4(a:Tv)(gs:Tb->St)(T:CT)(v:Tv)(w:Tw)(h:Gy w T v)(f:gU a gs w)(g:Lp w)(d:C9 T 24=true):
 Zc 112 #[v,a] w λe c=>e=Zr (Zo (Bp gs false T))/\Zb w c:=by
 have H1:Hid (Zc 64 #[v] w λe c=>e=Zr (Zo true)/\c=w):=by have:=Uh T v w h;rw[d] at this;exact this
 have H2:=Ab (gR a gs T v w h f g).1;generalize Bp gs false T=i at *;clear h f g d;go_enter func112,ntmps112;go_wp2_with fail;refine H1.o.mono ?_;rintro e j⟨rfl,rfl⟩;go_wp2_with fail;refine H2.o.mono ?_;rintro e k⟨rfl,b⟩;go_wp2;go_ret;exact⟨rfl,b⟩
variable{c n:Int}{v x:V}
def okT:CT->Prop
 | .nil=>True
 | .node _ _ ⟨c,_,_,_,_⟩ l r=>(1<=c/\c<=11)/\okT l/\okT r
theorem Gy.ok{w:Tw}:∀{T:CT}{v:Tv},Gy w T v->okT T
 | .nil,_,_=>trivial
 | .node _ _ ⟨_,_,_,_,_⟩ _ _,_,⟨_,_,_,_,_,hcd,hl,hr⟩=>⟨hcd,Gy.ok hl,Gy.ok hr⟩
def AJG(s:St)(x:V):Prop:=∃l,Pk l s/\AIN l/\x∈l
def Kn(c:Int)(x v:V):Int:=if c=7 then gG (x.1==0) else if c=8 then gG (x.1 != 0) else Vq c x.1 x.2.1 x.2.2 v.1 v.2.1 v.2.2
theorem AHV(h:Vq c x.1 x.2.1 x.2.2 v.1 v.2.1 v.2.2=1):¬x.1=0/\x.1=v.1/\B6 c (Eu x v)=true:=by
 unfold Vq at h;split at h
 ·omega
 rename_i hk;refine⟨λe=>hk (.inl e),Classical.byContradiction λe=>hk (.inr e),?_⟩;cases hs:B6 c (Eu x v) with
 | true=>rfl
 | false=>unfold Eu at hs;rw[hs] at h;simp[gG] at h
theorem vV(h:Vq c x.1 x.2.1 x.2.2 v.1 v.2.1 v.2.2=0):¬x.1=0/\x.1=v.1/\B6 c (Eu x v)=false:=by
 unfold Vq at h;split at h
 ·omega
 rename_i hk;refine⟨λe=>hk (.inl e),Classical.byContradiction λe=>hk (.inr e),?_⟩;cases hs:B6 c (Eu x v) with
 | false=>rfl
 | true=>unfold Eu at hs;rw[hs] at h;simp[gG] at h
theorem AFD(b:¬x.1=0)(d:x.1=v.1)(a:B6 c (Eu x v)=true):Vq c x.1 x.2.1 x.2.2 v.1 v.2.1 v.2.2=1:=by unfold Vq;rw[Y9 (by rintro(e|e);exact b e;exact e d)];unfold Eu at a;rw[a];rfl
theorem O2(a:¬x.1=0)(b:x.1=v.1)(d:B6 c (Eu x v)=true):O9 c x v=true:=by unfold O9;rw[AFD a b d];rfl
theorem mN(o:Int):B6 1 o=true↔o=0:=by simp[B6]
theorem Sm(o:Int):B6 2 o=true↔¬o=0:=by simp[B6]
theorem aO(o:Int):B6 3 o=true↔o<0:=by simp[B6]
theorem Uo(o:Int):B6 4 o=true↔o<=0:=by simp[B6]
theorem aR(o:Int):B6 5 o=true↔0<o:=by simp[B6]
theorem S4(o:Int):B6 6 o=true↔0<=o:=by simp[B6]
theorem wJ{c o:Int}(b:1<=c)(a:c<=6)(h:B6 c o=false):B6 (Pw c) o=true:=by
 rcases (show c=1\/c=2\/c=3\/c=4\/c=5\/c=6 by omega) with rfl|rfl|rfl|rfl|rfl|rfl
 ·rw[show Pw 1=2 from rfl,Sm];intro e;rw[(mN o).2 e] at h;cases h
 ·rw[show Pw 2=1 from rfl,mN];exact Classical.byContradiction λe=>by rw[(Sm o).2 e] at h;cases h
 ·rw[show Pw 3=6 from rfl,S4];exact Classical.byContradiction λe=>by rw[(aO o).2 (by omega)] at h;cases h
 ·rw[show Pw 4=5 from rfl,aR];exact Classical.byContradiction λe=>by rw[(Uo o).2 (by omega)] at h;cases h
 ·rw[show Pw 5=4 from rfl,Uo];exact Classical.byContradiction λe=>by rw[(aR o).2 (by omega)] at h;cases h
 rw[show Pw 6=3 from rfl,aO];exact Classical.byContradiction λe=>by rw[(S4 o).2 (by omega)] at h;cases h
theorem AB9(b:1<=c)(a:c<=8):1<=Pw c/\Pw c<=8:=by rcases (show c=1\/c=2\/c=3\/c=4\/c=5\/c=6\/c=7\/c=8 by omega) with rfl|rfl|rfl|rfl|rfl|rfl|rfl|rfl <;> decide
theorem AHy(b:1<=c)(a:c<=6):¬Pw c=7/\¬Pw c=8:=by rcases (show c=1\/c=2\/c=3\/c=4\/c=5\/c=6 by omega) with rfl|rfl|rfl|rfl|rfl|rfl <;> decide
theorem AFf(d:1<=c)(k:c<=8)(h:Kn c x v=0):Kn (Pw c) x v=1:=by
 by_cases h7:c=7
 ·subst h7
  have a:(x.1==0)=false:=by
   cases e:(x.1==0) with
   | false=>rfl
   | true=>simp[Kn,e,gG] at h
  rw[show Pw 7=8 from rfl];have b:¬x.1=0:=by simpa using a
  simp[Kn,gG,b]
 by_cases h8:c=8
 ·subst h8
  have a:x.1=0:=Classical.byContradiction λe=>by simp[Kn,gG,e] at h
  rw[show Pw 8=7 from rfl];simp[Kn,gG,a]
 have l:Vq c x.1 x.2.1 x.2.2 v.1 v.2.1 v.2.2=0:=by simpa[Kn,h7,h8] using h
 obtain⟨g,i,j⟩:=vV l;have f:=AHy d (by omega);unfold Kn;rw[Y9 f.1,Y9 f.2];exact AFD g i (wJ d (by omega) j)
theorem rH{s:St}(T:1<=c)(I:c<=8)(J:AJG s x)(h:Kn c x v=1):E0 c s v=true:=by
 obtain⟨l,p,D,q⟩:=J
 by_cases h7:c=7
 ·subst h7
  have d:x.1=0:=Classical.byContradiction λe=>by simp[Kn,gG,e] at h
  have:=p.null q d;simp[E0,this]
 by_cases h8:c=8
 ·subst h8
  have d:¬x.1=0:=λe=>by simp[Kn,gG,e] at h
  have:=(p.some D q d).1;simp[E0,this]
 have L:Vq c x.1 x.2.1 x.2.2 v.1 v.2.1 v.2.2=1:=by simpa[Kn,h7,h8] using h
 obtain⟨o,r,b⟩:=AHV L;obtain⟨_,t,u,g,i⟩:=p.some D q o;have j:¬s.2.2.1.1=0:=by rw[t];exact o
 have k:s.2.2.1.1=v.1:=t.trans r;have m:¬s.2.2.2.1=0:=by rw[u];exact o
 have n:s.2.2.2.1=v.1:=u.trans r;have M:=He s.2.2.1 v;have N:=He s.2.2.2 v;have O:=He x v;have P:=He x s.2.2.2;have R:=He s.2.2.1 x
 rcases (show c=1\/c=2\/c=3\/c=4\/c=5\/c=6 by omega) with rfl|rfl|rfl|rfl|rfl|rfl
 ·rw[mN] at b
  have e:=Ig.1 b;subst e;have a:O9 4 s.2.2.1 x=true:=O2 j k ((Uo _).2 g);have G:O9 6 s.2.2.2 x=true:=O2 m n ((S4 _).2 (by omega));simp[E0,a,G]
 ·rw[Sm] at b
  have:¬Eu s.2.2.1 v=0\/¬Eu s.2.2.2 v=0:=Classical.byContradiction λe=>by
   have w:Eu s.2.2.1 v=0:=Classical.byContradiction λf=>e (.inl f)
   have z:Eu s.2.2.2 v=0:=Classical.byContradiction λf=>e (.inr f)
   rw[Ig] at w z;rw[w] at g;rw[z] at i;exact b (Ig.2 (ADy i g))
  rcases this with e|e
  ·have a:O9 2 s.2.2.1 v=true:=O2 j k ((Sm _).2 e)
   simp[E0,a]
  have a:O9 2 s.2.2.2 v=true:=O2 m n ((Sm _).2 e);simp[E0,a]
 ·rw[aO] at b
  have:Eu s.2.2.1 v<0:=Classical.byContradiction λe=>by have:Eu v x<=0:=Ha (y:=s.2.2.1) (by omega) g;omega
  have a:O9 3 s.2.2.1 v=true:=O2 j k ((aO _).2 this);simp[E0,a]
 ·rw[Uo] at b
  have a:O9 4 s.2.2.1 v=true:=O2 j k ((Uo _).2 (Ha g b));simp[E0,a]
 ·rw[aR] at b
  have:0<Eu s.2.2.2 v:=Classical.byContradiction λe=>by have:Eu x v<=0:=Ha i (by omega);omega
  have a:O9 5 s.2.2.2 v=true:=O2 m n ((aR _).2 this);simp[E0,a]
 rw[S4] at b;have:Eu v s.2.2.2<=0:=Ha (y:=x) (by omega) i;have a:O9 6 s.2.2.2 v=true:=O2 m n ((S4 _).2 (by omega));simp[E0,a]
theorem AFm(h:Wk n=1):n=0:=by unfold Wk at h;split at h <;> omega
theorem tP(h:Wk n=0):n=1:=by unfold Wk at h;split at h <;> omega
theorem AGM{a b:Int}(c : -1<=a/\a<=1)(d : -1<=b/\b<=1)(h:Su a b=1):a=1/\b=1:=by unfold Su at h;split at h <;> omega
theorem tL{a b:Int}(h:Su a b=0):a=0\/b=0:=by unfold Su at h;split at h <;> omega
theorem AHO{a b:Int}(c : -1<=a/\a<=1)(d : -1<=b/\b<=1)(h:orJ a b=1):a=1\/b=1:=by unfold orJ at h;split at h <;> omega
theorem AAQ{a b:Int}(c : -1<=a/\a<=1)(d : -1<=b/\b<=1)(h:orJ a b=0):a=0/\b=0:=by
 unfold orJ at h;split at h
 ·omega
 constructor <;> omega
theorem sound(P:Tb->Prop)(gs:Tb->St)(a:Tb->V)(g:∀Bl,P Bl->AJG (gs Bl) (a Bl)):∀T:CT,okT T->Kg P T ->
 (Io (λs=>(a s).1) (λs=>(a s).2.1) (λs=>(a s).2.2) T=1->Bp gs false T=true)/\(Io (λs=>(a s).1) (λs=>(a s).2.1) (λs=>(a s).2.2) T=0->Bp gs true T=true)
 | .nil,_,_=>⟨λ_=>rfl,λh=>by simp[Io] at h⟩
 | .node a0 o0 ⟨c,Bl,k,n,t⟩ l r,h,ha=>by
   obtain⟨w,u,v⟩:=h;have b:=λj=>sound P gs a g l u (ha.left j)
   have f:=λj=>sound P gs a g r v (ha.right j)
   have m:=Kw (λs=>(a s).1) (λs=>(a s).2.1) (λs=>(a s).2.2) l;have o:=Kw (λs=>(a s).1) (λs=>(a s).2.1) (λs=>(a s).2.2) r
   by_cases h9:c=9
   ·replace b:=b (by omega)
    replace f:=f (by omega);rw[<-m9f h9,<-m9t h9,<-e9 h9];constructor
    ·intro e
     obtain⟨d,i⟩:=AGM m o e;rw[b.1 d,f.1 i];rfl
    intro e
    rcases tL e with d|d
    ·rw[b.2 d];rfl
    rw[f.2 d];simp
   by_cases h10:c=10
   ·replace b:=b (by omega)
    replace f:=f (by omega);rw[<-AJv h10,<-AJu h10,<-e10 h10];constructor
    ·intro e
     rcases AHO m o e with d|d
     ·rw[b.1 d];rfl
     rw[f.1 d];simp
    intro e;obtain⟨d,i⟩:=AAQ m o e;rw[b.2 d,f.2 i];rfl
   by_cases h11:c=11
   ·replace b:=b (by omega)
    rw[<-AKD h11,<-AJz h11,<-e11 h11];exact⟨λe=>b.2 (AFm e),λe=>b.1 (tP e)⟩
   have q:Io (λs=>(a s).1) (λs=>(a s).2.1) (λs=>(a s).2.2) (.node a0 o0 ⟨c,Bl,k,n,t⟩ l r)=Kn c (a Bl) (k,n,t):=by
    by_cases h7:c=7
    ·rw[<-e7 h7];simp[Kn,h7]
    by_cases h8:c=8
    ·rw[<-e8 h8];simp[Kn,h8]
    rw[<-e0 ⟨h7,h8,h11,h9,h10⟩];simp[Kn,h7,h8]
   rw[q,<-m0f ⟨h9,h10,h11⟩,<-m0t ⟨h9,h10,h11⟩];refine⟨λe=>rH (by omega) (by omega) (g Bl (ha.Bl (by omega))) e,λe=>?_⟩;have p:=AB9 (c:=c) (by omega) (by omega);exact rH p.1 p.2 (g Bl (ha.Bl (by omega))) (AFf (by omega) (by omega) e)
end S
namespace F
theorem dF(l:List Aj)(p:List (List V))(a:1<=p.length)(b:p.length<=6):Gb l (An l p)=true:=by simp[Gb,An,a,b]
theorem ACi(l:List Aj)(p:List (List V)){j:Nat}(a:j<l.length):(An l p).2.1[j]? = some (S.Iv (D7 p j)):=by simp[An,a]
theorem Nh{c:Array Oper}{o:Oper}{a:Act}{W:Tw}{K:Act->Tw->Prop}{Q:Exit->Act->Tw->Prop}{E:Prop}(b:o.guard=none)(f:Nat)(x y z:Operand)(t s r:TypeId)(j:o.op=.call { callee:=.value (.func f),args:=#[x,y,z],argTypes:=#[t,s,r] })(u v q:Tv)(k:a.eval x=u)(l:a.eval y=v)(m:a.eval z=q)(g:∀args w,(callFunc f args).run prog w=.ok (.enter f args) w)(R:Ending->Tw->Prop)(i:Zc f #[u,v,q] W R)(h:∀e d,R e d->∃v,e=Zr v/\K (a.put o.dst v) d):
 if Region.wanted o (yielded c a.tmps)=true then Oper.wp prog o a W K Q else E :=
 Ih b f #[x,y,z] #[t,s,r] j #[u,v,q] (by simp[k,l,m]) g R i h
theorem AF1(w:Tw)(X Y Z:Obj):(((w.alloc X).alloc Y).alloc Z).heap[w.heap.size]? = some X/\(((w.alloc X).alloc Y).alloc Z).heap[w.heap.size+1]? = some Y/\(((w.alloc X).alloc Y).alloc Z).heap[w.heap.size+2]? = some Z:=by
 have b:Below (w.alloc X).heap.size (w.alloc X) (((w.alloc X).alloc Y).alloc Z):=S.Gj (w.alloc X) Y Z;have a:Below ((w.alloc X).alloc Y).heap.size ((w.alloc X).alloc Y) (((w.alloc X).alloc Y).alloc Z):=Zal;refine⟨(b.block _ (by simp)).trans (Y8 w X),?_,?_⟩
 ·have:=Y8 (w.alloc X) Y
  rw[XC] at this;exact(a.block _ (by simp)).trans this
 have:=Y8 ((w.alloc X).alloc Y) Z;rwa[XC,XC] at this
def Uk(l:List Aj)(r:List V)(s:ByteArray):V:=r[(Ce l s).toNat]?.getD zV
theorem AEu{c:Aj}{v:V}(h:Lx c v=true):v.1=0\/v.1=kd c:=by unfold Lx Cm at h;simp only[WE,WQ,beq_iff_eq] at h;omega
end F
theorem AHr{w:Tw}(h:Lw w):Lw w:=h
theorem AJI{w:Tw}(h:B.Ob w):Ob w:=h
def Eh(p:ByteArray):ByteArray:=⟨#[100,97,116,97,47]⟩++p
theorem lS(p:Tb):(Eh p).size=5+p.size:=by simp[Eh,ByteArray.size_append];rfl
theorem tC(p:Tb)(w:Tw)(c:p.size<=1000):Zc 66 #[Zt p] w λe b=>e=Zr (Zt (Eh p))/\b=w:=by have a:Hid ((⟨#[100,97,116,97,47]⟩:Tb)++p=Eh p):=rfl;go_enter func66,ntmps66;go_wp2;go_ret;exact⟨by rw[a.o];rfl,rfl⟩
def iB(D:DataW Unit)(p:ByteArray)(w:World)(e:Ending)(a:World):Prop :=
 (Maps.has D (B.lit (Eh p))=false/\e=.returned (.tuple #[.agg #[.slice none 0 0,.slice none 0 0],.iface 47 (.int .i64 7)])/\Zb w a) \/
 (Maps.has D (B.lit (Eh p))=true/\∃t:ByteArray,D.atKey (B.lit (Eh p)) (B.Gw ByteArray.empty)=B.Gw t/\F.Kx (F.Kj t.data.toList) w e a)
theorem AD9(bb n:Nat)(D:Td)(mv:Tv)(p:Tb)(w:Tw)(h:Ground w bb n D mv)(O:B.Ob w)(P:p.size<=1000)(R:∀t:Tb,Maps.has D (B.lit (Eh p))=true->D.atKey (B.lit (Eh p)) (B.Gw ByteArray.empty)=B.Gw t->t.size<=1000000):
 Zc 34 #[Zp (some ⟨bb,0,none⟩),Zt p] w (iB D p w):=by
 have W:=Aa (λV=>tC p V P);have M:=Aa (λV(r:Zb w V)=>B.aP bb n D mv (Eh p) V (h.up r).c0 (h.up r).th (by rw[lS];unfold maxLen;omega));have q:Hid (Zb w (w.alloc (Zk #[Zs none 0 0,Zs none 0 0] 105))):=Aa Zal;have J:=Aa (Y8 w (Zk #[Zs none 0 0,Zs none 0 0] 105))
 have X:Hid (∀(t:Tb)V,Zb w V->t.size<=1000000->Zc 67 #[Zt t] V (F.Kx (F.Kj t.data.toList) V)):=Aa λt V r ht=>by
  have:=F.Vf t.data.toList V (by rw[<-Lib.size_eq];exact ht) (AHr (h.nc.below r)) (AJI (O.below r));have e:E.str t.data.toList=t:=by simp[E.str]
  rw[e] at this;exact this
 have Y:=Aa R;clear h O P R;unfold iB;unfold B.Um at M;go_enter func34,ntmps34;go_wp2_with fail;refine(W.o _).mono ?_;rintro e w1⟨rfl,rfl⟩;go_wp2_with fail;refine(M.o _ q.o).mono ?_;rintro e T⟨t,rfl,o,u,g⟩;have j:=Below.Ap q.o g;have c:=Aa ((g.block w.heap.size (by simp)).trans J.o);have z:=cell_of_heap c.o 0;have n1:=cell_of_heap c.o 1;simp at z n1;have N:∀i,T.frozen? ⟨w.heap.size,i,none⟩=false:=λi=>by simp[World.frozen?,c.o]
 clear g;cases hh:Maps.has D (B.lit (Eh p)) with
 | false=>rw[Y9 (by simp)];have e7:B.L8 7=Zf 47 (Zi 7):=rfl;rw[e7];have d:=Aa j;clear j o u;go_wp2;exact bodyPost_ret (v:=Zu #[Zg #[Zs none 0 0,Zs none 0 0],Zf 47 (Zi 7)]) (by simp[results,results34,go_sem,z,n1]) rfl (.inl ⟨hh,rfl,(d.o.setCell (Y' _) _).setCell (Y' _) _⟩)
 | true=>
   rw[Yaa rfl];have e0:B.L8 0=Zn:=rfl;rw[e0];have G:=Aa (o hh);have HZ:=Aa (Y.o t hh G.o);have d:=Aa j;clear j o u;go_wp2_with fail;refine(X.o t T d.o HZ.o).mono ?_;intro e U l;have s:=Ac c.o;cases hr:F.Kj t.data.toList with
   | none=>
     rw[hr] at l;obtain⟨rfl,b⟩:=l;have a:=(b.block w.heap.size s).trans c.o;have x:=cell_of_heap a 0;have y:=cell_of_heap a 1;simp at x y;have g0:∀i,U.frozen? ⟨w.heap.size,i,none⟩=false:=λi=>by simp[World.frozen?,a]
     have m:=Aa (Below.Ap d.o b);clear b a z n1 N;go_wp2;refine bodyPost_ret (v:=Zu #[Zg #[Zs none 0 0,Zs none 0 0],Zf 47 (Zi 3)]) (by simp[results,results34,go_sem,x,y]) rfl (.inr ⟨hh,t,G.o,?_⟩);rw[hr];exact⟨rfl,(m.o.setCell (Y' _) _).setCell (Y' _) _⟩
   | some f=>
     rw[hr] at l;obtain⟨cv,gv,rfl,k,b⟩:=l;obtain⟨ca,cc,ec,_⟩:=k.1.slice;obtain⟨ga,gc,eg,_⟩:=k.2.slice;subst ec eg;have a:=(b.block w.heap.size s).trans c.o;have x:=cell_of_heap a 0;have y:=cell_of_heap a 1;simp at x y;have g0:∀i,U.frozen? ⟨w.heap.size,i,none⟩=false:=λi=>by simp[World.frozen?,a]
     have m:=Aa (Below.Ap d.o b);have I:=Aa k;have L:=Aa a;clear b a z n1 N k;go_wp2;refine bodyPost_ret (v:=Zu #[Zg #[Zs ca f.1.length cc,Zs ga f.2.length gc],Zn]) (by simp[results,results34,go_sem,x,y]) rfl (.inr ⟨hh,t,G.o,?_⟩);rw[hr];exact⟨_,_,rfl,I.o.far L.o ((Aq _ _ 0 _).trans (Aq _ _ 1 _)),(m.o.setCell (Y' _) _).setCell (Y' _) _⟩
namespace F
variable{u v:Tv}{W w:Tw}
theorem AFz(k:Nat)(cv gv:Tv)(cols:List Aj)(gs:List Fk)(g:Fk)(c1:Int)(y:Tb)(z:Int)(D:Bool)(m n:Int)(o:Tb)(w:Tw)(O:Hm w cv gv (cols,gs))(hk:gs[k]? = some g)(h1:1<=cols.length)(h8:cols.length<=8)(t:Gb cols g=true)(hp:cM cols c1 = -1):
 Zc 114 #[Zg #[cv,gv],Zi k,Zg #[Zi c1,Zt y,Zi z,Zo D,Zi m,Zi n,Zt o]] w λe P=>e=Zr (Zg (S.E6 (S.Iv (List.replicate g.1 (m,n,o)))))/\Zb w P:=by
 have I:=Aa (λW(hW:Zb w W)=>nL k cv gv cols gs g W (O.up hW).1 (O.up hW).2 hk);have J:=Aa (λW(hW:Zb w W)=>U9 cv gv cols c1 y z D m n o W (O.up hW).1 h1 h8);have s:1<=g.1/\g.1<=6:=by simp only[Gb,decide_eq_true_eq] at t;exact⟨t.2.2.1,t.2.2.2⟩
 have am:Hid (∀W(i f:To)(sn j bn h:Nat),Zc 168 #[Zg #[Zi g.1,Zs i sn j,Zs f bn h],Zg #[Zi c1,Zt y,Zi z,Zo D,Zi m,Zi n,Zt o]] W λe P=>∃v',e=Zr v'/\P.ownsRow W.heap.size 56 3 v' g.1 (rep (m,n,o) g.1)/\Zb W P):=Aa λW i f sn j bn h=>Sf g.1 _ _ i f sn j bn h c1 y z D m n o W s.1 s.2 rfl rfl
 have u:Hid (∀v W B,W.ownsRow B 56 3 v g.1 (rep (m,n,o) g.1)->Zc 167 #[v] W λe P=>e=Zr (Zg (S.E6 (S.Iv (List.replicate g.1 (m,n,o)))))/\Zb W P):=Aa λv W B ho=>S.yU v _ W (E.Cy (by rw[WJ];exact ho)) (by simp;omega)
 obtain⟨ga,gc,rfl,_⟩:=O.2.slice;obtain⟨ca,cc,rfl,_⟩:=O.1.slice;dsimp only at I J ⊢;rw[t] at I;rw[hp] at J;clear O t s;obtain⟨⟨s1,s2,⟨k1,n1,t1⟩,⟨k2,n2,t2⟩⟩,af⟩:∃st,S.Iv (List.replicate g.1 (m,n,o))=st:=⟨_,rfl⟩;rw[af] at u ⊢;unfold S.E6 at u ⊢;simp only at u ⊢;clear af;obtain⟨N,V,q,X,aa⟩:=Jl w (Zk #[Zs ca cols.length cc,Zs ga gs.length gc] 105) (Zk #[Zi c1,Zt y,Zi z,Zo D,Zi m,Zi n,Zt o] 60) (Zk #[Zi 0,Zi 0,Zi 0,Zi 0,Zt ⟨#[]⟩,Zi 0,Zi 0,Zt ⟨#[]⟩] 231);have HA:=Aa V;have HB:=Aa q;have U:=Aa X;have R:=Aa aa;have ao:=Aa N;clear V q X aa N;go_enter func114,ntmps114;go_wp2_with fail;generalize ((w.alloc (Zk #[Zs ca cols.length cc,Zs ga gs.length gc] 105)).alloc (Zk #[Zi c1,Zt y,Zi z,Zo D,Zi m,Zi n,Zt o] 60)).alloc (Zk #[Zi 0,Zi 0,Zi 0,Zi 0,Zt ⟨#[]⟩,Zi 0,Zi 0,Zt ⟨#[]⟩] 231)=W3 at *;refine(I.o W3 R.o).mono ?_;rintro e l⟨sv,bv,rfl,ag,ad,ab⟩;obtain⟨i,j,rfl,_⟩:=ag.slice;obtain⟨f,h,rfl,_⟩:=ad.slice;have N:=ao.o;have ac:Zb l (l.alloc (Zk #[Zi g.1,Zs i g.2.1.length j,Zs f g.2.2.length h] 160)):=Zal;have b:=Ap ab ac;have V:=(b.block w.heap.size (by omega)).trans HA.o;have q:=(b.block (w.heap.size+1) (by omega)).trans HB.o;have aj:=Aa q;have ak:=Aa ((b.block (w.heap.size+2) (by omega)).trans U.o);obtain⟨f0,f1⟩:=Hg V;have x0:(l.alloc (Zk #[Zi g.1,Zs i g.2.1.length j,Zs f g.2.2.length h] 160)).cell? ⟨w.heap.size+1,0,none⟩=some (Zi c1):=A4 q rfl;have x1:(l.alloc (Zk #[Zi g.1,Zs i g.2.1.length j,Zs f g.2.2.length h] 160)).cell? ⟨w.heap.size+1,1,none⟩=some (Zt y):=A4 q rfl;have x2:(l.alloc (Zk #[Zi g.1,Zs i g.2.1.length j,Zs f g.2.2.length h] 160)).cell? ⟨w.heap.size+1,2,none⟩=some (Zi z):=A4 q rfl;have x3:(l.alloc (Zk #[Zi g.1,Zs i g.2.1.length j,Zs f g.2.2.length h] 160)).cell? ⟨w.heap.size+1,3,none⟩=some (Zo D):=A4 q rfl;have x4:(l.alloc (Zk #[Zi g.1,Zs i g.2.1.length j,Zs f g.2.2.length h] 160)).cell? ⟨w.heap.size+1,4,none⟩=some (Zi m):=A4 q rfl;have x5:(l.alloc (Zk #[Zi g.1,Zs i g.2.1.length j,Zs f g.2.2.length h] 160)).cell? ⟨w.heap.size+1,5,none⟩=some (Zi n):=A4 q rfl;have x6:(l.alloc (Zk #[Zi g.1,Zs i g.2.1.length j,Zs f g.2.2.length h] 160)).cell? ⟨w.heap.size+1,6,none⟩=some (Zt o):=A4 q rfl;have an:=Aa (Y8 l (Zk #[Zi g.1,Zs i g.2.1.length j,Zs f g.2.2.length h] 160));have T:=Aa (Ap R.o b);have ar:=b.size;have ap:l.heap.size<(l.alloc (Zk #[Zi g.1,Zs i g.2.1.length j,Zs f g.2.2.length h] 160)).heap.size:=by simp
 clear ag ad ab ac b V q HA HB U;go_wp2_with fail;generalize l.alloc (Zk #[Zi g.1,Zs i g.2.1.length j,Zs f g.2.2.length h] 160)=W5 at *;refine(J.o W5 T.o).mono ?_;rintro e G⟨rfl,r⟩;have L:=(r.block (w.heap.size+2) (by omega)).trans ak.o;have Y:=(r.block l.heap.size ap).trans an.o;have c:=(r.block (w.heap.size+1) (by omega)).trans aj.o;have al:=Aa L;have aq:w.heap.size+2<G.heap.size:=E.Ac L;obtain⟨g0,g1,g2,_⟩:=J5 Y;have y0:G.cell? ⟨w.heap.size+1,0,none⟩=some (Zi c1):=A4 c rfl;have y1:G.cell? ⟨w.heap.size+1,1,none⟩=some (Zt y):=A4 c rfl;have y2:G.cell? ⟨w.heap.size+1,2,none⟩=some (Zi z):=A4 c rfl;have y3:G.cell? ⟨w.heap.size+1,3,none⟩=some (Zo D):=A4 c rfl;have y4:G.cell? ⟨w.heap.size+1,4,none⟩=some (Zi m):=A4 c rfl;have y5:G.cell? ⟨w.heap.size+1,5,none⟩=some (Zi n):=A4 c rfl;have y6:G.cell? ⟨w.heap.size+1,6,none⟩=some (Zt o):=A4 c rfl;have ah:=Aa (Ap T.o r);clear r x0 x1 x2 x3 x4 x5 x6 f0 f1 L Y c;go_wp2_with fail;refine(am.o _ _ _ _ _ _ _).mono ?_;rintro e w7⟨v7,rfl,ae,x⟩;go_wp2_with fail;refine(u.o v7 w7 _ ae).mono ?_;rintro e d⟨rfl,M⟩;have a:=(M.block (w.heap.size+2) (by have:=x.size;omega)).trans ((x.block (w.heap.size+2) aq).trans al.o);have r0:d.cell? ⟨w.heap.size+2,0,none⟩=some (Zi 0):=A4 a rfl;have r1:d.cell? ⟨w.heap.size+2,1,none⟩=some (Zi 0):=A4 a rfl;have r2:d.cell? ⟨w.heap.size+2,2,none⟩=some (Zi 0):=A4 a rfl;have r3:d.cell? ⟨w.heap.size+2,3,none⟩=some (Zi 0):=A4 a rfl;have r4:d.cell? ⟨w.heap.size+2,4,none⟩=some (Zt ⟨#[]⟩):=A4 a rfl;have r5:d.cell? ⟨w.heap.size+2,5,none⟩=some (Zi 0):=A4 a rfl;have r6:d.cell? ⟨w.heap.size+2,6,none⟩=some (Zi 0):=A4 a rfl;have r7:d.cell? ⟨w.heap.size+2,7,none⟩=some (Zt ⟨#[]⟩):=A4 a rfl;have z0:=Yab d (w.heap.size+2) 0 _ _ a;have z1:=Yab d (w.heap.size+2) 1 _ _ a;have z2:=Yab d (w.heap.size+2) 2 _ _ a;have z3:=Yab d (w.heap.size+2) 3 _ _ a;have z4:=Yab d (w.heap.size+2) 4 _ _ a;have z5:=Yab d (w.heap.size+2) 5 _ _ a;have z6:=Yab d (w.heap.size+2) 6 _ _ a;have z7:=Yab d (w.heap.size+2) 7 _ _ a;have ai:=Aa (Ap (Ap ah.o x) M);clear x M a ae y0 y1 y2 y3 y4 y5 y6 g0 g1 g2;go_wp2;refine bodyPost_ret (v:=Zg #[Zi s1,Zi s2,Zi k1,Zi n1,Zt t1,Zi k2,Zi n2,Zt t2]) (by simp[results,results114,go_sem,r0,r1,r2,r3,r4,r5,r6,r7]) rfl ⟨rfl,?_⟩;exact(((((((ai.o.setCell (p:=⟨w.heap.size+2,0,none⟩) (XE _ _) _).setCell (p:=⟨w.heap.size+2,1,none⟩) (XE _ _) _).setCell (p:=⟨w.heap.size+2,2,none⟩) (XE _ _) _).setCell (p:=⟨w.heap.size+2,3,none⟩) (XE _ _) _).setCell (p:=⟨w.heap.size+2,4,none⟩) (XE _ _) _).setCell (p:=⟨w.heap.size+2,5,none⟩) (XE _ _) _).setCell (p:=⟨w.heap.size+2,6,none⟩) (XE _ _) _).setCell (p:=⟨w.heap.size+2,7,none⟩) (XE _ _) _
def I5(b:List Aj)(p:List (List V))(a:List Aj)(s:ByteArray):S.St:=if Ce a s<0 then S.F6 else S.Iv (p.map λr=>pick b r (a[(Ce a s).toNat]?.getD zC))
theorem AB3(k:Nat)(l m:Tv)(a:List Aj)(gs:List Fk)(p:List (List V))(c1:Int)(f:Tb)(g:Int)(h:Bool)(b c:Int)(d:Tb)(w:Tw)(q:Hm w l m (a,gs))(s:gs[k]? = some (An a p))(n:1<=a.length)(o:a.length<=8)(i:1<=p.length)(j:p.length<=6):
 Zc 114 #[Zg #[l,m],Zi k,Zg #[Zi c1,Zt f,Zi g,Zo h,Zi b,Zi c,Zt d]] w λe t=>e=Zr (Zg (S.E6 (S.Iv (p.map λr=>pick a r (c1,f,g,h,b,c,d)))))/\Zb w t:=by
 by_cases hp:pos a c1<a.length
 ·have e:(p.map λr=>pick a r (c1,f,g,h,b,c,d))=D7 p (pos a c1):=by
   unfold D7 pick;simp only[Yaa hp]
  rw[e];exact V5 k (pos a c1) l m a gs (An a p) _ c1 f g h b c d w q s n o (dF a p i j) (by unfold cM;rw[Yaa hp]) (ACi a p hp)
 have e:(p.map λr=>pick a r (c1,f,g,h,b,c,d))=List.replicate (An a p).1 (b,c,d):=by unfold pick;simp only[Y9 hp];rw[List.map_const'];rfl
 rw[e];exact AFz k l m a gs (An a p) c1 f g h b c d w q s n o (dF a p i j) (ABF hp)
theorem AFd(f l:List Aj)(gs:List Fk)(p:List (List V))(k:Nat)(cv gv:Tv)(g o cp L y M:Nat)(s:Tb)(w:Tw)(T:Hm w cv gv (f,gs))(hk:gs[k]? = some (An f p))(aj:1<=f.length)(ak:f.length<=8)(h8:l.length<=8)(al:1<=p.length)(am:p.length<=6)(hs:I1 w g o l)(Y:w.cell? ⟨L,0,none⟩=some (Zs (some ⟨g,o,none⟩) l.length cp))(U:w.cell? ⟨y,0,none⟩=some cv)(X:w.cell? ⟨y,1,none⟩=some gv)(aa:w.cell? ⟨M,0,none⟩=some (Zi k))(ab:L<w.heap.size)(J:y<w.heap.size)(ad:M<w.heap.size):
 Zc 113 #[Zt s,Zp (some ⟨L,0,none⟩),Zp (some ⟨y,0,none⟩),Zp (some ⟨M,0,none⟩)] w λe w'=>e=Zr (Zg (S.E6 (I5 f p l s)))/\Zb w w':=by
 have P:=Aa (λW(b:Zb w W)=>E8 g o cp l s W (hs.below b) h8);have h:Zb w (w.alloc (Zk (S.E6 S.F6) 231)):=Zal;obtain⟨ca,cc,ec,_⟩:=T.1.slice;obtain⟨ga,gc,eg,_⟩:=T.2.slice;dsimp only at ec eg;subst ec eg
 rcases Gz l s with⟨N,_⟩|⟨j,hj,N,_⟩
 ·have R:Hid (I5 f p l s=S.F6):=Aa (by unfold I5;rw[Yaa (by omega)])
  rw[R.o];simp only[N] at P;clear R N T hk hs;go_enter func113,ntmps113;go_wp2_with fail;refine(P.o _ h).mono ?_;rintro e i⟨rfl,a⟩;have G:S.Nq i w.heap.size S.F6:=S.Nq.up (Y8 _ _) a;obtain⟨c0,c1,c2,c3,c4,c5,c6,c7⟩:=S.Nq.cells (c:=0) (m:=0) (k:=0) (n:=0) (t:=⟨#[]⟩) (k':=0) (n':=0) (t':=⟨#[]⟩) G;obtain⟨f0,f1,f2,f3,f4,f5,f6,f7⟩:=G.free;have B1:Hid (Zb w i):=Aa (Ap h a);clear a G h;go_wp2;exact bodyPost_ret (v:=Zg #[Zi 0,Zi 0,Zi 0,Zi 0,Zt ⟨#[]⟩,Zi 0,Zi 0,Zt ⟨#[]⟩]) (by simp[results,results113,go_sem,c0,c1,c2,c3,c4,c5,c6,c7]) rfl ⟨rfl,S.b8c B1.o (Y' _) _ _ _ _ _ _ _ _⟩
 have R:Hid (I5 f p l s=S.Iv (p.map λr=>pick f r (l[j]?.getD zC))):=Aa (by unfold I5;rw[Y9 (by omega),N];rfl);rw[R.o];simp only[N] at P;have ex:∃x,l[j]! = x:=⟨_,rfl⟩;obtain⟨⟨y1,y2,y3,y4,y5,y6,y7⟩,hx⟩:=ex
 have hx? : (l[j]?.getD zC)=(y1,y2,y3,y4,y5,y6,y7):=by rw[XA hj,WN,<-hx,getElem!_pos l j hj]
 have q:=Aa (λW(b:Zb w W)=>AB3 k (Zs ca f.length cc) (Zs ga gs.length gc) f gs p y1 y2 y3 y4 y5 y6 y7 W (T.up b) hk aj ak al am);rw[<-hx?] at q;have HS:=Aa hs;have aq:(j:Int)<(l.length:Int):=by omega
 have ao:¬(j:Int)<0:=by omega
 have ap:(0:Int)<=(j:Int):=by omega
 obtain⟨⟨s1,s2,⟨k1,n1,t1⟩,⟨k2,n2,t2⟩⟩,af⟩:∃st,S.Iv (p.map λr=>pick f r (l[j]?.getD zC))=st:=⟨_,rfl⟩;rw[af] at q ⊢;unfold S.E6 at q ⊢;simp only at q ⊢;clear af;clear R N T hk hs hx?;go_enter func113,ntmps113;go_wp2_with fail;refine(P.o _ h).mono ?_;rintro e i⟨rfl,u⟩;have G:S.Nq i w.heap.size S.F6:=S.Nq.up (Y8 _ _) u;have a:=Ap h u;have an:w.heap.size<i.heap.size:=E.Ac G;clear u h;obtain⟨e0,e1,e2,e3,e4,e5,e6⟩:=(HS.o.below a).cells hj hx;have d0:=(a.cell (p:=⟨L,0,none⟩) ab).trans Y;have d1:=(a.cell (p:=⟨y,0,none⟩) J).trans U;have d2:=(a.cell (p:=⟨y,1,none⟩) J).trans X;have d3:=(a.cell (p:=⟨M,0,none⟩) ad).trans aa;clear Y U X aa hx P;have d:g<i.heap.size:=(HS.o.below a).1;have ac:L<i.heap.size:=Ya ab a.size;have D:y<i.heap.size:=Ya J a.size;have ae:M<i.heap.size:=Ya ad a.size
 have HK:Hid (∀W,Zb i W->W.cell? ⟨L,0,none⟩=some (Zs (some ⟨g,o,none⟩) l.length cp)/\W.cell? ⟨y,0,none⟩=some (Zs ca f.length cc)/\W.cell? ⟨y,1,none⟩=some (Zs ga gs.length gc)/\W.cell? ⟨M,0,none⟩=some (Zi k)/\W.cell? ⟨g,o+j*7,none⟩=some (Zi y1)/\W.cell? ⟨g,o+j*7+1,none⟩=some (Zt y2)/\W.cell? ⟨g,o+j*7+2,none⟩=some (Zi y3)/\W.cell? ⟨g,o+j*7+3,none⟩=some (Zo y4)/\W.cell? ⟨g,o+j*7+4,none⟩=some (Zi y5)/\W.cell? ⟨g,o+j*7+5,none⟩=some (Zi y6)/\W.cell? ⟨g,o+j*7+6,none⟩=some (Zt y7)):=Aa (λW b=>⟨(b.cell (p:=⟨L,0,none⟩) ac).trans d0,(b.cell (p:=⟨y,0,none⟩) D).trans d1,(b.cell (p:=⟨y,1,none⟩) D).trans d2,(b.cell (p:=⟨M,0,none⟩) ae).trans d3,(b.cell (p:=⟨g,o+j*7,none⟩) d).trans e0,(b.cell (p:=⟨g,o+j*7+1,none⟩) d).trans e1,(b.cell (p:=⟨g,o+j*7+2,none⟩) d).trans e2,(b.cell (p:=⟨g,o+j*7+3,none⟩) d).trans e3,(b.cell (p:=⟨g,o+j*7+4,none⟩) d).trans e4,(b.cell (p:=⟨g,o+j*7+5,none⟩) d).trans e5,(b.cell (p:=⟨g,o+j*7+6,none⟩) d).trans e6⟩)
 have ai:Hid (∀W,Zb i W->S.Nq W w.heap.size S.F6):=Aa (λW b=>S.Nq.up G b);have O:=Aa a;have ah:Hid (∀args w,(callFunc 114 args).run prog w=.ok (.enter 114 args) w):=Aa (enters_of func114 (by kernel_rfl) rfl);clear G a;go_wp2_with fail;clear HK
 go_region_law
  (first
    | (refine Nh (by rfl) 114 (.tmp 13) (.tmp 14) (.tmp 18) 105 3 60 (by rfl) (Zg #[Zs ca f.length cc,Zs ga gs.length gc]) (Zi k) (Zg #[Zi y1,Zt y2,Zi y3,Zo y4,Zi y5,Zi y6,Zt y7]) (by rfl) (by rfl) (by rfl) ah.o _ (q.o i.drew O.o.drew) ?_
       rintro e w2⟨rfl,z⟩;have I:Zb i w2:=Ap (XB _ _).drew z;have K2:=ai.o w2 I;obtain⟨c0,c1,c2,c3,c4,c5,c6,c7⟩:=S.Nq.cells (c:=0) (m:=0) (k:=0) (n:=0) (t:=⟨#[]⟩) (k':=0) (n':=0) (t':=⟨#[]⟩) K2;obtain⟨f0,f1,f2,f3,f4,f5,f6,f7⟩:=K2.free;clear K2;refine⟨_,rfl,?_⟩)
    | fail)
 all_goals
  have ag:=Aa (Ap O.o I);clear I z;go_wp2;exact bodyPost_ret (v:=Zg #[Zi s1,Zi s2,Zi k1,Zi n1,Zt t1,Zi k2,Zi n2,Zt t2]) (by simp[results,results113,go_sem,c0,c1,c2,c3,c4,c5,c6,c7]) rfl ⟨rfl,S.b8c ag.o (Y' _) _ _ _ _ _ _ _ _⟩
theorem pE(a l:List Aj)(gs:List Fk)(p:List (List V))(k:Nat)(d f:Tv)(g o j:Nat)(T:S.CT)(v:Tv)(w:Tw)(m:Hm w d f (a,gs))(L:gs[k]? = some (An a p))(q:1<=a.length)(r:a.length<=8)(h8:l.length<=8)(t:1<=p.length)(u:p.length<=6)(N:I1 w g o l)(O:S.Gy w T v)(M:S.Lp w)(J:S.C9 T 24=true):
 Zc 68 #[Zg #[d,f],Zi k,Zs (some ⟨g,o,none⟩) l.length j,v] w λe y=>e=Zr (Zo (S.Bp (I5 a p l) false T))/\Zb w y:=by
 have i:Zb w (((w.alloc (Zk #[d,f] 105)).alloc (Zk #[Zi k] 3)).alloc (Zk #[Zs (some ⟨g,o,none⟩) l.length j] 33)):=b3 w _ _ _
 have X:Hid (∀W,Zb w W->W.heap[w.heap.size]? = some (Zk #[d,f] 105)->W.heap[w.heap.size+1]? = some (Zk #[Zi k] 3)->W.heap[w.heap.size+2]? = some (Zk #[Zs (some ⟨g,o,none⟩) l.length j] 33) ->
  Zc 112 #[v,.func (.func 113) #[] #[Zp (some ⟨w.heap.size+2,0,none⟩),Zp (some ⟨w.heap.size,0,none⟩),Zp (some ⟨w.heap.size+1,0,none⟩)]] W λe y=>e=Zr (Zo (S.Bp (I5 a p l) false T))/\Zb W y):=Aa (λW hW q0 q1 q2=>
  S.AG4 _ (I5 a p l) T v W (O.up hW) (λY s h=>S.r8 _ _ _ (I5 a p l) s Y (λW2 s2 hW2=>by have I:=Ap (Ap hW h) hW2;have b:=Ap h hW2;have x:=(b.block _ (E.Ac q0)).trans q0;have P:=(b.block _ (E.Ac q1)).trans q1;have U:=(b.block _ (E.Ac q2)).trans q2;exact AFd a l gs p k d f g o j _ _ _ s2 W2 (m.up I) L q r h8 t u (N.below I) (S.cell_of_heap U 0) (S.cell_of_heap x 0) (S.cell_of_heap x 1) (S.cell_of_heap P 0) (E.Ac U) (E.Ac x) (E.Ac P))) (M.below hW) J)
 have aa:∀(G:Fn)(first c:Array Tv)(w:Tw),(Instr.makeFunc G first c).run prog w=.ok (.func G first c) w:=λ_ _ _ _=>rfl
 obtain⟨ca,cc,z,_⟩:=m.1.slice;obtain⟨ga,gc,D,_⟩:=m.2.slice;dsimp only at z D;subst z D;generalize S.Bp (I5 a p l) false T=R at *;clear m L N O M J;go_enter func68,ntmps68;go_wp2_with fail;refine(X.o _ i (AF1 w _ _ _).1 (AF1 w _ _ _).2.1 (AF1 w _ _ _).2.2).mono ?_;rintro e w1⟨rfl,n⟩;go_wp2;go_ret;exact⟨rfl,Ap i n⟩
theorem ADM(l:List Aj)(r:List V)(g o G D z a b q:Nat)(s:Tb)(w:Tw)(h8:l.length<=8)(hs:I1 w g o l)(N:r.length=l.length)(h:Rf l s)(t:w.cell? ⟨z,0,none⟩=some (Zs (some ⟨g,o,none⟩) l.length G))(i:w.cell? ⟨D,0,none⟩=some (Zs (some ⟨a,b,none⟩) l.length q))(hc:∀j x,r[j]? = some x->w.cell? ⟨a,b+j*3,none⟩=some (Zi x.1)/\w.cell? ⟨a,b+j*3+1,none⟩=some (Zi x.2.1)/\w.cell? ⟨a,b+j*3+2,none⟩=some (Zt x.2.2))(q1:z<w.heap.size)(q4:D<w.heap.size)(O:a<w.heap.size):
 Zc 171 #[Zt s,Zp (some ⟨D,0,none⟩),Zp (some ⟨z,0,none⟩)] w λe w'=>e=Zr (Zg #[Zi (Uk l r s).1,Zi (Uk l r s).2.1,Zt (Uk l r s).2.2])/\Zb w w':=by
 obtain⟨j,hj,n⟩:∃j:Nat,j<l.length/\Ce l s=j:=by
  rcases Gz l s with⟨n,_⟩|⟨j,hj,n,_⟩
  ·unfold Rf at h;omega
  exact⟨j,hj,n⟩
 have X:=Aa (λW(c:Zb w W)=>E8 g o G l s W (hs.below c) h8);simp only[n] at X;obtain⟨⟨P,R,T⟩,y⟩:∃v,Uk l r s=v:=⟨_,rfl⟩
 have u:r[j]? = some (P,R,T):=by unfold Uk at y;rw[n,WB,XA (by omega)] at y;rw[XA (by omega)];simpa using y
 rw[y];obtain⟨x0,x1,x2⟩:=hc j _ u;have ab:(j:Int)<(l.length:Int):=by omega
 have aa:(0:Int)<=(j:Int):=by omega
 have L:Hid (∀args w,(callFunc 92 args).run prog w=.ok (.enter 92 args) w):=Aa (enters_of func92 (by kernel_rfl) rfl);clear y u hc hs h n N;go_enter func171,ntmps171;go_wp2_with fail;have m:Zb w (w.alloc (Zk #[Zi 0,Zi 0,Zt ⟨#[]⟩] 56)):=Zal;have M:=Y8 w (Zk #[Zi 0,Zi 0,Zt ⟨#[]⟩] 56)
 have Y:Hid (∀W,Zb w W->W.cell? ⟨z,0,none⟩=some (Zs (some ⟨g,o,none⟩) l.length G)/\W.cell? ⟨D,0,none⟩=some (Zs (some ⟨a,b,none⟩) l.length q)/\W.cell? ⟨a,b+j*3,none⟩=some (Zi P)/\W.cell? ⟨a,b+j*3+1,none⟩=some (Zi R)/\W.cell? ⟨a,b+j*3+2,none⟩=some (Zt T)):=Aa (λW c=>⟨(c.cell (p:=⟨z,0,none⟩) q1).trans t,(c.cell (p:=⟨D,0,none⟩) q4).trans i,(c.cell (p:=⟨a,b+j*3,none⟩) O).trans x0,(c.cell (p:=⟨a,b+j*3+1,none⟩) O).trans x1,(c.cell (p:=⟨a,b+j*3+2,none⟩) O).trans x2⟩)
 generalize w.alloc (Zk #[Zi 0,Zi 0,Zt ⟨#[]⟩] 56)=I at *;obtain⟨p0,p3,p4,p5,p6⟩:=Y.o I m;have HZ:Hid (∀W,Zb I W->W.heap[w.heap.size]? = some (Zk #[Zi 0,Zi 0,Zt ⟨#[]⟩] 56)):=Aa (λW c=>(c.block _ (E.Ac M)).trans M);have k:=Aa m;clear t i x0 x1 x2 m M
 go_region_law
  (first
    | (refine Gc (by rfl) 92 (.tmp 6) (.tmp 7) 33 9 (by rfl) (Zs (some ⟨g,o,none⟩) l.length G) (Zt s) (by rfl) (by rfl) L.o _ (X.o I.drew k.o.drew) ?_
       rintro e U⟨rfl,f⟩;have d:Zb I U:=Ap (XB _ _).drew f;obtain⟨r0,r3,r4,r5,r6⟩:=Y.o U (Ap k.o d);obtain⟨z0,z1,z2,t0,t1,t2⟩:=J5 (HZ.o U d);refine⟨_,rfl,?_⟩)
    | fail)
 all_goals
  have J:=Aa (Ap k.o d);clear d f;go_wp2;exact bodyPost_ret (v:=Zg #[Zi P,Zi R,Zt T]) (by simp[results,results171,go_sem,z0,z1,z2]) rfl ⟨rfl,((J.o.setCell (p:=⟨w.heap.size,0,none⟩) (Y' _) _).setCell (p:=⟨w.heap.size,1,none⟩) (Y' _) _).setCell (p:=⟨w.heap.size,2,none⟩) (Y' _) _⟩
theorem ACq(pa i:Tv)(g h:Tb->Int)(gt:Tb->Tb)(P:Tb->Prop)(s:Tb)(w:Tw)(r:P s)(l:∀(W:Tw)(s:Tb),P s->Zb w W->Zc 171 #[Zt s,pa,i] W λe d=>e=Zr (Zg #[Zi (g s),Zi (h s),Zt (gt s)])/\Zb W d):
 Zc 211 #[.func (.func 171) #[] #[pa,i],Zt s] w λe d=>e=Zr (Zg #[Zi (g s),Zi (h s),Zt (gt s)])/\Zb w d:=by
 have o:Hid (∀W,Zb w W->Zc 171 #[Zt s,pa,i] W λe d=>e=Zr (Zg #[Zi (g s),Zi (h s),Zt (gt s)])/\Zb W d):=λW hb=>l W s r hb
 clear l;have u:∀(j:Fn)(first c:Array Tv)(w:Tw),(Instr.makeFunc j first c).run prog w=.ok (.func j first c) w:=λ_ _ _ _=>rfl
 generalize g s=k,h s=n,gt s=t at *
 go_enter_defers func211,ntmps211
 go_wp2_with fail;refine(o.o _ Zal).mono ?_;rintro e b⟨rfl,a⟩;have c0:b.cell? ⟨w.heap.size,0,none⟩=some (Zi 0):=(a.cell (p:=⟨w.heap.size,0,none⟩) (by simp)).trans (by go_simp);have c1:b.cell? ⟨w.heap.size,1,none⟩=some (Zi 0):=(a.cell (p:=⟨w.heap.size,1,none⟩) (by simp)).trans (by go_simp);have q:b.cell? ⟨w.heap.size,2,none⟩=some (Zt ⟨#[]⟩):=(a.cell (p:=⟨w.heap.size,2,none⟩) (by simp)).trans (by go_simp);have x:b.frozen? ⟨w.heap.size,0,none⟩=false:=(a.frozen (p:=⟨w.heap.size,0,none⟩) (by simp)).trans (by go_simp);have y:b.frozen? ⟨w.heap.size,1,none⟩=false:=(a.frozen (p:=⟨w.heap.size,1,none⟩) (by simp)).trans (by go_simp);have z:b.frozen? ⟨w.heap.size,2,none⟩=false:=(a.frozen (p:=⟨w.heap.size,2,none⟩) (by simp)).trans (by go_simp);have m:Hid (Zb w b):=((XB _ w).alloc (Y' _) _).trans (a.mono (by simp));clear a;go_wp2;refine leaves_cons (f:=249) (args:=#[Zp (some ⟨w.heap.size,0,none⟩)]) (by simp) (by simp[go_sem]) ?_;refine(S.AEX ⟨w.heap.size,0,none⟩ _).mono ?_;rintro e D v⟨rfl,rfl,rfl⟩;simp[Leaves,settle,results,results211,go_sem,c0,c1,q];exact((m.o.setCell (Y' _) _).setCell (Y' _) _).setCell (Y' _) _
structure kI(W:World)(a b:Nat)(lv vv:Value):Prop where
 va:W.heap[a]? = some (.cells #[vv] 62)
 lb:W.heap[b]? = some (.cells #[lv] 33)
theorem kI.up{W V:Tw}{a b:Nat}(h:kI W a b v u)(c:Zb W V):kI V a b v u :=
 ⟨(c.block a (E.Ac h.va)).trans h.va,(c.block b (E.Ac h.lb)).trans h.lb⟩
def AA0(a b:Nat):Value:=.func (.func 171) #[] #[.pointer (some ⟨a,0,none⟩),.pointer (some ⟨b,0,none⟩)]
theorem AGC(d h:To)(g f j i:Nat)(w:Tw):Zc 118 #[Zs d g f,Zs h j i] w λe m=>∃a b,e=Zr (AA0 a b)/\kI m a b (Zs d g f) (Zs h j i)/\Below w.heap.size w m:=by
 have n:∀(k:Fn)(first c:Array Tv)(w:Tw),(Instr.makeFunc k first c).run prog w=.ok (.func k first c) w:=λ_ _ _ _=>rfl
 go_enter func118,ntmps118;go_wp2;go_ret;have l:=Y8 (w.alloc (Zk #[Zs d g f] 33)) (Zk #[Zs h j i] 62);rw[XC] at l;exact⟨w.heap.size+1,w.heap.size,rfl,⟨l,(WH _ _ _ (by simp)).trans (Y8 w _)⟩,S.Gj w _ _⟩
def evR(l:List Aj)(r:List V)(T:S.CT):Int:=S.Io (λs=>(Uk l r s).1) (λs=>(Uk l r s).2.1) (λs=>(Uk l r s).2.2) T
theorem AB4(l:List Aj)(r:List V)(g o m a b:Nat)(n:Tv)(T:S.CT)(v:Tv)(w:Tw)(q:l.length<=8)(I:I1 w g o l)(f:r.length=l.length)(O:1<=l.length)(J:E.Sl w n r)(t:kI w a b (Zs (some ⟨g,o,none⟩) l.length m) n)(G:S.Gy w T v)(x:S.Kg (Rf l) T)(D:S.C9 T 24=true):
 Zc 117 #[v,AA0 a b] w λe M=>e=Zr (Zi (evR l r T))/\Zb w M:=by
 refine S.AAk (Rf l) (AA0 a b) _ _ _ T v w G x (λW s u y=>?_) D;refine ACq (Zp (some ⟨a,0,none⟩)) (Zp (some ⟨b,0,none⟩)) (λs=>(Uk l r s).1) (λs=>(Uk l r s).2.1) (λs=>(Uk l r s).2.2) (Rf l) s W u (λW2 s2 hP2 hb2=>?_);have h:=Ap y hb2;have d:=t.up h;obtain⟨N,c,rfl,_,z⟩:=J.up h;obtain⟨p,L,rfl,k,i⟩:=z (by intro e;rw[e] at f;simp at f;omega);have j:=d.va;rw[f] at j;exact ADM l r g o m a b p L c s2 W2 q (I.below h) f hP2 (S.cell_of_heap d.lb 0) (S.cell_of_heap j 0) i (E.Ac d.lb) (E.Ac d.va) k
abbrev Px:=ByteArray×Int×List V
def Og(x:ByteArray×Int×Value):List Value:=[.string x.1,Zi x.2.1,x.2.2]
def Fp(I B:Nat)(w:World)(v:Value)(rs:List Px):Prop:=∃xs:List (ByteArray×Int×Value),xs.length=rs.length/\w.ownsRow B 75 3 v rs.length (xs.flatMap Og)/\∀(j:Nat)x r,xs[j]? = some x->rs[j]? = some r->x.1=r.1/\x.2.1=r.2.1/\w.ownsRow I 56 3 x.2.2 r.2.2.length (E.A1 r.2.2)
theorem Fp.up{I B:Nat}{rs:List Px}(h:Fp I B w v rs)(d:Zb w W):Fp I B W v rs:=by obtain⟨xs,e,f,a⟩:=h;exact⟨xs,e,E.Ad f d,λj x r c b=>⟨(a j x r c b).1,(a j x r c b).2.1,E.Ad (a j x r c b).2.2 d⟩⟩
theorem P6(I B:Nat)(w:Tw):Fp I B w (Zs none 0 0) []:=⟨[],rfl,XO _ _ _ _,λj x r a=>by simp at a⟩
def Jw(path:ByteArray)(mask:List Int)(l:List Aj)(T:S.CT):Int->List (List V)->List Px
 | _,[]=>[]
 | p,r :: rs=>if (mask.any λy=>p==y)=false/\evR l r T=1 then (path,p,r) :: Jw path mask l T (p+1) rs else Jw path mask l T (p+1) rs
theorem rC(path:Tb)(mask:List Int)(l:List Aj)(T:S.CT):∀(rs:List (List V))(p:Int)(r:List V),Jw path mask l T p (rs++[r])=Jw path mask l T p rs++(if (mask.any λy=>(p+rs.length)==y)=false/\evR l r T=1 then [(path,p+rs.length,r)] else [])
 | [],p,r=>by simp only[XR,Jw,XZ,WO,WT]
 | q :: rs,p,r=>by
   have a:=rC path mask l T rs (p+1) r;have e:p+1+(rs.length:Int)=p+((q :: rs).length:Int):=by simp only[XN];omega
   rw[e] at a;simp only[XJ,Jw];split
   ·rw[a];rfl
   exact a
def ABC:Value:=.agg #[.string ⟨#[]⟩,Zi 0,.slice none 0 0]
theorem AEA:(prog.info? 75).map (λi=>(i.zero,i.size,i.bytes))=some (some ABC,3,48):=by kernel_rfl
def Ev:Value->Nat
 | .int _ n=>n.toNat
 | _=>0
theorem yF.at{I:Nat}{w:Tw}{v:Tv}{rows:List (List V)}(h:yF I w v rows){k:Nat}{r:List V}(i:rows[k]? = some r):∃d c x,v=Zs (some ⟨d,0,none⟩) rows.length c/\d<w.heap.size/\rows.length<=c/\w.cell? ⟨d,k,none⟩=some x/\w.ownsRow I 56 3 x r.length (E.A1 r):=by
 obtain⟨p,s,e,m⟩:=h;have o:=Ax i;obtain⟨x,j⟩:∃x,p[k]? = some x:=⟨_,XA (by omega)⟩
 rcases e.2 with⟨_,q⟩|⟨g,b,l,rfl,t,n,a,_,_⟩
 ·omega
 have f:=e.cells (g:=g) rfl;simp only[E.addr_add] at f;have:=f k x j;exact⟨g,b,x,rfl,E.Ac n,a,by simpa using this,m k x r j i⟩
theorem a8{n i j m n1 n2:Nat}{c d:TypeId}{X Y:List Tv}(e:w.ownsRow n c j v n1 X)(f:w.ownsRow i d m u n2 Y)(g:c≠d):∀k,v.ownBlock=some k->u.ownBlock≠some k:=λk h b=>by
 obtain⟨c1,l⟩:=Ho e h;obtain⟨o,a⟩:=Ho f b;rw[l] at a;injection a with a;injection a with _ a;exact g a
theorem Fp.snoc{I B:Nat}{v v':Tv}{rs:List Px}{p:Tb}{i:Int}{x:Tv}{r:List V}{xs:List (Tb×Int×Tv)}(o:xs.length=rs.length)(t:w.ownsRow B 75 3 v rs.length (xs.flatMap Og))(u:∀(j:Nat)x r,xs[j]? = some x->rs[j]? = some r->x.1=r.1/\x.2.1=r.2.1/\w.ownsRow I 56 3 x.2.2 r.2.2.length (E.A1 r.2.2))(G:w.ownsRow I 56 3 x r.length (E.A1 r))(z:w.grownBy W v.ownBlock)(D:W.ownsRow B 75 3 v' (rs.length+1) (xs.flatMap Og++Og (p,i,x))):Fp I B W v' (rs++[(p,i,r)]):=by
 have g:∀{y:Tv}{n:Nat}{s:List Tv},w.ownsRow I 56 3 y n s->W.ownsRow I 56 3 y n s:=λd=>Az d z λk g e=>a8 t d (by decide) k e g
 refine⟨xs++[(p,i,x)],by simp[o],?_,λj y q d f=>?_⟩
 ·simpa using D
 rcases Yc j xs.length with l|h
 ·rw[XM l] at d
  rw[XM (by omega)] at f;obtain⟨a,b,c⟩:=u j y q d f;exact⟨a,b,g c⟩
 rw[XL h] at d;rw[XL (by omega)] at f;rw[o] at d;cases hj:j-rs.length with
 | zero=>rw[hj] at d f;simp at d f;subst d f;exact⟨rfl,rfl,g G⟩
 | succ m=>rw[hj] at d;simp at d
theorem rI(I:Nat)(gr:Tv)(rows:List (List V))(first:Nat)(path:Tb)(er:Int)(ma:To)(mn mc:Nat)(mask:List Int)(g o cp:Nat)(l:List Aj)(T:S.CT)(v:Tv)(w:Tw)(hR:yF I w gr rows)(bb:rows.length<=6)(ah:∀r∈rows,r.length=l.length)(hf:first<=1000)(hm:Ph w (Zs ma mn mc) mask)(a9:mask.length<=1000)(h8:l.length<=8)(h1:1<=l.length)(hs:I1 w g o l)(hi:S.Gy w T v)(ha:S.Kg (Rf l) T)(hd:S.C9 T 24=true):
 Zc 70 #[gr,Zi (first:Int),Zg #[Zt path,Zi er,Zs ma mn mc],Zs (some ⟨g,o,none⟩) l.length cp,v] w λe w'=>∃v',e=Zr v'/\Fp I w.heap.size w' v' (Jw path mask l T first rows)/\Zb w w':=by
 obtain⟨ga,gc,rfl,a7⟩:=hR.o.slr.slice;go_enter func70,ntmps70;go_wp2_with fail;have HR:=Aa hR;have av:=Aa ah;have HM:=Aa hm;have HS:=Aa hs;have HI:=Aa hi;have HA:=Aa ha;have HD:=Aa hd;have ar:=Aa (Y8 w (Zk #[Zt path,Zi er,Zs ma mn mc] 51));have an:Hid (Zb w (w.alloc (Zk #[Zt path,Zi er,Zs ma mn mc] 51))):=Aa Zal;obtain⟨iC,aj,ak,al,am⟩:=info_parts AEA;have s:=Zy aj ak al am;clear hR ah hm hs hi ha hd aj ak al am
 go_loopw [11,17] (λvr vi wr=>∃(k:Nat)(a:To)(n c:Nat),k<=rows.length/\vi=Zi (k:Int)/\vr=Zs a n c/\n<=k/\Hid (Fp I w.heap.size wr (Zs a n c) (Jw path mask l T first (rows.take k))/\n=(Jw path mask l T first (rows.take k)).length)/\Hid (Zb w wr)/\Hid (wr.heap[w.heap.size]? = some (Zk #[Zt path,Zi er,Zs ma mn mc] 51))) (λ_ vi _=>rows.length-Ev vi)
 case atStart=>exact⟨0,none,0,0,XF _,rfl,rfl,Y' _,Aa ⟨P6 _ _ _,rfl⟩,an,ar⟩
 case round=>
  obtain⟨k,a,n,c,hk,rfl,rfl,ba,HF,HB,Y⟩:=hrel
  rcases Yc k rows.length with a1|a8
  ·obtain⟨r,X⟩:∃r,rows[k]? = some r:=⟨_,XA a1⟩
   obtain⟨gb,a5,x,eg,a6,a3,hx,U⟩:=(HR.o.up HB.o).at X;injection eg with ax _ ay;subst ax ay;obtain⟨xa,xc,rfl,_⟩:=(E.Cy U);have a0:(k:Int)<(rows.length:Int):=by omega
   have n0:=S.cell_of_heap Y.o 0;have n1:=S.cell_of_heap Y.o 1;have n2:=S.cell_of_heap Y.o 2;simp at n0 n1 n2;have HX:=Aa U;clear U;have ai:rows.take (k+1)=rows.take k++[r]:=S.Cs X;have ag:(rows.take k).length=k:=by rw[XW];omega
   have t:=Aa (rC path mask l T (rows.take k) first r);rw[ag,<-ai] at t;clear ai ag;have ao:=Aa (Nc (Zs ma mn mc) mask ((first:Int)+(k:Int)) wr (HM.o.below HB.o) (by unfold maxLen;omega));go_wp2_with fail;refine ao.o.mono ?_;rintro e w1⟨rfl,rfl⟩;cases hb:mask.any (λy=>((first:Int)+(k:Int))==y) with
   | true=>have HQ:Hid (Jw path mask l T first (rows.take (k+1))=Jw path mask l T first (rows.take k)):=Aa (by rw[t.o,Y9 (by rw[hb];simp),WI]);clear hb;go_wp2;refine⟨⟨k+1,a,n,c,by omega,rfl,rfl,by omega,?_,HB,Y⟩,by simp only[Ev];omega⟩;rw[HQ.o];exact HF
   | false=>
     have aa:=Aa (λ(A B:Nat)W(hW:Zb w W)(hS:kI W A B (Zs (some ⟨g,o,none⟩) l.length cp) (Zs xa r.length xc))(hv:E.Sl W (Zs xa r.length xc) r)=>AB4 l r g o cp A B (Zs xa r.length xc) T v W h8 (HS.o.below hW) (av.o r (XD X)) h1 hv hS (HI.o.up hW) HA.o HD.o);go_wp2_with fail;refine(AGC _ _ _ _ _ _ _).mono ?_;rintro e w2⟨A,B,rfl,ad,f⟩;have z:=Aa (Ap HB.o f);have P:=Aa (E.Ad HX.o f);have L:=Aa (Yad (HF.o.1.up f) HF.o.2);have O:=Aa ((f.block _ (E.Ac Y.o)).trans Y.o);have ac:=Aa ad;clear f ad;unfold AA0 at aa ⊢;go_wp2_with fail;refine(aa.o A B w2 z.o ac.o (E.Cy P.o)).mono ?_;rintro e w3⟨rfl,i⟩;have D:=Aa (Ap z.o i);have aw:=Aa (E.Ad P.o i);have M:=Aa (Yad (L.o.1.up i) L.o.2);have d:=Aa ((i.block _ (E.Ac O.o)).trans O.o);clear i z P L O ac n0 n1 n2;have n0:=S.cell_of_heap d.o 0;have n1:=S.cell_of_heap d.o 1;have n2:=S.cell_of_heap d.o 2;simp at n0 n1 n2
     by_cases hev:evR l r T=1
     ·have HQ:Hid (Jw path mask l T first (rows.take (k+1))=Jw path mask l T first (rows.take k)++[(path,(first:Int)+(k:Int),r)]):=Aa (by rw[t.o,Yaa ⟨hb,hev⟩])
      rw[hev];clear hb hev;obtain⟨⟨xs,e1,e2,e3⟩,hn⟩:=M.o;rw[<-hn] at e1 e2;have ap:=Aa e1;have p:=Aa e2;have G:=Aa e3;have au:=Aa hn;have b:Hid (Zb w3 (w3.alloc (Zk #[Zt path,Zi ((first:Int)+(k:Int)),Zs xa r.length xc] 75))):=Aa Zal;clear e1 e2 e3 hn M
      go_wp2_with (first
       | (at_builtin;refine wpList_append_own _ rfl _ _ 71 rfl w.heap.size 75 iC ABC 3 48 underlying71 s.o.1 s.o.2.1 s.o.2.2.1 s.o.2.2.2 rfl (by decide) (.slice a n c) n (xs.flatMap Og) rfl (E.Ad p.o b.o) ⟨w3.heap.size,0,none⟩ 1 1 (Og (path,(first:Int)+(k:Int),.slice xa r.length xc)) rfl rfl (λj u hj=>XG (Y8 _ _) j u hj) (by intro u hu;simp[Og] at hu;rcases hu with rfl|rfl|rfl <;> rfl) (by unfold maxLen;omega) (by omega) (XV D.o.size b.o.size) ?_
          intro v1 w5 m af _;have ab:=Aa m;have N:=Aa af;clear m af))
      obtain⟨a',c',rfl,_⟩:=Au ab.o;have ae:=Ap D.o b.o;have R:=(b.o.block _ (E.Ac d.o)).trans d.o;have hn:=au.o;subst hn;refine⟨⟨k+1,a',_,c',by omega,by simp,rfl,by omega,Aa ⟨?_,?_⟩,Aa (ae.grown N.o ae.size (λj hj=>Fu p.o hj)),Aa ?_⟩,by simp only[Ev];omega⟩
      ·rw[HQ.o]
       exact Fp.snoc ap.o (E.Ad p.o b.o) (λj x r hx X=>⟨(G.o j x r hx X).1,(G.o j x r hx X).2.1,E.Ad (G.o j x r hx X).2.2 b.o⟩) (E.Ad aw.o b.o) N.o ab.o
      ·rw[HQ.o]
       simp
      refine(N.o.block _ (E.Ac R) (λe=>?_)).trans R;obtain⟨a4,q⟩:=Ho (E.Ad p.o b.o) e.symm;rw[R] at q;injection q with q;injection q with _ q;exact absurd q (by decide)
     have HQ:Hid (Jw path mask l T first (rows.take (k+1))=Jw path mask l T first (rows.take k)):=Aa (by rw[t.o,Y9 (λh=>hev h.2),WI]);have a2:(evR l r T==1)=false:=by simpa using hev
     generalize evR l r T=ev at *;go_wp2;refine⟨⟨k+1,a,n,c,by omega,rfl,rfl,by omega,?_,D,d⟩,by simp only[Ev];omega⟩;rw[HQ.o];exact M
  have a0:¬((k:Int)<(rows.length:Int)):=by omega
  have az:k=rows.length:=by omega
  subst az;have J:=HF.o;rw[Yf] at J;have aq:=Aa J;clear J;go_wp2;go_ret;exact⟨_,rfl,aq.o.1,HB.o⟩
def Cw(a l:List Aj)(p:List (List V)):List (List V):=p.map λr=>l.map (pick a r)
def Oe(path:ByteArray)(mask:List Int)(l:List Aj)(T:S.CT)(a:List Aj):Int->List (List (List V))->List Px×Nat
 | _,[]=>([],0)
 | f,p :: ps=>if S.Bp (I5 a p l) false T=true then (Jw path mask l T f (Cw a l p)++(Oe path mask l T a (f+p.length) ps).1,(Oe path mask l T a (f+p.length) ps).2+1) else Oe path mask l T a (f+p.length) ps
def En:List (List (List V))->Nat
 | []=>0
 | p :: ps=>p.length+En ps
theorem sQ(a:List (List (List V)))(p:List (List V)):En (a++[p])=En a+p.length:=by
 induction a with
 | nil=>simp[En]
 | cons q a ih=>simp only[XJ,En,ih];omega
theorem tQ(path:Tb)(mask:List Int)(l:List Aj)(T:S.CT)(b:List Aj)(p:List (List V)):∀(a:List (List (List V)))(f:Int),Oe path mask l T b f (a++[p])=if S.Bp (I5 b p l) false T=true then ((Oe path mask l T b f a).1++Jw path mask l T (f+En a) (Cw b l p),(Oe path mask l T b f a).2+1) else Oe path mask l T b f a
 | [],f=>by simp only[XR,Oe,En,WO,WT,WI,WL]
 | q :: a,f=>by
   have c:=tQ path mask l T b p a (f+q.length);have e:f+(q.length:Int)+(En a:Int)=f+(En (q :: a):Int):=by simp only[En];omega
   rw[e] at c;simp only[XJ,Oe,c];split <;> split <;> simp
theorem AGe(path:Tb)(mask:List Int)(l:List Aj)(T:S.CT)(rs:List (List V)):∀p:Int,(Jw path mask l T p rs).length<=rs.length:=by
 induction rs with
 | nil=>intro p;simp[Jw]
 | cons r rs ih=>intro p;simp only[Jw];split <;> simp <;> have:=ih (p+1) <;> omega
theorem xP(path:Tb)(mask:List Int)(l:List Aj)(T:S.CT)(b:List Aj):∀(a:List (List (List V)))(f:Int),(Oe path mask l T b f a).2<=a.length/\(Oe path mask l T b f a).1.length<=En a
 | [],f=>by simp[Oe,En]
 | q :: a,f=>by
   have e:=xP path mask l T b a (f+q.length);have c:=AGe path mask l T (Cw b l q) f;have d:(Cw b l q).length=q.length:=by simp[Cw]
   simp only[Oe,En,XN];split
   ·simp only[XH];omega
   omega
theorem Mk{base z n b:Nat}{e t:TypeId}{xs:List Tv}{cs:Array Tv}(h:w.ownsRow base e z v n xs)(d:w.heap[b]? = some (Zk cs t))(i:t≠e)(f:w.grownBy W (some b)):W.ownsRow base e z v n xs :=
 Az h f λk g a=>by obtain⟨c,q⟩:=Ho h g;injection a with a;subst a;rw[d] at q;injection q with q;injection q with _ q;exact i q
theorem Hq{base z n b:Nat}{e t:TypeId}{xs:List Tv}{cs:Array Tv}(a:w.heap[b]? = some (Zk cs t))(g:w.ownsRow base e z v n xs)(h:t≠e)(f:w.grownBy W v.ownBlock):W.heap[b]? = some (Zk cs t):=by refine(f.block _ (E.Ac a) (λd=>?_)).trans a;obtain⟨c,q⟩:=Ho g d.symm;rw[a] at q;injection q with q;injection q with _ q;exact h q
theorem Fp.app{I B:Nat}{v v':Tv}{rs h:List Px}{xs i:List (Tb×Int×Tv)}(o:xs.length=rs.length)(p:w.ownsRow B 75 3 v rs.length (xs.flatMap Og))(s:∀(j:Nat)x r,xs[j]? = some x->rs[j]? = some r->x.1=r.1/\x.2.1=r.2.1/\w.ownsRow I 56 3 x.2.2 r.2.2.length (E.A1 r.2.2))(z:i.length=h.length)(D:∀(j:Nat)x r,i[j]? = some x->h[j]? = some r->x.1=r.1/\x.2.1=r.2.1/\w.ownsRow I 56 3 x.2.2 r.2.2.length (E.A1 r.2.2))(t:w.grownBy W v.ownBlock)(u:W.ownsRow B 75 3 v' (rs.length+h.length) (xs.flatMap Og++i.flatMap Og)):Fp I B W v' (rs++h):=by
 have f:∀{y:Tv}{n:Nat}{zs:List Tv},w.ownsRow I 56 3 y n zs->W.ownsRow I 56 3 y n zs:=λd=>Az d t λk f e=>a8 p d (by decide) k e f
 refine⟨xs++i,by simp[o,z],?_,λj y q d g=>?_⟩
 ·simpa using u
 rcases Yc j xs.length with m|l
 ·rw[XM m] at d
  rw[XM (by omega)] at g;obtain⟨a,b,c⟩:=s j y q d g;exact⟨a,b,f c⟩
 rw[XL l] at d;rw[XL (by omega)] at g;rw[o] at d;obtain⟨a,b,c⟩:=D _ y q d g;exact⟨a,b,f c⟩
theorem ABB{I:Nat}{xs:List (Tb×Int×Tv)}{rs:List Px}(i:xs.length=rs.length)(f:∀(j:Nat)x r,xs[j]? = some x->rs[j]? = some r->x.1=r.1/\x.2.1=r.2.1/\w.ownsRow I 56 3 x.2.2 r.2.2.length (E.A1 r.2.2)):∀u∈xs.flatMap Og,u.oneCell'=true:=by
 intro u b;obtain⟨x,h,b⟩:=List.mem_flatMap.1 b;obtain⟨j,d⟩:=List.getElem?_of_mem h;obtain⟨r,g⟩:∃r,rs[j]? = some r:=⟨_,XA (by have:=Ax d;omega)⟩;obtain⟨a,c,e,_⟩:=Au (f j x r d g).2.2;simp only[Og,WD,WM,or_false] at b
 rcases b with rfl|rfl|rfl
 ·rfl
 ·rfl
 rw[e];rfl
theorem wE(I:Nat)(cv gv:Tv)(d:List Aj)(f:List (List (List V)))(path:Tb)(er:Int)(Y:To)(mn mc:Nat)(mask:List Int)(g o cp:Nat)(l:List Aj)(T:S.CT)(v:Tv)(w:Tw)(hF:Hm w cv gv (d,f.map (An d)))(ce:f.length<=10)(t:∀p∈f,Gr d p/\1<=p.length/\p.length<=6)(hK:Kl d)(a8:∀p∈f,∀b∈(An d p).2.2,b.length<=1000000)(a2:1<=d.length)(a3:d.length<=8)(hm:Ph w (Zs Y mn mc) mask)(b9:mask.length<=1000)(h8:l.length<=8)(h1:1<=l.length)(b6:l.length<=cp)(hs:I1 w g o l)(hi:S.Gy w T v)(ha:S.Kg (Rf l) T)(hd:S.C9 T 24=true)(a6:S.Lp w)(hI:I<=w.heap.size):
 Zc 35 #[Zg #[cv,gv],Zg #[Zt path,Zi er,Zs Y mn mc],Zs (some ⟨g,o,none⟩) l.length cp,v] w λe w'=>∃v',e=Zr (Zu #[v',Zi ((Oe path mask l T d 0 f).2:Int)])/\Fp I w.heap.size w' v' (Oe path mask l T d 0 f).1/\Below w.heap.size w w':=by
 obtain⟨O,P,ec,_⟩:=hF.1.slice;obtain⟨R,U,eg,a4⟩:=hF.2.slice;dsimp only at ec eg a4;subst ec eg;have ax:=Aa (λ(k:Nat)(p:List (List V))(hk:f[k]? = some p)W(x:Below w.heap.size w W)=>pE d l (f.map (An d)) p k (Zs O d.length P) (Zs R (f.map (An d)).length U) g o cp T v W (hF.up x) (by rw[WC,hk];rfl) a2 a3 h8 (t p (XD hk)).2.1 (t p (XD hk)).2.2 (hs.below x) (hi.up x) (a6.below x) hd)
 have az:Hid (∀(k:Nat)(p:List (List V))W,f[k]? = some p->Below w.heap.size w W->Zc 69 #[Zg #[Zs O d.length P,Zs R (f.map (An d)).length U],Zi k,Zs (some ⟨g,o,none⟩) l.length cp] W (l4 (some (Cw d l p)) W)):=Aa λk p W hk x=>by have hm:=XD hk;have:=AFP k (Zs O d.length P) (Zs R (f.map (An d)).length U) (Zs (some ⟨g,o,none⟩) l.length cp) d (f.map (An d)) (An d p) l W (hF.up x) (by rw[WC,hk];rfl) (AI5 (hs.below x) b6) h8 a2 a3 (a8 p hm);rw[cG (Xl d) (t p hm).1 hK (t p hm).2.1 (t p hm).2.2 l] at this;exact this
 have bu:=Aa (λ(p:List (List V))(f0:Nat)(gr:Tv)W(x:Below w.heap.size w W)(hR:yF I W gr (Cw d l p))(al:p.length<=6)(b3:f0<=1000)=>rI I gr (Cw d l p) f0 path er Y mn mc mask g o cp l T v W hR (by simpa[Cw] using al) (λr hr=>by obtain⟨q,_,rfl⟩:=List.mem_map.1 hr;simp) b3 (hm.below x) b9 h8 h1 (hs.below x) (hi.up x) ha hd);have ar:=Aa (λW(x:Below w.heap.size w W)=>(hF.up x).2);obtain⟨iC,bd,bf,bg,bh⟩:=info_parts AEA;have N:=Zy bd bf bg bh;have bw:=Aa t
 have a5:∀qs:List (List (List V)),(∀p∈qs,p.length<=6)->En qs<=6*qs.length:=by
  intro qs
  induction qs with
  | nil=>intro _;simp[En]
  | cons q qs ih=>intro h;have:=ih (λp X=>h p (Yg _ X));have:=h q (Ye ..);simp only[En,XN];omega
 have aw:Hid (∀k,En (f.take k)<=60):=Aa λk=>by
  have:=a5 (f.take k) (λp X=>(t p (Yl X)).2.2);have hl:(f.take k).length<=f.length:=by rw[XW];omega
  omega
 have br:Hid (∀k,(Oe path mask l T d 0 (f.take k)).2<=10):=Aa λk=>by
  have:=(xP path mask l T d (f.take k) 0).1;have hl:(f.take k).length<=f.length:=by rw[XW];omega
  omega
 clear a5;clear hF t a8 hm hs hi ha hd a6 hK bd bf bg bh;simp only[X2] at ax az ar a4 ⊢
 have bi:∀W0:Tw,((W0.alloc (Zk #[Zs O d.length P,Zs R f.length U] 105)).alloc (Zk #[Zt path,Zi er,Zs Y mn mc] 51)).heap[W0.heap.size]? = some (Zk #[Zs O d.length P,Zs R f.length U] 105)/\((W0.alloc (Zk #[Zs O d.length P,Zs R f.length U] 105)).alloc (Zk #[Zt path,Zi er,Zs Y mn mc] 51)).heap[W0.heap.size+1]? = some (Zk #[Zt path,Zi er,Zs Y mn mc] 51):=λW0=>by have hn:=Y8 (W0.alloc (Zk #[Zs O d.length P,Zs R f.length U] 105)) (Zk #[Zt path,Zi er,Zs Y mn mc] 51);rw[XC] at hn;exact⟨(WH _ _ _ (by simp)).trans (Y8 W0 _),hn⟩
 have bx:=Aa (bi w);have bj:=Aa (S.Gj w (Zk #[Zs O d.length P,Zs R f.length U] 105) (Zk #[Zt path,Zi er,Zs Y mn mc] 51));clear bi;go_enter func35,ntmps35;go_wp2_with fail
 go_loopw [10,11,12,20] (λvr vl vf vi wr=>∃(k:Nat)(a:To)(n c:Nat),k<=f.length/\vi=Zi (k:Int)/\vr=Zs a n c/\n<=6*k/\vl=Zi ((Oe path mask l T d 0 (f.take k)).2:Int)/\vf=Zi (En (f.take k):Int)/\Hid (Fp I w.heap.size wr (Zs a n c) (Oe path mask l T d 0 (f.take k)).1/\n=(Oe path mask l T d 0 (f.take k)).1.length)/\Hid (Below w.heap.size w wr)/\Hid (wr.heap[w.heap.size]? = some (Zk #[Zs O d.length P,Zs R f.length U] 105)/\wr.heap[w.heap.size+1]? = some (Zk #[Zt path,Zi er,Zs Y mn mc] 51))) (λ_ _ _ vi _=>f.length-Ev vi)
 case atStart=>exact⟨0,none,0,0,XF _,rfl,rfl,XF _,rfl,rfl,Aa ⟨P6 _ _ _,rfl⟩,bj,bx⟩
 case round=>
  obtain⟨k,a,n,c,hk,rfl,rfl,ck,rfl,rfl,HF,HB,HN⟩:=hrel
  rcases Yc k f.length with b8|ci
  ·obtain⟨p,X⟩:∃p,f[k]? = some p:=⟨_,XA b8⟩
   obtain⟨_,cl,al⟩:=bw.o p (XD X);obtain⟨gb,go,cg,nn,sv,bv,eg,ch,en,g0,g1,g2,a7,a1⟩:=(ar.o wr HB.o).at (k:=k) (g:=An d p) (by rw[WC,X];rfl);obtain⟨sa,sc,rfl,_⟩:=a7.slice;obtain⟨ba,bc,rfl,_⟩:=a1.slice;clear a7 a1;simp only[X2] at eg;injection eg with b0 _ b1;subst b0 b1;have b2:nn=(p.length:Int):=en;subst b2;have b5:(k:Int)<(f.length:Int):=by omega
   have bb:f.take (k+1)=f.take k++[p]:=S.Cs X;have ah:=Aa (tQ path mask l T d p (f.take k) 0);have ag:=Aa (sQ (f.take k) p);rw[<-bb] at ah ag;clear bb en;have n0:=S.cell_of_heap HN.o.1 0;have n1:=S.cell_of_heap HN.o.1 1;simp at n0 n1;have cd:En (f.take k)<=60:=aw.o k;have b7:(Oe path mask l T d 0 (f.take k)).2<=10:=br.o k;have cj:(En (f.take k):Int)+(p.length:Int)<=1000:=by omega
   have cf:=Aa b7;generalize hS:(An d p).2.1.length=sn at *;generalize hT:(An d p).2.2.length=bn at *;clear hS hT;have af:Hid (Below wr.heap.size wr (wr.alloc (Zk #[Zi (p.length:Int),Zs sa sn sc,Zs ba bn bc] 160))):=Aa Zal;have aq:=Aa (Y8 wr (Zk #[Zi (p.length:Int),Zs sa sn sc,Zs ba bn bc] 160));have am:=(WH wr (Zk #[Zi (p.length:Int),Zs sa sn sc,Zs ba bn bc] 160) _ (E.Ac HN.o.1)).trans HN.o.1;have m0:=S.cell_of_heap am 0;have m1:=S.cell_of_heap am 1;simp at m0 m1;clear am;generalize aj:(Oe path mask l T d 0 (f.take k)).2=lk at *;generalize hlen:En (f.take k)=ln at *;go_wp2_with fail;refine(ax.o k p X _ (Ap HB.o af.o)).mono ?_;rintro e w1⟨rfl,ai⟩;have s:=Ap af.o ai;have G:=Aa (Ap HB.o s);have L:=Aa (Yad (HF.o.1.up s) HF.o.2);have i:=Aa (Yad ((s.block _ (E.Ac HN.o.1)).trans HN.o.1) ((s.block _ (E.Ac HN.o.2)).trans HN.o.2));have M:=Aa ((ai.block wr.heap.size (by simp)).trans aq.o);clear ai s m0 m1 n0 n1 g0 g1 g2 af aq;cases hmay:S.Bp (I5 d p l) false T with
   | false=>have HQ:Hid (Oe path mask l T d 0 (f.take (k+1))=Oe path mask l T d 0 (f.take k)):=Aa (by rw[ah.o,Y9 (by rw[hmay];simp)]);have x0:=S.cell_of_heap M.o 0;simp at x0;clear hmay;go_wp2;refine⟨⟨k+1,a,n,c,by omega,rfl,rfl,by omega,by rw[HQ.o,aj],by rw[ag.o];simp,?_,G,i⟩,by simp only[Ev];omega⟩;rw[HQ.o];exact L
   | true=>
     have HQ:Hid (Oe path mask l T d 0 (f.take (k+1))=((Oe path mask l T d 0 (f.take k)).1++Jw path mask l T (ln:Int) (Cw d l p),lk+1)):=Aa (by rw[ah.o,Yaa hmay,Int.zero_add]);clear hmay;have y0:=S.cell_of_heap i.o.1 0;have y1:=S.cell_of_heap i.o.1 1;simp at y0 y1;go_wp2_with fail;refine(az.o k p w1 X G.o).mono ?_;rintro e w2⟨v2,rfl,J,y⟩;have ab:=Aa (Ap G.o y);have ad:=Aa (Yad (L.o.1.up y) L.o.2);have m:=Aa (Yad ((y.block _ (E.Ac i.o.1)).trans i.o.1) ((y.block _ (E.Ac i.o.2)).trans i.o.2));have ae:=Aa ((y.block _ (E.Ac M.o)).trans M.o);have a0:=Aa (J.low (I':=I) (XV hI G.o.size));obtain⟨va,vc,rfl,_⟩:=J.o.slr.slice;have z0:=S.cell_of_heap m.o.2 0;have z1:=S.cell_of_heap m.o.2 1;have z2:=S.cell_of_heap m.o.2 2;simp at z0 z1 z2;clear J y y0 y1 G L i M;go_wp2_with fail;refine(bu.o p ln _ w2 ab.o a0.o al (by omega)).mono ?_;rintro e w3⟨v3,rfl,aa,z⟩;have an:=Aa (Ap ab.o z);have ay:=Aa (Yad ((z.block _ (E.Ac m.o.1)).trans m.o.1) ((z.block _ (E.Ac m.o.2)).trans m.o.2));have bp:=Aa ((z.block _ (E.Ac ae.o)).trans ae.o);have ao:=Aa (Yad (ad.o.1.up z) ad.o.2);have ap:=Aa aa;clear z aa z0 z1 z2 ab ad m ae a0;obtain⟨⟨xs,e1,e2,e3⟩,hn⟩:=ao.o;obtain⟨ys,k1,k2,k3⟩:=ap.o;rw[<-hn] at e1 e2;obtain⟨ya,yc,rfl,_⟩:=Au k2
     have cm:(Jw path mask l T (ln:Int) (Cw d l p)).length<=6:=by
      have h2:=AGe path mask l T (Cw d l p) (ln:Int);have h3:(Cw d l p).length=p.length:=by simp[Cw]
      omega
     have bl:=Aa e1;have u:=Aa e2;have bm:=Aa e3;have au:=Aa k1;have bq:=Aa k2;have av:=Aa k3;have bt:=Aa hn;generalize cb:Jw path mask l T (ln:Int) (Cw d l p)=qs at *;have a9:=an.o.size;clear e1 e2 e3 k1 k2 k3 hn ao ap cb;go_wp2_with (at_builtin;refine E.Ck rfl _ _ 71 rfl w.heap.size 75 iC ABC 3 48 underlying71 N.o.1 N.o.2.1 N.o.2.2.1 N.o.2.2.2 rfl (by decide) _ _ _ rfl u.o _ _ _ _ rfl bq.o (ABB au.o av.o) ?f1 ?f2 ?f3 ?_)
     case f1=>unfold maxLen;omega
     case f2=>omega
     case f3=>omega
     intro v4 w4 ak D;obtain⟨a',c',rfl,_⟩:=Au ak;have hn:=bt.o;subst hn;have bz:=Aa (Fp.app bl.o u.o bm.o au.o av.o D ak);have bk:=Aa (an.o.grown D a9 (λj hj=>Fu u.o hj));have bs:=Aa (Yad (Hq ay.o.1 u.o (by decide) D) (Hq ay.o.2 u.o (by decide) D));have x0:=S.cell_of_heap (Hq bp.o u.o (by decide) D) 0;simp at x0;clear ak D;go_wp2;refine⟨⟨k+1,a',_,c',by omega,rfl,rfl,by omega,by rw[HQ.o];simp,by rw[ag.o];simp,Aa ⟨?_,?_⟩,bk,bs⟩,by simp only[Ev];omega⟩
     ·rw[HQ.o]
      exact bz.o
     rw[HQ.o];simp
  have b5:¬((k:Int)<(f.length:Int)):=by omega
  have b4:k=f.length:=by omega
  subst b4;have ac:=HF.o;rw[Yf] at ac ⊢;have bo:=Aa ac;clear ac;go_wp2;go_ret2;exact⟨_,rfl,bo.o.1,HB.o⟩
